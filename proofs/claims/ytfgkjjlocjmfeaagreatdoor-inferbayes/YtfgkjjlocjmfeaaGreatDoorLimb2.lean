/- Part2: part 2. -/
import Derived.Test.YtfgkjjlocjmfeaaGreatDoorLimb1
set_option maxRecDepth 100000
set_option maxHeartbeats 400000000
set_option linter.unusedSimpArgs false
set_option linter.unusedVariables false
namespace Go.Proofs.YtfgkjjlocjmfeaaGreatDoor
open Go.RowKit
variable {q:Rat}
theorem adO (na nb:Bool) (xa ya xb yb:ByteArray) (w:World) (ha:xa.size+ya.size<=50000) (hb:xb.size+yb.size<=50000):
  Calls Tryz.prog 66 #[.agg #[.bool na,.string xa,.string ya],.agg #[.bool nb,.string xb,.string yb]] w fun e w'=>e=.returned (C (val na xa ya - val nb xb yb))/\Below w.heap.size w w':=by
 have HA:=aB (fun V=>U9 na (!nb) xa ya xb yb V ha hb);rw[Tt, <- Rat.sub_eq_add_neg] at HA;generalize val na xa ya - val nb xb yb=r at *;go_enter Tryz.func66,Tryz.ntmps66;have hbr:=aF.at (w:=(w.alloc (FC na xa ya)).alloc (FC (!nb) xb yb)) (g:=w.heap.size+2) (by simp) false ⟨#[]⟩ ⟨#[]⟩;have hB0:Below w.heap.size w (((w.alloc (FC na xa ya)).alloc (FC (!nb) xb yb)).alloc (FC false ⟨#[]⟩ ⟨#[]⟩)):=(((au _ w).alloc (aq _) _).alloc (by simp) _).alloc (by simp;omega) _;go_wp2_with fail
 refine(HA.o _).af ?_;rintro e w1 ⟨rfl,hb1⟩;have jQ:=hbr.aa hb1 hbr.lt;have hB1:=hB0.trans (hb1.af hB0.size);obtain⟨k0,k1,k2,f0,f1,f2⟩:=jQ.facts;rw[kz];go_wp2;refine bS ((jQ.put _ _ _).result rfl _ rfl) rfl ?_;exact⟨rfl,cQ hB1 (by omega) _ _ _⟩
theorem U4 (na nb:Bool) (xa ya xb yb:ByteArray) (w:World) (ha:xa.size+ya.size<=50000) (hb:xb.size+yb.size<=50000):
  Calls Tryz.prog 26 #[.agg #[.bool na,.string xa,.string ya],.agg #[.bool nb,.string xb,.string yb]] w fun e w'=>e=.returned (C (val na xa ya*val nb xb yb))/\Below w.heap.size w w':=by
 have HA:=aB (fun V=>Dt na xa ya V (by omega) (by omega));have HB:=aB (fun V=>Dt nb xb yb V (by omega) (by omega));have q1:=Bl na xa ya;have q2:=Bl nb xb yb;generalize val na xa ya=p at *;generalize val nb xb yb=q at *;have z1:=nj p;have z2:=nj q;have s1:=o6 p.num.natAbs q.num.natAbs;have s3:=o6 p.den q.den;have e1:(B p.num.natAbs).size=(nu p).size:=rfl;have e2:(B p.den).size=(de p).size:=rfl;have e3:(B q.num.natAbs).size=(nu q).size:=rfl;have e4:(B q.den).size=(de q).size:=rfl
 have HS:Hid (val (aM p !=aM q) (B (p.num.natAbs*q.num.natAbs)) (B (p.den*q.den))=p*q):=by
  show _=_;have e:=val_mul (aM p) (aM q) (nu p) (de p) (nu q) (de q);rw[gi,gi,r6,r6,kS,kS] at e;rw[val,bG,bG,e]
 have xj:=aB (fun (V:World)=>F2 (w:=V) (p.num.natAbs*q.num.natAbs) (au _ V) (by rw[r6,r6]) (show (nu p).size<=_ by omega) (show (nu q).size<=_ by omega));have I0:=aB (fun (V:World)=>F2 (w:=V) (p.den*q.den) (au _ V) (by rw[kS,kS]) (show (de p).size<=_ by omega) (show (de q).size<=_ by omega));generalize p*q=r at *;generalize p.num.natAbs*q.num.natAbs=X at *;generalize p.den*q.den=D at *;have t1:(B X).size<=200000:=by omega
 have t3:(B D).size<=200000:=by omega
 clear s1 s3 e1 e2 e3 e4 z1 z2 q1 q2 ha hb;go_enter Tryz.func26,Tryz.ntmps26;have fH:=((aF.at (w:=w) rfl na xa ya).alloc (FC nb xb yb)).alloc (FC false ⟨#[]⟩ ⟨#[]⟩);have eW:=(aF.at (w:=w.alloc (FC na xa ya)) (g:=w.heap.size+1) (by simp) nb xb yb).alloc (FC false ⟨#[]⟩ ⟨#[]⟩);have hbr:=aF.at (w:=(w.alloc (FC na xa ya)).alloc (FC nb xb yb)) (g:=w.heap.size+2) (by simp) false ⟨#[]⟩ ⟨#[]⟩;have hB0:Below w.heap.size w (((w.alloc (FC na xa ya)).alloc (FC nb xb yb)).alloc (FC false ⟨#[]⟩ ⟨#[]⟩)):=(((au _ w).alloc (aq _) _).alloc (by simp) _).alloc (by simp;omega) _;go_wp2_with fail
 refine(HA.o _).af ?_;rintro e w1 ⟨rfl,hb1⟩;have jR:=fH.aa hb1 fH.lt;have gC:=(eW.aa hb1 eW.lt).far3 (g':=w.heap.size) (by omega) (.bool (aM p)) (.string (nu p)) (.string (de p));have jQ:=(hbr.aa hb1 hbr.lt).far3 (g':=w.heap.size) (by omega) (.bool (aM p)) (.string (nu p)) (.string (de p));have hB1:=cQ (hB0.trans (hb1.af hB0.size)) (aq _) (.bool (aM p)) (.string (nu p)) (.string (de p));have lA:=jR.put (aM p) (nu p) (de p);obtain⟨k0,k1,k2,f0,f1,f2⟩:=jR.facts;obtain⟨c0,c1,c2,_,_,_⟩:=gC.facts;rw[kz];clear fH eW hbr hB0 jR hb1;go_wp2_with fail
 clear k0 k1 k2 f0 f1 f2 c0 c1 c2;refine(HB.o _).af ?_;rintro e w2 ⟨rfl,hb2⟩;have kN:=gC.aa hb2 gC.lt;have nH:=(lA.aa hb2 lA.lt).far3 (g':=w.heap.size+1) (by omega) (.bool (aM q)) (.string (nu q)) (.string (de q));have uB:=(jQ.aa hb2 jQ.lt).far3 (g':=w.heap.size+1) (by omega) (.bool (aM q)) (.string (nu q)) (.string (de q));have bL:=cQ (hB1.trans (hb2.af hB1.size)) (g:=w.heap.size+1) (by omega) (.bool (aM q)) (.string (nu q)) (.string (de q));have qD:=kN.put (aM q) (nu q) (de q);obtain⟨k0,k1,k2,f0,f1,f2⟩:=kN.facts;have ht:Ir w _ p q false ⟨#[]⟩ ⟨#[]⟩:=⟨nH,qD,uB,bL⟩;obtain⟨c0,c1,c2,_,_,_⟩:=nH.facts;obtain⟨d0,d1,d2,_,_,_⟩:=qD.facts;rw[kz];clear lA gC jQ hB1 kN nH uB bL qD hb2 HA HB;go_wp2_with fail
 refine(xj.o _).af ?_;rintro e w3 ⟨rfl,hb3⟩;clear c0 c1 c2 d0 d1 d2 k0 k1 k2 f0 f1 f2;have sZ:=ht.step hb3;clear ht hb3 xj;obtain⟨c0,c1,c2,_,_,_⟩:=sZ.1.facts;obtain⟨d0,d1,d2,_,_,_⟩:=sZ.2.1.facts;go_wp2_with fail
 refine(I0.o _).af ?_;rintro e w4 ⟨rfl,hb4⟩;clear c0 c1 c2 d0 d1 d2;have uk:=sZ.step hb4;clear sZ hb4 I0;obtain⟨c0,c1,c2,_,_,_⟩:=uk.1.facts;obtain⟨d0,d1,d2,_,_,_⟩:=uk.2.1.facts;go_wp2_with fail
 refine(F3 (aM p !=aM q) (B X) (B D) _ (by omega) (by omega)).af ?_;rintro e w7 ⟨rfl,c5⟩;have rI:=uk.step c5;obtain⟨g0,g1,g2,i0,i1,i2⟩:=rI.2.2.1.facts;rw[HS.o,kz];go_wp2;refine bS ((rI.2.2.1.put _ _ _).result rfl _ rfl) rfl ?_;exact⟨rfl,cQ rI.2.2.2 (by omega) _ _ _⟩
theorem V9 (h:q=0):nu q=⟨#[]⟩:=by subst h;exact xB
theorem Wa (h:¬q=0):(nu q).toList.isEmpty=false:=zb (by rw[Ne,Int.natAbs_eq_zero,Rat.num_eq_zero];exact h)
theorem adL (n:Bool) (x y:ByteArray) (w:World) (hx:x.size+y.size<=50000):
  Calls Tryz.prog 115 #[.agg #[.bool n,.string x,.string y]] w fun e w'=>e=.returned (.bool (decide (val n x y=0)))/\Below w.heap.size w w':=by
 have HC:=aB (fun V=>Dt n x y V (by omega) (by omega));generalize val n x y=q at *
 have hz:(q=0/\decide (q=0)=true)∨(¬q=0/\decide (q=0)=false):=by
  by_cases h:q=0
  ·exact .inl ⟨h,cS h⟩
  ·exact .inr ⟨h,cD h⟩
 have HZ:=aB hz;clear hz;generalize decide (q=0)=t at *;go_enter Tryz.func115,Tryz.ntmps115;have bF:=aF.at (w:=w) rfl n x y;have hB0:Below w.heap.size w (w.alloc (FC n x y)):=(au _ w).alloc (aq _) _;go_wp2_with fail
 refine(HC.o _).af ?_;rintro e w1 ⟨rfl,hb1⟩;have hx1:=bF.aa hb1 bF.lt;have hB1:=cQ (hB0.trans (hb1.af hB0.size)) (aq _) (.bool (aM q)) (.string (nu q)) (.string (de q));obtain⟨k0,k1,k2,f0,f1,f2⟩:=hx1.facts;rw[kz];rcases HZ.o with ⟨h,rfl⟩ |⟨h,rfl⟩
 ·have hn:=V9 h;clear h HZ;generalize nu q=nq at *;subst hn;go_wp2;go_ret;exact⟨rfl,hB1⟩
 ·have hn:=Wa h;clear h HZ;go_wp2;go_ret;exact⟨rfl,hB1⟩
theorem ad4 (na nb:Bool) (xa ya xb yb:ByteArray) (w:World) (h:¬val nb xb yb=0) (ha:xa.size+ya.size<=40000) (hb:xb.size+yb.size<=40000):
  Calls Tryz.prog 92 #[.agg #[.bool na,.string xa,.string ya],.agg #[.bool nb,.string xb,.string yb]] w fun e w'=>e=.returned (.tuple #[C (val na xa ya/val nb xb yb),.int .i64 0])/\Below w.heap.size w w':=by
 have HZ:=aB (fun V=>adL nb xb yb V (by omega));rw[cD h] at HZ;have HC:=aB (fun V=>Dt nb xb yb V (by omega) (by omega));have q2:=Bl nb xb yb;generalize val nb xb yb=q at *;have z2:=nj q;have HM:=aB (fun V=>U4 na (aM q) xa ya (de q) (nu q) V (by omega) (by omega))
 have hi:val (aM q) (de q) (nu q)=q⁻¹:=by
  rw[M7 (aM q) (nu q) (de q) (by rw[r6,Ne,Int.natAbs_eq_zero,Rat.num_eq_zero];exact h) (by rw[kS];exact q.den_nz),gi]
 rw[hi, <- rp] at HM;generalize val na xa ya/q=r at *;clear hi h z2 q2 ha hb;go_enter Tryz.func92,Tryz.ntmps92;have fH:=((aF.at (w:=w) rfl na xa ya).alloc (FC nb xb yb)).alloc (FC false ⟨#[]⟩ ⟨#[]⟩);have eW:=(aF.at (w:=w.alloc (FC na xa ya)) (g:=w.heap.size+1) (by simp) nb xb yb).alloc (FC false ⟨#[]⟩ ⟨#[]⟩);have hbr:=aF.at (w:=(w.alloc (FC na xa ya)).alloc (FC nb xb yb)) (g:=w.heap.size+2) (by simp) false ⟨#[]⟩ ⟨#[]⟩;have hB0:Below w.heap.size w (((w.alloc (FC na xa ya)).alloc (FC nb xb yb)).alloc (FC false ⟨#[]⟩ ⟨#[]⟩)):=(((au _ w).alloc (aq _) _).alloc (by simp) _).alloc (by simp;omega) _;go_wp2_with fail
 refine(HZ.o _).af ?_;rintro e w1 ⟨rfl,hb1⟩;have jR:=fH.aa hb1 fH.lt;have gC:=eW.aa hb1 eW.lt;have jQ:=hbr.aa hb1 hbr.lt;have hB1:=hB0.trans (hb1.af hB0.size);obtain⟨c0,c1,c2,_,_,_⟩:=gC.facts;clear fH eW hbr hB0 hb1;go_wp2_with fail
 refine(HC.o _).af ?_;rintro e w2 ⟨rfl,hb2⟩;have lA:=(jR.aa hb2 jR.lt).far3 (g':=w.heap.size+1) (by omega) (.bool (aM q)) (.string (nu q)) (.string (de q));have kN:=gC.aa hb2 gC.lt;have zZ:=(jQ.aa hb2 jQ.lt).far3 (g':=w.heap.size+1) (by omega) (.bool (aM q)) (.string (nu q)) (.string (de q));have hB2:=cQ (hB1.trans (hb2.af hB1.size)) (g:=w.heap.size+1) (by omega) (.bool (aM q)) (.string (nu q)) (.string (de q));clear c0 c1 c2 jR gC jQ hB1 hb2;obtain⟨k0,k1,k2,f0,f1,f2⟩:=kN.facts;obtain⟨d0,d1,d2,_,_,_⟩:=lA.facts;rw[kz];go_wp2_with fail
 refine(HM.o _).af ?_;rintro e w3 ⟨rfl,hb3⟩;have uB:=zZ.aa hb3 zZ.lt;have bL:=hB2.trans (hb3.af hB2.size);clear k0 k1 k2 f0 f1 f2 d0 d1 d2;obtain⟨k0,k1,k2,f0,f1,f2⟩:=uB.facts;rw[kz];go_wp2;refine bS ((uB.put _ _ _).result2 rfl _ rfl) rfl ?_;exact⟨rfl,cQ bL (by omega) _ _ _⟩
theorem ajI (p q:Rat):fB p q=if p - q=0 then 0 else if aM (p - q)=true then -1 else 1:=by
 have hs:aM (p - q)=true↔p - q<0:=by
  have h:=Rat.num_nonneg (q:=p - q);rw[aM,eh];constructor
  ·intro h1;have h2:¬0<=p - q:=fun e=>absurd (h.2 e) (by omega);grind
  ·intro h1;have h2:¬0<=(p - q).num:=fun e=>absurd (h.1 e) (by grind);omega
 by_cases h:p - q=0
 ·rw[aA h,fB,aD (by grind),aA (by grind)]
 ·rw[aD h];by_cases h1:p - q<0
  ·rw[aA (hs.2 h1),fB,aA (by grind)]
  ·rw[aD (fun e=>h1 (hs.1 e)),fB,aD (by grind),aD (by grind)]
theorem ad6 (na nb:Bool) (xa ya xb yb:ByteArray) (w:World) (ha:xa.size+ya.size<=50000) (hb:xb.size+yb.size<=50000):
  Calls Tryz.prog 21 #[.agg #[.bool na,.string xa,.string ya],.agg #[.bool nb,.string xb,.string yb]] w fun e w'=>e=.returned (.int .i64 (fB (val na xa ya) (val nb xb yb)))/\Below w.heap.size w w':=by
 have HS:=aB (fun V=>adO na nb xa ya xb yb V ha hb);have HK:=aB (ajI (val na xa ya) (val nb xb yb));generalize fB (val na xa ya) (val nb xb yb)=k at *;generalize val na xa ya - val nb xb yb=d at *;go_enter Tryz.func21,Tryz.ntmps21;have hB0:Below w.heap.size w ((w.alloc (FC na xa ya)).alloc (FC nb xb yb)):=((au _ w).alloc (aq _) _).alloc (by simp) _;go_wp2_with fail
 refine(HS.o _).af ?_;rintro e w1 ⟨rfl,hb1⟩;have hB1:=hB0.trans (hb1.af hB0.size);have hB2:=hB1.alloc hB1.size (FC (aM d) (nu d) (de d));rw[kz];by_cases h:d=0
 ·rw[aA h] at HK;have hn:=V9 h;clear h;generalize nu d=nd at *;subst hn;go_wp2;go_ret;exact⟨by rw[HK.o];rfl,hB2⟩
 ·rw[aD h] at HK;have hn:=Wa h;clear h;generalize aM d=sd at *;cases sd
  ·go_wp2;go_ret;exact⟨by rw[HK.o];rfl,hB2⟩
  ·go_wp2;go_ret;exact⟨by rw[HK.o];rfl,hB2⟩
theorem afl {k:Int} (h:k<0):C (mkRat k 1)=.agg #[.bool true,.string (B ((-(k+1)).toNat+1)),.string (B 1)]:=by
 have e:k=sg true ((-(k+1)).toNat+1):=by simp only[sg,if_true];omega
 have h1:=MD true ((-(k+1)).toNat+1) 1 (by omega) (by decide);rw[<- e,Nat.gcd_one_right,A0,A0] at h1;exact h1
theorem afk (n:Nat):C (mkRat (n:Int) 1)=.agg #[.bool false,.string (B n),.string (B 1)]:=by
 by_cases h:n=0
 ·subst h;rw[show ((0:Nat):Int)=0 from rfl,Fe,AR,xB]
 ·have h1:=MD false n 1 h (by decide);rw[Nat.gcd_one_right,A0,A0] at h1;exact h1
theorem J7 (k:Int) (w:World) (h0: -9223372036854775808<=k) (h1:k<=9223372036854775807):
  Calls Tryz.prog 22 #[.int .i64 k] w fun e w'=>e=.returned (C (mkRat k 1))/\Below w.heap.size w w':=by
 by_cases hk:k<0
 ·rw[afl hk];have HO:=aB (fun V=>Ds (-(k+1)) V (by omega) (by omega));have s1:(B (-(k+1)).toNat).size<=8:=by rw[kA];exact nM 8 _ (by show _<18446744073709551616;omega)
  have HA:=aB (fun V=>U8 (B (-(k+1)).toNat) ⟨#[1]⟩ V (by omega) (by show 1<=_;omega));rw[bG,show N ⟨#[1]⟩=1 from rfl] at HA;rw[Je];generalize (-(k+1)).toNat=n at *;go_enter Tryz.func22,Tryz.ntmps22;have hbr:=aF.at (w:=w) rfl false ⟨#[]⟩ ⟨#[]⟩;have hB0:Below w.heap.size w (w.alloc (FC false ⟨#[]⟩ ⟨#[]⟩)):=(au _ w).alloc (aq _) _;go_wp2_with fail
  refine(HO.o _).af ?_;rintro e w1 ⟨rfl,hb1⟩;have jQ:=hbr.aa hb1 hbr.lt;have hB1:=hB0.trans (hb1.af hB0.size);go_wp2_with fail
  refine(HA.o _).af ?_;rintro e w2 ⟨rfl,hb2⟩;have zZ:=jQ.aa hb2 jQ.lt;have hB2:=hB1.trans (hb2.af hB1.size);obtain⟨k0,k1,k2,f0,f1,f2⟩:=zZ.facts;go_wp2;refine bS ((zZ.put _ _ _).result rfl _ rfl) rfl ?_;exact⟨rfl,cQ hB2 (by omega) _ _ _⟩
 ·obtain⟨n,rfl⟩:∃n:Nat,k=n:=⟨k.toNat,by omega⟩;rw[afk n];have HO:=aB (fun V=>Ds (n:Int) V (by omega) (by omega));rw[mE] at HO;rw[Je];go_enter Tryz.func22,Tryz.ntmps22;have hbr:=aF.at (w:=w) rfl false ⟨#[]⟩ ⟨#[]⟩;have hB0:Below w.heap.size w (w.alloc (FC false ⟨#[]⟩ ⟨#[]⟩)):=(au _ w).alloc (aq _) _;go_wp2_with fail
  refine(HO.o _).af ?_;rintro e w1 ⟨rfl,hb1⟩;have jQ:=hbr.aa hb1 hbr.lt;have hB1:=hB0.trans (hb1.af hB0.size);obtain⟨k0,k1,k2,f0,f1,f2⟩:=jQ.facts;go_wp2;refine bS ((jQ.put _ _ _).result rfl _ rfl) rfl ?_;exact⟨rfl,cQ hB1 (by omega) _ _ _⟩
variable {k m n:Nat} {a:Option Addr} {p:Rat} {w w':World}
def Fits (m:Nat) (q:Rat):Prop:=∃(A:Int) (D:Nat),D≠0/\q=mkRat A D/\D<256^m/\A.natAbs<256^m
theorem Lz (h:Fits m q):qw q<=2*m:=by
 obtain⟨A,D,hD,rfl,h1,h2⟩:=h;rw[Ky hD];have:=NQ (n:=A) hD;have a1:(B A.natAbs).size<=m:=by rw[kA];exact nM m _ h2
 have a2:(B D).size<=m:=by rw[kA];exact nM m _ h1
 omega
theorem Dv (h:m<=n):256^m<=256^n:=iX (by decide) h
theorem Q4 (n:Bool) (x y:ByteArray):Fits (x.size+y.size+1) (val n x y):=by
 by_cases h:N y=0
 ·refine⟨0,1,by decide,by rw[FA h,Fe],?_,?_⟩
  ·exact aO (by decide:1<256^1) (Dv (by omega))
  ·exact rq (by decide)
 ·refine⟨sg n (N x),N y,h,rfl,aO (Av y) (Dv (by omega)),?_⟩;rw[JV];exact aO (Av x) (Dv (by omega))
theorem Z7 (hp:Fits m p) (hq:Fits k q):Fits (m+k+1) (p+q):=by
 obtain⟨A,D,hD,rfl,h1,h2⟩:=hp;obtain⟨A',D',Ae,rfl,h3,h4⟩:=hq;refine⟨A*D'+A'*D,D*D',AZ hD Ae,Rat.mkRat_add_mkRat _ _ hD Ae,?_,?_⟩
 ·have:D*D'<256^m*256^k:=Fl h1 h3;rw[<- zh] at this;exact aO this (Dv (by omega))
 ·have e1:A.natAbs*D'<256^m*256^k:=Fl h2 h3;have e2:A'.natAbs*D<256^k*256^m:=Fl h4 h1;rw[cV (256^k)] at e2;rw[<- zh] at e1 e2
  have e3:(A*D'+A'*D).natAbs<=A.natAbs*D'+A'.natAbs*D:=by
   refine aL (Int.natAbs_add_le _ _) ?_;rw[Int.natAbs_mul,Int.natAbs_mul];exact aq _
  rw[gH];omega
abbrev Fr:Type:=Bool×ByteArray×ByteArray
def Cm (f:Fr):Rat:=val f.1 f.2.1 f.2.2
def fw:List Fr ->Nat
 |[]=>0
 |f::l=>f.2.1.size+f.2.2.size+2+fw l
def bH (l:List Fr):Rat:=l.foldl (fun s f=>s+Cm f) 0
theorem Lq (l:List Fr) (f:Fr):bH (l++[f])=bH l+Cm f:=by simp[bH]
theorem QY (a b:List Fr):fw (a++b)=fw a+fw b:=by
 induction a with
 |nil=>simp[fw]
 |cons f a ih=>simp only[eE,fw,ih];omega
theorem ZU (l:List Fr) (k:Nat):fw (l.take k)<=fw l:=by
 have:=QY (l.take k) (l.drop k);rw[zl] at this;omega
theorem QX {l:List Fr} {f:Fr} (h:f∈l):f.2.1.size+f.2.2.size+2<=fw l:=by
 induction l with
 |nil=>cases h
 |cons g l ih=>
  rcases dG.1 h with rfl |h
  ·simp only[fw];omega
  ·have:=ih h;simp only[fw];omega
theorem Z6 (l:List Fr):Fits (fw l+1) (bH l):=by
 induction l using Dm with
 |h0=>exact⟨0,1,by decide,(Fe _).symm,by decide,by decide⟩
 |h1 l f ih=>
  rw[Lq,QY];have:=Z7 ih (Q4 f.1 f.2.1 f.2.2);have e:fw l+1+(f.2.1.size+f.2.2.size+1)+1=fw l+fw [f]+1:=by simp only[fw];omega
  rwa [e] at this
theorem take_one {l:List Fr} (h:k<l.length):bH (l.take (k+1))=bH (l.take k)+Cm l[k]:=by
 rw[fP h,Lq]
def dA (w:World) (a:Option Addr) (l:List Fr):Prop:=∀k (h:k<l.length),∃g o,a=some ⟨g,o,none⟩/\g<w.heap.size/\w.cell? ⟨g,o+k*3,none⟩=some (.bool l[k].1)/\w.cell? ⟨g,o+k*3+1,none⟩=some (.string l[k].2.1)/\w.cell? ⟨g,o+k*3+2,none⟩=some (.string l[k].2.2)
theorem dA.aa {l:List Fr} (h:dA w a l) (hb:Below w.heap.size w w'):dA w' a l:=fun k hk=>by
 obtain⟨g,o,h1,h2,h3,h4,h5⟩:=h k hk;exact⟨g,o,h1,aO h2 hb.size,(hb.cell (p:=⟨g,_,none⟩) h2).trans h3,(hb.cell (p:=⟨g,_,none⟩) h2).trans h4,(hb.cell (p:=⟨g,_,none⟩) h2).trans h5⟩
theorem Q7 (a:Option Addr) (cap:Nat) (l:List Fr) (w:World) (h:dA w a l) (hl:∀k (h:k<l.length),l[k].2.1.size+l[k].2.2.size<=40000) (hq:∀k,k<=l.length ->qw (bH (l.take k))<=40000) (hn:l.length<=10000):
  Calls Tryz.prog 88 #[.slice a l.length cap] w fun e w'=>e=.returned (C (bH l))/\Below w.heap.size w w':=by
 have HF:=aB h;have HL:=aB hl;have HQ:=aB hq;clear h hl hq;have I6:Hid (bH (l.take l.length)=bH l):=by show _=_;rw[gX]
 go_enter Tryz.func88,Tryz.ntmps88;have hbr:=aF.at (w:=w) rfl false ⟨#[]⟩ ⟨#[]⟩;have hB0:Below w.heap.size w (w.alloc (FC false ⟨#[]⟩ ⟨#[]⟩)):=(au _ w).alloc (aq _) _;go_wp2_with fail
 refine(Oo _).af ?_;rintro e w1 ⟨rfl,hb1⟩;have hr1:=hbr.aa hb1 hbr.lt;have hB1:Below w.heap.size w w1:=hB0.trans (hb1.af hB0.size);clear hbr hB0 hb1;rw[kz];go_wp2_with fail
 have Yf:=hr1.lt;go_loopw [9] (fun iv wr=>∃k:Nat,k<=l.length/\iv=.int .i64 k/\Hid (aF wr w1.heap.size (aM (bH (l.take k))) (nu (bH (l.take k))) (de (bH (l.take k))))/\Hid (aF wr w.heap.size false ⟨#[]⟩ ⟨#[]⟩)/\Below w.heap.size w wr) (fun iv _=>l.length - (intOf iv).toNat)
 case atStart=>exact⟨0,aU _,rfl,aF.at rfl _ _ _,hr1.alloc _,hB1.alloc hB1.size _⟩
 case round=>
  obtain⟨k,hk,rfl,HS,HR,bI⟩:=hrel;by_cases hlt:k<l.length
  ·obtain⟨g,o,rfl,hg,c0,c1,c2⟩:=(HF.o.aa bI) k hlt;have hstep:=take_one hlt;have hmem:=HL.o k hlt;have pI:=HQ.o k hk;have hz:=nj (bH (l.take k));have Jc:=aB (fun V=>aai (aM (bH (l.take k))) l[k].1 (nu (bH (l.take k))) (de (bH (l.take k))) l[k].2.1 l[k].2.2 V (by omega) (by omega) (by omega) (by omega));rw[gi,show val l[k].1 l[k].2.1 l[k].2.2=Cm l[k] from rfl, <- hstep] at Jc;have pN:=HS.o;clear HS hstep hmem pI hz;generalize l[k].1=fn at *;generalize l[k].2.1=fx at *;generalize l[k].2.2=fy at *;obtain⟨k0,k1,k2,f0,f1,f2⟩:=pN.facts;have cE:=pN.lt;go_wp2_with fail
   refine(Jc.o _).af ?_;rintro e w2 ⟨rfl,hb2⟩;have hs2:=(pN.alloc (FC fn fx fy)).aa hb2 (pN.alloc (FC fn fx fy)).lt;have hr2:=(HR.o.alloc (FC fn fx fy)).aa hb2 (HR.o.alloc (FC fn fx fy)).lt;have ZL:=bI.alloc bI.size (FC fn fx fy);have hB2:Below w.heap.size w w2:=ZL.trans (hb2.af ZL.size);clear k0 k1 k2 f0 f1 f2 c0 c1 c2;obtain⟨k0,k1,k2,f0,f1,f2⟩:=hs2.facts;rw[kz];go_wp2;go_roundw
   case rel=>exact⟨k+1,by omega,by go_num,hs2.put _ _ _,hr2.far3 (by omega) _ _ _,cQ hB2 hB1.size _ _ _⟩
   case measure=>simp[intOf];omega
  ·obtain rfl:k=l.length:=by omega
   have pN:=HS.o;rw[I6.o] at pN;obtain⟨k0,k1,k2,f0,f1,f2⟩:=pN.facts;obtain⟨j0,j1,j2,i0,i1,i2⟩:=HR.o.facts;go_wp2;refine bS ((HR.o.put _ _ _).result rfl _ rfl) rfl ?_;exact⟨rfl,cQ bI (aq _) _ _ _⟩
theorem ai2 (a:Option Addr) (cap:Nat) (l:List Fr) (w:World) (h:dA w a l) (hl:fw l<=10000) (hn:l.length<=10000):
  Calls Tryz.prog 88 #[.slice a l.length cap] w fun e w'=>e=.returned (C (bH l))/\Below w.heap.size w w':=
 Q7 a cap l w h (fun k hk=>by have:=QX (bM hk);omega) (fun k _=>by have:=Lz (Z6 (l.take k));have:=ZU l k;omega) hn
variable {g:Nat}
def jh (sizes vars:List Int) (m:Nat):Int:=if countB sizes vars=true then(if m=cnt (ag sizes) (ag vars) then 0 else 8) else 11
theorem ajT {sizes vars:List Int} (h:countB sizes vars=false):jh sizes vars m=11:=aD (by rw[h];decide)
theorem ajU {sizes vars:List Int} (h:countB sizes vars=true) (h1:¬m=cnt (ag sizes) (ag vars)):jh sizes vars m=8:=by rw[jh,aA h,aD h1]
theorem Rh {sizes vars:List Int} (h:countB sizes vars=true) (h1:m=cnt (ag sizes) (ag vars)):jh sizes vars m=0:=by rw[jh,aA h,aA h1]
abbrev TC (u v:Value):Obj:=.cells #[u,v] 39
def bw (w:World) (g:Nat) (u v:Value):Prop:=w.heap[g]? =some (.cells #[u,v] 39 (0,0))
theorem bw.c0 {u v:Value} (h:bw w g u v):w.cell? ⟨g,0,none⟩=some u:=by rw[bX w g 0 _ _ (0,0) h];rfl
theorem bw.c1 {u v:Value} (h:bw w g u v):w.cell? ⟨g,1,none⟩=some v:=by rw[bX w g 1 _ _ (0,0) h];rfl
theorem bw.lt {u v:Value} (h:bw w g u v):g<w.heap.size:=(dm.1 h).1
theorem bw.aa {B:Nat} {u v:Value} (h:bw w g u v) (hb:Below B w w') (hB:g<B):bw w' g u v:=(hb.block g hB).trans h
theorem bw.at (hg:w.heap.size=g) (u v:Value):bw (w.alloc (TC u v)) g u v:=by
 subst hg;exact im _ _
theorem bw.alloc {u v:Value} (h:bw w g u v) (o:Obj):bw (w.alloc o) g u v:=(rB w o g h.lt).trans h
theorem Bg (a b c:Option Addr) (ca cb cc m:Nat) (sizes vars:List Int) (w:World) (hs:aC w a sizes) (hv:aC w b vars) (hn:sizes.length<=140737488355328) (hm:vars.length<=140737488355328):
  Calls Tryz.prog 86 #[.slice a sizes.length ca,.agg #[.slice b vars.length cb,.slice c m cc]] w fun e w'=>e=.returned (.int .i64 (jh sizes vars m))/\Below w.heap.size w w':=by
 have HS:=hid hs;have HV:=hid hv;have HC:=hid (fun V h1 h2=>JP a b ca cb sizes vars V h1 h2 hn hm);clear hs hv;have hB0:Below w.heap.size w (w.alloc (TC (.slice b vars.length cb) (.slice c m cc))):=(au _ w).alloc (aq _) _;have bF:=bw.at (w:=w) rfl (.slice b vars.length cb) (.slice c m cc);cases hcb:countB sizes vars with
 |false=>
  have HA:=hid (ajT (m:=m) hcb);rw[Cq hcb] at HC;simp only at HC;generalize jh sizes vars m=r at *;go_enter Tryz.func86,Tryz.ntmps86;go_wp2_with fail
  refine(HC.o _ (HS.o.aa hB0) (HV.o.aa hB0)).af ?_;rintro e w1 ⟨rfl,hb1⟩;have hB1:=hB0.trans (hb1.af hB0.size);go_wp2;go_ret;exact⟨by rw[HA.o];rfl,hB1⟩
 |true=>
  have HN:=hid (fun h=>ajU (m:=m) hcb h);have HY:=hid (fun h=>Rh (m:=m) hcb h);rw[Cp hcb] at HC;simp only at HC;obtain⟨aJ,aT⟩:=LJ hcb;have hsm:cnt (ag sizes) (ag vars)<=65536:=qM aJ.sz_le (by rw[cY];have:=aJ.eight;have:=aT.length;omega);clear hcb aJ aT;generalize jh sizes vars m=r at *;generalize cnt (ag sizes) (ag vars)=N0 at *;go_enter Tryz.func86,Tryz.ntmps86;go_wp2_with fail
  refine(HC.o _ (HS.o.aa hB0) (HV.o.aa hB0)).af ?_;rintro e w1 ⟨rfl,hb1⟩;have hB1:=hB0.trans (hb1.af hB0.size);have hx1:=bF.aa hb1 bF.lt;have k0:=hx1.c0;have k1:=hx1.c1;by_cases h:m=N0
  ·have HE:=hid (HY.o h);subst h;go_wp2;go_ret;exact⟨by rw[HE.o];rfl,hB1⟩
  ·have HE:=hid (HN.o h);(have hb:((m:Int)==(N0:Int))=false:=by simp;omega);(have hi:¬(m:Int)=(N0:Int):=by omega);go_wp2;go_ret;exact⟨by rw[HE.o];rfl,hB1⟩
variable {i:Nat}
def ou (l:List Nat) (i:Nat):List Nat:=l.take i++List.replicate (l.length - i) 0
theorem Vw (l:List Nat):ou l 0=List.replicate l.length 0:=by simp[ou]
theorem Kh (l:List Nat) (h:i<=l.length):(ou l i).length=l.length:=by simp[ou];omega
theorem Vy (l:List Nat):ou l l.length=l:=by simp[ou]
theorem Vx (l:List Nat) (h:i<l.length):(ou l i).set i l[i]=ou l (i+1):=by
 rw[ou,ou,A3 _ _ (by simp;omega),fP h];have e:l.length - i=(l.length - (i+1))+1:=by omega
 rw[e,Fp,dP,p9 (by omega),oX,A2,nZ];rfl
def iL (l:List Nat):List Int:=l.map fun x:Nat=>(x:Int)
theorem bs (l:List Nat):(iL l).length=l.length:=by simp[iL]
theorem fF (l:List Nat):ag (iL l)=l:=by simp[ag,iL,Function.comp_def]
theorem ck.ints {l:List Nat} (h:ck w g l):aC w (some ⟨g,0,none⟩) (iL l):=fun k hk=>by
 rw[bs] at hk;refine⟨g,0,rfl,h.lt,?_⟩;rw[bD,h.cell k hk];simp[iL]
variable {L:List (List Int)} {l:List Int}
def fC (w:World) (a:Option Addr) (L:List (List Int)):Prop:=∀k (h:k<L.length),∃g o b c,a=some ⟨g,o,none⟩/\g<w.heap.size/\w.cell? ⟨g,o+k,none⟩=some (.slice b L[k].length c)/\aC w b L[k]
theorem fC.aa (h:fC w a L) (hb:Below w.heap.size w w'):fC w' a L:=fun k hk=>by
 obtain⟨g,o,b,c,h1,h2,h3,h4⟩:=h k hk;exact⟨g,o,b,c,h1,aO h2 hb.size,(hb.cell (p:=⟨g,o+k,none⟩) h2).trans h3,h4.aa hb⟩
def tC (w:World) (a:Option Addr) (L:List (List Int)):Prop:=∀k,k<L.length ->∀g o b n c,a=some ⟨g,o,none⟩ ->w.cell? ⟨g,o+k,none⟩=some (.slice b n c) ->b=none ->c=0
theorem tC.aa (h:tC w a L) (hl:fC w a L) (hb:Below w.heap.size w w'):tC w' a L:=fun k hk g o b n c ha hc hn=>by
 obtain⟨g',o',_,_,e,hg,_⟩:=hl k hk;rw[ha] at e;cases e;exact h k hk g o b n c ha ((hb.cell (p:=⟨g,o+k,none⟩) hg).symm.trans hc) hn
abbrev uv (x:Nat):Value:=.int .u32 (x:Int)
def b9 (w:World) (g:Nat) (l:List Nat):Prop:=w.heap[g]? =some (.cells (l.map uv).toArray 115 (0,0))
theorem b9.cell {l:List Nat} (h:b9 w g l) (j:Nat) (hj:j<l.length):w.cell? ⟨g,j,none⟩=some (.int .u32 (l[j]:Nat)):=by
 rw[bX w g j _ _ (0,0) h];simp[uv,hj]
theorem b9.fz {l:List Nat} (h:b9 w g l) (j:Nat):w.frozen? ⟨g,j,none⟩=false:=kZ w g j _ _ h
theorem b9.lt {l:List Nat} (h:b9 w g l):g<w.heap.size:=(dm.1 h).1
theorem b9.aa {b:Nat} {l:List Nat} (h:b9 w g l) (hb:Below b w w') (hg:g<b):b9 w' g l:=(hb.block g hg).trans h
theorem b9.set {l:List Nat} (h:b9 w g l) (j y:Nat):b9 (w.setCell ⟨g,j,none⟩ (.int .u32 (y:Int))) g (l.set j y):=by
 have h2:=jY w g j _ _ (.int .u32 (y:Int)) h;rw[b9,h2];simp[A5,uv]
theorem OD (n:Nat):(madeCells (Value.int .u32 0).cells (n*1)).toList=(List.replicate n (0:Nat)).map uv:=by
 rw[show (Value.int .u32 0).cells= #[Value.int .u32 0] from rfl,E7,nW,Jq];rfl
theorem Tryz.infoSet:(Tryz.prog.info? 115).map (fun i=>(i.zero,i.size,i.bytes))=some (some (.int .u32 0),1,4):=by kernel_rfl
def nO (L:List (List Int)) (n:Nat):Bool:=L.all fun l=>dR l n
def jb (L:List (List Int)):List Nat:=L.map fun l=>az (ag l)
theorem WH (L:List (List Int)):(jb L).length=L.length:=by simp[jb]
theorem akv (h:i<L.length) (e:dR L[i] n=false):nO L n=false:=by
 rw[nO,De];exact⟨L[i],bM h,by rw[e];decide⟩
theorem UG (h:dR l n=true):setA l n=az (ag l):=aA h
theorem adn (a:Option Addr) (ca n:Nat) (L:List (List Int)) (w:World) (h:fC w a L) (hL:L.length<=8) (hn:n<=8) (hl:∀l∈L,l.length<=140737488355328):
  Calls Tryz.prog 73 #[.slice a L.length ca,.int .i64 (n:Nat)] w fun e w'=>Below w.heap.size w w'/\
   ((nO L n=true/\∃G,e=.returned (.tuple #[.slice (some ⟨G,0,none⟩) L.length L.length,.bool true])/\w.heap.size<=G/\b9 w' G (jb L))∨(nO L n=false/\e=.returned (.tuple #[.slice none 0 0,.bool false]))):=by
 obtain⟨i0,bY,hz0,hz1,hz2⟩:=dH Tryz.infoSet;have HF:=hid h;have HB:=hid (fun i h e=>akv (L:=L) (n:=n) (i:=i) h e)
 have HT:Hid ((∀i (h:i<L.length),dR L[i] n=true) ->nO L n=true):=fun h=>fE.2 fun l hl=>by
  obtain⟨i,hi,rfl⟩:=iZ hl;exact h i hi
 have HM:Hid (∀i (h:i<L.length),(jb L)[i]? =some (az (ag L[i]))):=fun i h=>by simp[jb,h]
 have fN:=hid hl;have qo:=WH L;generalize nO L n=rb at *;generalize jb L=ms at *;clear h hl;go_enter Tryz.func73,Tryz.ntmps73
 go_wp2_with (first
  |(at_make;refine mR _ rfl _ _ 109 rfl w.heap.size 115 i0 (.int .u32 0) 1 Tryz.underlying109 bY hz0 hz1 .i64 .i64 _ _ L.length rfl rfl (by go_num) (by go_num) (by rw[hz2];omega) (by unfold maxLen;omega) (aq _) ?_;intro w2 hown2 hgrow2))
 have hb2:=pS hown2;rw[OD] at hb2;have bB:Hid (Below w.heap.size w w2):=(au _ w).grown hgrow2 (aq _) (fun k e=>by cases e);have HI:Hid (b9 w2 w.heap.size (List.replicate L.length 0)):=hb2;clear hown2 hgrow2 hb2;go_wp2_with fail
 go_loopw [15] (fun iv wr=>∃i:Nat,i<=L.length/\iv=.int .i64 i/\Hid (∀j (h:j<L.length),j< i ->dR L[j] n=true)/\Hid (b9 wr w.heap.size (ou ms i))/\Hid (Below w.heap.size w wr)) (fun iv _=>L.length - (intOf iv).toNat)
 case atStart=>exact⟨0,aU _,rfl,fun j _ h=>absurd h (by omega),by rw[Vw,qo];exact HI,bB⟩
 case round=>
  obtain⟨i,hi,rfl,HR,HU,xw⟩:=hrel;clear HI bB;by_cases hlt:i<L.length
  ·obtain⟨g,o,b,c,rfl,hg,c0,hI⟩:=(HF.o.aa xw.o) i hlt;have c4:=fN.o L[i] (bM hlt);have HII:=hid hI;clear hI;have HBi:=hid (HB.o i hlt);have HMi:=hid (HM.o i hlt)
   have R7:Hid (dR L[i] n=true ->∀j (h:j<L.length),j<i+1 ->dR L[j] n=true):=fun h j hj pH=>by
    rcases cT j i with h2 |h2
    ·exact HR.o j hj h2
    ·obtain rfl:j=i:=by omega
     exact h
   have kx:Hid (dR L[i] n=true ->setA L[i] n=az (ag L[i])):=UG;generalize L[i]=l at *;go_wp2_with fail
   refine(UF b c l n _ HII.o c4 hn).af ?_;rintro e w3 ⟨rfl,rfl⟩;cases hr:dR l n with
   |false=>
    have HE:=hid (HBi.o hr);generalize setA l n=s at *;go_wp2;go_ret2;exact⟨xw.o,.inr ⟨HE.o,rfl⟩⟩
   |true=>
    rw[kx.o hr];have vr:=hid (R7.o hr);have k0:=HU.o.cell i (by rw[Kh _ (by omega)];omega);have f0:=HU.o.fz i;have Ma:=hid (HU.o.set i (az (ag l)))
    have pX:Hid ((ou ms i).set i (az (ag l))=ou ms (i+1)):=by
     show _=_;obtain⟨h1,h2⟩:=nY.1 HMi.o;rw[<- h2];exact Vx ms h1
    rw[pX.o] at Ma;have CX:=hid (xw.o.setCell (p:=⟨w.heap.size,i,none⟩) (aq _) (.int .u32 (az (ag l):Nat)));clear hr;generalize az (ag l)=s at *;generalize (ou ms i)[i]'(by rw[Kh _ (by omega)];omega)=z at *;go_wp2;go_roundw
    case rel=>exact⟨i+1,by omega,by go_num,vr,Ma,CX⟩
    case measure=>simp[intOf];omega
  ·obtain rfl:i=L.length:=by omega
   have HE:=hid (HT.o fun j hj=>HR.o j hj hj);have hU:=HU.o;rw[<- qo,Vy] at hU;have pV:=hid hU;clear hU;go_wp2;go_ret2;exact⟨xw.o,.inl ⟨HE.o,_,rfl,aq _,pV.o⟩⟩
def vW (L:List (List Int)):Bool:=(List.range L.length).all fun v=>!decide (v∈ag (L.getD v []))
def gB (L:List (List Int)):Bool:=decide (1<=L.length/\L.length<=8)&&nO L L.length&&vW L
theorem WG (n:Nat) (w:World):
  Calls Tryz.prog 172 #[.int .i64 (n:Nat)] w fun e w'=>e=.returned (.bool (decide (1<=n/\n<=8)))/\w'=w:=by
 by_cases h1:1<=n
 ·by_cases h2:n<=8
  ·rw[cS (p:=1<=n/\n<=8) ⟨h1,h2⟩];(have e1:(1:Int)<=(n:Int):=by omega);(have e2:(n:Int)<=8:=by omega);go_enter Tryz.func172,Tryz.ntmps172;go_wp2;go_ret;exact⟨rfl,rfl⟩
  ·rw[cD (p:=1<=n/\n<=8) (fun h=>h2 h.2)];(have e1:(1:Int)<=(n:Int):=by omega);have HE:Hid (decide ((n:Int)<=8)=false):=cD (by omega);clear h2;go_enter Tryz.func172,Tryz.ntmps172;go_wp2;go_ret;exact⟨by rw[HE.o];rfl,rfl⟩
 ·rw[cD (p:=1<=n/\n<=8) (fun h=>h1 h.1)];obtain rfl:n=0:=by omega
  clear h1;go_enter Tryz.func172,Tryz.ntmps172;go_wp2;go_ret;exact⟨rfl,rfl⟩
theorem UQ (hn:n<=8) (h:dR l n=true):∀u∈ag l,u<8:=by
 have:=UO (l:=l) (n:=n) (i:=l.length) hn h (aq _);rwa [gX] at this
theorem Ry (h:nO L n=true) (hi:i<L.length):dR L[i] n=true:=fE.1 h _ (bM hi)
theorem Wn (h:i<L.length) (e:i∈ag L[i]):vW L=false:=by
 rw[vW,De];refine⟨i,cH.2 h,?_⟩;rw[bU,a8 h];simpa using e
theorem Wm (h:∀i (hi:i<L.length),¬i∈ag L[i]):vW L=true:=by
 rw[vW,fE];intro i hi;have hi':=cH.1 hi;rw[bU,a8 hi'];simpa using h i hi'
theorem UT (a:Option Addr) (ca:Nat) (L:List (List Int)) (w:World) (h:fC w a L) (hl:∀l∈L,l.length<=140737488355328):
  Calls Tryz.prog 123 #[.slice a L.length ca] w fun e w'=>Below w.heap.size w w'/\
   ((gB L=true/\∃G,e=.returned (.tuple #[.slice (some ⟨G,0,none⟩) L.length L.length,.bool true])/\w.heap.size<=G/\b9 w' G (jb L))∨(gB L=false/\∃v,e=.returned (.tuple #[v,.bool false]))):=by
 have HF:=hid h;have HL:=hid hl;have HG:Hid (gB L=(decide (1<=L.length/\L.length<=8)&&nO L L.length&&vW L)):=rfl;generalize gB L=gb at *;clear h hl;cases hm:decide (1<=L.length/\L.length<=8) with
 |false=>
  have HC:=hid (fun V:World=>WG L.length V);rw[hm] at HG HC;have HGF:Hid (gb=false):=by show _=_;rw[HG.o];rfl
  clear hm HG;go_enter Tryz.func123,Tryz.ntmps123;go_wp2_with fail
  refine(HC.o _).af ?_;rintro e w1 ⟨rfl,rfl⟩;go_wp2;go_ret2;exact⟨au _ _,.inr ⟨HGF.o,_,rfl⟩⟩
 |true=>
  have HC:=hid (fun V:World=>WG L.length V);rw[hm] at HG HC;obtain⟨h1,h8⟩:=rk hm;have HS:=hid (fun (V:World) (hV:fC V a L)=>adn a ca L.length L V hV h8 h8 HL.o);have mM:Hid (nO L L.length=true ->∀i (hi:i<L.length),∀u∈ag L[i],u<8):=fun h i hi=>UQ h8 (Ry h hi);have pZ:=hid (fun i h e=>Wn (L:=L) (i:=i) h e);have yX:=hid (fun h=>Wm (L:=L) h);have HM:Hid (∀i (h:i<L.length),(jb L)[i]? =some (az (ag L[i]))):=fun i h=>by simp[jb,h]
  clear hm;generalize nO L L.length=ra at *;generalize vW L=rn at *;generalize jb L=ms at *;go_enter Tryz.func123,Tryz.ntmps123;go_wp2_with fail
  refine(HC.o _).af ?_;rintro e w1 ⟨rfl,rfl⟩;go_wp2_with fail
  refine(HS.o _ HF.o).af ?_;rintro e w2 ⟨hb,⟨DZ,G,rfl,hG,hU⟩ |⟨DZ,rfl⟩⟩
  ·have HU:=hid hU;have HB:=hid hb;have HAT:=hid (mM.o DZ);(have Mr:Hid (gb=rn):=by show _=_;rw[HG.o,DZ];rfl);clear hU hb DZ HG;go_wp2_with fail
   go_loopw [21] (fun iv wr=>∃i:Nat,i<=L.length/\iv=.int .i64 i/\Hid (∀j (h:j<L.length),j< i ->¬j∈ag L[j])/\wr=w2) (fun iv _=>L.length - (intOf iv).toNat)
   case atStart=>exact⟨0,aU _,rfl,fun j _ h=>absurd h (by omega),rfl⟩
   case round=>
    obtain⟨i,hi,rfl,HR,rfl⟩:=hrel;by_cases hlt:i<L.length
    ·have Yb:=HM.o i hlt;obtain⟨hm1,bq⟩:=nY.1 Yb;have c0:=HU.o.cell i hm1;rw[bq] at c0;have si:=hid (pZ.o i hlt)
     have R7:Hid (¬i∈ag L[i] ->∀j (h:j<L.length),j<i+1 ->¬j∈ag L[j]):=fun h j hj pH=>by
      rcases cT j i with h2 |h2
      ·exact HR.o j hj h2
      ·obtain rfl:j=i:=by omega
       exact h
     have HH:=hid (fun V:World=>NA (ag L[i]) i V (HAT.o i hlt) (by omega));clear Yb hm1 bq;generalize ag L[i]=l at *;go_wp2_with fail
     refine(HH.o _).af ?_;rintro e w3 ⟨rfl,rfl⟩;by_cases hin:i∈l
     ·rw[cS hin];have HE:=hid (si.o hin);clear hin;go_wp2;go_ret2;exact⟨HB.o,.inr ⟨by rw[Mr.o];exact HE.o,_,rfl⟩⟩
     ·rw[cD hin];have HE:=hid (R7.o hin);clear hin;go_wp2;go_roundw
      case rel=>exact⟨i+1,by omega,by go_num,HE,trivial⟩
      case measure=>simp[intOf];omega
    ·obtain rfl:i=L.length:=by omega
     have HE:=hid (yX.o fun j hj=>HR.o j hj hj);go_wp2;go_ret2;exact⟨HB.o,.inl ⟨by rw[Mr.o];exact HE.o,G,rfl,hG,HU.o⟩⟩
  ·have Mr:Hid (gb=false):=by show _=_;rw[HG.o,DZ];rfl
   have HB:=hid hb;clear DZ hb HG;go_wp2_with fail
   go_loopw [21] (fun iv wr=>iv=.int .i64 0/\wr=w2) (fun _ _=>0)
   case atStart=>exact⟨rfl,rfl⟩
   case round=>
    obtain⟨rfl,rfl⟩:=hrel;go_wp2;go_ret2;exact⟨HB.o,.inr ⟨Mr.o,_,rfl⟩⟩
section
open Go.Shelf
attribute [local go_sem] Oper.semAt_some
theorem ajc (n:Nat) (hn:1<=n) (l:Nat) (s:List Nat) (hs:∀u∈s,u<8) (J:Nat ->World ->Prop)
  (hY:∀k V,k< 8 ->k∈s ->J k V ->YieldAt Fence.wide (n - 1) Tryz.prog l #[.int .i64 (k:Nat)] V fun e V'=>e=.returned (.bool true)/\J (k+1) V')
  (hN:∀k V,k< 8 ->¬k∈s ->J k V ->J (k+1) V) (V:World) (h0:J 0 V):
  CallsIn Fence.wide n Tryz.prog 144 #[.int .u32 (az s:Nat),.func (.yield l) #[] #[]] V fun e V'=>(∃v,e=.returned v)/\J 8 V':=by
 refine C5 Tryz.func144 rfl trivial ?_ rfl;simp only[Tryz.ntmps144,lR,dI,k8,Nat.reduceAdd,Nat.reduceSub,lX,lW,lS,k9,gY,eE];have HH:=hid (fun (k:Nat) (hk:k<8) (U:World)=>NA s k U hs hk);generalize az s=m at *;gi_wp2
 gi_loopw [5] (fun i wr=>∃k:Nat,k<=8/\i=.int .i64 k/\J k wr) (fun i _=>8 - (intOf i).toNat)
 case atStart=>exact⟨0,aU _,rfl,h0⟩
 case round=>
  obtain⟨k,hk,rfl,hJ⟩:=hrel;by_cases hlt:k<8
  ·have ux:(k:Int)<8:=by omega
   have Mq:=hid (HH.o k hlt);by_cases hm:k∈s
   ·rw[cS hm] at Mq;obtain⟨fn,tmps,assign,body,hy,hR⟩:=hY k wr hlt hm hJ;have HR:=hid hR;clear hR;gi_wp2_with (refine⟨trivial,?_⟩;gi_at_call 129;refine(fZ.2 (Mq.o _)).af ?_;rintro e w' ⟨rfl,hw'⟩;subst hw')
    refine HR.o.af ?_;rintro e W3 ⟨rfl,hJ3⟩;gi_wp2
    go_roundw
    case rel=>exact⟨k+1,by omega,by go_num,hJ3⟩
    case measure=>simp[intOf];omega
   ·rw[cD hm] at Mq;have hJ3:=hN k wr hlt hm hJ;gi_wp2_with (refine⟨trivial,?_⟩;gi_at_call 129;refine(fZ.2 (Mq.o _)).af ?_;rintro e w' ⟨rfl,hw'⟩;subst hw')
    refine⟨fun f h=>(by cases h),?_⟩;gi_wp2
    go_roundw
    case rel=>exact⟨k+1,by omega,by go_num,hJ3⟩
    case measure=>simp[intOf];omega
  ·obtain rfl:k=8:=by omega
   gi_wp2
   go_end0
   exact⟨⟨_,rfl⟩,hJ⟩
def ajd (B:Nat) (I:Nat ->World ->Prop) (k:Nat) (W:World):Exit ->Act ->World ->Prop
 |.normal,_,W'=>KeepsFrom B W W'/\I (k+1) W'
 |_,_,_=>False
theorem Bc {g:Operand} {ps:Array Tmp} {assign body:Code} {Q:Exit ->Act ->World ->Prop} {a:Act} (h1:2<=n) (s:List Nat) (hs:∀u∈s,u<8)
  (hg:a.eval g=.func (.func 144) #[.int .u32 (az s:Nat)] #[]) (dt:ps.size=1) (I:Nat ->World ->Prop) (hI:OwnFrom w.heap.size I) (h0:I 0 w) (a₁:Nat ->Act)
  (ah0:∀(l k:Nat) (W:World) (K:Act ->World ->Prop),K (a₁ k) W ->
   assign.wpIn (Fence.wide.inRound l) (n - 1 - 1) Tryz.prog (Exit.then K (fun _ _ _=>False)) {tmps:=(ps.zip #[.int .i64 (k:Nat)]).foldl (fun t (p,v)=>t.setIfInBounds p v) a.tmps,defers:=[]} W)
  (ahX:∀(l k:Nat) (W:World),k< 8 ->k∈s ->I k W ->body.wpIn (Fence.wide.inRound l) (n - 1 - 1) Tryz.prog (ajd w.heap.size I k W) (a₁ k) W)
  (ahd:∀k W,k< 8 ->¬k∈s ->I k W ->I (k+1) W)
  (hdone:∀(D:Nat) (W:World),w.heap.size<=D ->I 8 W ->W.heap[D]? =some (.deferred (some [])) ->Q .normal {a with defers:= {target:=.collected D,args:= #[]}::a.defers} W):
  (Code.rangeFunc g ps assign body).wpIn Fence.wide n Tryz.prog Q a w:=by
 refine wpIn_rangeFunc fun fn hfn=>?_;rw[show Fence.wide.round=none from rfl];obtain⟨rec,BS⟩:∃rec:LoopState ->Option Code ->Loop,rec=fun st pe=> {state:=st,pending:=pe,fn,tmps:=a.tmps,params:=ps,assign,body,defers:=w.heap.size}:=⟨_,rfl⟩;obtain⟨W1,hW1⟩:∃W1,(w.alloc (.deferred (some []))).alloc (.loop (rec .ready none))=W1:=⟨_,rfl⟩
 have yv:W1.heap[w.heap.size+1]? =some (.loop (rec .ready none)):=by
  rw[<- hW1];have h:=World.alloc_heap_new (w.alloc (.deferred (some []))) (.loop (rec .ready none));rwa [di] at h
 have hK1:W1.heap[w.heap.size]? =some (.deferred (some [])):=by
  rw[<- hW1];exact(rB _ _ _ (by simp)).trans (World.alloc_heap_new w _)
 have QB:I 0 W1:=by
  rw[<- hW1];exact hI.alloc _ (hI.alloc _ h0)
 refine⟨w.heap.size+1,[{target:=.collected w.heap.size,args:= #[]}],W1, {target:=.fn (.func 144) #[],args:= #[.int .u32 (az s:Nat),.func (.yield (w.heap.size+1)) #[] #[]]},W1,144, #[.int .u32 (az s:Nat),.func (.yield (w.heap.size+1)) #[] #[]],W1,?_,?_,?_,?_,fun _=>by omega,?_⟩
 ·rw[<- hW1,BS];exact run_enterLoop_outer _ _ _ _ _
 ·simp only[resolve,hg];simp[go_sem]
 ·intro f' hf';simp[Target.leads] at hf';subst hf';trivial
 ·have eg:∀args w,(callFunc 144 args).run Tryz.prog w=.ok (.enter 144 args) w:=enters_of Tryz.func144 (by kernel_rfl) rfl;simp[invoke,go_sem,eg]
 ·refine(ajc (n - 1) (by omega) (w.heap.size+1) s hs (fun k W=>I k W/\W.heap[w.heap.size+1]? =some (.loop (rec .ready none))/\W.heap[w.heap.size]? =some (.deferred (some []))) ?_ (fun k W hk hm h=>⟨ahd k W hk hm h.1,h.2⟩) W1 ⟨QB,yv,hK1⟩).af ?_
  ·rintro k W hk hm ⟨hi,hl,hd⟩;have hlt:w.heap.size+1<W.heap.size:=(dm.1 hl).1;have hy:=run_yield (P:=Tryz.prog) (args:= #[.int .i64 (k:Nat)]) hl (by rw[BS];exact dt.symm);rw[BS] at hy;refine⟨fn,_,assign,body,hy,roundIn_of_wpIn hfn (ah0 _ k W _ ⟨_,run_beginRound hl (by rw[BS]),?_⟩)⟩;have hl2:(W.putObj (w.heap.size+1) (.loop {rec .ready none with state:=.busy})).heap[w.heap.size+1]? =some (.loop {rec .ready none with state:=.busy}):=World.putObj_heap_same hlt;have pL:(W.putObj (w.heap.size+1) (.loop {rec .ready none with state:=.busy})).heap[w.heap.size]? =some (.deferred (some [])):=(vG (by omega)).trans hd;refine wpIn_mono (ahX _ k _ hk hm (hI.putObj _ hi (by omega) hl rfl)) ?_;rintro e a3 W3 hp;cases e with
   |normal=>
    obtain⟨hk3,zV⟩:=hp;have hl3:=hk3.same _ _ (by omega) hl2 rfl;have hr:=run_endRound (P:=Tryz.prog) none hl3;have P6:=hk3.same _ _ (aq _) pL rfl;refine⟨_,_,hr,rfl,hI.putObj _ zV (by omega) hl3 rfl,?_,(vG (by omega)).trans P6⟩;rw[BS];exact World.putObj_heap_same (dm.1 hl3).1
   |ret=>exact hp.elim
   |exit id=>exact hp.elim
   |goto t=>exact hp.elim
   |panic ch=>exact hp.elim
   |outgrown=>exact hp.elim
  ·rintro e W2 ⟨⟨v,rfl⟩,hi,hl,hd⟩;have h:=run_endLoop (P:=Tryz.prog) hl (by rw[BS];simp);rw[BS] at h;exact⟨none,_,h,hdone _ _ (aq _) (hI.putObj _ hi (by omega) hl rfl) ((vG (by omega)).trans hd)⟩
end
open Go.Shelf
variable {s:List Nat} {v:Nat}
def xT:ByteArray:=⟨(([0,1,1,2,1,2,2,3,1,2,2,3,2,3,3,4,1,2,2,3,2,3,3,4,2,3,3,4,3,4,4,5,1,2,2,3,2,3,3,4,2,3,3,4,3,4,4,5,2,3,3,4,3,4,4,5,3,4,4,5,4,5,5,6].append [1,2,2,3,2,3,3,4,2,3,3,4,3,4,4,5,2,3,3,4,3,4,4,5,3,4,4,5,4,5,5,6,2,3,3,4,3,4,4,5,3,4,4,5,4,5,5,6,3,4,4,5,4,5,5,6,4,5,5,6,5,6,6,7]).append ([1,2,2,3,2,3,3,4,2,3,3,4,3,4,4,5,2,3,3,4,3,4,4,5,3,4,4,5,4,5,5,6,2,3,3,4,3,4,4,5,3,4,4,5,4,5,5,6,3,4,4,5,4,5,5,6,4,5,5,6,5,6,6,7].append [2,3,3,4,3,4,4,5,3,4,4,5,4,5,5,6,3,4,4,5,4,5,5,6,4,5,5,6,5,6,6,7,3,4,4,5,4,5,5,6,4,5,5,6,5,6,6,7,4,5,5,6,5,6,6,7,5,6,6,7,6,7,7,8])).toArray⟩
def eo (s:List Nat) (k:Nat):List Nat:=(List.range k).filter fun v=>decide (v∈s)
theorem OB (h:k∈s):eo s (k+1)=eo s k++[k]:=by rw[eo,oY,xI,eo];simp[h]
theorem Kz (h:¬k∈s):eo s (k+1)=eo s k:=by rw[eo,oY,xI,eo];simp[h]
theorem DG:v∈eo s k↔v<k/\v∈s:=by simp[eo]
theorem OC (s:List Nat) (k:Nat):(eo s k).length<=k:=by
 have:=lT (fun v=>decide (v∈s)) (List.range k);simpa [eo] using this
def xU (m:Nat):Nat:=((List.range 8).filter fun v=>m.testBit v).length
theorem aek (s:List Nat):xU (az s)=(eo s 8).length:=by
 rw[xU,eo];congr 1
 exact List.filter_congr fun v _=>pq s v
theorem aen:((List.range 256).all fun m=>decide (xT.data.toList[m]? =some (UInt8.ofNat (xU m))))=true:=by decide+kernel
theorem aem (h:m<256):xT.data.toList[m]? =some (UInt8.ofNat (xU m)):=rk (fE.1 aen m (cH.2 h))
theorem ael:xT.size=256:=by decide+kernel
theorem Vl (m:Nat):xU m<=8:=by
 have:=lT (fun v=>m.testBit v) (List.range 8);simpa [xU] using this
theorem afg (m:Nat) (w:World) (hm:m<256):
  Calls Tryz.prog 230 #[.int .u32 (m:Nat)] w fun e w'=>e=.returned (.int .i64 (xU m:Nat))/\∃k,w'=w.drewN k:=by
 have h24:(m:Int)/16777216=0:=by omega
 have h16:(m:Int)/65536=0:=by omega
 have h8:(m:Int)/256=0:=by omega
 have ha:bits BinOp.and IntKind.u32 (m:Nat) 255=((m:Nat):Int):=by
  have e:(255:Int)=((255:Nat):Int):=rfl;rw[e,u32_and_nat _ _ (by omega) (by omega),show (255:Nat)=2^8 - 1 from rfl,Nat.and_two_pow_sub_one_eq_mod];omega
 have hz:bits BinOp.and IntKind.u32 0 255=0:=by decide
 have hsz:=ael;have hlt:m<xT.size:=by omega
 have hat:∀i (h:i<xT.size),xT[i]=UInt8.ofNat (xU i):=fun i h=>by
  have h1:=aem (m:=i) (by omega);rw[xL] at h1;obtain⟨h2,h3⟩:=dm.1 h1;exact h3
 have h0:xT[0]'(by omega)=0:=hat 0 (by omega)
 obtain⟨q,wB,oB⟩:∃q:UInt8,xT[m]'hlt=q/\q.toNat=xU m:=⟨_,hat m hlt,by
  have:=Vl m;rw[UInt8.toNat_ofNat'];omega⟩
 have hw0:IntKind.u8.wrap 0=0:=by decide
 have dC:=Vl m;rw[<- oB] at dC
 have O1:IntKind.u8.wrap ((q.toNat:Nat):Int)=((q.toNat:Nat):Int):=by
  have:(q.toNat:Int)<256:=by omega
  rw[IntKind.wrap_u8];omega
 have r8:=hid oB;clear hat oB;have hp:xT=⟨(([0,1,1,2,1,2,2,3,1,2,2,3,2,3,3,4,1,2,2,3,2,3,3,4,2,3,3,4,3,4,4,5,1,2,2,3,2,3,3,4,2,3,3,4,3,4,4,5,2,3,3,4,3,4,4,5,3,4,4,5,4,5,5,6].append [1,2,2,3,2,3,3,4,2,3,3,4,3,4,4,5,2,3,3,4,3,4,4,5,3,4,4,5,4,5,5,6,2,3,3,4,3,4,4,5,3,4,4,5,4,5,5,6,3,4,4,5,4,5,5,6,4,5,5,6,5,6,6,7]).append ([1,2,2,3,2,3,3,4,2,3,3,4,3,4,4,5,2,3,3,4,3,4,4,5,3,4,4,5,4,5,5,6,2,3,3,4,3,4,4,5,3,4,4,5,4,5,5,6,3,4,4,5,4,5,5,6,4,5,5,6,5,6,6,7].append [2,3,3,4,3,4,4,5,3,4,4,5,4,5,5,6,3,4,4,5,4,5,5,6,4,5,5,6,5,6,6,7,3,4,4,5,4,5,5,6,4,5,5,6,5,6,6,7,4,5,5,6,5,6,6,7,5,6,6,7,6,7,7,8])).toArray⟩:=rfl;go_enter Tryz.func230,Tryz.ntmps230;go_upto_region 1 with fail
 rw[<- hp];clear hp;go_quiet (fail)
 go_wp2;go_ret;exact⟨by rw[<- r8.o];rfl,_,rfl⟩
def gO (P:List (List Nat)) (out:List Nat) (v:Nat):Bool:=!decide (v∈out)&&decide (∀u∈P.getD v [],u∈out)
def po (P:List (List Nat)) (out:List Nat):Option Nat:=(List.range P.length).find? (gO P out)
def aR (P:List (List Nat)):Nat ->List Nat
 |0=>[]
 |k+1=>match po P (aR P k) with
  |some v=>aR P k++[v]
  |none=>aR P k
theorem find_range {p:Nat ->Bool}:∀ {n v:Nat},v< n ->p v=true ->(∀u,u< v ->p u=false) ->(List.range n).find? p=some v:=by
 intro n;induction n with
 |zero=>intro v h;omega
 |succ n ih=>
  intro v hv hp hu;rw[oY,List.find?_append];rcases cT v n with h |h
  ·rw[ih h hp hu];rfl
  ·obtain rfl:v=n:=by omega
   (have:(List.range v).find? p=none:=List.find?_eq_none.2 fun u BO=>by rw[hu u (cH.1 BO)];decide);rw[this];simp[hp]
theorem aft {P:List (List Nat)} {out:List Nat} (hv:v<P.length) (hp:gO P out v=true) (hu:∀u,u< v ->gO P out u=false):po P out=some v:=find_range hv hp hu
theorem afu {P:List (List Nat)} {out:List Nat} (hu:∀u,u<P.length ->gO P out u=false):po P out=none:=List.find?_eq_none.2 fun u BO=>by rw[hu u (cH.1 BO)];decide
theorem Kp {P:List (List Nat)} (h:po P (aR P k)=some v):aR P (k+1)=aR P k++[v]:=by rw[aR,h]
theorem VT {P:List (List Nat)} (h:po P (aR P k)=none):∀j,aR P (k+j)=aR P k
 |0=>rfl
 |j+1=>by
  have ih:=VT h j;show aR P (k+j+1)=_;rw[aR,ih,h]
theorem ae9 {P:List (List Nat)} (h:po P (aR P k)=none) (hk:k<=n):aR P n=aR P k:=by
 have:=VT h (n - k);rwa [show k+(n - k)=n by omega] at this
theorem Dx (P:List (List Nat)):∀k,(aR P k).length<=k
 |0=>aq _
 |k+1=>by
  have:=Dx P k;rw[aR];cases po P (aR P k) with
  |none=>show (aR P k).length<=_;omega
  |some v=>show (aR P k++[v]).length<=_;rw[cK];simp;omega
theorem Bo (P:List (List Nat)):∀k,∀v∈aR P k,v<P.length
 |0,v,hv=>by cases hv
 |k+1,v,hv=>by
  rw[aR] at hv;cases e:po P (aR P k) with
  |none=>rw[e] at hv;exact Bo P k v hv
  |some u=>
   rw[e] at hv;rcases cI.1 hv with h |h
   ·exact Bo P k v h
   ·obtain rfl:=eD.1 h;exact cH.1 (Td e)
def aI (L:List (List Int)):List (List Nat):=L.map ag
theorem jI (L:List (List Int)):(aI L).length=L.length:=by simp[aI]
theorem Ki (h:i<L.length):(aI L).getD i []=ag L[i]:=by simp[aI,bU,h]
theorem DI (L:List (List Int)):jb L=(aI L).map az:=by simp[jb,aI]
theorem OV (a b:List Nat):iL (a++b)=iL a++iL b:=by simp[iL]
def bQ (L:List (List Int)):Int:=if gB L=true then(if (aR (aI L) L.length).length<L.length then 10 else 0) else 11
section
attribute [local go_sem] Oper.semAt_some
variable {Bn:Nat}
def Cv (B:Nat) (w:World) (a:Option Addr) (l:List Int):Prop:=∀k (h:k<l.length),∃g o,a=some ⟨g,o,none⟩/\g<B/\w.cell? ⟨g,o+k,none⟩=some (.int .i64 l[k])
theorem Cv.aa {B:Nat} (h:Cv B w a l) (hb:Below B w w'):Cv B w' a l:=fun k hk=>by
 obtain⟨g,o,h1,h2,h3⟩:=h k hk;exact⟨g,o,h1,h2,(hb.cell (p:=⟨g,_,none⟩) h2).trans h3⟩
theorem aC.toB (h:aC w a l):Cv w.heap.size w a l:=h
def qU (Bn B:Nat) (V V':World):Prop:=mr Bn V V'/\Below B V V'
theorem qU.t {B:Nat} {X Y Z:World} (h:qU Bn B X Y) (k:qU Bn B Y Z):qU Bn B X Z:=⟨h.1.t k.1,h.2.trans k.2⟩
theorem qU.b {B:Nat} (hn:Bn<w.heap.size) (hB:B<=w.heap.size) (V:World) (l:Nat) (o o':Obj) (hl:w.heap.size<=l) (h1:V.heap[l]? =some o) (h2:o.isCells=false) (h3:o.isWalk=false):qU Bn B V (V.putObj l o'):=
 ⟨mr.b hn V l o o' hl h1 h2 h3,sH hB V l o o' hl h1 h2 h3⟩
def lG (n k:Nat):List Nat:=(List.range k).map fun j=>n - 1 - j
theorem LQ (n k:Nat):lG n (k+1)=lG n k++[n - 1 - k]:=by simp[lG,oY]
theorem akk (n k:Nat):(lG n k).length=k:=by simp[lG]
abbrev At (l:List Int):Type:= {i:Nat//i<l.length}
abbrev Rt (l:List Int) (x:At l):Array Value:= #[.int .i64 (x.1:Nat),.int .i64 (l[x.1]'x.2)]
theorem akj (n:Nat) (hn:1<=n) (l Bn B:Nat) (a:Option Addr) (cap:Nat) (xs:List Int) (hl:xs.length<=140737488355328) (J Jx:List (At xs) ->World ->Prop)
  (hY:∀pre x V,J pre V ->pre.length<xs.length ->YieldAt Fence.wide (n - 1) Tryz.prog l (Rt xs x) V fun e V'=>
   (e=.returned (.bool true)/\J (pre++[x]) V'/\qU Bn B V V')∨(e=.returned (.bool false)/\Jx (pre++[x]) V'))
  (V:World) (Ck:V.cell? ⟨Bn,0,none⟩=some (.slice a xs.length cap)) (hx:Cv B V a xs) (h0:J [] V):
  CallsIn Fence.wide n Tryz.prog 201 #[.func (.yield l) #[] #[],.pointer (some ⟨Bn,0,none⟩)] V fun e V'=>(∃v,e=.returned v)/\
   ((∃ys:List (At xs),ys.map (·.1)=lG xs.length xs.length/\J ys V')∨(∃pre:List (At xs),(∃k,k<=xs.length/\pre.map (·.1)=lG xs.length k)/\Jx pre V')):=by
 have HX:=hid hx;clear hx;refine C5 Tryz.func201 rfl trivial ?_ rfl;simp only[Tryz.ntmps201,lR,dI,k8,Nat.reduceAdd,Nat.reduceSub,lX,lW,lS,k9,gY,eE];gi_wp2
 gi_loopw [3] (fun i wr=>∃(k:Nat) (pre:List (At xs)),k<=xs.length/\i=.int .i64 ((xs.length:Int) - 1 - (k:Int))/\Hid (pre.map (·.1)=lG xs.length k)/\J pre wr/\wr.cell? ⟨Bn,0,none⟩=some (.slice a xs.length cap)/\Hid (Cv B wr a xs))
  (fun i _=>(intOf i+1).toNat)
 case atStart=>exact⟨0,[],aU _,by simp,rfl,h0,Ck,HX⟩
 case round=>
  obtain⟨k,pre,hk,rfl,HP,hJs,bF,HB⟩:=hrel;by_cases hlt:k<xs.length
  ·have hpl:pre.length=k:=by have:=cU List.length HP.o;rwa [cX,akk] at this
   (have hi:xs.length - 1 - k<xs.length:=by omega);obtain⟨fn,tmps,assign,body,hy,hR⟩:=hY pre ⟨xs.length - 1 - k,hi⟩ wr hJs (by omega);obtain⟨g,o,rfl,hg,c0⟩:=HB.o (xs.length - 1 - k) hi;(have HS:Hid ((pre++[(⟨xs.length - 1 - k,hi⟩:At xs)]).map (·.1)=lG xs.length (k+1)):=by show _=_;rw[dL,HP.o,LQ];rfl);have HR:=hid hR;clear hR;rw[Rt] at hy;simp only at hy;(have CU:Hid ((xs.length:Int) - 1 - ((k+1:Nat):Int)=(xs.length:Int) - 1 - (k:Int) - 1):=by show _=_;omega);(have QE:(xs.length:Int) - 1 - (k:Int)=((xs.length - 1 - k:Nat):Int):=by omega);rw[QE];have HEE:=hid QE;clear QE;have Lg:xs.length - 1 - k<xs.length:=hi;generalize hEn:xs[xs.length - 1 - k]=xv at *;generalize QD:xs.length - 1 - k=E at *;gi_wp2
   refine HR.o.af ?_;rintro e W3 (⟨rfl,hJ3,hk3⟩ |⟨rfl,hJx3⟩)
   ·have Qb:=Eq.trans hk3.1 bF;have bL:=HB.o.aa hk3.2;gi_wp2
    go_roundw
    case rel=>exact⟨k+1,_,by omega,by rw[CU.o,HEE.o],HS,hJ3,Qb,bL⟩
    case measure=>simp[intOf]
   ·gi_wp2
    refine bS (results_none rfl _ _ _) rfl ?_;exact⟨⟨_,rfl⟩,.inr ⟨_,⟨k+1,by omega,HS.o⟩,hJx3⟩⟩
  ·obtain rfl:k=xs.length:=by omega
   (have he:(xs.length:Int) - 1 - (xs.length:Int)= -1:=by omega);rw[he];gi_wp2
   go_end0
   exact⟨⟨_,rfl⟩,.inl ⟨_,HP.o,hJs⟩⟩
end
variable {ops:Array Oper}
def F5 (ops:Array Oper):Bool:=ops.all fun o=>match o.op with |.defer _=>false |_=>true
theorem aev (h:F5 ops=true) {o:Oper} (ho:ops[i]? =some o):∀c,o.op≠.defer c:=by
 intro c e;rw[F5,Array.all_eq_true] at h;obtain⟨hi,he⟩:=dm.1 ho;have:=h i hi;rw[he,e] at this;cases this
theorem afe {l:Nat} {P:Program} {Q:Exit ->Act ->World ->Prop} (jO:F5 ops=true) (hlo:¬LetsOut Q) {K K':Act ->World ->Prop} {a:Act} (hK:∀a w,K a w ->K' a w)
  (h:wpOp P ops Q i K a w):wpOpIn (Fence.wide.inRound l) n P ops Q i K' a w:=by
 unfold wpOp at h;unfold wpOpIn;cases ho:ops[i]? with
 |none=>rw[ho] at h;exact hK _ _ h
 |some o=>
  rw[ho] at h;simp only at h⊢;by_cases hw:Region.wanted o (yielded ops a.tmps)=true
  ·rw[aA hw] at h⊢;rcases h with h |h
   ·refine⟨fun _ _=>trivial,?_⟩;rw[Oper.semAt_eq _ _ _ (aev jO ho)];unfold Oper.wp at h;generalize (execOp a.eval o).run P w=r at *;cases r with
    |ok nx w'=>
     cases nx with
     |value v=>exact hK _ _ h
     |skip=>exact hK _ _ h
     |defer d=>exact hK _ _ h
     |enter f args=>
      refine⟨fun hd=>absurd hd (show ¬Fence.wide.depth.isSome=true by decide),(fZ (n:=n - 1)).2 (Calls.af h ?_)⟩;intro e w'' he;cases e with
      |returned v=>exact hK _ _ he
      |panicked c=>exact he
      |outgrown=>exact he
     |row r args=>exact⟨fun hd=>absurd hd (show ¬Fence.wide.depth.isSome=true by decide),fun c cs _=>let ⟨v,w2,r,s⟩:=h c cs;⟨v,w2,hK _ _ r,stepsIn_wide.2 s⟩⟩
     |_=>exact h.elim
    |halt hl w'=>
     cases hl with
     |panic v=>exact h
     |_=>exact h.elim
   ·exact absurd h.2 hlo
  ·rw[aD hw] at h⊢;exact⟨fun _ _=>trivial,hK _ _ h⟩
theorem aaX {l:Nat} {P:Program} {md:Region.Mode} {Q:Exit ->Act ->World ->Prop} (jO:F5 ops=true) (hlo:¬LetsOut Q):∀(fuel:Nat) (listed:Array Bool) (a:Act) (w:World),wpAny P md ops Q fuel listed a w ->wpAnyIn (Fence.wide.inRound l) n P md ops Q fuel listed a w
 |0,_,_,_,h=>h
 |fuel+1,_,_,_,h=>⟨h.1,fun i hi=>afe jO hlo (fun a w=>aaX jO hlo fuel _ a w) (h.2 i hi)⟩
theorem vU {l id:Nat} {P:Program} {Q:Exit ->Act ->World ->Prop} {a:Act} (S:World ->Prop) (hm:P.follows .mixedOrders=true) (jO:F5 ops=true) (hlo:¬LetsOut Q) (hS:S w.drew)
  (h:S w.drew ->wpAnyH P .any ops Q S ops.size (Array.replicate ops.size false) a w.drew):(Code.region id ops true).wpIn (Fence.wide.inRound l) n P Q a w:=
 wpIn_region_any hm (aaX jO hlo _ _ _ _ (wpAny_of_held _ _ _ _ (h hS)))
section
attribute [local go_sem] Oper.semAt_some
variable {S vs:List Nat} {K:Nat}
def Cr (S vs:List Nat) (st:Nat×List Nat) (i:Nat):Nat×List Nat:=(st.1/sz S (vs.getD i 0),st.2.set i (st.1 % sz S (vs.getD i 0)))
def nN (S vs:List Nat) (K n:Nat) (pre:List Nat):Nat×List Nat:=pre.foldl (Cr S vs) (K,List.replicate n 0)
theorem aaT (S vs:List Nat) (K n:Nat) (pre:List Nat) (i:Nat):nN S vs K n (pre++[i])=Cr S vs (nN S vs K n pre) i:=by simp[nN]
theorem ako (S vs:List Nat) (K n:Nat) (pre:List Nat):(nN S vs K n pre).1<=K/\(nN S vs K n pre).2.length=n:=by
 have key:∀(l:List Nat) (st:Nat×List Nat),st.1<=K ->st.2.length=n ->(l.foldl (Cr S vs) st).1<=K/\(l.foldl (Cr S vs) st).2.length=n:=by
  intro l;induction l with
  |nil=>intro st h1 h2;exact⟨h1,h2⟩
  |cons i l ih=>
   intro st h1 h2;exact ih _ (aL (vI _ _) h1) (by simp[Cr,h2])
 exact key pre _ (aq _) (by simp)
theorem aaU (S vs:List Nat) (K:Nat):∀m,m<=vs.length ->nN S vs K vs.length (lG vs.length m)=(K/cnt S (vs.drop (vs.length - m)),List.replicate (vs.length - m) 0++kR S (vs.drop (vs.length - m)) (K % cnt S (vs.drop (vs.length - m))))
 |0,_=>by simp[nN,lG,cnt,kR]
 |m+1,h=>by
  rw[LQ,aaT,aaU S vs K m (by omega)];have hj:vs.length - 1 - m<vs.length:=by omega
  have e1:vs.length - (m+1)=vs.length - 1 - m:=by omega
  have e2:vs.length - m=(vs.length - 1 - m)+1:=by omega
  have hd:vs.drop (vs.length - 1 - m)=vs[vs.length - 1 - m]::vs.drop ((vs.length - 1 - m)+1):=mD hj;rw[e1,e2,hd,Cr,qL hj];generalize vs.drop ((vs.length - 1 - m)+1)=rest;generalize vs[vs.length - 1 - m]=v;generalize vs.length - 1 - m=j;simp only[cnt,kR];rw[WC,WB,ML,cV (cnt S rest),List.replicate_succ',nZ,A3 _ _ (by simp)];simp
theorem akp (h:K<cnt S vs):nN S vs K vs.length (lG vs.length vs.length)=(0,kR S vs K):=by
 rw[aaU S vs K _ (aq _),oX];simp[iY h,vJ h]
theorem Rq (n:Nat) (a:Option Addr) (len cap:Nat) (w:World):
  CallsIn Fence.wide n Tryz.prog 159 #[.slice a len cap] w fun e w'=>e=.returned (.func (.func 201) #[] #[.pointer (some ⟨w.heap.size,0,none⟩)])/\w'=w.alloc (.cells #[.slice a len cap] 27):=by
 refine C5 Tryz.func159 rfl trivial ?_ rfl;simp only[Tryz.ntmps159,lR,dI,k8,Nat.reduceAdd,Nat.reduceSub,lX,lW,lS,k9,gY,eE];gi_wp2
 go_ret;exact⟨rfl,rfl⟩
theorem Rp (n:Nat) (hn:1<=n) (Bn B:Nat) (a:Option Addr) (cap:Nat) (xs:List Int) (hl:xs.length<=140737488355328) (w:World) (Ck:Bn<w.heap.size) (hB:B<=w.heap.size) (hc:w.cell? ⟨Bn,0,none⟩=some (.slice a xs.length cap)) (hx:Cv B w a xs):
  SeqStopsK Fence.wide n Tryz.prog 201 #[.pointer (some ⟨Bn,0,none⟩)] (Rt xs) (qU Bn B) (fun ys=>ys.map (·.1)=lG xs.length xs.length) (fun pre=>∃k,k<=xs.length/\pre.map (·.1)=lG xs.length k) xs.length w:=fun l J Jx V hV _ _ hY h0=>
 akj n hn l Bn B a cap xs hl J Jx hY V ((hV.cell (p:=⟨Bn,0,none⟩) Ck).trans hc) (hx.aa (hV.af hB)) h0
theorem JW {β:Type} (g:Nat) (f:β ->List Nat):Own (fun s W=>ck W g (f s)):=fun s X Y row hs hg hrow=>by
 refine(hg.block g hs.lt fun e'=>?_).trans hs;obtain⟨o,ho,hc⟩:=hrow g e'.symm;rw[show X.heap[g]? =_ from hs] at ho;cases ho;cases hc
theorem WI (w:World) (n:Nat):ck (w.alloc (.cells (madeCells #[Value.int .i64 0] n) 3)) w.heap.size (List.replicate n 0):=by
 have h:(madeCells #[Value.int .i64 0] n).toList=(List.replicate n (0:Nat)).map iv:=by
  have:=DJ n;rwa [nW,show (Value.int .i64 0).cells= #[Value.int .i64 0] from rfl] at this
 have e:madeCells #[Value.int .i64 0] n=((List.replicate n (0:Nat)).map iv).toArray:=by rw[<- h]
 rw[ck, <- e];exact im _ _
theorem ck.alloc {l:List Nat} (h:ck w g l) (o:Obj):ck (w.alloc o) g l:=(rB w o g h.lt).trans h
theorem fJ {V:World} {t:TypeId} {v:Value} (h:Boxed V k t v) (b j:Nat) (y:Value) (hne:k≠b):Boxed (V.setCell ⟨b,j,none⟩ y) k t v:=(jq V ⟨b,j,none⟩ y k hne).trans h
theorem ck.off {V:World} {l:List Nat} (h:ck V g l) (b j:Nat) (y:Value) (hne:g≠b):ck (V.setCell ⟨b,j,none⟩ y) g l:=(jq V ⟨b,j,none⟩ y g hne).trans h
end
section
attribute [local go_sem] Oper.semAt_some
variable {S:List Nat}
def kH (S:List Nat) (n:Nat) (vs:List Nat):List Nat:=(List.range n).map (b6 S vs)
theorem mX (S:List Nat) (n:Nat) (vs:List Nat):(kH S n vs).length=n:=by simp[kH]
theorem acR (S:List Nat) (n:Nat):kH S n []=List.replicate n 0:=by
 apply rz<;>simp[kH,b6]
theorem acT (S:List Nat) (n u:Nat) (vs:List Nat):(kH S n vs).set u (cnt S vs)=kH S n (u::vs):=by
 apply rz
 ·simp[kH]
 ·intro i h1 h2;simp only[kH,List.getElem_set,lV,Dc,b6];by_cases e:u=i
  ·rw[aA e,aA e.symm]
  ·rw[aD e,aD (fun h=>e h.symm)]
theorem acS (S:List Nat) (n:Nat) (vs:List Nat) (h:v<n):(kH S n vs)[v]'(by rw[mX];exact h)=b6 S vs v:=by simp[kH]
def zB (S vs:List Nat) (st:Nat×List Nat) (i:Nat):Nat×List Nat:=(st.1*sz S (vs.getD i 0),st.2.set (vs.getD i 0) st.1)
def mY (S vs:List Nat) (n:Nat) (pre:List Nat):Nat×List Nat:=pre.foldl (zB S vs) (1,List.replicate n 0)
theorem Uj (S vs:List Nat) (n:Nat) (pre:List Nat) (i:Nat):mY S vs n (pre++[i])=zB S vs (mY S vs n pre) i:=by simp[mY]
theorem Uk (S vs:List Nat) (n:Nat):∀m,m<=vs.length ->mY S vs n (lG vs.length m)=(cnt S (vs.drop (vs.length - m)),kH S n (vs.drop (vs.length - m)))
 |0,_=>by simp[mY,lG,cnt,acR]
 |m+1,h=>by
  rw[LQ,Uj,Uk S vs n m (by omega)];have hj:vs.length - 1 - m<vs.length:=by omega
  have e1:vs.length - (m+1)=vs.length - 1 - m:=by omega
  have e2:vs.length - m=(vs.length - 1 - m)+1:=by omega
  have hd:vs.drop (vs.length - 1 - m)=vs[vs.length - 1 - m]::vs.drop ((vs.length - 1 - m)+1):=mD hj;rw[e1,e2,hd,zB,qL hj];simp only[cnt,acT];rw[cV]
theorem acU (hs:∀v,sz S v<=4) (vs:List Nat) (n:Nat) (pre:List Nat):(mY S vs n pre).1<=4^pre.length/\(mY S vs n pre).2.length=n:=by
 have key:∀(l:List Nat) (st:Nat×List Nat),st.2.length=n ->(l.foldl (zB S vs) st).1<=st.1*4^l.length/\(l.foldl (zB S vs) st).2.length=n:=by
  intro l;induction l with
  |nil=>intro st h2;exact⟨by simp,h2⟩
  |cons i l ih=>
   intro st h2;obtain⟨h3,h4⟩:=ih (zB S vs st i) (by simp[zB,h2]);refine⟨aL h3 ?_,h4⟩;show st.1*sz S (vs.getD i 0)*4^l.length<=st.1*4^(l.length+1);rw[gH,cV (4^l.length), <- gg];exact jl _ (j5 _ (hs _))
 have h:=key pre (1,List.replicate n 0) (by simp);rwa [jF] at h
theorem acV (S vs:List Nat) (n:Nat):mY S vs n (lG vs.length vs.length)=(cnt S vs,kH S n vs):=by
 rw[Uk S vs n _ (aq _),oX,A7]
theorem Ul (a b:Option Addr) (ca cb:Nat) (sizes vars:List Int) (w:World) (hs:aC w a sizes) (hv:aC w b vars) (aJ:dZ sizes) (aT:Up vars sizes.length):
  Calls Tryz.prog 199 #[.slice a sizes.length ca,.slice b vars.length cb] w fun e w'=>∃(c cc:Nat),e=.returned (.slice (some ⟨c,0,none⟩) sizes.length cc)/\w.heap.size<=c/\aC w' (some ⟨c,0,none⟩) (iL (kH (ag sizes) sizes.length (ag vars)))/\Below w.heap.size w w':=by
 refine(fZ (n:=6)).1 ?_;have nE:=aJ.eight;have ie:=aT.length;have hsm:cnt (ag sizes) (ag vars)<=65536:=qM aJ.sz_le (by rw[cY];omega);have hmk:=fun V=>run_make_row' (P:=Tryz.prog) 27 3 (.int .i64 0) 8 Tryz.underlying27 Tryz.infoInt rfl .i64 .i64 sizes.length (by omega) (by omega) V;have HS:=hid hs;have HV:=hid hv;have cC:=hid aJ;have iV:=hid aT;have sD:=hid (acV (ag sizes) (ag vars) sizes.length);rw[cY] at sD;clear hs hv aJ aT;refine sG Tryz.func199 rfl trivial ?_ rfl;simp only[Tryz.ntmps199,lR,dI,k8,Nat.reduceAdd,Nat.reduceSub,lX,lW,lS,k9,gY,eE];gi_wp2_with ((refine⟨trivial,?_⟩;gi_at_call 159;refine(Rq _ _ _ _ _).af ?_;rintro e w2 ⟨rfl,rfl⟩))
 obtain⟨W0,hW0⟩:∃W0,W0=(((((w.alloc (.cells #[.slice a sizes.length ca] 27)).alloc (.cells #[.int .i64 1] 3)).alloc (.cells (madeCells #[.int .i64 0] sizes.length) 3)).alloc (.cells #[.slice (some ⟨w.heap.size+1+1,0,none⟩) sizes.length sizes.length] 27)).alloc (.cells #[.slice b vars.length cb] 27)):=⟨_,rfl⟩;have wA:W0.heap.size=w.heap.size+1+1+1+1+1:=by rw[hW0];simp
 have b0:Boxed W0 w.heap.size 27 (.slice a sizes.length ca):=by rw[hW0];exact((((aY w _ _).alloc _).alloc _).alloc _).alloc _
 have b1:Boxed W0 (w.heap.size+1) 3 (.int .i64 1):=by
  have h:=((((aY (w.alloc (.cells #[.slice a sizes.length ca] 27)) 3 (.int .i64 1)).alloc (.cells (madeCells #[.int .i64 0] sizes.length) 3)).alloc (.cells #[.slice (some ⟨w.heap.size+1+1,0,none⟩) sizes.length sizes.length] 27)).alloc (.cells #[.slice b vars.length cb] 27));rw[di] at h;rw[hW0];exact h
 have r2:ck W0 (w.heap.size+1+1) (List.replicate sizes.length 0):=by
  have h:=((WI ((w.alloc (.cells #[.slice a sizes.length ca] 27)).alloc (.cells #[.int .i64 1] 3)) sizes.length).alloc (.cells #[.slice (some ⟨w.heap.size+1+1,0,none⟩) sizes.length sizes.length] 27)).alloc (.cells #[.slice b vars.length cb] 27);rw[di,di] at h;rw[hW0];exact h
 have b3:Boxed W0 (w.heap.size+1+1+1) 27 (.slice (some ⟨w.heap.size+1+1,0,none⟩) sizes.length sizes.length):=by
  have h:=(aY (((w.alloc (.cells #[.slice a sizes.length ca] 27)).alloc (.cells #[.int .i64 1] 3)).alloc (.cells (madeCells #[.int .i64 0] sizes.length) 3)) 27 (.slice (some ⟨w.heap.size+1+1,0,none⟩) sizes.length sizes.length)).alloc (.cells #[.slice b vars.length cb] 27);rw[di,di,di] at h;rw[hW0];exact h
 have b4:Boxed W0 (w.heap.size+1+1+1+1) 27 (.slice b vars.length cb):=by
  have h:=aY ((((w.alloc (.cells #[.slice a sizes.length ca] 27)).alloc (.cells #[.int .i64 1] 3)).alloc (.cells (madeCells #[.int .i64 0] sizes.length) 3)).alloc (.cells #[.slice (some ⟨w.heap.size+1+1,0,none⟩) sizes.length sizes.length] 27)) 27 (.slice b vars.length cb);rw[di,di,di,di] at h;rw[hW0];exact h
 have hB0:Below w.heap.size w W0:=by
  rw[hW0];exact(((((au _ w).alloc (aq _) _).alloc (by simp) _).alloc (by simp;omega) _).alloc (by simp;omega) _).alloc (by simp;omega) _
 rw[<- hW0];clear hW0
 refine Jf (α:=At vars) rfl (by omega) (gf:=201) (lb:= #[.pointer (some ⟨w.heap.size+1+1+1+1,0,none⟩)]) rfl trivial (enters_of Tryz.func201 (by kernel_rfl) rfl)
  (Rp 5 (by omega) (w.heap.size+1+1+1+1) w.heap.size b cb vars (by omega) W0 (by omega) (by omega) b4.cell (HV.o.toB.aa hB0)) qU.t (qU.b (by omega) (by omega)) (au _ _) (fun _=>rfl)
  (fun (pre:List (At vars)) V=>Boxed V w.heap.size 27 (.slice a sizes.length ca)/\Boxed V (w.heap.size+1) 3 (.int .i64 ((mY (ag sizes) (ag vars) sizes.length (pre.map (·.1))).1:Nat))/\ck V (w.heap.size+1+1) (mY (ag sizes) (ag vars) sizes.length (pre.map (·.1))).2/\Boxed V (w.heap.size+1+1+1) 27 (.slice (some ⟨w.heap.size+1+1,0,none⟩) sizes.length sizes.length)/\Boxed V (w.heap.size+1+1+1+1) 27 (.slice b vars.length cb)/\Below w.heap.size w V)
  (fun _ _ _=>False)
  (eC (fD (iW _ _ (fun _=>_)) _) (eC (fD (iW _ _ (fun pre:List (At vars)=>.int .i64 ((mY (ag sizes) (ag vars) sizes.length (pre.map (·.1))).1:Nat))) _) (eC (fD (JW _ (fun pre:List (At vars)=>(mY (ag sizes) (ag vars) sizes.length (pre.map (·.1))).2)) _) (eC (fD (iW _ _ (fun _=>_)) _) (eC (fD (iW _ _ (fun _=>_)) _) (xC (aq _) (by omega)))))))
  (fun _ _ _ _ _ hs _ _=>hs)
  ⟨b0,b1,r2,b3,b4,hB0⟩
  (fun x=> {tmps:= #[.slice a sizes.length ca,.slice b vars.length cb,.pointer (some ⟨w.heap.size,0,none⟩),undef,.slice none 0 0,.pointer (some ⟨w.heap.size+1,0,none⟩),.pointer (some ⟨w.heap.size+1+1+1,0,none⟩),undef,.int .i64 (vars[x.1]'x.2),.slice a sizes.length ca,.int .i64 (sizes.length:Nat),.slice (some ⟨w.heap.size+1+1,0,none⟩) sizes.length sizes.length,.slice b vars.length cb,.func (.func 201) #[] #[.pointer (some ⟨w.heap.size+1+1+1+1,0,none⟩)],.int .i64 (x.1:Nat),.int .i64 (vars[x.1]'x.2),undef,undef,undef,undef,undef,undef,undef,undef,undef,undef,undef],defers:=[]}) ?assign ?body ?done ?stop
 case assign=>
  intro l x V K hK;gi_wp2
  exact hK
 case body=>
  rintro l pre ⟨i,hi⟩ V ⟨h0,h1,h2,h3,h4,hB⟩ hlt;obtain⟨iA,iN⟩:=iV.o.nat hi
  have HST:Hid (mY (ag sizes) (ag vars) sizes.length ((pre++[(⟨i,hi⟩:At vars)]).map (·.1))=((mY (ag sizes) (ag vars) sizes.length (pre.map (·.1))).1*sz (ag sizes) vars[i].toNat,(mY (ag sizes) (ag vars) sizes.length (pre.map (·.1))).2.set vars[i].toNat (mY (ag sizes) (ag vars) sizes.length (pre.map (·.1))).1)):=by
   show _=_;rw[dL,fQ,k7,Uj,zB,qL (show i<(ag vars).length by rw[cY];exact hi),mW hi]
  obtain⟨jd,hpl⟩:=acU cC.o.sz_le (ag vars) sizes.length (pre.map (·.1));have XZ:(4:Nat)^(pre.map (·.1)).length<=16384:=aL (iX (by omega) (show (pre.map (·.1)).length<=7 by rw[cX];omega)) (by decide);have XX:=aL jd XZ;have hz:=kF cC.o.pos vars[i].toNat;have DL:=cC.o.sz_le vars[i].toNat;clear jd XZ;generalize hV:vars[i].toNat=v at *;rw[<- iA];obtain⟨g',o',rfl,iO,c1⟩:=(HS.o.aa hB) v iN;rw[<- cC.o.sz_eq iN] at c1
  have hg2:g'<w.heap.size:=by
   obtain⟨g3,o3,e3,h3,_⟩:=HS.o v iN;cases e3;exact h3
  clear iA hV;generalize mY (ag sizes) (ag vars) sizes.length (pre.map (·.1))=st at *;obtain⟨p,Cs⟩:=st;simp only at h1 h2 XX hpl HST;generalize sz (ag sizes) v=s0 at *;have hrow:=h2.cell v (by omega);have hfz:=h2.fz v;have k0:=h0.cell;have k1:=h1.cell;have k3:=h3.cell;have dt:p*s0<=65536:=aL (jm XX DL) (by decide);have wC:(p:Int)*(s0:Int)=((p*s0:Nat):Int):=(jG _ _).symm;have gK:v<Cs.length:=by omega
  generalize Cs[v]=z at *;have hw2:IntKind.i64.wrap ((p:Int)*(s0:Int))=(p:Int)*(s0:Int):=by rw[wC,gI];omega
  have HPM:=hid wC;clear wC;clear hmk b0 b1 r2 b3 b4 hB0 wA sD iV cC HV hsm hpl;gi_wp2_with fail
  have far:∀(b j:Nat),¬w.heap.size+1+1=b ->(V.setCell ⟨w.heap.size+1+1,v,none⟩ (.int .i64 (p:Int))).cell? ⟨b,j,none⟩=V.cell? ⟨b,j,none⟩:=fun b j hb=>dO _ _ _ _ (fun e=>hb (by cases e;rfl));have m2:=(far g' (o'+v) (by omega)).trans c1;have q0:Boxed (V.setCell ⟨w.heap.size+1+1,v,none⟩ (.int .i64 (p:Int))) w.heap.size 27 (.slice (some ⟨g',o',none⟩) sizes.length ca):=fJ h0 _ v _ (by omega);have q1:Boxed (V.setCell ⟨w.heap.size+1+1,v,none⟩ (.int .i64 (p:Int))) (w.heap.size+1) 3 (.int .i64 (p:Nat)):=fJ h1 _ v _ (by omega);have q3:Boxed (V.setCell ⟨w.heap.size+1+1,v,none⟩ (.int .i64 (p:Int))) (w.heap.size+1+1+1) 27 (.slice (some ⟨w.heap.size+1+1,0,none⟩) sizes.length sizes.length):=fJ h3 _ v _ (by omega);have q4:Boxed (V.setCell ⟨w.heap.size+1+1,v,none⟩ (.int .i64 (p:Int))) (w.heap.size+1+1+1+1) 27 (.slice b vars.length cb):=fJ h4 _ v _ (by omega);have q2:ck (V.setCell ⟨w.heap.size+1+1,v,none⟩ (.int .i64 (p:Int))) (w.heap.size+1+1) (Cs.set v p):=h2.set v p;have qB:Below w.heap.size w (V.setCell ⟨w.heap.size+1+1,v,none⟩ (.int .i64 (p:Int))):=hB.setCell (p:=⟨w.heap.size+1+1,v,none⟩) (by simp;omega) _;have qK:Below w.heap.size V (V.setCell ⟨w.heap.size+1+1,v,none⟩ (.int .i64 (p:Int))):=(au w.heap.size V).setCell (p:=⟨w.heap.size+1+1,v,none⟩) (by simp;omega) _;have qO:KeepsOthers V (V.setCell ⟨w.heap.size+1+1,v,none⟩ (.int .i64 (p:Int))):=jo V _ _;have j4:mr (w.heap.size+1+1+1+1) V (V.setCell ⟨w.heap.size+1+1,v,none⟩ (.int .i64 (p:Int))):=q4.cell.trans h4.cell.symm;have m0:=q0.cell
  have m1:=q1.cell;have fU:=q1.frozen;clear far;generalize (V.setCell ⟨w.heap.size+1+1,v,none⟩ (.int .i64 (p:Int)))=U at *;refine vU (fun u=>u.cell? ⟨w.heap.size,0,none⟩=some (.slice (some ⟨g',o',none⟩) sizes.length ca)/\u.cell? ⟨g',o'+v,none⟩=some (.int .i64 (s0:Nat))) (by kernel_rfl) (by kernel_rfl) (fun ⟨_,_,h⟩=>h) ⟨m0,m2⟩ ?_;intro ak;refine cN 1 (.slice (some ⟨g',o',none⟩) sizes.length ca) ?_ ?_
  ·intro u aN;obtain⟨s3,s4⟩:=aN;simp only[gE];go_simp
  simp only[gE,aP];refine cN 2 (.int .i64 (v:Nat)) ?_ ?_
  ·intro u aN;obtain⟨s3,s4⟩:=aN;simp only[gE];go_simp
  simp only[gE,aP];refine cN 3 (.pointer (some ⟨g',o'+v,none⟩)) ?_ ?_
  ·intro u aN;obtain⟨s3,s4⟩:=aN;simp only[gE];go_simp
  simp only[gE,aP];refine cN 4 (.int .i64 (s0:Nat)) ?_ ?_
  ·intro u aN;obtain⟨s3,s4⟩:=aN;simp only[gE];go_simp
  simp only[gE,aP];refine aH [0] (cA ?_ aG);intro K' hK';simp only[gE];go_simp;refine hK'.o _ _ ak (fun _=>?_);clear hK' K';refine cN 5 (.int .i64 ((p:Int)*(s0:Int))) ?_ ?_
  ·intro u aN;obtain⟨s3,s4⟩:=aN;simp only[gE];go_simp
  simp only[gE,aP];refine aH [6] (cA ?_ aG);intro K' hK';simp only[gE];go_simp;refine hK'.o _ _ ⟨(fJ q0 (w.heap.size+1) 0 _ (by omega)).cell,(dO _ _ _ _ (fun e=>(show ¬w.heap.size+1=g' by omega) (cU Addr.block e))).trans m2⟩ (fun _=>eK (by kernel_rfl) ?_ _);clear hK' K' ak;gi_wp2
  rw[HPM.o];refine⟨(qO.trans ((jo U _ _).trans (xK _))).from _,⟨j4.t ((fJ q4 (w.heap.size+1) 0 (.int .i64 ((p*s0:Nat):Int)) (by omega)).cell.trans q4.cell.symm),(qK.setCell (p:=⟨w.heap.size+1,0,none⟩) (by simp) _).drew⟩,?_⟩;refine⟨fJ q0 _ 0 _ (by omega),?_,?_,fJ q3 _ 0 _ (by omega),fJ q4 _ 0 _ (by omega),(qB.setCell (p:=⟨w.heap.size+1,0,none⟩) (by simp) _).drew⟩
  ·rw[HST.o];exact q1.set _
  ·rw[HST.o];exact q2.off _ 0 _ (by omega)
 case done=>
  rintro D ys V hD zK ⟨h0,h1,h2,h3,h4,hB⟩ hK;rw[zK,sD.o] at h2;have hc:=h3.cell;gi_wp2
  refine⟨by simp,.inl ⟨_,_,rfl,ze hK,?_⟩⟩;refine⟨_,zg rfl _ _ _,?_⟩;refine⟨w.heap.size+1+1,⟨sizes.length,rfl⟩,by omega,?_,hB.trans (sH (w:=w) (aq _) V D _ _ (by omega) hK rfl rfl)⟩;have h2':ck (V.putObj D (.deferred none)) (w.heap.size+1+1) (kH (ag sizes) sizes.length (ag vars)):=JW (w.heap.size+1+1) (fun (_:Unit)=>kH (ag sizes) sizes.length (ag vars)) () V _ (some D) h2 (grownBy_putObj' V D _) (fun r e=>by cases e;exact⟨_,hK,rfl⟩);exact h2'.ints
 case stop=>
  rintro D c pre V _ _ h _;exact h.elim
end
section
attribute [local go_sem] Oper.semAt_some
variable {S vs:List Nat} {K:Nat}
def Be (S vs ts:List Nat) (st:Nat×Nat) (i:Nat):Nat×Nat:=(st.1/sz S (vs.getD i 0),st.2+st.1 % sz S (vs.getD i 0)*ts.getD (vs.getD i 0) 0)
def mZ (S vs ts:List Nat) (K:Nat) (pre:List Nat):Nat×Nat:=pre.foldl (Be S vs ts) (K,0)
theorem Um (S vs ts:List Nat) (K:Nat) (pre:List Nat) (i:Nat):mZ S vs ts K (pre++[i])=Be S vs ts (mZ S vs ts K pre) i:=by simp[mZ]
theorem acW (hp:Pos S) (hs:∀v,sz S v<=4) (vs ts:List Nat) (ht:∀v,ts.getD v 0<=65536) (K:Nat) (pre:List Nat):(mZ S vs ts K pre).1<=K/\(mZ S vs ts K pre).2<=262144*pre.length:=by
 have key:∀(l:List Nat) (st:Nat×Nat),(l.foldl (Be S vs ts) st).1<=st.1/\(l.foldl (Be S vs ts) st).2<=st.2+262144*l.length:=by
  intro l;induction l with
  |nil=>intro st;exact⟨aq _,by simp⟩
  |cons i l ih=>
   intro st;obtain⟨h3,h4⟩:=ih (Be S vs ts st i);refine⟨aL h3 (vI _ _),aL h4 ?_⟩;have h1:=gh st.1 (show 0<sz S (vs.getD i 0) from kF hp _);have h2:st.1 % sz S (vs.getD i 0)*ts.getD (vs.getD i 0) 0<=4*65536:=jm (by have:=hs (vs.getD i 0);omega) (ht _);show st.2+st.1 % sz S (vs.getD i 0)*ts.getD (vs.getD i 0) 0+_<=_;rw[dI];omega
 have h:=key pre (K,0);rwa [bD] at h
theorem Un (hn:vs.Nodup) (ts:List Nat) (K:Nat):∀m,m<=vs.length ->mZ S vs ts K (lG vs.length m)=(K/cnt S (vs.drop (vs.length - m)),ei (fun v=>aV S (vs.drop (vs.length - m)) (K % cnt S (vs.drop (vs.length - m))) v*ts.getD v 0) (vs.drop (vs.length - m)))
 |0,_=>by simp[mZ,lG,cnt,ei]
 |m+1,h=>by
  rw[LQ,Um,Un hn ts K m (by omega)];have hj:vs.length - 1 - m<vs.length:=by omega
  have e1:vs.length - (m+1)=vs.length - 1 - m:=by omega
  have e2:vs.length - m=(vs.length - 1 - m)+1:=by omega
  have hd:vs.drop (vs.length - 1 - m)=vs[vs.length - 1 - m]::vs.drop ((vs.length - 1 - m)+1):=mD hj;have jO:(vs.drop (vs.length - 1 - m)).Nodup:=hn.sublist (List.drop_sublist _ _);rw[hd,mU] at jO;rw[e1,e2,hd,Be,qL hj];generalize vs.drop ((vs.length - 1 - m)+1)=rest at jO⊢;generalize vs[vs.length - 1 - m]=u at jO⊢;simp only[akn];rw[cnt,ML,cV (cnt S rest),ei,aA rfl,zj];congr 2
  refine Dl fun v hv=>?_;rw[aD (fun e=>jO.1 (by rw[<- e];exact hv))]
theorem acX (hn:vs.Nodup) (ts:List Nat) (h:K<cnt S vs):mZ S vs ts K (lG vs.length vs.length)=(0,ei (fun v=>aV S vs K v*ts.getD v 0) vs):=by
 rw[Un hn ts K _ (aq _),oX,A7,iY h,vJ h]
theorem acZ (Bv Bs Bt:Nat) (a b t:Option Addr) (ca cb ct:Nat) (sizes vars:List Int) (ts:List Nat) (K:Nat) (w:World) (Ej:Bv<w.heap.size) (uK:Bs<w.heap.size) (rT:Bt<w.heap.size) (xv:w.cell? ⟨Bv,0,none⟩=some (.slice b vars.length cb)) (xs:w.cell? ⟨Bs,0,none⟩=some (.slice a sizes.length ca)) (xt:w.cell? ⟨Bt,0,none⟩=some (.slice t sizes.length ct))
  (hs:aC w a sizes) (hv:aC w b vars) (ht:aC w t (iL ts)) (nB:ts.length=sizes.length) (zQ:∀v,ts.getD v 0<=65536) (aJ:dZ sizes) (aT:Up vars sizes.length) (hK:K<cnt (ag sizes) (ag vars)) (jO:(ag vars).Nodup):
  Calls Tryz.prog 234 #[.int .i64 (K:Nat),.pointer (some ⟨Bv,0,none⟩),.pointer (some ⟨Bs,0,none⟩),.pointer (some ⟨Bt,0,none⟩)] w fun e w'=>e=.returned (.int .i64 (ei (fun v=>aV (ag sizes) (ag vars) K v*ts.getD v 0) (ag vars):Nat))/\Below w.heap.size w w':=by
 refine(fZ (n:=6)).1 ?_;have nE:=aJ.eight;have ie:=aT.length;have hsm:cnt (ag sizes) (ag vars)<=65536:=qM aJ.sz_le (by rw[cY];omega);have HS:=hid hs;have HV:=hid hv;have HT:=hid ht;have cC:=hid aJ;have iV:=hid aT;have dN:=hid zQ;have sD:=hid (acX jO ts hK);rw[cY] at sD;clear hs hv aJ aT ht zQ;refine sG Tryz.func234 rfl trivial ?_ rfl;simp only[Tryz.ntmps234,lR,dI,k8,Nat.reduceAdd,Nat.reduceSub,lX,lW,lS,k9,gY,eE];gi_wp2_with ((refine⟨trivial,?_⟩;gi_at_call 159;refine(Rq _ _ _ _ _).af ?_;rintro e w2 ⟨rfl,rfl⟩))
 obtain⟨W0,hW0⟩:∃W0,W0=(((w.alloc (.cells #[.int .i64 (K:Nat)] 3)).alloc (.cells #[.int .i64 0] 3)).alloc (.cells #[.slice b vars.length cb] 27)):=⟨_,rfl⟩;have wA:W0.heap.size=w.heap.size+1+1+1:=by rw[hW0];simp
 have b0:Boxed W0 w.heap.size 3 (.int .i64 (K:Nat)):=by rw[hW0];exact((aY w _ _).alloc _).alloc _
 have b1:Boxed W0 (w.heap.size+1) 3 (.int .i64 0):=by
  have h:=(aY (w.alloc (.cells #[.int .i64 (K:Nat)] 3)) 3 (.int .i64 0)).alloc (.cells #[.slice b vars.length cb] 27);rw[di] at h;rw[hW0];exact h
 have b4:Boxed W0 (w.heap.size+1+1) 27 (.slice b vars.length cb):=by
  have h:=aY ((w.alloc (.cells #[.int .i64 (K:Nat)] 3)).alloc (.cells #[.int .i64 0] 3)) 27 (.slice b vars.length cb);rw[di,di] at h;rw[hW0];exact h
 have hB0:Below w.heap.size w W0:=by
  rw[hW0];exact(((au _ w).alloc (aq _) _).alloc (by simp) _).alloc (by simp;omega) _
 rw[<- hW0];clear hW0
 refine Jf (α:=At vars) rfl (by omega) (gf:=201) (lb:= #[.pointer (some ⟨w.heap.size+1+1,0,none⟩)]) rfl trivial (enters_of Tryz.func201 (by kernel_rfl) rfl)
  (Rp 5 (by omega) (w.heap.size+1+1) w.heap.size b cb vars (by omega) W0 (by omega) (by omega) b4.cell (HV.o.toB.aa hB0)) qU.t (qU.b (by omega) (by omega)) (au _ _) (fun _=>rfl)
  (fun (pre:List (At vars)) V=>Boxed V w.heap.size 3 (.int .i64 ((mZ (ag sizes) (ag vars) ts K (pre.map (·.1))).1:Nat))/\Boxed V (w.heap.size+1) 3 (.int .i64 ((mZ (ag sizes) (ag vars) ts K (pre.map (·.1))).2:Nat))/\Boxed V (w.heap.size+1+1) 27 (.slice b vars.length cb)/\Below w.heap.size w V)
  (fun _ _ _=>False)
  (eC (fD (iW _ _ (fun pre:List (At vars)=>.int .i64 ((mZ (ag sizes) (ag vars) ts K (pre.map (·.1))).1:Nat))) _) (eC (fD (iW _ _ (fun pre:List (At vars)=>.int .i64 ((mZ (ag sizes) (ag vars) ts K (pre.map (·.1))).2:Nat))) _) (eC (fD (iW _ _ (fun _=>_)) _) (xC (aq _) (by omega)))))
  (fun _ _ _ _ _ hs _ _=>hs)
  ⟨b0,b1,b4,hB0⟩
  (fun x=> {tmps:= #[.int .i64 (K:Nat),.pointer (some ⟨Bv,0,none⟩),.pointer (some ⟨Bs,0,none⟩),.pointer (some ⟨Bt,0,none⟩),.pointer (some ⟨w.heap.size,0,none⟩),.int .i64 0,.pointer (some ⟨w.heap.size+1,0,none⟩),undef,.int .i64 (vars[x.1]'x.2),.slice b vars.length cb,.func (.func 201) #[] #[.pointer (some ⟨w.heap.size+1+1,0,none⟩)],.int .i64 (x.1:Nat),.int .i64 (vars[x.1]'x.2),undef,undef,undef,undef,undef,undef,undef,undef,undef,undef,undef,undef,undef,undef,undef,undef,undef,undef,undef,undef],defers:=[]}) ?assign ?body ?done ?stop
 case assign=>
  intro l x V K hK;gi_wp2
  exact hK
 case body=>
  rintro l pre ⟨i,hi⟩ V ⟨h0,h1,h4,hB⟩ hlt;obtain⟨iA,iN⟩:=iV.o.nat hi
  have HST:Hid (mZ (ag sizes) (ag vars) ts K ((pre++[(⟨i,hi⟩:At vars)]).map (·.1))=((mZ (ag sizes) (ag vars) ts K (pre.map (·.1))).1/sz (ag sizes) vars[i].toNat,(mZ (ag sizes) (ag vars) ts K (pre.map (·.1))).2+(mZ (ag sizes) (ag vars) ts K (pre.map (·.1))).1 % sz (ag sizes) vars[i].toNat*ts.getD vars[i].toNat 0)):=by
   show _=_;rw[dL,fQ,k7,Um,Be,qL (show i<(ag vars).length by rw[cY];exact hi),mW hi]
  obtain⟨jd,hpl⟩:=acW cC.o.pos cC.o.sz_le (ag vars) ts dN.o K (pre.map (·.1));rw[cX] at hpl;have hz:=kF cC.o.pos vars[i].toNat;have DL:=cC.o.sz_le vars[i].toNat;have zQ:=dN.o vars[i].toNat;generalize hV:vars[i].toNat=v at *;rw[<- iA];obtain⟨g',o',rfl,iO,c1⟩:=(HS.o.aa hB) v iN;rw[<- cC.o.sz_eq iN] at c1
  have hg2:g'<w.heap.size:=by
   obtain⟨g3,o3,e3,h3,_⟩:=HS.o v iN;cases e3;exact h3
  have BL:v<(iL ts).length:=by rw[bs];omega
  obtain⟨gt,ot,rfl,alT,c2⟩:=(HT.o.aa hB) v BL
  have ahA:gt<w.heap.size:=by
   obtain⟨g3,o3,e3,h3,_⟩:=HT.o v BL;cases e3;exact h3
  have Xw:(iL ts)[v]=((ts.getD v 0:Nat):Int):=by rw[qL (by omega)];simp[iL]
  rw[Xw] at c2;clear Xw iA hV;generalize mZ (ag sizes) (ag vars) ts K (pre.map (·.1))=st at *;obtain⟨p,r0⟩:=st;simp only at h0 h1 jd hpl HST;generalize sz (ag sizes) v=s0 at *;generalize ts.getD v 0=t0 at *;have k0:=h0.cell;have k1:=h1.cell;have ks:=(hB.cell (p:=⟨Bs,0,none⟩) uK).trans xs;have kt:=(hB.cell (p:=⟨Bt,0,none⟩) rT).trans xt;have f1:=h1.frozen;have wB:(p:Int) % (s0:Int)=((p % s0:Nat):Int):=(rA _ _).symm;have oB:(p:Int)/(s0:Int)=((p/s0:Nat):Int):=(vL _ _).symm;have hm1:p % s0<=3:=by have:=gh p (show 0<s0 by omega);omega
  have bq:p/s0<=65536:=aL (vI _ _) (by omega);generalize p % s0=mm at *;generalize p/s0=dd at *;have Pt:mm*t0<=196608:=aL (jm hm1 zQ) (by decide);have hmc:(mm:Int)*(t0:Int)=((mm*t0:Nat):Int):=(jG _ _).symm;have hw2:IntKind.i64.wrap ((p:Int)/(s0:Int))=(p:Int)/(s0:Int):=by rw[oB,gI];omega
  have hw3:IntKind.i64.wrap ((mm:Int)*(t0:Int))=(mm:Int)*(t0:Int):=by rw[hmc,gI];omega
  have hw4:IntKind.i64.wrap ((r0:Int)+(mm:Int)*(t0:Int))=(r0:Int)+(mm:Int)*(t0:Int):=by rw[hmc,gI];omega
  have tK:=hid wB;have r8:=hid oB;have iH:Hid ((r0:Int)+(mm:Int)*(t0:Int)=((r0+mm*t0:Nat):Int)):=by show _=_;rw[hmc];exact(zu _ _).symm
  clear wB oB hmc;clear b0 b1 b4 hB0 wA sD iV cC HV dN hsm hK;gi_wp2_with fail
  refine vU (fun u=>u.cell? ⟨w.heap.size,0,none⟩=some (.int .i64 (p:Nat))/\u.cell? ⟨Bs,0,none⟩=some (.slice (some ⟨g',o',none⟩) sizes.length ca)/\u.cell? ⟨g',o'+v,none⟩=some (.int .i64 (s0:Nat))/\u.cell? ⟨Bt,0,none⟩=some (.slice (some ⟨gt,ot,none⟩) sizes.length ct)/\u.cell? ⟨gt,ot+v,none⟩=some (.int .i64 (t0:Nat))) (by kernel_rfl) (by kernel_rfl) (fun ⟨_,_,h⟩=>h) ⟨k0,ks,c1,kt,c2⟩ ?_;intro ak;refine cN 1 (.int .i64 (p:Nat)) ?_ ?_
  ·intro u aN;obtain⟨s1,s2,s3,s4,s5⟩:=aN;simp only[gE];go_simp
  simp only[gE,aP];refine cN 2 (.slice (some ⟨g',o',none⟩) sizes.length ca) ?_ ?_
  ·intro u aN;obtain⟨s1,s2,s3,s4,s5⟩:=aN;simp only[gE];go_simp
  simp only[gE,aP];refine cN 3 (.int .i64 (v:Nat)) ?_ ?_
  ·intro u aN;obtain⟨s1,s2,s3,s4,s5⟩:=aN;simp only[gE];go_simp
  simp only[gE,aP];refine cN 4 (.pointer (some ⟨g',o'+v,none⟩)) ?_ ?_
  ·intro u aN;obtain⟨s1,s2,s3,s4,s5⟩:=aN;simp only[gE];go_simp
  simp only[gE,aP];refine cN 5 (.int .i64 (s0:Nat)) ?_ ?_
  ·intro u aN;obtain⟨s1,s2,s3,s4,s5⟩:=aN;simp only[gE];go_simp
  simp only[gE,aP];refine cN 6 (.int .i64 (mm:Nat)) ?_ ?_
  ·intro u aN;obtain⟨s1,s2,s3,s4,s5⟩:=aN;simp only[gE];go_simp;rw[aD (show ¬s0=0 by omega),Int.tmod_eq_emod_of_nonneg (Jz _),tK.o]
  simp only[gE,aP];refine cN 7 (.slice (some ⟨gt,ot,none⟩) sizes.length ct) ?_ ?_
  ·intro u aN;obtain⟨s1,s2,s3,s4,s5⟩:=aN;simp only[gE];go_simp
  simp only[gE,aP];refine cN 8 (.int .i64 (v:Nat)) ?_ ?_
  ·intro u aN;obtain⟨s1,s2,s3,s4,s5⟩:=aN;simp only[gE];go_simp
  simp only[gE,aP];refine cN 9 (.pointer (some ⟨gt,ot+v,none⟩)) ?_ ?_
  ·intro u aN;obtain⟨s1,s2,s3,s4,s5⟩:=aN;simp only[gE];go_simp
  simp only[gE,aP];refine cN 10 (.int .i64 (t0:Nat)) ?_ ?_
  ·intro u aN;obtain⟨s1,s2,s3,s4,s5⟩:=aN;simp only[gE];go_simp
  simp only[gE,aP];refine cN 11 (.int .i64 ((mm:Int)*(t0:Int))) ?_ ?_
  ·intro u aN;obtain⟨s1,s2,s3,s4,s5⟩:=aN;simp only[gE];go_simp
  simp only[gE,aP];refine aH [0] (cA ?_ aG);intro K' hK';simp only[gE];go_simp;refine hK'.o _ _ ak (fun _=>?_);clear hK' K';refine cN 12 (.int .i64 ((r0:Int)+(mm:Int)*(t0:Int))) ?_ ?_
  ·intro u aN;obtain⟨s1,s2,s3,s4,s5⟩:=aN;simp only[gE];go_simp
  simp only[gE,aP];refine aH [13] (cA ?_ aG);intro K' hK';simp only[gE];go_simp;have far:∀(b j:Nat),¬w.heap.size+1=b ->(V.setCell ⟨w.heap.size+1,0,none⟩ (.int .i64 ((r0:Int)+(mm:Int)*(t0:Int)))).drew.cell? ⟨b,j,none⟩=V.cell? ⟨b,j,none⟩:=fun b j hb=>dO _ _ _ _ (fun e=>hb (by cases e;rfl));have m0:=(far w.heap.size 0 (by omega)).trans k0;have ms:=(far Bs 0 (by omega)).trans ks;have mc:=(far g' (o'+v) (by omega)).trans c1;refine hK'.o _ _ ⟨m0,ms,mc,(far Bt 0 (by omega)).trans kt,(far gt (ot+v) (by omega)).trans c2⟩ (fun _=>eK (by kernel_rfl) ?_ _);clear hK' K' ak far;have q0:Boxed (V.setCell ⟨w.heap.size+1,0,none⟩ (.int .i64 ((r0:Int)+(mm:Int)*(t0:Int)))).drew w.heap.size 3 (.int .i64 (p:Nat)):=fJ h0 _ 0 _ (by omega);have q1:Boxed (V.setCell ⟨w.heap.size+1,0,none⟩ (.int .i64 ((r0:Int)+(mm:Int)*(t0:Int)))).drew (w.heap.size+1) 3 (.int .i64 ((r0:Int)+(mm:Int)*(t0:Int))):=h1.set _;have q4:Boxed (V.setCell ⟨w.heap.size+1,0,none⟩ (.int .i64 ((r0:Int)+(mm:Int)*(t0:Int)))).drew (w.heap.size+1+1) 27 (.slice b vars.length cb):=fJ h4 _ 0 _ (by omega);have qB:Below w.heap.size w (V.setCell ⟨w.heap.size+1,0,none⟩ (.int .i64 ((r0:Int)+(mm:Int)*(t0:Int)))).drew:=(hB.setCell (p:=⟨w.heap.size+1,0,none⟩) (by simp) _).drew;have qK:Below w.heap.size V (V.setCell ⟨w.heap.size+1,0,none⟩ (.int .i64 ((r0:Int)+(mm:Int)*(t0:Int)))).drew:=((au w.heap.size V).setCell (p:=⟨w.heap.size+1,0,none⟩) (by simp) _).drew
  have qO:KeepsOthers V (V.setCell ⟨w.heap.size+1,0,none⟩ (.int .i64 ((r0:Int)+(mm:Int)*(t0:Int)))).drew:=(jo V _ _).trans (xK _);have j4:mr (w.heap.size+1+1) V (V.setCell ⟨w.heap.size+1,0,none⟩ (.int .i64 ((r0:Int)+(mm:Int)*(t0:Int)))).drew:=q4.cell.trans h4.cell.symm;have fU:=q0.frozen;generalize (V.setCell ⟨w.heap.size+1,0,none⟩ (.int .i64 ((r0:Int)+(mm:Int)*(t0:Int)))).drew=U at *;gi_wp2_with fail
  refine vU (fun u=>u.cell? ⟨Bs,0,none⟩=some (.slice (some ⟨g',o',none⟩) sizes.length ca)/\u.cell? ⟨g',o'+v,none⟩=some (.int .i64 (s0:Nat))) (by kernel_rfl) (by kernel_rfl) (fun ⟨_,_,h⟩=>h) ⟨ms,mc⟩ ?_;intro ak;refine cN 1 (.slice (some ⟨g',o',none⟩) sizes.length ca) ?_ ?_
  ·intro u aN;obtain⟨s3,s4⟩:=aN;simp only[gE];go_simp
  simp only[gE,aP];refine cN 2 (.int .i64 (v:Nat)) ?_ ?_
  ·intro u aN;obtain⟨s3,s4⟩:=aN;simp only[gE];go_simp
  simp only[gE,aP];refine cN 3 (.pointer (some ⟨g',o'+v,none⟩)) ?_ ?_
  ·intro u aN;obtain⟨s3,s4⟩:=aN;simp only[gE];go_simp
  simp only[gE,aP];refine cN 4 (.int .i64 (s0:Nat)) ?_ ?_
  ·intro u aN;obtain⟨s3,s4⟩:=aN;simp only[gE];go_simp
  simp only[gE,aP];refine aH [0] (cA ?_ aG);intro K' hK';simp only[gE];go_simp;refine hK'.o _ _ ak (fun _=>?_);clear hK' K';refine cN 5 (.int .i64 ((p:Int)/(s0:Int))) ?_ ?_
  ·intro u aN;obtain⟨s3,s4⟩:=aN;simp only[gE];go_simp;omega
  simp only[gE,aP];refine aH [6] (cA ?_ aG);intro K' hK';simp only[gE];go_simp;refine hK'.o _ _ ⟨(dO _ _ _ _ (fun e=>(show ¬w.heap.size=Bs by omega) (cU Addr.block e))).trans ms,(dO _ _ _ _ (fun e=>(show ¬w.heap.size=g' by omega) (cU Addr.block e))).trans mc⟩ (fun _=>eK (by kernel_rfl) ?_ _);clear hK' K' ak;gi_wp2
  rw[r8.o];rw[iH.o] at q1;refine⟨(qO.trans ((jo U _ _).trans (xK _))).from _,⟨j4.t ((fJ q4 w.heap.size 0 (.int .i64 (dd:Nat)) (by omega)).cell.trans q4.cell.symm),(qK.setCell (p:=⟨w.heap.size,0,none⟩) (by simp) _).drew⟩,?_⟩;refine⟨?_,?_,fJ q4 _ 0 _ (by omega),(qB.setCell (p:=⟨w.heap.size,0,none⟩) (by simp) _).drew⟩
  ·rw[HST.o];exact q0.set _
  ·rw[HST.o];exact fJ q1 _ 0 _ (by omega)
 case done=>
  rintro D ys V hD zK ⟨h0,h1,h4,hB⟩ hK;rw[zK,sD.o] at h1;have hc:=h1.cell;gi_wp2
  refine⟨by simp,.inl ⟨_,_,rfl,ze hK,?_⟩⟩;refine⟨_,zg rfl _ _ _,?_⟩;exact⟨rfl,hB.trans (sH (w:=w) (aq _) V D _ _ (by omega) hK rfl rfl)⟩
 case stop=>
  rintro D c pre V _ _ h _;exact h.elim
end
variable {other:List Int} {S:List Nat} {K ca cb:Nat}
theorem Nt (hs:∀v,sz S v<=4):∀(vs:List Nat) (v:Nat),vs.length<=8 ->b6 S vs v<=65536
 |[],_,_=>by simp[b6]
 |u::vs,v,h=>by
  rw[b6];have h':vs.length<=8:=by simp at h;omega
  by_cases e:v=u
  ·rw[aA e];exact qM hs h'
  ·rw[aD e];exact Nt hs vs v h'
theorem Ui (S:List Nat) (n:Nat) (vs:List Nat) (v:Nat):(kH S n vs).getD v 0=if v<n then b6 S vs v else 0:=by
 by_cases h:v<n
 ·rw[aA h,qL (by rw[mX];exact h),acS S n vs h]
 ·rw[aD h,bU,iJ (by rw[mX];omega)];rfl
def lH (W:World) (n m:Nat) (f:Value) (a b:Option Addr) (ca cb:Nat) (sizes vars other:List Int):Prop:=
 ∃(Bv Bs Bt g ct:Nat),f=.func (.func 234) #[] #[.pointer (some ⟨Bv,0,none⟩),.pointer (some ⟨Bs,0,none⟩),.pointer (some ⟨Bt,0,none⟩)]/\(n<=Bv/\n<=Bs/\n<=Bt/\n<=g)/\(Bv<m/\Bs<m/\Bt<m/\g<m)/\m<=W.heap.size/\
  W.cell? ⟨Bv,0,none⟩=some (.slice b vars.length cb)/\W.cell? ⟨Bs,0,none⟩=some (.slice a sizes.length ca)/\W.cell? ⟨Bt,0,none⟩=some (.slice (some ⟨g,0,none⟩) sizes.length ct)/\aC W (some ⟨g,0,none⟩) (iL (kH (ag sizes) sizes.length (ag other)))
def wT (n m:Nat) (W V:World):Prop:=m<=V.heap.size/\∀k,n<=k ->k< m ->V.heap[k]? =W.heap[k]?
theorem wT.of_below {W V:World} (h:Below W.heap.size W V) (hm:m<=W.heap.size):wT n m W V:=⟨aL hm h.size,fun k _ hk=>h.block k (aO hk hm)⟩
theorem wT.set (W:World) {B:Nat} (j:Nat) (y:Value) (hm:m<=W.heap.size) (hB:B<n∨m<=B):wT n m W (W.setCell ⟨B,j,none⟩ y):=⟨aL hm (jo W _ _).size,fun k h1 h2=>jq W ⟨B,j,none⟩ y k (by show k≠B;omega)⟩
theorem lH.kept {W V:World} {f:Value} {b:Option Addr} {sizes vars:List Int} (h:lH W n m f a b ca cb sizes vars other) (hk:wT n m W V):lH V n m f a b ca cb sizes vars other:=by
 obtain⟨Bv,Bs,Bt,g,ct,h0,⟨n1,n2,n3,n4⟩,⟨m1,m2,m3,m4⟩,hm,h4,h5,h6,h7⟩:=h;refine⟨Bv,Bs,Bt,g,ct,h0,⟨n1,n2,n3,n4⟩,⟨m1,m2,m3,m4⟩,hk.1,(lQ (hk.2 Bv n1 m1)).trans h4,(lQ (hk.2 Bs n2 m2)).trans h5,(lQ (hk.2 Bt n3 m3)).trans h6,fun k eV=>?_⟩;obtain⟨g',o',e,h1,h2⟩:=h7 k eV;cases e;exact⟨g,0,rfl,aO m4 hk.1,(lQ (hk.2 g n4 m4)).trans h2⟩
theorem lH.top {W:World} {f:Value} {b:Option Addr} {sizes vars:List Int} (h:lH W n m f a b ca cb sizes vars other):m<=W.heap.size:=by
 obtain⟨_,_,_,_,_,_,_,_,hm,_⟩:=h;exact hm
theorem lH.wider {W:World} {n' m':Nat} {f:Value} {b:Option Addr} {sizes vars:List Int} (h:lH W n m f a b ca cb sizes vars other) (hn:n'<=n) (hm':m<=m') (hW:m'<=W.heap.size):lH W n' m' f a b ca cb sizes vars other:=by
 obtain⟨Bv,Bs,Bt,g,ct,h0,⟨n1,n2,n3,n4⟩,⟨m1,m2,m3,m4⟩,hm,h4,h5,h6,h7⟩:=h;exact⟨Bv,Bs,Bt,g,ct,h0,⟨by omega,by omega,by omega,by omega⟩,⟨by omega,by omega,by omega,by omega⟩,hW,h4,h5,h6,h7⟩
theorem lH.aa {W V:World} {f:Value} {b:Option Addr} {sizes vars:List Int} (h:lH W n m f a b ca cb sizes vars other) (hb:Below W.heap.size W V):lH V n m f a b ca cb sizes vars other:=h.kept (wT.of_below hb h.top)
theorem lH.shape {W:World} {f:Value} {b:Option Addr} {sizes vars:List Int} (h:lH W n m f a b ca cb sizes vars other):∃lb,f=.func (.func 234) #[] lb:=by
 obtain⟨Bv,Bs,Bt,g,ct,he,_⟩:=h;exact⟨_,he⟩
theorem lH.calls {V:World} {lb:Array Value} {b:Option Addr} {sizes vars:List Int} (h:lH V n m (.func (.func 234) #[] lb) a b ca cb sizes vars other) (hs:aC V a sizes) (hv:aC V b vars) (aJ:dZ sizes) (aT:Up vars sizes.length) (sX:Up other sizes.length) (hK:K<cnt (ag sizes) (ag vars)):
  Calls Tryz.prog 234 (#[.int .i64 (K:Nat)]++lb) V fun e w'=>e=.returned (.int .i64 (pos (ag sizes) (aV (ag sizes) (ag vars) K) (ag other):Nat))/\Below V.heap.size V w':=by
 obtain⟨Bv,Bs,Bt,g,ct,he,_,⟨h1,h2,h3,_⟩,hm,h4,h5,h6,h7⟩:=h;simp only[Value.func.injEq,true_and] at he;rw[he];have BX:=sX.length;have nE:=aJ.eight
 have e1:=acZ Bv Bs Bt a b _ ca cb ct sizes vars (kH (ag sizes) sizes.length (ag other)) K V (by omega) (by omega) (by omega) h4 h5 h6 hs hv h7 (mX _ _ _) (fun v=>by
  rw[Ui];by_cases hv:v<sizes.length
  ·rw[aA hv];exact Nt aJ.sz_le _ _ (by rw[cY];omega)
  ·rw[aD hv];omega) aJ aT hK aT.nodup
 have e2:ei (fun v=>aV (ag sizes) (ag vars) K v*(kH (ag sizes) sizes.length (ag other)).getD v 0) (ag vars)=pos (ag sizes) (aV (ag sizes) (ag vars) K) (ag other):=by
  rw[<- stand sizes.length K aT.nodup sX.nodup aT.aa sX.aa];exact Dl fun v hv=>by rw[Ui,aA (aT.aa v hv)]
 rw[e2] at e1;exact e1
theorem Nu (a b c:Option Addr) (ca cb cc:Nat) (sizes vars other:List Int) (w:World) (hs:aC w a sizes) (ho:aC w c other) (aJ:dZ sizes) (sX:Up other sizes.length):
  Calls Tryz.prog 198 #[.slice a sizes.length ca,.slice b vars.length cb,.slice c other.length cc] w fun e w'=>∃f,e=.returned f/\lH w' w.heap.size w'.heap.size f a b ca cb sizes vars other/\Below w.heap.size w w':=by
 have HS:=hid hs;have HO:=hid ho;have HA:=hid (fun V h1 h2=>Ul a c ca cc sizes other V h1 h2 aJ sX);clear hs ho;go_enter Tryz.func198,Tryz.ntmps198;go_wp2_with fail
 have hb0:Below w.heap.size w ((w.alloc (.cells #[.slice a sizes.length ca] 27)).alloc (.cells #[.slice b vars.length cb] 27)):=((au _ w).alloc (aq _) _).alloc (by simp) _;have b0:Boxed ((w.alloc (.cells #[.slice a sizes.length ca] 27)).alloc (.cells #[.slice b vars.length cb] 27)) w.heap.size 27 (.slice a sizes.length ca):=(aY w _ _).alloc _
 have b1:Boxed ((w.alloc (.cells #[.slice a sizes.length ca] 27)).alloc (.cells #[.slice b vars.length cb] 27)) (w.heap.size+1) 27 (.slice b vars.length cb):=by
  have h:=aY (w.alloc (.cells #[.slice a sizes.length ca] 27)) 27 (.slice b vars.length cb);rwa [di] at h
 have hsz:((w.alloc (.cells #[.slice a sizes.length ca] 27)).alloc (.cells #[.slice b vars.length cb] 27)).heap.size=w.heap.size+1+1:=by simp
 generalize ((w.alloc (.cells #[.slice a sizes.length ca] 27)).alloc (.cells #[.slice b vars.length cb] 27))=W at *;refine(HA.o _ (HS.o.aa hb0) (HO.o.aa hb0)).af ?_;rintro e w1 ⟨t,ct,rfl,ht1,zW,hb1⟩;have hs1:=hb1.size
 have nB:t<w1.heap.size:=by
  obtain⟨g3,o3,e3,h3,_⟩:=zW 0 (by rw[bs,mX];exact aJ.one);cases e3;exact h3
 go_wp2;go_ret;have hb2:Below w1.heap.size w1 (w1.alloc (.cells #[.slice (some ⟨t,0,none⟩) sizes.length ct] 27)):=(au _ w1).alloc (aq _) _;have Qd:Below W.heap.size W (w1.alloc (.cells #[.slice (some ⟨t,0,none⟩) sizes.length ct] 27)):=hb1.trans (hb2.af hs1);refine⟨_,rfl,⟨w.heap.size+1,w.heap.size,w1.heap.size,t,ct,rfl,⟨by omega,by omega,by omega,by omega⟩,⟨by simp;omega,by simp;omega,by simp,by simp;omega⟩,aq _,(Qd.cell (p:=⟨w.heap.size+1,0,none⟩) (by simp;omega)).trans b1.cell,(Qd.cell (p:=⟨w.heap.size,0,none⟩) (by simp;omega)).trans b0.cell,(aY w1 27 _).cell,zW.aa hb2⟩,hb0.trans (Qd.af (by omega))⟩
variable {f:Nat ->Nat} {x y:Value}
theorem o7 (f:Nat ->Nat) (hf:∀u,f u<sz S u):∀vs:List Nat,pos S f vs<cnt S vs:=by
 intro vs
 have key:∀(vs:List Nat) (k c:Nat),k< c ->vs.foldl (fun k v=>k*sz S v+f v) k<c*cnt S vs:=by
  intro vs;induction vs with
  |nil=>intro k c h;simpa [cnt] using h
  |cons u vs ih=>
   intro k c h
   have h1:k*sz S u+f u<c*sz S u:=by
    have h2:(k+1)*sz S u<=c*sz S u:=jl _ h;have h3:=hf u;rw[eL,jF] at h2;omega
   have:=ih _ _ h1;rwa [gg] at this
 have:=key vs 0 1 (by omega);rwa [jF] at this
theorem qP (hp:Pos S):∀(vs:List Nat) (k v:Nat),k<cnt S vs ->aV S vs k v<sz S v
 |[],_,v,_=>kF hp v
 |u::vs,k,v,h=>by
  rw[aV];by_cases e:v=u
  ·rw[aA e,e];exact(Nat.div_lt_iff_lt_mul (Ic hp vs)).2 h
  ·rw[aD e];exact qP hp vs _ v (gh _ (Ic hp vs))
def aQ (f:Nat ->Nat) (v x:Nat):Nat ->Nat:=fun u=>if u=v then x else f u
theorem Ue {g h:Nat ->Nat} (hv:g v=0) (he:∀u,¬u=v ->h u=g u):∀ {l:List Nat},l.Nodup ->ei h l=ei g l+if v∈l then h v else 0
 |[],_=>by simp[ei]
 |u::l,hn=>by
  rw[mU] at hn;rw[ei,ei,Ue hv he hn.2];by_cases e:u=v
  ·subst e;rw[aD hn.1,aA dB,hv];omega
  ·rw[he u e];(have:v∈u::l↔v∈l:=by rw[dG];exact⟨fun h=>h.elim (fun h=>absurd h.symm e) id,.inr⟩);simp only[this];omega
theorem aeg (x:Nat) (hf:f v=0) {other:List Nat} (hn:other.Nodup):pos S f other+x*b6 S other v=pos S (aQ f v x) other:=by
 rw[Kb S f hn,Kb S (aQ f v x) hn,Ue (g:=fun u=>f u*b6 S other u) (h:=fun u=>aQ f v x u*b6 S other u) (v:=v) (by show f v*_=0;rw[hf,mC]) (fun u hu=>by show aQ f v x u*_=f u*_;rw[aQ,aD hu]) hn];congr 1
 by_cases h:v∈other
 ·rw[aA h];show _=aQ f v x v*_;rw[aQ,aA rfl]
 ·rw[aD h,Ns h,j3]
def r5 (W:World) (n m:Nat) (f:Value) (a b:Option Addr) (ca cb:Nat) (sizes vars other:List Int) (v:Nat):Prop:=
 ∃(Bf Bt:Nat) (g:Value),f=.func (.func 200) #[] #[.pointer (some ⟨Bf,0,none⟩),.pointer (some ⟨Bt,0,none⟩)]/\n<=Bf/\n<=Bt/\Bf<m/\Bt<m/\m<=W.heap.size/\
  W.cell? ⟨Bf,0,none⟩=some g/\W.cell? ⟨Bt,0,none⟩=some (.int .i64 (b6 (ag sizes) (ag other) v:Nat))/\lH W n m g a b ca cb sizes vars other
theorem r5.kept {W V:World} {f:Value} {b:Option Addr} {sizes vars:List Int} (h:r5 W n m f a b ca cb sizes vars other v) (hk:wT n m W V):r5 V n m f a b ca cb sizes vars other v:=by
 obtain⟨Bf,Bt,g,h0,n1,n2,h1,h2,_,h3,h4,h5⟩:=h;exact⟨Bf,Bt,g,h0,n1,n2,h1,h2,hk.1,(lQ (hk.2 Bf n1 h1)).trans h3,(lQ (hk.2 Bt n2 h2)).trans h4,h5.kept hk⟩
theorem YH {u:World} {p q:Addr} (hb:Below w.heap.size w u) (hp:p.block<w.heap.size) (hq:q.block<w.heap.size) (h1:w.cell? p=some x) (h2:w.cell? q=some y):(u.cell? p=some x/\u.cell? q=some y)/\Hid (Below w.heap.size w u):=⟨⟨(hb.cell hp).trans h1,(hb.cell hq).trans h2⟩,hb⟩
theorem acY (Bf Bt:Nat) (lb:Array Value) (K val P st:Nat) (w:World) (yA:Bf<w.heap.size) (h1:w.cell? ⟨Bf,0,none⟩=some (.func (.func 234) #[] lb)) (rT:Bt<w.heap.size) (h2:w.cell? ⟨Bt,0,none⟩=some (.int .i64 (st:Nat))) (hc:∀V,Below w.heap.size w V ->Calls Tryz.prog 234 (#[.int .i64 (K:Nat)]++lb) V fun e w'=>e=.returned (.int .i64 (P:Nat))/\Below V.heap.size V w') (hP:P<=65536) (hval:val<=4) (hst:st<=65536):
  Calls Tryz.prog 200 #[.int .i64 (K:Nat),.int .i64 (val:Nat),.pointer (some ⟨Bf,0,none⟩),.pointer (some ⟨Bt,0,none⟩)] w fun e w'=>e=.returned (.int .i64 (P+val*st:Nat))/\Below w.heap.size w w':=by
 have HC:=hid hc;have h0:val*st<=262144:=aL (jm hval hst) (by decide);have hmc:(val:Int)*(st:Int)=((val*st:Nat):Int):=(jG _ _).symm;have hw3:IntKind.i64.wrap ((val:Int)*(st:Int))=(val:Int)*(st:Int):=by rw[hmc,gI];omega
 have hw4:IntKind.i64.wrap ((P:Int)+(val:Int)*(st:Int))=(P:Int)+(val:Int)*(st:Int):=by rw[hmc,gI];omega
 have iH:Hid ((P:Int)+(val:Int)*(st:Int)=((P+val*st:Nat):Int)):=by show _=_;rw[hmc];exact(zu _ _).symm
 have hB0:Below w.heap.size w w.drew:=(au w.heap.size w).drew;clear hc hmc;go_enter Tryz.func200,Tryz.ntmps200;go_upto_region 1 with fail
 go_region_held3 (fun u=>(u.cell? ⟨Bf,0,none⟩=some (.func (.func 234) #[] lb)/\u.cell? ⟨Bt,0,none⟩=some (.int .i64 (st:Nat)))/\Hid (Below w.heap.size w u))
  (first |exact YH hB1 yA rT h1 h2 |exact YH hB0 yA rT h1 h2)
  (first
   |(go_at_call 234;refine(HC.o _ hB0).af ?_;rintro e w1 ⟨rfl,hb1⟩;have hB1:=hB0.trans (hb1.af hB0.size)))
 go_wp2;go_ret;exact⟨by rw[iH.o];rfl,hB1⟩
theorem r5.calls {V:World} {lb:Array Value} {b:Option Addr} {sizes vars:List Int} (h:r5 V n m (.func (.func 200) #[] lb) a b ca cb sizes vars other v) (hs:aC V a sizes) (hv:aC V b vars) (aJ:dZ sizes) (aT:Up vars sizes.length) (sX:Up other sizes.length) (DN:¬v∈ag vars) {val:Nat} (hK:K<cnt (ag sizes) (ag vars)) (hval:val<=4):
  Calls Tryz.prog 200 (#[.int .i64 (K:Nat),.int .i64 (val:Nat)]++lb) V fun e w'=>e=.returned (.int .i64 (pos (ag sizes) (aQ (aV (ag sizes) (ag vars) K) v val) (ag other):Nat))/\Below V.heap.size V w':=by
 obtain⟨Bf,Bt,g,he,_,_,h1,h2,hm,h3,h4,h5⟩:=h;simp only[Value.func.injEq,true_and] at he;rw[he];obtain⟨lb',rfl⟩:=h5.shape;have BX:=sX.length;have nE:=aJ.eight;have hP:=o7 (S:=ag sizes) (aV (ag sizes) (ag vars) K) (fun u=>qP aJ.pos (ag vars) K u hK) (ag other);have hc:=qM aJ.sz_le (vs:=ag other) (by rw[cY];omega);rw[<- aeg val (Ev DN) sX.nodup];exact acY Bf Bt lb' K val _ _ V (by omega) h3 (by omega) h4 (fun V' hb=>(h5.aa hb).calls (hs.aa hb) (hv.aa hb) aJ aT sX hK) (by omega) hval (Nt aJ.sz_le _ _ (by rw[cY];omega))
theorem sK {P:Program} {md:Region.Mode} {Q:Exit ->Act ->World ->Prop} {S S':World ->Prop} (hS:∀w,S' w ->S w):∀(fuel:Nat) (listed:Array Bool) (a:Act) (w:World),wpAnyH P md ops Q S' fuel listed a w ->wpAnyH P md ops Q S fuel listed a w
 |0,_,_,_,h=>h
 |fuel+1,_,_,_,h=>⟨h.1,fun i hi=>wpOp_mono (fun a' w' h'=>⟨hS _ h'.1,sK hS fuel _ a' w' h'.2⟩) (h.2 i hi)⟩
theorem aaO {u:World} (h:Below w.heap.size w u) (B j:Nat) (y:Value) (hB:w.heap.size<=B):Below w.heap.size w (u.setCell ⟨B,j,none⟩ y):=h.setCell (p:=⟨B,j,none⟩) hB y
theorem aS {W V:World} {B:Nat} {t:TypeId} (h:Boxed W B t x) (hb:Below W.heap.size W V):Boxed V B t x:=(hb.block B h.lt).trans h
theorem ui {other:List Nat} (h:v<n):(iL (kH S n other))[v]'(by rw[bs,mX];exact h)=((b6 S other v:Nat):Int):=by simp[iL,kH]
theorem Nv (a b c:Option Addr) (ca cb cc:Nat) (sizes vars other:List Int) (v:Nat) (w:World) (hs:aC w a sizes) (ho:aC w c other) (aJ:dZ sizes) (sX:Up other sizes.length) (dU:v<sizes.length):
  Calls Tryz.prog 156 #[.slice a sizes.length ca,.slice b vars.length cb,.slice c other.length cc,.int .i64 (v:Nat)] w fun e w'=>∃f,e=.returned f/\r5 w' w.heap.size w'.heap.size f a b ca cb sizes vars other v/\Below w.heap.size w w':=by
 have HS:=hid hs;have HO:=hid ho;have HA:=hid (fun V h1 h2=>Ul a c ca cc sizes other V h1 h2 aJ sX);have HB:=hid (fun V h1 h2=>Nu a b c ca cb cc sizes vars other V h1 h2 aJ sX);have nE:=aJ.eight;have hv0:(0:Int)<=(v:Int):=by omega
 have ny:(v:Int)<(sizes.length:Int):=by omega
 clear hs ho;go_enter Tryz.func156,Tryz.ntmps156;go_upto_region 1 with fail
 have hB:Below w.heap.size w w.drew:=(au w.heap.size w).drew;refine jE (S:=fun u=>Hid (Below w.heap.size w u)) (by kernel_rfl) hB (fun ak=>?_);generalize w.drew=u0 at *;refine aw 0 (.slice a sizes.length ca) ?_;refine aw 1 (.slice b vars.length cb) ?_;refine aw 2 (.slice c other.length cc) ?_;refine aw 4 (.slice a sizes.length ca) ?_;refine aw 5 (.slice c other.length cc) ?_;refine aw 7 (.int .i64 (v:Nat)) ?_;refine aH [3,10,11] (cA ?_ (cA ?_ (cA ?_ aG)))
 focus
  intro K' hK';go_simp;refine(HB.o _ (HS.o.aa hB) (HO.o.aa hB)).af ?_;rintro e u1 ⟨f,rfl,hF,hb⟩;obtain⟨lb,rfl⟩:=hF.shape;have dW:=hB.size;replace hB:=hB.trans (hb.af hB.size);refine hK'.o _ _ hB (fun ah=>?_);clear hK' K' ak;have ak:=ah;clear ah;have ly:w.heap.size<=u0.heap.size:=dW;have qI:=hF.top;generalize u0.heap.size=n1 at hF dW ly⊢;generalize hm1:u1.heap.size=m1 at hF qI;rw[<- hm1] at qI;have bq:m1<=u1.heap.size:=by omega
  clear hb hm1;refine aH [6,10,11] (cA ?_ (cA ?_ (cA ?_ aG)))
  focus
   intro K' hK';go_simp;refine(HA.o _ (HS.o.aa hB) (HO.o.aa hB)).af ?_;rintro e u2 ⟨g,ct,rfl,hg1,hi,hb⟩;replace hB:=hB.trans (hb.af hB.size);replace hF:=hF.aa hb;replace bq:=aL bq hb.size;refine hK'.o _ _ hB (fun ah=>?_);clear hK' K' ak;have ak:=ah;clear ah;obtain⟨g3,o3,e3,cE,cv⟩:=hi v (by rw[bs,mX];exact dU);cases e3;rw[ui dU,bD] at cv;clear hb hi hg1 ak;(try simp only[gE,aP]);refine sK (S':=fun u=>Hid (Below w.heap.size w u)/\u.cell? ⟨g,v,none⟩=some (.int .i64 (b6 (ag sizes) (ag other) v:Nat))) (fun _ h=>h.1) _ _ _ _ ?_;have ak:Hid (Below w.heap.size w u2)/\u2.cell? ⟨g,v,none⟩=some (.int .i64 (b6 (ag sizes) (ag other) v:Nat)):=⟨hB,cv⟩;refine aw 8 (.pointer (some ⟨g,v,none⟩)) ?_;refine aw 9 (.int .i64 (b6 (ag sizes) (ag other) v:Nat)) ?_;refine aH [10,11] (cA ?_ (cA ?_ aG))
   focus
    intro K' hK';go_simp;have hb:Below u2.heap.size u2 (u2.alloc (.cells #[.nilFunc] 140)):=(au _ u2).alloc (aq _) _;have h9:Boxed (u2.alloc (.cells #[.nilFunc] 140)) u2.heap.size 140 (.nilFunc):=aY u2 _ _;(have l9:u2.heap.size<(u2.alloc (.cells #[.nilFunc] 140)).heap.size:=by simp);have w9:=hB.size;replace hB:=hB.trans (hb.af hB.size);replace hF:=hF.aa hb;have r9:u2.heap.size<n1∨m1<=u2.heap.size:=.inr bq;replace bq:=aL bq hb.size;(have g9:¬u2.heap.size=g:=by omega);replace cv:=(hb.cell (p:=⟨g,v,none⟩) cE).trans cv;replace cE:=aO cE hb.size;refine hK'.o _ _ ⟨hB,cv⟩ (fun ak=>?_);clear hK' K' hb;generalize (u2.alloc (.cells #[.nilFunc] 140))=u3 at *;generalize u2.heap.size=B9 at *;refine aH [11] (cA ?_ aG);intro K' hK';go_simp;have hb:Below u3.heap.size u3 (u3.alloc (.cells #[.int .i64 0] 3)):=(au _ u3).alloc (aq _) _;have h10:Boxed (u3.alloc (.cells #[.int .i64 0] 3)) u3.heap.size 3 (.int .i64 0):=aY u3 _ _;(have l10:u3.heap.size<(u3.alloc (.cells #[.int .i64 0] 3)).heap.size:=by simp);have bV:=hB.size;replace hB:=hB.trans (hb.af hB.size);replace h9:=aS h9 hb;(have ne:¬B9=u3.heap.size:=by omega);replace l9:=aO l9 hb.size;replace hF:=hF.aa hb;have oq:u3.heap.size<n1∨m1<=u3.heap.size:=.inr bq;replace bq:=aL bq hb.size;(have g10:¬u3.heap.size=g:=by omega);replace cv:=(hb.cell (p:=⟨g,v,none⟩) cE).trans cv;replace cE:=aO cE hb.size;refine hK'.o _ _ ⟨hB,cv⟩ (fun ak=>?_);clear hK' K' hb;generalize (u3.alloc (.cells #[.int .i64 0] 3))=u4 at *;generalize u3.heap.size=cJ at *
   rotate_left
   focus
    intro K' hK';go_simp;have hb:Below u2.heap.size u2 (u2.alloc (.cells #[.int .i64 0] 3)):=(au _ u2).alloc (aq _) _;have h10:Boxed (u2.alloc (.cells #[.int .i64 0] 3)) u2.heap.size 3 (.int .i64 0):=aY u2 _ _;(have l10:u2.heap.size<(u2.alloc (.cells #[.int .i64 0] 3)).heap.size:=by simp);have bV:=hB.size;replace hB:=hB.trans (hb.af hB.size);replace hF:=hF.aa hb;have oq:u2.heap.size<n1∨m1<=u2.heap.size:=.inr bq;replace bq:=aL bq hb.size;(have g10:¬u2.heap.size=g:=by omega);replace cv:=(hb.cell (p:=⟨g,v,none⟩) cE).trans cv;replace cE:=aO cE hb.size;refine hK'.o _ _ ⟨hB,cv⟩ (fun ak=>?_);clear hK' K' hb;generalize (u2.alloc (.cells #[.int .i64 0] 3))=u3 at *;generalize u2.heap.size=cJ at *;refine aH [10] (cA ?_ aG);intro K' hK';go_simp;have hb:Below u3.heap.size u3 (u3.alloc (.cells #[.nilFunc] 140)):=(au _ u3).alloc (aq _) _;have h9:Boxed (u3.alloc (.cells #[.nilFunc] 140)) u3.heap.size 140 (.nilFunc):=aY u3 _ _;(have l9:u3.heap.size<(u3.alloc (.cells #[.nilFunc] 140)).heap.size:=by simp);have w9:=hB.size;replace hB:=hB.trans (hb.af hB.size);replace h10:=aS h10 hb;(have ne:¬cJ=u3.heap.size:=by omega);replace l10:=aO l10 hb.size;replace hF:=hF.aa hb;have r9:u3.heap.size<n1∨m1<=u3.heap.size:=.inr bq;replace bq:=aL bq hb.size;(have g9:¬u3.heap.size=g:=by omega);replace cv:=(hb.cell (p:=⟨g,v,none⟩) cE).trans cv;replace cE:=aO cE hb.size;refine hK'.o _ _ ⟨hB,cv⟩ (fun ak=>?_);clear hK' K' hb;generalize (u3.alloc (.cells #[.nilFunc] 140))=u4 at *;generalize u3.heap.size=B9 at *
  rotate_left 2
  focus
   intro K' hK';go_simp;have hb:Below u1.heap.size u1 (u1.alloc (.cells #[.nilFunc] 140)):=(au _ u1).alloc (aq _) _;have h9:Boxed (u1.alloc (.cells #[.nilFunc] 140)) u1.heap.size 140 (.nilFunc):=aY u1 _ _;(have l9:u1.heap.size<(u1.alloc (.cells #[.nilFunc] 140)).heap.size:=by simp);have w9:=hB.size;replace hB:=hB.trans (hb.af hB.size);replace hF:=hF.aa hb;have r9:u1.heap.size<n1∨m1<=u1.heap.size:=.inr bq;replace bq:=aL bq hb.size;refine hK'.o _ _ hB (fun ak=>?_);clear hK' K' hb;generalize (u1.alloc (.cells #[.nilFunc] 140))=u2 at *;generalize u1.heap.size=B9 at *;refine aH [6,11] (cA ?_ (cA ?_ aG))
   focus
    intro K' hK';go_simp;refine(HA.o _ (HS.o.aa hB) (HO.o.aa hB)).af ?_;rintro e u3 ⟨g,ct,rfl,hg1,hi,hb⟩;replace hB:=hB.trans (hb.af hB.size);replace hF:=hF.aa hb;replace bq:=aL bq hb.size;refine hK'.o _ _ hB (fun ah=>?_);clear hK' K' ak;have ak:=ah;clear ah;obtain⟨g3,o3,e3,cE,cv⟩:=hi v (by rw[bs,mX];exact dU);cases e3;rw[ui dU,bD] at cv;replace h9:=aS h9 hb;(have g9:¬B9=g:=by omega);replace l9:=aO l9 hb.size;clear hb hi hg1 ak;(try simp only[gE,aP]);refine sK (S':=fun u=>Hid (Below w.heap.size w u)/\u.cell? ⟨g,v,none⟩=some (.int .i64 (b6 (ag sizes) (ag other) v:Nat))) (fun _ h=>h.1) _ _ _ _ ?_;have ak:Hid (Below w.heap.size w u3)/\u3.cell? ⟨g,v,none⟩=some (.int .i64 (b6 (ag sizes) (ag other) v:Nat)):=⟨hB,cv⟩;refine aw 8 (.pointer (some ⟨g,v,none⟩)) ?_;refine aw 9 (.int .i64 (b6 (ag sizes) (ag other) v:Nat)) ?_;refine aH [11] (cA ?_ aG);intro K' hK';go_simp;have hb:Below u3.heap.size u3 (u3.alloc (.cells #[.int .i64 0] 3)):=(au _ u3).alloc (aq _) _;have h10:Boxed (u3.alloc (.cells #[.int .i64 0] 3)) u3.heap.size 3 (.int .i64 0):=aY u3 _ _;(have l10:u3.heap.size<(u3.alloc (.cells #[.int .i64 0] 3)).heap.size:=by simp);have bV:=hB.size;replace hB:=hB.trans (hb.af hB.size);replace h9:=aS h9 hb;(have ne:¬B9=u3.heap.size:=by omega);replace l9:=aO l9 hb.size;replace hF:=hF.aa hb;have oq:u3.heap.size<n1∨m1<=u3.heap.size:=.inr bq;replace bq:=aL bq hb.size;(have g10:¬u3.heap.size=g:=by omega);replace cv:=(hb.cell (p:=⟨g,v,none⟩) cE).trans cv;replace cE:=aO cE hb.size
    refine hK'.o _ _ ⟨hB,cv⟩ (fun ak=>?_);clear hK' K' hb;generalize (u3.alloc (.cells #[.int .i64 0] 3))=u4 at *;generalize u3.heap.size=cJ at *
   rotate_left
   focus
    intro K' hK';go_simp;have hb:Below u2.heap.size u2 (u2.alloc (.cells #[.int .i64 0] 3)):=(au _ u2).alloc (aq _) _;have h10:Boxed (u2.alloc (.cells #[.int .i64 0] 3)) u2.heap.size 3 (.int .i64 0):=aY u2 _ _;(have l10:u2.heap.size<(u2.alloc (.cells #[.int .i64 0] 3)).heap.size:=by simp);have bV:=hB.size;replace hB:=hB.trans (hb.af hB.size);replace h9:=aS h9 hb;(have ne:¬B9=u2.heap.size:=by omega);replace l9:=aO l9 hb.size;replace hF:=hF.aa hb;have oq:u2.heap.size<n1∨m1<=u2.heap.size:=.inr bq;replace bq:=aL bq hb.size;refine hK'.o _ _ hB (fun ak=>?_);clear hK' K' hb;generalize (u2.alloc (.cells #[.int .i64 0] 3))=u3 at *;generalize u2.heap.size=cJ at *;refine aH [6] (cA ?_ aG);intro K' hK';go_simp;refine(HA.o _ (HS.o.aa hB) (HO.o.aa hB)).af ?_;rintro e u4 ⟨g,ct,rfl,hg1,hi,hb⟩;replace hB:=hB.trans (hb.af hB.size);replace hF:=hF.aa hb;replace bq:=aL bq hb.size;refine hK'.o _ _ hB (fun ah=>?_);clear hK' K' ak;have ak:=ah;clear ah;obtain⟨g3,o3,e3,cE,cv⟩:=hi v (by rw[bs,mX];exact dU);cases e3;rw[ui dU,bD] at cv;replace h9:=aS h9 hb;(have g9:¬B9=g:=by omega);replace l9:=aO l9 hb.size;replace h10:=aS h10 hb;(have g10:¬cJ=g:=by omega);replace l10:=aO l10 hb.size;clear hb hi hg1 ak;(try simp only[gE,aP]);refine sK (S':=fun u=>Hid (Below w.heap.size w u)/\u.cell? ⟨g,v,none⟩=some (.int .i64 (b6 (ag sizes) (ag other) v:Nat))) (fun _ h=>h.1) _ _ _ _ ?_;have ak:Hid (Below w.heap.size w u4)/\u4.cell? ⟨g,v,none⟩=some (.int .i64 (b6 (ag sizes) (ag other) v:Nat)):=⟨hB,cv⟩
    refine aw 8 (.pointer (some ⟨g,v,none⟩)) ?_;refine aw 9 (.int .i64 (b6 (ag sizes) (ag other) v:Nat)) ?_
  rotate_left 2
  focus
   intro K' hK';go_simp;have hb:Below u1.heap.size u1 (u1.alloc (.cells #[.int .i64 0] 3)):=(au _ u1).alloc (aq _) _;have h10:Boxed (u1.alloc (.cells #[.int .i64 0] 3)) u1.heap.size 3 (.int .i64 0):=aY u1 _ _;(have l10:u1.heap.size<(u1.alloc (.cells #[.int .i64 0] 3)).heap.size:=by simp);have bV:=hB.size;replace hB:=hB.trans (hb.af hB.size);replace hF:=hF.aa hb;have oq:u1.heap.size<n1∨m1<=u1.heap.size:=.inr bq;replace bq:=aL bq hb.size;refine hK'.o _ _ hB (fun ak=>?_);clear hK' K' hb;generalize (u1.alloc (.cells #[.int .i64 0] 3))=u2 at *;generalize u1.heap.size=cJ at *;refine aH [6,10] (cA ?_ (cA ?_ aG))
   focus
    intro K' hK';go_simp;refine(HA.o _ (HS.o.aa hB) (HO.o.aa hB)).af ?_;rintro e u3 ⟨g,ct,rfl,hg1,hi,hb⟩;replace hB:=hB.trans (hb.af hB.size);replace hF:=hF.aa hb;replace bq:=aL bq hb.size;refine hK'.o _ _ hB (fun ah=>?_);clear hK' K' ak;have ak:=ah;clear ah;obtain⟨g3,o3,e3,cE,cv⟩:=hi v (by rw[bs,mX];exact dU);cases e3;rw[ui dU,bD] at cv;replace h10:=aS h10 hb;(have g10:¬cJ=g:=by omega);replace l10:=aO l10 hb.size;clear hb hi hg1 ak;(try simp only[gE,aP]);refine sK (S':=fun u=>Hid (Below w.heap.size w u)/\u.cell? ⟨g,v,none⟩=some (.int .i64 (b6 (ag sizes) (ag other) v:Nat))) (fun _ h=>h.1) _ _ _ _ ?_;have ak:Hid (Below w.heap.size w u3)/\u3.cell? ⟨g,v,none⟩=some (.int .i64 (b6 (ag sizes) (ag other) v:Nat)):=⟨hB,cv⟩;refine aw 8 (.pointer (some ⟨g,v,none⟩)) ?_;refine aw 9 (.int .i64 (b6 (ag sizes) (ag other) v:Nat)) ?_;refine aH [10] (cA ?_ aG);intro K' hK';go_simp;have hb:Below u3.heap.size u3 (u3.alloc (.cells #[.nilFunc] 140)):=(au _ u3).alloc (aq _) _;have h9:Boxed (u3.alloc (.cells #[.nilFunc] 140)) u3.heap.size 140 (.nilFunc):=aY u3 _ _;(have l9:u3.heap.size<(u3.alloc (.cells #[.nilFunc] 140)).heap.size:=by simp);have w9:=hB.size;replace hB:=hB.trans (hb.af hB.size);replace h10:=aS h10 hb;(have ne:¬cJ=u3.heap.size:=by omega);replace l10:=aO l10 hb.size;replace hF:=hF.aa hb;have r9:u3.heap.size<n1∨m1<=u3.heap.size:=.inr bq;replace bq:=aL bq hb.size;(have g9:¬u3.heap.size=g:=by omega);replace cv:=(hb.cell (p:=⟨g,v,none⟩) cE).trans cv;replace cE:=aO cE hb.size
    refine hK'.o _ _ ⟨hB,cv⟩ (fun ak=>?_);clear hK' K' hb;generalize (u3.alloc (.cells #[.nilFunc] 140))=u4 at *;generalize u3.heap.size=B9 at *
   rotate_left
   focus
    intro K' hK';go_simp;have hb:Below u2.heap.size u2 (u2.alloc (.cells #[.nilFunc] 140)):=(au _ u2).alloc (aq _) _;have h9:Boxed (u2.alloc (.cells #[.nilFunc] 140)) u2.heap.size 140 (.nilFunc):=aY u2 _ _;(have l9:u2.heap.size<(u2.alloc (.cells #[.nilFunc] 140)).heap.size:=by simp);have w9:=hB.size;replace hB:=hB.trans (hb.af hB.size);replace h10:=aS h10 hb;(have ne:¬cJ=u2.heap.size:=by omega);replace l10:=aO l10 hb.size;replace hF:=hF.aa hb;have r9:u2.heap.size<n1∨m1<=u2.heap.size:=.inr bq;replace bq:=aL bq hb.size;refine hK'.o _ _ hB (fun ak=>?_);clear hK' K' hb;generalize (u2.alloc (.cells #[.nilFunc] 140))=u3 at *;generalize u2.heap.size=B9 at *;refine aH [6] (cA ?_ aG);intro K' hK';go_simp;refine(HA.o _ (HS.o.aa hB) (HO.o.aa hB)).af ?_;rintro e u4 ⟨g,ct,rfl,hg1,hi,hb⟩;replace hB:=hB.trans (hb.af hB.size);replace hF:=hF.aa hb;replace bq:=aL bq hb.size;refine hK'.o _ _ hB (fun ah=>?_);clear hK' K' ak;have ak:=ah;clear ah;obtain⟨g3,o3,e3,cE,cv⟩:=hi v (by rw[bs,mX];exact dU);cases e3;rw[ui dU,bD] at cv;replace h9:=aS h9 hb;(have g9:¬B9=g:=by omega);replace l9:=aO l9 hb.size;replace h10:=aS h10 hb;(have g10:¬cJ=g:=by omega);replace l10:=aO l10 hb.size;clear hb hi hg1 ak;(try simp only[gE,aP]);refine sK (S':=fun u=>Hid (Below w.heap.size w u)/\u.cell? ⟨g,v,none⟩=some (.int .i64 (b6 (ag sizes) (ag other) v:Nat))) (fun _ h=>h.1) _ _ _ _ ?_;have ak:Hid (Below w.heap.size w u4)/\u4.cell? ⟨g,v,none⟩=some (.int .i64 (b6 (ag sizes) (ag other) v:Nat)):=⟨hB,cv⟩
    refine aw 8 (.pointer (some ⟨g,v,none⟩)) ?_;refine aw 9 (.int .i64 (b6 (ag sizes) (ag other) v:Nat)) ?_
 rotate_left 6
 focus
  intro K' hK';go_simp;have hb:Below u0.heap.size u0 (u0.alloc (.cells #[.nilFunc] 140)):=(au _ u0).alloc (aq _) _;have h9:Boxed (u0.alloc (.cells #[.nilFunc] 140)) u0.heap.size 140 (.nilFunc):=aY u0 _ _;have l9:u0.heap.size<(u0.alloc (.cells #[.nilFunc] 140)).heap.size:=by simp
  have w9:=hB.size;replace hB:=hB.trans (hb.af hB.size);refine hK'.o _ _ hB (fun ak=>?_);clear hK' K' hb;generalize (u0.alloc (.cells #[.nilFunc] 140))=u1 at *;generalize u0.heap.size=B9 at *;refine aH [3,11] (cA ?_ (cA ?_ aG))
  focus
   intro K' hK';go_simp;refine(HB.o _ (HS.o.aa hB) (HO.o.aa hB)).af ?_;rintro e u2 ⟨f,rfl,hF,hb⟩;obtain⟨lb,rfl⟩:=hF.shape;have dW:=hB.size;replace hB:=hB.trans (hb.af hB.size);refine hK'.o _ _ hB (fun ah=>?_);clear hK' K' ak;have ak:=ah;clear ah;replace h9:=aS h9 hb;have r9:B9<u1.heap.size∨u2.heap.size<=B9:=.inl l9;replace l9:=aO l9 hb.size;have ly:w.heap.size<=u1.heap.size:=dW;have qI:=hF.top;generalize u1.heap.size=n1 at hF dW ly r9⊢;generalize hm1:u2.heap.size=m1 at hF qI r9;rw[<- hm1] at qI;(have bq:m1<=u2.heap.size:=by omega);clear hb hm1;refine aH [6,11] (cA ?_ (cA ?_ aG))
   focus
    intro K' hK';go_simp;refine(HA.o _ (HS.o.aa hB) (HO.o.aa hB)).af ?_;rintro e u3 ⟨g,ct,rfl,hg1,hi,hb⟩;replace hB:=hB.trans (hb.af hB.size);replace hF:=hF.aa hb;replace bq:=aL bq hb.size;refine hK'.o _ _ hB (fun ah=>?_);clear hK' K' ak;have ak:=ah;clear ah;obtain⟨g3,o3,e3,cE,cv⟩:=hi v (by rw[bs,mX];exact dU);cases e3;rw[ui dU,bD] at cv;replace h9:=aS h9 hb;(have g9:¬B9=g:=by omega);replace l9:=aO l9 hb.size;clear hb hi hg1 ak;(try simp only[gE,aP]);refine sK (S':=fun u=>Hid (Below w.heap.size w u)/\u.cell? ⟨g,v,none⟩=some (.int .i64 (b6 (ag sizes) (ag other) v:Nat))) (fun _ h=>h.1) _ _ _ _ ?_;have ak:Hid (Below w.heap.size w u3)/\u3.cell? ⟨g,v,none⟩=some (.int .i64 (b6 (ag sizes) (ag other) v:Nat)):=⟨hB,cv⟩;refine aw 8 (.pointer (some ⟨g,v,none⟩)) ?_;refine aw 9 (.int .i64 (b6 (ag sizes) (ag other) v:Nat)) ?_;refine aH [11] (cA ?_ aG);intro K' hK';go_simp;have hb:Below u3.heap.size u3 (u3.alloc (.cells #[.int .i64 0] 3)):=(au _ u3).alloc (aq _) _;have h10:Boxed (u3.alloc (.cells #[.int .i64 0] 3)) u3.heap.size 3 (.int .i64 0):=aY u3 _ _;(have l10:u3.heap.size<(u3.alloc (.cells #[.int .i64 0] 3)).heap.size:=by simp);have bV:=hB.size;replace hB:=hB.trans (hb.af hB.size);replace h9:=aS h9 hb;(have ne:¬B9=u3.heap.size:=by omega);replace l9:=aO l9 hb.size;replace hF:=hF.aa hb;have oq:u3.heap.size<n1∨m1<=u3.heap.size:=.inr bq;replace bq:=aL bq hb.size;(have g10:¬u3.heap.size=g:=by omega);replace cv:=(hb.cell (p:=⟨g,v,none⟩) cE).trans cv;replace cE:=aO cE hb.size
    refine hK'.o _ _ ⟨hB,cv⟩ (fun ak=>?_);clear hK' K' hb;generalize (u3.alloc (.cells #[.int .i64 0] 3))=u4 at *;generalize u3.heap.size=cJ at *
   rotate_left
   focus
    intro K' hK';go_simp;have hb:Below u2.heap.size u2 (u2.alloc (.cells #[.int .i64 0] 3)):=(au _ u2).alloc (aq _) _;have h10:Boxed (u2.alloc (.cells #[.int .i64 0] 3)) u2.heap.size 3 (.int .i64 0):=aY u2 _ _;(have l10:u2.heap.size<(u2.alloc (.cells #[.int .i64 0] 3)).heap.size:=by simp);have bV:=hB.size;replace hB:=hB.trans (hb.af hB.size);replace h9:=aS h9 hb;(have ne:¬B9=u2.heap.size:=by omega);replace l9:=aO l9 hb.size;replace hF:=hF.aa hb;have oq:u2.heap.size<n1∨m1<=u2.heap.size:=.inr bq;replace bq:=aL bq hb.size;refine hK'.o _ _ hB (fun ak=>?_);clear hK' K' hb;generalize (u2.alloc (.cells #[.int .i64 0] 3))=u3 at *;generalize u2.heap.size=cJ at *;refine aH [6] (cA ?_ aG);intro K' hK';go_simp;refine(HA.o _ (HS.o.aa hB) (HO.o.aa hB)).af ?_;rintro e u4 ⟨g,ct,rfl,hg1,hi,hb⟩;replace hB:=hB.trans (hb.af hB.size);replace hF:=hF.aa hb;replace bq:=aL bq hb.size;refine hK'.o _ _ hB (fun ah=>?_);clear hK' K' ak;have ak:=ah;clear ah;obtain⟨g3,o3,e3,cE,cv⟩:=hi v (by rw[bs,mX];exact dU);cases e3;rw[ui dU,bD] at cv;replace h9:=aS h9 hb;(have g9:¬B9=g:=by omega);replace l9:=aO l9 hb.size;replace h10:=aS h10 hb;(have g10:¬cJ=g:=by omega);replace l10:=aO l10 hb.size;clear hb hi hg1 ak;(try simp only[gE,aP]);refine sK (S':=fun u=>Hid (Below w.heap.size w u)/\u.cell? ⟨g,v,none⟩=some (.int .i64 (b6 (ag sizes) (ag other) v:Nat))) (fun _ h=>h.1) _ _ _ _ ?_;have ak:Hid (Below w.heap.size w u4)/\u4.cell? ⟨g,v,none⟩=some (.int .i64 (b6 (ag sizes) (ag other) v:Nat)):=⟨hB,cv⟩
    refine aw 8 (.pointer (some ⟨g,v,none⟩)) ?_;refine aw 9 (.int .i64 (b6 (ag sizes) (ag other) v:Nat)) ?_
  rotate_left 2
  focus
   intro K' hK';go_simp;have hb:Below u1.heap.size u1 (u1.alloc (.cells #[.int .i64 0] 3)):=(au _ u1).alloc (aq _) _;have h10:Boxed (u1.alloc (.cells #[.int .i64 0] 3)) u1.heap.size 3 (.int .i64 0):=aY u1 _ _;(have l10:u1.heap.size<(u1.alloc (.cells #[.int .i64 0] 3)).heap.size:=by simp);have bV:=hB.size;replace hB:=hB.trans (hb.af hB.size);replace h9:=aS h9 hb;(have ne:¬B9=u1.heap.size:=by omega);replace l9:=aO l9 hb.size;refine hK'.o _ _ hB (fun ak=>?_);clear hK' K' hb;generalize (u1.alloc (.cells #[.int .i64 0] 3))=u2 at *;generalize u1.heap.size=cJ at *;refine aH [3] (cA ?_ aG);intro K' hK';go_simp;refine(HB.o _ (HS.o.aa hB) (HO.o.aa hB)).af ?_;rintro e u3 ⟨f,rfl,hF,hb⟩;obtain⟨lb,rfl⟩:=hF.shape;have dW:=hB.size;replace hB:=hB.trans (hb.af hB.size);refine hK'.o _ _ hB (fun ah=>?_);clear hK' K' ak;have ak:=ah;clear ah;replace h9:=aS h9 hb;have r9:B9<u2.heap.size∨u3.heap.size<=B9:=.inl l9;replace l9:=aO l9 hb.size;replace h10:=aS h10 hb;have oq:cJ<u2.heap.size∨u3.heap.size<=cJ:=.inl l10;replace l10:=aO l10 hb.size;have ly:w.heap.size<=u2.heap.size:=dW;have qI:=hF.top;generalize u2.heap.size=n1 at hF dW ly r9 oq⊢;generalize hm1:u3.heap.size=m1 at hF qI r9 oq;rw[<- hm1] at qI;(have bq:m1<=u3.heap.size:=by omega);clear hb hm1;refine aH [6] (cA ?_ aG);intro K' hK';go_simp;refine(HA.o _ (HS.o.aa hB) (HO.o.aa hB)).af ?_;rintro e u4 ⟨g,ct,rfl,hg1,hi,hb⟩;replace hB:=hB.trans (hb.af hB.size);replace hF:=hF.aa hb;replace bq:=aL bq hb.size;refine hK'.o _ _ hB (fun ah=>?_)
   clear hK' K' ak;have ak:=ah;clear ah;obtain⟨g3,o3,e3,cE,cv⟩:=hi v (by rw[bs,mX];exact dU);cases e3;rw[ui dU,bD] at cv;replace h9:=aS h9 hb;(have g9:¬B9=g:=by omega);replace l9:=aO l9 hb.size;replace h10:=aS h10 hb;(have g10:¬cJ=g:=by omega);replace l10:=aO l10 hb.size;clear hb hi hg1 ak;(try simp only[gE,aP]);refine sK (S':=fun u=>Hid (Below w.heap.size w u)/\u.cell? ⟨g,v,none⟩=some (.int .i64 (b6 (ag sizes) (ag other) v:Nat))) (fun _ h=>h.1) _ _ _ _ ?_;have ak:Hid (Below w.heap.size w u4)/\u4.cell? ⟨g,v,none⟩=some (.int .i64 (b6 (ag sizes) (ag other) v:Nat)):=⟨hB,cv⟩;refine aw 8 (.pointer (some ⟨g,v,none⟩)) ?_;refine aw 9 (.int .i64 (b6 (ag sizes) (ag other) v:Nat)) ?_
 rotate_left 3
 focus
  intro K' hK';go_simp;have hb:Below u0.heap.size u0 (u0.alloc (.cells #[.int .i64 0] 3)):=(au _ u0).alloc (aq _) _;have h10:Boxed (u0.alloc (.cells #[.int .i64 0] 3)) u0.heap.size 3 (.int .i64 0):=aY u0 _ _;have l10:u0.heap.size<(u0.alloc (.cells #[.int .i64 0] 3)).heap.size:=by simp
  have bV:=hB.size;replace hB:=hB.trans (hb.af hB.size);refine hK'.o _ _ hB (fun ak=>?_);clear hK' K' hb;generalize (u0.alloc (.cells #[.int .i64 0] 3))=u1 at *;generalize u0.heap.size=cJ at *;refine aH [3,10] (cA ?_ (cA ?_ aG))
  focus
   intro K' hK';go_simp;refine(HB.o _ (HS.o.aa hB) (HO.o.aa hB)).af ?_;rintro e u2 ⟨f,rfl,hF,hb⟩;obtain⟨lb,rfl⟩:=hF.shape;have dW:=hB.size;replace hB:=hB.trans (hb.af hB.size);refine hK'.o _ _ hB (fun ah=>?_);clear hK' K' ak;have ak:=ah;clear ah;replace h10:=aS h10 hb;have oq:cJ<u1.heap.size∨u2.heap.size<=cJ:=.inl l10;replace l10:=aO l10 hb.size;have ly:w.heap.size<=u1.heap.size:=dW;have qI:=hF.top;generalize u1.heap.size=n1 at hF dW ly oq⊢;generalize hm1:u2.heap.size=m1 at hF qI oq;rw[<- hm1] at qI;(have bq:m1<=u2.heap.size:=by omega);clear hb hm1;refine aH [6,10] (cA ?_ (cA ?_ aG))
   focus
    intro K' hK';go_simp;refine(HA.o _ (HS.o.aa hB) (HO.o.aa hB)).af ?_;rintro e u3 ⟨g,ct,rfl,hg1,hi,hb⟩;replace hB:=hB.trans (hb.af hB.size);replace hF:=hF.aa hb;replace bq:=aL bq hb.size;refine hK'.o _ _ hB (fun ah=>?_);clear hK' K' ak;have ak:=ah;clear ah;obtain⟨g3,o3,e3,cE,cv⟩:=hi v (by rw[bs,mX];exact dU);cases e3;rw[ui dU,bD] at cv;replace h10:=aS h10 hb;(have g10:¬cJ=g:=by omega);replace l10:=aO l10 hb.size;clear hb hi hg1 ak;(try simp only[gE,aP]);refine sK (S':=fun u=>Hid (Below w.heap.size w u)/\u.cell? ⟨g,v,none⟩=some (.int .i64 (b6 (ag sizes) (ag other) v:Nat))) (fun _ h=>h.1) _ _ _ _ ?_;have ak:Hid (Below w.heap.size w u3)/\u3.cell? ⟨g,v,none⟩=some (.int .i64 (b6 (ag sizes) (ag other) v:Nat)):=⟨hB,cv⟩;refine aw 8 (.pointer (some ⟨g,v,none⟩)) ?_;refine aw 9 (.int .i64 (b6 (ag sizes) (ag other) v:Nat)) ?_;refine aH [10] (cA ?_ aG);intro K' hK';go_simp;have hb:Below u3.heap.size u3 (u3.alloc (.cells #[.nilFunc] 140)):=(au _ u3).alloc (aq _) _;have h9:Boxed (u3.alloc (.cells #[.nilFunc] 140)) u3.heap.size 140 (.nilFunc):=aY u3 _ _;(have l9:u3.heap.size<(u3.alloc (.cells #[.nilFunc] 140)).heap.size:=by simp);have w9:=hB.size;replace hB:=hB.trans (hb.af hB.size);replace h10:=aS h10 hb;(have ne:¬cJ=u3.heap.size:=by omega);replace l10:=aO l10 hb.size;replace hF:=hF.aa hb;have r9:u3.heap.size<n1∨m1<=u3.heap.size:=.inr bq;replace bq:=aL bq hb.size;(have g9:¬u3.heap.size=g:=by omega);replace cv:=(hb.cell (p:=⟨g,v,none⟩) cE).trans cv;replace cE:=aO cE hb.size
    refine hK'.o _ _ ⟨hB,cv⟩ (fun ak=>?_);clear hK' K' hb;generalize (u3.alloc (.cells #[.nilFunc] 140))=u4 at *;generalize u3.heap.size=B9 at *
   rotate_left
   focus
    intro K' hK';go_simp;have hb:Below u2.heap.size u2 (u2.alloc (.cells #[.nilFunc] 140)):=(au _ u2).alloc (aq _) _;have h9:Boxed (u2.alloc (.cells #[.nilFunc] 140)) u2.heap.size 140 (.nilFunc):=aY u2 _ _;(have l9:u2.heap.size<(u2.alloc (.cells #[.nilFunc] 140)).heap.size:=by simp);have w9:=hB.size;replace hB:=hB.trans (hb.af hB.size);replace h10:=aS h10 hb;(have ne:¬cJ=u2.heap.size:=by omega);replace l10:=aO l10 hb.size;replace hF:=hF.aa hb;have r9:u2.heap.size<n1∨m1<=u2.heap.size:=.inr bq;replace bq:=aL bq hb.size;refine hK'.o _ _ hB (fun ak=>?_);clear hK' K' hb;generalize (u2.alloc (.cells #[.nilFunc] 140))=u3 at *;generalize u2.heap.size=B9 at *;refine aH [6] (cA ?_ aG);intro K' hK';go_simp;refine(HA.o _ (HS.o.aa hB) (HO.o.aa hB)).af ?_;rintro e u4 ⟨g,ct,rfl,hg1,hi,hb⟩;replace hB:=hB.trans (hb.af hB.size);replace hF:=hF.aa hb;replace bq:=aL bq hb.size;refine hK'.o _ _ hB (fun ah=>?_);clear hK' K' ak;have ak:=ah;clear ah;obtain⟨g3,o3,e3,cE,cv⟩:=hi v (by rw[bs,mX];exact dU);cases e3;rw[ui dU,bD] at cv;replace h9:=aS h9 hb;(have g9:¬B9=g:=by omega);replace l9:=aO l9 hb.size;replace h10:=aS h10 hb;(have g10:¬cJ=g:=by omega);replace l10:=aO l10 hb.size;clear hb hi hg1 ak;(try simp only[gE,aP]);refine sK (S':=fun u=>Hid (Below w.heap.size w u)/\u.cell? ⟨g,v,none⟩=some (.int .i64 (b6 (ag sizes) (ag other) v:Nat))) (fun _ h=>h.1) _ _ _ _ ?_;have ak:Hid (Below w.heap.size w u4)/\u4.cell? ⟨g,v,none⟩=some (.int .i64 (b6 (ag sizes) (ag other) v:Nat)):=⟨hB,cv⟩
    refine aw 8 (.pointer (some ⟨g,v,none⟩)) ?_;refine aw 9 (.int .i64 (b6 (ag sizes) (ag other) v:Nat)) ?_
  rotate_left 2
  focus
   intro K' hK';go_simp;have hb:Below u1.heap.size u1 (u1.alloc (.cells #[.nilFunc] 140)):=(au _ u1).alloc (aq _) _;have h9:Boxed (u1.alloc (.cells #[.nilFunc] 140)) u1.heap.size 140 (.nilFunc):=aY u1 _ _;(have l9:u1.heap.size<(u1.alloc (.cells #[.nilFunc] 140)).heap.size:=by simp);have w9:=hB.size;replace hB:=hB.trans (hb.af hB.size);replace h10:=aS h10 hb;(have ne:¬cJ=u1.heap.size:=by omega);replace l10:=aO l10 hb.size;refine hK'.o _ _ hB (fun ak=>?_);clear hK' K' hb;generalize (u1.alloc (.cells #[.nilFunc] 140))=u2 at *;generalize u1.heap.size=B9 at *;refine aH [3] (cA ?_ aG);intro K' hK';go_simp;refine(HB.o _ (HS.o.aa hB) (HO.o.aa hB)).af ?_;rintro e u3 ⟨f,rfl,hF,hb⟩;obtain⟨lb,rfl⟩:=hF.shape;have dW:=hB.size;replace hB:=hB.trans (hb.af hB.size);refine hK'.o _ _ hB (fun ah=>?_);clear hK' K' ak;have ak:=ah;clear ah;replace h9:=aS h9 hb;have r9:B9<u2.heap.size∨u3.heap.size<=B9:=.inl l9;replace l9:=aO l9 hb.size;replace h10:=aS h10 hb;have oq:cJ<u2.heap.size∨u3.heap.size<=cJ:=.inl l10;replace l10:=aO l10 hb.size;have ly:w.heap.size<=u2.heap.size:=dW;have qI:=hF.top;generalize u2.heap.size=n1 at hF dW ly r9 oq⊢;generalize hm1:u3.heap.size=m1 at hF qI r9 oq;rw[<- hm1] at qI;(have bq:m1<=u3.heap.size:=by omega);clear hb hm1;refine aH [6] (cA ?_ aG);intro K' hK';go_simp;refine(HA.o _ (HS.o.aa hB) (HO.o.aa hB)).af ?_;rintro e u4 ⟨g,ct,rfl,hg1,hi,hb⟩;replace hB:=hB.trans (hb.af hB.size);replace hF:=hF.aa hb;replace bq:=aL bq hb.size;refine hK'.o _ _ hB (fun ah=>?_);clear hK' K' ak
   have ak:=ah;clear ah;obtain⟨g3,o3,e3,cE,cv⟩:=hi v (by rw[bs,mX];exact dU);cases e3;rw[ui dU,bD] at cv;replace h9:=aS h9 hb;(have g9:¬B9=g:=by omega);replace l9:=aO l9 hb.size;replace h10:=aS h10 hb;(have g10:¬cJ=g:=by omega);replace l10:=aO l10 hb.size;clear hb hi hg1 ak;(try simp only[gE,aP]);refine sK (S':=fun u=>Hid (Below w.heap.size w u)/\u.cell? ⟨g,v,none⟩=some (.int .i64 (b6 (ag sizes) (ag other) v:Nat))) (fun _ h=>h.1) _ _ _ _ ?_;have ak:Hid (Below w.heap.size w u4)/\u4.cell? ⟨g,v,none⟩=some (.int .i64 (b6 (ag sizes) (ag other) v:Nat)):=⟨hB,cv⟩;refine aw 8 (.pointer (some ⟨g,v,none⟩)) ?_;refine aw 9 (.int .i64 (b6 (ag sizes) (ag other) v:Nat)) ?_
 all_goals
  refine aH [12] (cA ?_ aG);have c9:=h9.cell;have f9:=h9.frozen;intro K' hK';go_simp;have e9:Boxed (u4.setCell ⟨B9,0,none⟩ (.func (.func 234) #[] lb)) B9 140 (.func (.func 234) #[] lb):=h9.set _;have yD:Boxed (u4.setCell ⟨B9,0,none⟩ (.func (.func 234) #[] lb)) cJ 3 (.int .i64 0):=fJ h10 B9 0 _ (by omega);replace hF:=hF.kept (wT.set u4 0 (.func (.func 234) #[] lb) bq r9);replace hB:=aaO hB B9 0 (.func (.func 234) #[] lb) w9;replace cv:(u4.setCell ⟨B9,0,none⟩ (.func (.func 234) #[] lb)).cell? ⟨g,v,none⟩=_:=(dO _ _ _ _ (fun e=>g9 (cU Addr.block e))).trans cv;have lz:u4.heap.size<=(u4.setCell ⟨B9,0,none⟩ (.func (.func 234) #[] lb)).heap.size:=(jo u4 _ _).size;replace l9:=aO l9 lz;replace l10:=aO l10 lz;replace bq:=aL bq lz;refine hK'.o _ _ ⟨hB,cv⟩ (fun ah=>?_);clear hK' K' ak h9 h10 c9 f9 lz;have ak:=ah;clear ah;generalize (u4.setCell ⟨B9,0,none⟩ (.func (.func 234) #[] lb))=v1 at *;have c10:=yD.cell;have f10:=yD.frozen;refine aH [13] (cA ?_ aG);intro K' hK';go_simp;have x9:Boxed (v1.setCell ⟨cJ,0,none⟩ (.int .i64 (b6 (ag sizes) (ag other) v:Nat))) B9 140 (.func (.func 234) #[] lb):=fJ e9 cJ 0 _ (by omega);have Tg:=yD.set (.int .i64 (b6 (ag sizes) (ag other) v:Nat));replace hF:=hF.kept (wT.set v1 0 (.int .i64 (b6 (ag sizes) (ag other) v:Nat)) bq oq);replace hB:=aaO hB cJ 0 (.int .i64 (b6 (ag sizes) (ag other) v:Nat)) bV;replace cv:(v1.setCell ⟨cJ,0,none⟩ (.int .i64 (b6 (ag sizes) (ag other) v:Nat))).cell? ⟨g,v,none⟩=_:=(dO _ _ _ _ (fun e=>g10 (cU Addr.block e))).trans cv
  have lz:v1.heap.size<=(v1.setCell ⟨cJ,0,none⟩ (.int .i64 (b6 (ag sizes) (ag other) v:Nat))).heap.size:=(jo v1 _ _).size;replace l9:=aO l9 lz;replace l10:=aO l10 lz;replace bq:=aL bq lz;refine hK'.o _ _ ⟨hB,cv⟩ (fun _=>eK (by kernel_rfl) ?_ _);clear hK' K' ak e9 yD c10 f10 lz;generalize (v1.setCell ⟨cJ,0,none⟩ (.int .i64 (b6 (ag sizes) (ag other) v:Nat)))=v2 at *;go_wp2;go_ret;exact⟨_,rfl,⟨B9,cJ,_,rfl,w9,bV,l9,l10,aq _,x9.cell,Tg.cell,hF.wider ly bq (aq _)⟩,hB⟩
variable {pv:Value} {V':World}
abbrev gF (f:Fr):Value:=.agg #[.bool f.1,.string f.2.1,.string f.2.2]
structure JF (w V:World) (pv:Value) (B:Nat) (n:Bool) (x y:ByteArray):Prop where
 how:Boxed V w.heap.size 224 pv
 res:aF V (w.heap.size+1) false ⟨#[]⟩ ⟨#[]⟩
 left:aF V B n x y
 aa:Below w.heap.size w V
 lt:w.heap.size+1<B
theorem JF.step {V:World} {B:Nat} {n:Bool} {x y:ByteArray} (h:JF w V pv B n x y) (hb:Below V.heap.size V V'):JF w V' pv B n x y:=
 ⟨(hb.block _ h.how.lt).trans h.how,h.res.aa hb h.res.lt,h.left.aa hb h.left.lt,h.aa.trans (hb.af h.aa.size),h.lt⟩
theorem JF.drew {V:World} {B:Nat} {n:Bool} {x y:ByteArray} (h:JF w V pv B n x y):JF w V.drew pv B n x y:=⟨h.how,h.res,h.left,h.aa.drew,h.lt⟩
theorem JF.put {V:World} {B:Nat} {n:Bool} {x y:ByteArray} (h:JF w V pv B n x y) (n':Bool) (x' y':ByteArray):JF w (((V.setCell ⟨B,0,none⟩ (.bool n')).setCell ⟨B,1,none⟩ (.string x')).setCell ⟨B,2,none⟩ (.string y')) pv B n' x' y':=by
 have h1:=h.lt;exact⟨fJ (fJ (fJ h.how B 0 _ (by omega)) B 1 _ (by omega)) B 2 _ (by omega),((h.res.far (by omega) _).far (by omega) _).far (by omega) _,h.left.put n' x' y',cQ h.aa (by omega) _ _ _,h.lt⟩
theorem agK (pf tf:Nat) (rD Nf:Array Value) (ep:∀args w,(callFunc pf args).run Tryz.prog w=.ok (.enter pf args) w) (et:∀args w,(callFunc tf args).run Tryz.prog w=.ok (.enter tf args) w) (n:Nat) (T L:Nat ->Fr) (w:World) (h1:1<=n) (hn:n<=65536)
  (ht:∀k,k< n ->∀V,Below w.heap.size w V ->Calls Tryz.prog tf (#[.int .i64 (k:Nat)]++Nf) V fun e w'=>e=.returned (gF (T k))/\Below V.heap.size V w')
  (hp:∀k,k+1< n ->∀V,Below w.heap.size w V ->Calls Tryz.prog pf (#[gF (L k),gF (T (k+1))]++rD) V fun e w'=>e=.returned (gF (L (k+1)))/\Below V.heap.size V w')
  (h0:L 0=T 0):
  Calls Tryz.prog 205 #[.agg #[.func (.func pf) #[] rD],.int .i64 (n:Nat),.func (.func tf) #[] Nf] w fun e w'=>e=.returned (gF (L (n - 1)))/\Below w.heap.size w w':=by
 have HT:=hid ht;have HP:=hid hp;clear ht hp;go_enter Tryz.func205,Tryz.ntmps205;go_wp2_with fail
 have hb0:Below w.heap.size w ((w.alloc (.cells #[.func (.func pf) #[] rD] 224)).alloc (.cells #[.bool false,.string ⟨#[]⟩,.string ⟨#[]⟩] 32)):=((au _ w).alloc (aq _) _).alloc (by simp) _;have b0:Boxed ((w.alloc (.cells #[.func (.func pf) #[] rD] 224)).alloc (.cells #[.bool false,.string ⟨#[]⟩,.string ⟨#[]⟩] 32)) w.heap.size 224 (.func (.func pf) #[] rD):=(aY w _ _).alloc _
 have b1:aF ((w.alloc (.cells #[.func (.func pf) #[] rD] 224)).alloc (.cells #[.bool false,.string ⟨#[]⟩,.string ⟨#[]⟩] 32)) (w.heap.size+1) false ⟨#[]⟩ ⟨#[]⟩:=by
  have h:=aF.new (w.alloc (.cells #[.func (.func pf) #[] rD] 224)) false ⟨#[]⟩ ⟨#[]⟩;rwa [di] at h
 have hsz:((w.alloc (.cells #[.func (.func pf) #[] rD] 224)).alloc (.cells #[.bool false,.string ⟨#[]⟩,.string ⟨#[]⟩] 32)).heap.size=w.heap.size+1+1:=by simp
 generalize ((w.alloc (.cells #[.func (.func pf) #[] rD] 224)).alloc (.cells #[.bool false,.string ⟨#[]⟩,.string ⟨#[]⟩] 32))=W at *;have H00:=hid h0;refine(HT.o 0 (by omega) _ hb0).af ?_;rcases Eh:T 0 with ⟨n0,x0,y0⟩;rintro e w1 ⟨rfl,hb1⟩;rw[Eh] at h0;have Ml:=hid h0;clear h0 Eh H00;have hs1:=hb1.size;have c0:=(aS b0 hb1);have c1:=b1.aa hb1 b1.lt;have cB:=hb0.trans (hb1.af hb0.size);go_wp2_with fail
 have HJ0:Hid (JF w (w1.alloc (.cells #[.bool n0,.string x0,.string y0] 32)) (.func (.func pf) #[] rD) w1.heap.size n0 x0 y0):=⟨c0.alloc _,c1.alloc _,aF.new w1 n0 x0 y0,cB.alloc cB.size _,by omega⟩;generalize w1.heap.size=B at *;clear b0 b1 hb0 hsz hb1 hs1 c0 c1 cB;go_loopw [13] (fun iv wr=>∃i:Nat,i+1<=n/\iv=.int .i64 i/\Hid (JF w wr (.func (.func pf) #[] rD) B (L i).1 (L i).2.1 (L i).2.2)) (fun iv _=>n - (intOf iv).toNat)
 case atStart=>exact⟨0,h1,rfl,by rw[Ml.o];exact HJ0⟩
 case round=>
  obtain⟨i,hi,rfl,HJ⟩:=hrel;clear HJ0 Ml;by_cases hlt:i+1<n
  ·have L8:=HT.o (i+1) hlt;have yP:=HP.o i hlt;rw[Int.natCast_succ] at L8;rcases hL:L i with ⟨ni,xi,yi⟩;rcases hT:T (i+1) with ⟨nt,xt,yt⟩;rcases Qy:L (i+1) with ⟨nl,xl,yl⟩;rw[hL] at HJ yP;rw[hT] at L8 yP;rw[Qy] at yP;have IE:=hid L8;have xe:=hid yP;have tO:=hid Qy;clear L8 yP hL hT Qy;have J0:=HJ.o;simp only at J0;obtain⟨k0,k1,k2,f0,f1,f2⟩:=J0.left.facts;have yI:=J0.drew;(have hwi:IntKind.i64.wrap ((i:Int)+1)=(i:Int)+1:=by rw[gI];omega);go_upto_region 5 with fail
   refine jE (S:=fun V=>V.cell? ⟨w.heap.size,0,none⟩=some (.func (.func pf) #[] rD)) (by kernel_rfl) yI.how.cell (fun ak=>?_);have d0:=yI.left.c0;have d1:=yI.left.c1;have d2:=yI.left.c2;refine aw 0 (.pointer (some ⟨w.heap.size,0,none⟩)) ?_;refine aw 1 (.func (.func pf) #[] rD) ?_;refine aw 3 (.func (.func tf) #[] Nf) ?_;refine aw 4 (.int .i64 (i:Nat)) ?_;refine aw 5 (.int .i64 ((i:Int)+1)) ?_;refine aH [2,6] (cA ?_ (cA ?_ aG))
   focus
    intro K' hK';go_simp;refine hK'.o _ _ yI.how.cell (fun ah=>?_);clear hK' K' ak;have ak:=ah;clear ah;refine aH [6] (cA ?_ aG);intro K' hK';go_simp;refine(IE.o _ yI.aa).af ?_;rintro e w2 ⟨rfl,hb2⟩;have J1:=yI.step hb2;obtain⟨e0,e1,e2,_,_,_⟩:=J1.left.facts
   rotate_left
   focus
    intro K' hK';go_simp;refine(IE.o _ yI.aa).af ?_;rintro e w2 ⟨rfl,hb2⟩;have J1:=yI.step hb2;obtain⟨e0,e1,e2,_,_,_⟩:=J1.left.facts;refine hK'.o _ _ J1.how.cell (fun ah=>?_);clear hK' K' ak;have ak:=ah;clear ah;refine aH [2] (cA ?_ aG);intro K' hK';go_simp
   all_goals
    refine hK'.o _ _ J1.how.cell (fun ah=>?_);clear hK' K' ak;have ak:=ah;clear ah;refine aH [7] (cA ?_ aG);intro K' hK';go_simp;refine(xe.o _ J1.aa).af ?_;rintro e w3 ⟨rfl,hb3⟩;have J2:=J1.step hb3;refine hK'.o _ _ J2.how.cell (fun ah=>?_);clear hK' K' ak;have ak:=ah;clear ah;obtain⟨q0,q1,q2,p0,p1,p2⟩:=J2.left.facts;refine aH [8] (cA ?_ aG);intro K' hK';go_simp;have J3:=J2.put nl xl yl;refine hK'.o _ _ J3.how.cell (fun _=>eK (by kernel_rfl) ?_ _);clear hK' K' ak;go_wp2;go_roundw
    case rel=>exact⟨i+1,by omega,by rw[Int.natCast_succ],by rw[tO.o];exact J3⟩
    case measure=>simp[intOf];omega
  ·have hin:i+1=n:=by omega
   (have HE:Hid (L (n - 1)=L i):=by show _=_;rw[show n - 1=i by omega]);have J0:=HJ.o;obtain⟨k0,k1,k2,f0,f1,f2⟩:=J0.left.facts;obtain⟨r0,r1,r2,t0,t1,t2⟩:=J0.res.facts;go_wp2;refine bS ((J0.res.put _ _ _).result rfl _ rfl) rfl ?_;exact⟨by rw[HE.o],cQ J0.aa (by omega) _ _ _⟩
abbrev a7 (f:Fr):Rat:=val f.1 f.2.1 f.2.2
def great (f g:Fr):Fr:=if fB (a7 f) (a7 g)<0 then g else f
theorem aic (f g:Fr) (w:World) (s1:f.2.1.size+f.2.2.size<=100000) (s2:g.2.1.size+g.2.2.size<=100000):
  Calls Tryz.prog 235 #[gF f,gF g] w fun e w'=>e=.returned (gF (great f g))/\Below w.heap.size w w':=by
 obtain⟨n,x,y⟩:=f;obtain⟨m,u,v⟩:=g;have HC:=hid (fun V:World=>Q8 (w:=V) (fB (val n x y) (val m u v)) rfl rfl rfl s1 s2);have HG:Hid (great (n,x,y) (m,u,v)=if fB (val n x y) (val m u v)<0 then(m,u,v) else(n,x,y)):=rfl;generalize great (n,x,y) (m,u,v)=r at *;generalize fB (val n x y) (val m u v)=k at *;have b0:aF (((w.alloc (FC n x y)).alloc (FC m u v)).alloc (FC false ⟨#[]⟩ ⟨#[]⟩)) w.heap.size n x y:=((aF.new w n x y).alloc _).alloc _;have b1:aF (((w.alloc (FC n x y)).alloc (FC m u v)).alloc (FC false ⟨#[]⟩ ⟨#[]⟩)) (w.heap.size+1) m u v:=(aF.at (w:=w.alloc (FC n x y)) (by simp) m u v).alloc _;have b2:aF (((w.alloc (FC n x y)).alloc (FC m u v)).alloc (FC false ⟨#[]⟩ ⟨#[]⟩)) (w.heap.size+1+1) false ⟨#[]⟩ ⟨#[]⟩:=aF.at (w:=(w.alloc (FC n x y)).alloc (FC m u v)) (by simp) false ⟨#[]⟩ ⟨#[]⟩;have hb0:Below w.heap.size w (((w.alloc (FC n x y)).alloc (FC m u v)).alloc (FC false ⟨#[]⟩ ⟨#[]⟩)):=(((au _ w).alloc (aq _) _).alloc (by simp) _).alloc (by simp;omega) _;go_enter Tryz.func235,Tryz.ntmps235;go_wp2_with fail
 generalize (((w.alloc (FC n x y)).alloc (FC m u v)).alloc (FC false ⟨#[]⟩ ⟨#[]⟩))=W at b0 b1 b2 hb0⊢;refine(HC.o _).af ?_;rintro e w1 ⟨rfl,hb1⟩;have c0:=b0.aa hb1 b0.lt;have c1:=b1.aa hb1 b1.lt;have c2:=b2.aa hb1 b2.lt;have hB:=hb0.trans (hb1.af hb0.size);obtain⟨k0,k1,k2,f0,f1,f2⟩:=c0.facts;obtain⟨j0,j1,j2,i0,i1,i2⟩:=c1.facts;obtain⟨l0,l1,l2,g0,g1,g2⟩:=c2.facts;by_cases hk:k<0
 ·have HR:Hid (r=(m,u,v)):=by show _=_;rw[HG.o,aA hk]
  clear HG;go_wp2;refine bS ((c2.put _ _ _).result rfl _ rfl) rfl ?_;exact⟨by rw[HR.o],cQ hB (by omega) _ _ _⟩
 ·have HR:Hid (r=(n,x,y)):=by show _=_;rw[HG.o,aD hk]
  have eV:0<=k:=by omega
  clear HG;go_wp2;refine bS ((c2.put _ _ _).result rfl _ rfl) rfl ?_;exact⟨by rw[HR.o],cQ hB (by omega) _ _ _⟩
theorem T9 (w:World):Calls Tryz.prog 202 #[] w fun e w'=>e=.returned (.agg #[.func (.func 141) #[] #[]])/\Below w.heap.size w w':=by
 go_enter Tryz.func202,Tryz.ntmps202;go_wp2;refine bS (C3 rfl _ _ w.heap.size _ _ _ _ rfl (aY w _ _) Tryz.underlying224 rfl (by kernel_rfl)) rfl ?_;exact⟨rfl,(au _ w).alloc (aq _) _⟩
theorem aib (w:World):Calls Tryz.prog 203 #[] w fun e w'=>e=.returned (.agg #[.func (.func 235) #[] #[]])/\Below w.heap.size w w':=by
 go_enter Tryz.func203,Tryz.ntmps203;go_wp2;refine bS (C3 rfl _ _ w.heap.size _ _ _ _ rfl (aY w _ _) Tryz.underlying224 rfl (by kernel_rfl)) rfl ?_;exact⟨rfl,(au _ w).alloc (aq _) _⟩
def iQ:List Fr ->List Value
 |[]=>[]
 |f::l=>.bool f.1::.string f.2.1::.string f.2.2::iQ l
theorem Lt:∀l:List Fr,(iQ l).length=3*l.length
 |[]=>rfl
 |f::l=>by simp only[iQ,dI,Lt l];omega
theorem Lu:∀(l:List Fr) (k:Nat) (h:k<l.length),(iQ l)[k*3]? =some (.bool l[k].1)/\(iQ l)[k*3+1]? =some (.string l[k].2.1)/\(iQ l)[k*3+2]? =some (.string l[k].2.2)
 |[],_,h=>absurd h (by simp)
 |f::l,0,_=>⟨rfl,rfl,rfl⟩
 |f::l,k+1,h=>by
  have h':k<l.length:=by simpa using h
  obtain⟨h1,h2,h3⟩:=Lu l k h';have e:(k+1)*3=k*3+1+1+1:=by omega
  refine⟨?_,?_,?_⟩
  ·rw[e];exact h1
  ·rw[show (k+1)*3+1=(k*3+1)+1+1+1 by omega];exact h2
  ·rw[show (k+1)*3+2=(k*3+2)+1+1+1 by omega];exact h3
theorem ZY:∀(l:List Fr) (k:Nat) (f:Fr),(((iQ l).set (k*3) (.bool f.1)).set (k*3+1) (.string f.2.1)).set (k*3+2) (.string f.2.2)=iQ (l.set k f)
 |[],k,f=>by simp[iQ]
 |x::l,0,f=>by simp[iQ]
 |x::l,k+1,f=>by
  rw[show (k+1)*3=k*3+1+1+1 by omega,show k*3+1+1+1+1=(k*3+1)+1+1+1 by omega,show k*3+1+1+1+2=(k*3+2)+1+1+1 by omega];simp only[iQ,List.set_cons_succ,ZY l k f]
def ji (w:World) (g:Nat) (l:List Fr):Prop:=w.heap[g]? =some (.cells (iQ l).toArray 32 (0,0))
theorem ji.lt {l:List Fr} (h:ji w g l):g<w.heap.size:=(dm.1 h).1
theorem ji.fz {l:List Fr} (h:ji w g l) (j:Nat):w.frozen? ⟨g,j,none⟩=false:=kZ w g j _ _ h
theorem ji.aa {b:Nat} {l:List Fr} (h:ji w g l) (hb:Below b w w') (hg:g<b):ji w' g l:=(hb.block g hg).trans h
theorem ji.cells {l:List Fr} (h:ji w g l) (k:Nat) (hk:k<l.length):w.cell? ⟨g,k*3,none⟩=some (.bool l[k].1)/\w.cell? ⟨g,k*3+1,none⟩=some (.string l[k].2.1)/\w.cell? ⟨g,k*3+2,none⟩=some (.string l[k].2.2):=by
 obtain⟨h1,h2,h3⟩:=Lu l k hk;refine⟨?_,?_,?_⟩<;>rw[bX w g _ _ _ (0,0) h]<;>simpa using (by assumption)
theorem ji.fr {l:List Fr} (h:ji w g l):dA w (some ⟨g,0,none⟩) l:=fun k hk=>by
 obtain⟨h1,h2,h3⟩:=h.cells k hk;refine⟨g,0,rfl,h.lt,?_,?_,?_⟩
 ·rw[bD];exact h1
 ·rw[bD];exact h2
 ·rw[bD];exact h3
theorem ji.put {l:List Fr} (h:ji w g l) (k:Nat) (f:Fr):ji (((w.setCell ⟨g,k*3,none⟩ (.bool f.1)).setCell ⟨g,k*3+1,none⟩ (.string f.2.1)).setCell ⟨g,k*3+2,none⟩ (.string f.2.2)) g (l.set k f):=by
 have h1:=jY w g (k*3) _ _ (.bool f.1) h;have h2:=jY _ g (k*3+1) _ _ (.string f.2.1) h1;have h3:=jY _ g (k*3+2) _ _ (.string f.2.2) h2;rw[ji,h3, <- ZY];simp
variable {xs:List Value} {base:Nat}
def wM:Fr:=(false,⟨#[]⟩,⟨#[]⟩)
def o8 (l:List Fr) (i:Nat):List Fr:=l.take i++List.replicate (l.length - i) wM
theorem Vt (l:List Fr):o8 l 0=List.replicate l.length wM:=by simp[o8]
theorem N2 (l:List Fr) (h:i<=l.length):(o8 l i).length=l.length:=by simp[o8];omega
theorem Vv (l:List Fr):o8 l l.length=l:=by simp[o8]
theorem Vu (l:List Fr) (h:i<l.length):(o8 l i).set i l[i]=o8 l (i+1):=by
 rw[o8,o8,A3 _ _ (by simp;omega),fP h];have e:l.length - i=(l.length - (i+1))+1:=by omega
 rw[e,Fp,dP,p9 (by omega),oX,A2,nZ];rfl
theorem Tryz.infoFrac:(Tryz.prog.info? 32).map (fun i=>(i.zero,i.size,i.bytes))=some (some (.agg #[.bool false,.string ⟨#[]⟩,.string ⟨#[]⟩]),3,40):=by kernel_rfl
theorem bw.put {u v:Value} (h:bw w g u v) (x y:Value):bw ((w.setCell ⟨g,0,none⟩ x).setCell ⟨g,1,none⟩ y) g x y:=by
 have h1:=jY w g 0 _ _ x h;have h2:=jY _ g 1 _ _ y h1;exact h2
theorem ji.off {l:List Fr} (h:ji w g l) (b j:Nat) (y:Value) (hne:g≠b):ji (w.setCell ⟨b,j,none⟩ y) g l:=(jq w ⟨b,j,none⟩ y g hne).trans h
theorem aaN {t:TypeId} (h:w.ownsRow base t 3 (.slice (some ⟨g,0,none⟩) n n) n xs):w.heap[g]? =some (.cells xs.toArray t (0,0)):=by
 rcases h.2 with ⟨h',_⟩ |⟨g',cap',cur,h',_,hg,zR,_,hsz,lu⟩
 ·cases h'
 ·cases h';rw[hg, <- lu,jn (by simp;omega)]
theorem ZX:∀(n j:Nat),j<3*n ->(iQ (List.replicate n wM))[j]? =some (#[Value.bool false,Value.string ⟨#[]⟩,Value.string ⟨#[]⟩][j % 3]!)
 |0,j,h=>by omega
 |n+1,0,_=>rfl
 |n+1,1,_=>rfl
 |n+1,2,_=>rfl
 |n+1,j+3,h=>by
  rw[show (j+3) % 3=j % 3 by omega,Fp];exact ZX n j (by omega)
theorem WJ (n:Nat):(madeCells (Value.agg #[Value.bool false,Value.string ⟨#[]⟩,Value.string ⟨#[]⟩]).cells (n*3)).toList=iQ (List.replicate n wM):=by
 apply Fw;intro j;by_cases h:j<3*n
 ·rw[ZX n j h,madeCells];have h':j<n*3:=by omega
  simp[h',Value.cells]
 ·rw[iJ (by rw[A9,size_madeCells];omega),iJ (by rw[Lt,Fs];omega)]
theorem Hz (a b:Option Addr) (ca cb:Nat) (sizes vars:List Int) (F:Nat) (lb:Array Value) (eF:∀args w,(callFunc F args).run Tryz.prog w=.ok (.enter F args) w) (l:List Fr) (w:World) (hs:aC w a sizes) (hv:aC w b vars) (aJ:dZ sizes) (aT:Up vars sizes.length) (hl:l.length=cnt (ag sizes) (ag vars))
  (ht:∀k (h:k<l.length),∀V,Below w.heap.size w V ->Calls Tryz.prog F (#[.int .i64 (k:Nat)]++lb) V fun e w'=>e=.returned (gF l[k])/\Below V.heap.size V w'):
  Calls Tryz.prog 89 #[.slice a sizes.length ca,.slice b vars.length cb,.func (.func F) #[] lb] w fun e w'=>∃g:Nat,e=.returned (.agg #[.slice b vars.length cb,.slice (some ⟨g,0,none⟩) l.length l.length])/\w.heap.size<=g/\ji w' g l/\Below w.heap.size w w':=by
 obtain⟨i0,bY,hz0,hz1,hz2⟩:=dH Tryz.infoFrac;have HS:=hid hs;have HV:=hid hv;have HT:=hid ht;have HC:=hid (fun V h1 h2=>aax a b ca cb sizes vars V h1 h2 aJ aT);have nE:=aJ.eight;have ie:=aT.length;have hsm:cnt (ag sizes) (ag vars)<=65536:=qM aJ.sz_le (by rw[cY];omega);rw[<- hl] at hsm HC;clear hs hv ht hl aJ aT;go_enter Tryz.func89,Tryz.ntmps89;go_wp2_with fail
 have b0:(w.alloc (.cells #[.slice none 0 0,.slice none 0 0] 39)).heap[w.heap.size]? =some (.cells #[.slice none 0 0,.slice none 0 0] 39 (0,0)):=im _ _;have hb0:Below w.heap.size w (w.alloc (.cells #[.slice none 0 0,.slice none 0 0] 39)):=(au _ w).alloc (aq _) _;have hs0:(w.alloc (.cells #[.slice none 0 0,.slice none 0 0] 39)).heap.size=w.heap.size+1:=by simp
 generalize (w.alloc (.cells #[.slice none 0 0,.slice none 0 0] 39))=W at b0 hb0 hs0⊢;refine(HC.o _ (HS.o.aa hb0) (HV.o.aa hb0)).af ?_;rintro e w1 ⟨rfl,hb1⟩;have hs1:=hb1.size;have b1:w1.heap[w.heap.size]? =some (.cells #[.slice none 0 0,.slice none 0 0] 39 (0,0)):=(hb1.block _ (by omega)).trans b0;have hB1:=hb0.trans (hb1.af hb0.size)
 go_wp2_with (first
  |(at_make;refine mR _ rfl _ _ 37 rfl w1.heap.size 32 i0 (.agg #[.bool false,.string ⟨#[]⟩,.string ⟨#[]⟩]) 3 Tryz.underlying37 bY hz0 hz1 .i64 .i64 _ _ l.length rfl rfl (by go_num) (by go_num) (by rw[hz2];omega) (by unfold maxLen;omega) (aq _) ?_;intro w2 hown2 hgrow2))
 have hr2:=aaN hown2;rw[WJ] at hr2;have eJ:Hid (ji w2 w1.heap.size (List.replicate l.length wM)):=hr2;have hB2:Below w1.heap.size w1 w2:=(au _ w1).grown hgrow2 (aq _) (fun k e=>by cases e);have b2:w2.heap[w.heap.size]? =some (.cells #[.slice none 0 0,.slice none 0 0] 39 (0,0)):=(hB2.block _ (by omega)).trans b1;have bB:=hid (hB1.trans (hB2.af hB1.size));have Yf:w.heap.size+1<=w1.heap.size:=by omega
 generalize w1.heap.size=G at *;clear hown2 hgrow2 hr2 hB2 b1 b0 hb0 hb1 hB1 hs1 hs0;have qW:Hid (bw w2 w.heap.size (.slice none 0 0) (.slice none 0 0)):=b2;clear b2;go_wp2_with fail
 go_loopw [15] (fun iv wr=>∃i:Nat,i<=l.length/\iv=.int .i64 i/\Hid (ji wr G (o8 l i))/\Hid (bw wr w.heap.size (.slice none 0 0) (.slice none 0 0))/\Hid (Below w.heap.size w wr)) (fun iv _=>l.length - (intOf iv).toNat)
 case atStart=>exact⟨0,aU _,rfl,by rw[Vt];exact eJ,qW,bB⟩
 case round=>
  obtain⟨i,hi,rfl,HR,HX,HB⟩:=hrel;clear eJ qW bB;by_cases hlt:i<l.length
  ·have HST:=hid (Vu l hlt);have IE:=hid (HT.o i hlt);have hpl:=N2 l hi;generalize l[i]=f at *;obtain⟨fn,fx,fy⟩:=f;go_wp2_with fail
   refine(IE.o _ HB.o).af ?_;rintro e w3 ⟨rfl,hb3⟩;have kV:=HR.o.aa hb3 HR.o.lt;have pU:bw w3 w.heap.size (.slice none 0 0) (.slice none 0 0):=(hb3.block _ (dm.1 HX.o).1).trans HX.o;have eZ:=HB.o.trans (hb3.af HB.o.size);obtain⟨k0,k1,k2⟩:=kV.cells i (by omega);have f0:=kV.fz (i*3);have f1:=kV.fz (i*3+1);have f2:=kV.fz (i*3+2);generalize (o8 l i)[i]=z at *;obtain⟨zn,zx,zy⟩:=z;simp only at k0 k1 k2;have HP:=hid (kV.put i (fn,fx,fy));rw[HST.o] at HP;have LX:Hid (bw (((w3.setCell ⟨G,i*3,none⟩ (.bool fn)).setCell ⟨G,i*3+1,none⟩ (.string fx)).setCell ⟨G,i*3+2,none⟩ (.string fy)) w.heap.size (.slice none 0 0) (.slice none 0 0)):=(jq _ ⟨G,i*3+2,none⟩ _ w.heap.size (by show w.heap.size≠G;omega)).trans ((jq _ ⟨G,i*3+1,none⟩ _ w.heap.size (by show w.heap.size≠G;omega)).trans ((jq _ ⟨G,i*3,none⟩ _ w.heap.size (by show w.heap.size≠G;omega)).trans pU));have rh:=hid (((eZ.setCell (p:=⟨G,i*3,none⟩) (by show w.heap.size<=G;omega) (.bool fn)).setCell (p:=⟨G,i*3+1,none⟩) (by show w.heap.size<=G;omega) (.string fx)).setCell (p:=⟨G,i*3+2,none⟩) (by show w.heap.size<=G;omega) (.string fy));clear kV pU eZ hb3 IE;go_wp2;go_roundw
   case rel=>exact⟨i+1,by omega,by go_num,HP,LX,rh⟩
   case measure=>simp[intOf];omega
  ·obtain rfl:i=l.length:=by omega
   have jz:=HR.o;rw[Vv] at jz;obtain⟨t0,t1⟩:wr.cell? ⟨w.heap.size,0,none⟩=some (.slice none 0 0)/\wr.cell? ⟨w.heap.size,1,none⟩=some (.slice none 0 0):=⟨HX.o.c0,HX.o.c1⟩;have g0:wr.frozen? ⟨w.heap.size,0,none⟩=false:=kZ wr w.heap.size 0 _ _ HX.o;have g1:wr.frozen? ⟨w.heap.size,1,none⟩=false:=kZ wr w.heap.size 1 _ _ HX.o;go_wp2;refine bS (C3 rfl _ _ w.heap.size _ _ _ _ rfl (HX.o.put _ _) Tryz.underlying39 rfl (by kernel_rfl)) rfl ?_;exact⟨G,rfl,by omega,(jz.off _ 0 _ (by omega)).off _ 1 _ (by omega),(HB.o.setCell (p:=⟨w.heap.size,0,none⟩) (aq _) _).setCell (p:=⟨w.heap.size,1,none⟩) (aq _) _⟩
variable {vs:List Nat}
theorem aaS:∀ {vs:List Nat} {k i:Nat},vs.Nodup ->(h:i<vs.length) ->(kR S vs k)[i]? =some (aV S vs k vs[i])
 |[],_,_,_,h=>absurd h (by simp)
 |u::vs,k,0,_,_=>by simp[kR,aV]
 |u::vs,k,i+1,hn,h=>by
  rw[mU] at hn;have h':i<vs.length:=by simpa using h
  have e:¬vs[i]=u:=fun e=>hn.1 (by rw[<- e];exact bM h');rw[kR,List.getElem?_cons_succ,aaS hn.2 h',List.getElem_cons_succ,aV,aD e]
def ng (n:Nat) (f:Nat ->Nat):List Nat:=(List.range n).map f
theorem Bj (n:Nat) (f:Nat ->Nat):(ng n f).length=n:=by simp[ng]
theorem Nw (h:v<n):(ng n f)[v]? =some (f v):=by simp[ng,h]
theorem ac2 {g:Nat ->Nat} (h:∀v,v< n ->f v=g v):ng n f=ng n g:=qd fun v hv=>h v (cH.1 hv)
theorem ac1 (v x:Nat):(ng n f).set v x=ng n (aQ f v x):=by
 apply Fw;intro u;rw[List.getElem?_set];by_cases hu:u<n
 ·rw[Nw hu,Nw hu,aQ,Bj];by_cases e:v=u
  ·subst e;rw[aA rfl,aA hu,aA rfl]
  ·rw[aD e,aD (fun h=>e h.symm)]
 ·rw[iJ (by rw[Bj];omega),iJ (by rw[Bj];omega),Bj];by_cases e:v=u
  ·rw[aA e,aD (by omega)]
  ·rw[aD e]
theorem Vj (S:List Nat) (f:Nat ->Nat) (h:i<vs.length):pos S f (vs.take (i+1))=pos S f (vs.take i)*sz S vs[i]+f vs[i]:=by
 rw[fP h,aei]
theorem ab3 {x:Nat} (hf:∀u,f u<sz S u) (hx:x<sz S v) (u:Nat):aQ f v x u<sz S u:=by
 rw[aQ];by_cases e:u=v
 ·rw[aA e,e];exact hx
 ·rw[aD e];exact hf u
def qF (q:Rat):Fr:=(aM q,nu q,de q)
theorem Lr (q:Rat):gF (qF q)=.agg #[.bool (aM q),.string (nu q),.string (de q)]:=rfl
theorem mi (q:Rat):a7 (qF q)=q:=gi q
def bT (l:List Fr) (k:Nat):Fr:=l[k]?.getD wM
theorem rV {l:List Fr} (h:k<l.length):bT l k=l[k]:=by rw[bT,a8 h];rfl
theorem aj8 {l:List Fr} (h:k<l.length):(bT l k).2.1.size+(bT l k).2.2.size+2<=fw l:=by rw[rV h];exact QX (bM h)
def jy (l:List Fr):List Fr:=l.map fun f=>qF (a7 f*(1/bH l))
def uO (S vars rest:List Nat) (v x:Nat) (l:List Fr):List Fr:=(List.range (cnt S rest)).map fun K=>qF (a7 (bT l (pos S (aQ (aV S rest K) v x) vars)))
def j7 (most:Bool) (T:Nat ->Fr):Nat ->Fr
 |0=>T 0
 |k+1=>if most then great (j7 most T k) (T (k+1)) else qF (a7 (j7 most T k)+a7 (T (k+1)))
def ow (S vars rest:List Nat) (v:Nat) (most:Bool) (l:List Fr):List Fr:=(List.range (cnt S rest)).map fun K=>qF (a7 (j7 most (fun x=>bT l (pos S (aQ (aV S rest K) v x) vars)) (sz S v - 1)))
def sN (S va vb U:List Nat) (la lb:List Fr):List Fr:=(List.range (cnt S U)).map fun K=>qF (a7 (bT la (pos S (aV S U K) va))*a7 (bT lb (pos S (aV S U K) vb)))
def bJ (l:List Int) (v:Int):List Int:=l.filter fun u=>!(u==v)
def Cw (m:Nat) (l:List Fr):Prop:=∀k,k<l.length ->(bT l k).2.1.size+(bT l k).2.2.size+2<=m
theorem Cw.up {l:List Fr} (h:Cw m l) (hn:m<=n):Cw n l:=fun k hk=>aL (h k hk) hn
def sw:List Fr ->Nat
 |[]=>0
 |f::l=>f.2.1.size+f.2.2.size+sw l
theorem bw.off {u v:Value} (h:bw w g u v) (b j:Nat) (y:Value) (hne:g≠b):bw (w.setCell ⟨b,j,none⟩ y) g u v:=(jq w ⟨b,j,none⟩ y g hne).trans h
theorem yE {sizes vars:List Int} (h:jh sizes vars m=0):dZ sizes/\Up vars sizes.length/\m=cnt (ag sizes) (ag vars):=by
 rw[jh] at h;by_cases h1:countB sizes vars=true
 ·rw[aA h1] at h;by_cases h2:m=cnt (ag sizes) (ag vars)
  ·exact⟨(LJ h1).1,(LJ h1).2,h2⟩
  ·rw[aD h2] at h;omega
 ·rw[aD h1] at h;omega
open Go.Sort Go.Lib
def fM (B:Nat) (b:Option Addr) (cb:Nat):Prop:=(b=none ->cb=0)/\∀g o,b=some ⟨g,o,none⟩ ->B<=g
theorem fM.up {B C:Nat} {b:Option Addr} (h:fM B b cb) (hC:C<=B):fM C b cb:=⟨h.1,fun g o e=>aL hC (h.2 g o e)⟩
theorem fM.nil (B:Nat):fM B Option.none 0:=⟨fun _=>rfl,fun g o e=>by cases e⟩
theorem fM.at {B G:Nat} (h:B<=G):fM B (Option.some ⟨G,0,Option.none⟩) cb:=⟨(fun e=>by cases e),fun g o e=>by cases e;exact h⟩
def bA (w:World) (B:Nat) (v:Value) (l:List Int):Prop:=w.ownsRow B 3 1 v l.length (l.map (Value.int .i64))
theorem bA.cases {B:Nat} {v:Value} (h:bA w B v l):(v=.slice none 0 0/\l=[])∨∃g cap,v=.slice (some ⟨g,0,none⟩) l.length cap/\B<=g/\g<w.heap.size/\l.length<=cap/\cap<=maxLen/\Holds (Value.int .i64) w g 0 l.toArray:=by
 rcases h.2 with ⟨h1,h2⟩ |⟨g,cap,cur,h1,h2,h3,h4,h5,h6,h7⟩
 ·exact .inl ⟨h1,Db.1 h2⟩
 ·refine .inr ⟨g,cap,h1,h2,(dm.1 h3).1,h4,h5,fun j hj=>?_⟩;have hj':j<l.length:=by simpa using hj
  refine⟨?_,kZ w g _ _ _ h3⟩;rw[bD,bX w g j _ _ (0,0) h3]
  have e:cur[j]? =(cur.toList.take (l.length*1))[j]?:=by
   rw[sI,aA (by omega),xL]
  rw[e,h7,kD,a8 hj'];simp[hj']
theorem D7 {d:Array Int} (h:Holds (Value.int .i64) w g 0 d) (hg:g<w.heap.size) (hl:∀j (hj:j<l.length),∃hd:j<d.size,d[j]=l[j]):aC w (some ⟨g,0,none⟩) l:=fun k hk=>by
 obtain⟨hd,e⟩:=hl k hk;refine⟨g,0,rfl,hg,?_⟩;have:=(h k hd).1;rw[E8 d k hd,e] at this;exact this
theorem bA.ints {B:Nat} {v:Value} (h:bA w B v l):∃d cd,v=.slice d l.length cd/\aC w d l:=by
 rcases h.cases with ⟨rfl,rfl⟩ |⟨g,cap,rfl,_,hg,_,_,hh⟩
 ·exact⟨none,0,rfl,fun k hk=>absurd hk (by simp)⟩
 ·exact⟨_,_,rfl,D7 hh hg fun j hj=>⟨by simpa using hj,by simp⟩⟩
theorem Xi {b o:Nat} (h:aC w (some ⟨b,o,none⟩) l):∀j,j<l.length ->w.cell? ⟨b,o+j,none⟩=some (.int .i64 (l.getD j 0)):=fun j hj=>by
 obtain⟨g,o',e,_,hc⟩:=h j hj;cases e;rw[hc,bU,a8 hj];rfl
theorem JT (b:Option Addr) (cb:Nat) (l:List Int) (w:World) (h:aC w b l) (hn:l.length<=1000000):
  Calls Tryz.prog 76 #[.slice b l.length cb] w fun e w'=>∃v,e=.returned v/\bA w' w.heap.size v l/\Below w.heap.size w w':=by
 cases b with
 |none=>
  have hl:l=[]:=by
   cases l with
   |nil=>rfl
   |cons x l=>obtain⟨g,o,e,_⟩:=h 0 (by simp);cases e
  subst hl;refine(Tryz.slices_Clone_int_nil 0 cb w).af ?_;rintro e w' ⟨rfl,rfl⟩;exact⟨_,rfl,⟨rfl,.inl ⟨rfl,rfl⟩⟩,au _ _⟩
 |some a=>
  cases l with
  |nil=>
   refine(Tryz.slices_Clone_int_zero a cb w).af ?_;rintro e w' ⟨v,rfl,hr,_,hb⟩;exact⟨v,rfl,hr,hb⟩
  |cons x l=>
   obtain⟨g,o,e,_⟩:=h 0 (by simp);cases e;refine(Tryz.slices_Clone_int g o (x::l).length cb (x::l) w (aq _) (by omega) (Xi h)).af ?_;rintro e w' ⟨v,rfl,hr,_,hb⟩;rw[gX] at hr;exact⟨v,rfl,hr,hb⟩
theorem FX (b:Option Addr) (cb:Nat) (l:List Int) (x:Int) (w:World) (h:aC w b l) (hn:l.length<=140737488355328):
  Calls Tryz.prog 49 #[.slice b l.length cb,.int .i64 x] w fun e w'=>e=.returned (.bool (l.contains x))/\Below w.heap.size w w':=by
 cases l with
 |nil=>
  refine(Tryz.slices_Contains_int_empty b cb x w).af ?_;rintro e w' ⟨rfl,rfl⟩;exact⟨rfl,au _ _⟩
 |cons y l=>
  obtain⟨g,o,rfl,_⟩:=h 0 (by simp);refine(Tryz.slices_Contains_int g o (y::l).length cb (y::l) x w (aq _) (by omega) (Xi h)).af ?_;rintro e w' ⟨rfl,rfl⟩;rw[gX];exact⟨rfl,au _ _⟩
theorem Tq (u v:Int) (B:Nat) (W:World) (hc:W.cell? ⟨B,0,none⟩=some (.int .i64 v)):
  FnGives Tryz.prog 197 #[.pointer (some ⟨B,0,none⟩)] #[.int .i64 u] (.bool (u==v)) W:=by
 show Calls Tryz.prog 197 #[.int .i64 u,.pointer (some ⟨B,0,none⟩)] W _;go_enter Tryz.func197,Tryz.ntmps197;go_wp2
 all_goals (go_ret;exact⟨by simp_all,0,rfl⟩)
theorem abZ (v:Int) (B:Nat) (w:World) (hB:B<w.heap.size) (hc:w.cell? ⟨B,0,none⟩=some (.int .i64 v)):
  PredAt Tryz.prog 197 #[.pointer (some ⟨B,0,none⟩)] (Value.int .i64) (fun u=>u==v) w:=
 fun W x hb=>Tq x v B W ((hb.cell (p:=⟨B,0,none⟩) hB).trans hc)
theorem abY (v:Int) (B blk off size:Nat) (w:World) (hB:B<w.heap.size) (hne:B≠blk) (hc:w.cell? ⟨B,0,none⟩=some (.int .i64 v)):
  PredOver Tryz.prog 197 #[.pointer (some ⟨B,0,none⟩)] (Value.int .i64) (fun u=>u==v) blk off size w:=
 fun n os dk x _=>Tq x v B _ (by
  unfold sortWorld;rw[cell?_grow _ _ _ (by show B<(putRow _ _ _ _ _).heap.size;rw[size_putRow];exact hB),cell?_putRow_other _ _ blk off _ _ (Or.inl hne)];exact hc)
theorem Uv (fv:Value) (w:World):Calls Tryz.prog 152 #[.slice none 0 0,fv] w fun e w'=>e=.returned (.slice none 0 0)/\Below w.heap.size w w':=by
 go_enter Tryz.func152,Tryz.ntmps152;go_wp2_with fail
 refine(Tryz.slices_IndexFunc_empty (α:=Int) none 0 fv w).af ?_;rintro e w1 ⟨rfl,rfl⟩;go_wp2;go_ret;exact⟨rfl,au _ _⟩
theorem Rn {B:Nat} {a:World} {os:Array Obj} (d:Array Int) (h:Below B a w) (hw:B<=w.heap.size) (hg:B<=g):Below B a (grow (putRow (Value.int .i64) (Sort.ahead w n) g 0 d) os):=
 h.grown (Ji d) hw fun k e=>by cases e;exact hg
theorem Ro {B:Nat} {a:World} (d:Array Int) (h:Below B a w) (hw:B<=w.heap.size) (hg:B<=g):Below B a (putRow (Value.int .i64) (Sort.ahead w n) g 0 d):=by
 have:=Rn (n:=n) (os:= #[]) d h hw hg;rwa [grow_empty] at this
theorem M5 (b:Option Addr) (cb:Nat) (vars:List Int) (v:Int) (w:World) (hv:aC w b vars) (hn:vars.length<=1000000):
  Calls Tryz.prog 155 #[.slice b vars.length cb,.int .i64 v] w fun e w'=>∃(d:Option Addr) (cd:Nat),e=.returned (.slice d (bJ vars v).length cd)/\aC w' d (bJ vars v)/\fM w.heap.size d cd/\Below w.heap.size w w':=by
 have HV:=hid hv;obtain⟨L,hL⟩:∃L,L=bJ vars v:=⟨_,rfl⟩;rw[<- hL];have HL:=hid hL;clear hv hL;go_enter Tryz.func155,Tryz.ntmps155;go_wp2_with fail
 have hb0:Below w.heap.size w (w.alloc (.cells #[.int .i64 v] 3)):=(au _ w).alloc (aq _) _;have hx:=aY w 3 (.int .i64 v);generalize (w.alloc (.cells #[.int .i64 v] 3))=W at hb0 hx⊢;refine(JT b cb vars _ (HV.o.aa hb0) hn).af ?_;rintro e w1 ⟨x,rfl,hr,hb1⟩;have hx1:=aS hx hb1;have hB1:=hb0.trans (hb1.af hb0.size);have hlt:=hx.lt;have hs1:=hb0.size;rcases hr.cases with ⟨rfl,rfl⟩ |⟨g,cap,rfl,hg0,hg,hc1,hc2,hh⟩
 ·go_wp2_with fail
  refine(Uv _ _).af ?_;rintro e w2 ⟨rfl,hb2⟩;go_wp2;go_ret;have Hk:L=[]:=HL.o;subst Hk;exact⟨none,0,rfl,fun k hk=>absurd hk (by simp),fM.nil _,hB1.trans (hb2.af hB1.size)⟩
 ·have hcon:=Tryz.slices_DeleteFunc (Value.int .i64) (fun _=>rfl) (fun u=>u==v) 197 #[.pointer (some ⟨w.heap.size,0,none⟩)] (enters_of Tryz.func197 (by kernel_rfl) rfl) 0 Tryz.zeroValue3 g 0 cap vars.toArray w1 (abZ v _ _ hx1.lt hx1.cell) (abY v _ g 0 _ _ hx1.lt (by omega) hx1.cell) hh (by simp;omega) (by simpa using hc1);have hsz:vars.toArray.size=vars.length:=by simp
  rw[hsz] at hcon;have jP:vars.toArray.toList.filter (fun x=>!(x==v))=bJ vars v:=by simp[bJ]
  rw[jP, <- HL.o] at hcon;have c4:L.length<=vars.length:=by rw[HL.o];exact lT _ _
  have I8:=hid hcon;have HH:=hid hh;have mP:=hid c4;clear hcon hh hr hsz jP hc1 hc2 c4;go_wp2_with fail
  refine I8.o.af ?_;rintro e w2 ⟨rfl,q,rfl⟩;go_wp2;go_ret
  have rJ:(L++List.replicate (vars.length - L.length) 0).toArray.size=vars.toArray.size:=by
   have:=mP.o;simp;omega
  refine⟨some ⟨g,0,none⟩,cap,rfl,D7 (holds_putRow (Value.int .i64) (Sort.ahead w1 q) g 0 vars.toArray _ HH.o rJ) (by rw[size_putRow];exact hg) (fun j hj=>⟨by simp;omega,by simp[nX,hj]⟩),fM.at (by omega),Ro _ hB1 hB1.size (by omega)⟩
variable {fn:Func} {cc:Nat} {x':Value}
def uW (vars:List Int) (l:List Fr) (k:Int) (e:Ending) (w':World):Prop:=∃(b c:Option Addr) (cb cc:Nat),e=.returned (.tuple #[.agg #[.slice b vars.length cb,.slice c l.length cc],.int .i64 k])/\aC w' b vars/\dA w' c l
def rZ (B:Nat) (vars:List Int) (l:List Fr) (k:Int) (e:Ending) (w':World):Prop:=∃(b c:Option Addr) (cb cc:Nat),e=.returned (.tuple #[.agg #[.slice b vars.length cb,.slice c l.length cc],.int .i64 k])/\aC w' b vars/\dA w' c l/\fM B b cb/\fM B c cc
theorem uW.empty (k:Int) (w:World):uW [] [] k (.returned (.tuple #[.agg #[.slice none 0 0,.slice none 0 0],.int .i64 k])) w:=⟨none,none,0,0,rfl,fun k hk=>absurd hk (by simp),fun k hk=>absurd hk (by simp)⟩
theorem bw.result2 (h:bw w g x y) {p u:Tmp} (hr:fn.results= #[.cell p 39,.tmp u]) (tmps:Array Value) (hp:tmps.getD p undef=.pointer (some ⟨g,0,none⟩)):
  (results fn tmps).run Tryz.prog w=.ok (.tuple #[.agg #[x,y],tmps.getD u undef]) w:=by
 rw[results_cell_tmp hr,hp];simp only[asAddr,AX,xD];rw[run_loadVar_row w g _ 39 _ _ _ h Tryz.underlying39 rfl (by kernel_rfl)];simp only[xD]
def dh (v:Value):Prop:=∃a n c,v=Value.slice a n c
theorem aC.farT {V:World} {c:Option Addr} (h:aC V c l) (hb:bw V g x y) (hx:dh x) (hy:dh y) (j:Nat) (u:Value):aC (V.setCell ⟨g,j,none⟩ u) c l:=fun k hk=>by
 obtain⟨g',o,rfl,hlt,hc⟩:=h k hk;obtain⟨a1,n1,c1,rfl⟩:=hx;obtain⟨a2,n2,c2,rfl⟩:=hy
 have hne:¬g'=g:=fun e=>by
  subst e;rw[bX V g' (o+k) _ _ (0,0) hb] at hc;match hm:o+k with
  |0=>rw[hm] at hc;simp at hc
  |1=>rw[hm] at hc;simp at hc
  |m+2=>rw[hm] at hc;simp at hc
 exact⟨g',o,rfl,aO hlt (jo V _ _).size,(dO _ _ _ _ (fun e=>hne (cU Addr.block e).symm)).trans hc⟩
theorem aC.putT {V:World} {c:Option Addr} (h:aC V c l) (hb:bw V g x y) (hx:dh x) (hy:dh y) (hx':dh x') (y':Value):aC ((V.setCell ⟨g,0,none⟩ x').setCell ⟨g,1,none⟩ y') c l:=by
 have h1:bw (V.setCell ⟨g,0,none⟩ x') g x' y:=jY V g 0 _ _ x' hb;exact(h.farT hb hx hy 0 _).farT h1 hx' hy 1 _
theorem slv (a:Option Addr) (n c:Nat):dh (.slice a n c):=⟨a,n,c,rfl⟩
theorem bw.facts (h:bw w g x y):w.cell? ⟨g,0,none⟩=some x/\w.cell? ⟨g,1,none⟩=some y/\w.frozen? ⟨g,0,none⟩=false/\w.frozen? ⟨g,1,none⟩=false:=⟨h.c0,h.c1,kZ w g 0 _ _ h,kZ w g 1 _ _ h⟩
theorem mK {B:Nat} {a:World} (h:Below B a w) (hg:B<=g) (u v:Value):Below B a ((w.setCell ⟨g,0,none⟩ u).setCell ⟨g,1,none⟩ v):=(h.setCell hg u).setCell hg v
def NH (w V:World) (u v:Value):Prop:=bw V w.heap.size u v/\bw V (w.heap.size+1) (.slice none 0 0) (.slice none 0 0)/\Below w.heap.size w V
theorem NH.step {V:World} {u v:Value} (h:NH w V u v) (hb:Below V.heap.size V V'):NH w V' u v:=⟨h.1.aa hb h.1.lt,h.2.1.aa hb h.2.1.lt,h.2.2.trans (hb.af h.2.2.size)⟩
theorem NH.drew {V:World} {u v:Value} (h:NH w V u v):NH w V.drew u v:=⟨h.1,h.2.1,h.2.2.drew⟩
theorem NH.new (w:World) (u v:Value):NH w ((w.alloc (TC u v)).alloc (TC (.slice none 0 0) (.slice none 0 0))) u v:=⟨(bw.at (w:=w) rfl _ _).alloc _,bw.at (w:=w.alloc (TC u v)) (by simp) _ _,((au _ w).alloc (aq _) _).alloc (by simp) _⟩
theorem NH.off {V:World} {u v:Value} (h:NH w V u v) (B j:Nat) (y:Value) (hB:w.heap.size+1<B):NH w (V.setCell ⟨B,j,none⟩ y) u v:=⟨h.1.off B j y (by omega),h.2.1.off B j y (by omega),h.2.2.setCell (p:=⟨B,j,none⟩) (by show w.heap.size<=B;omega) y⟩
theorem NH.lt {V:World} {u v:Value} (h:NH w V u v):w.heap.size+1<V.heap.size:=h.2.1.lt
theorem NH.fin {V:World} {u v:Value} (h:NH w V u v) {vars:List Int} {b:Option Addr} {l:List Fr} {G:Nat} (hi:aC V b vars) (hr:ji V G l) (hG:w.heap.size+1<G) (x y:Value) (hx:x=.slice b vars.length cb) (hy:y=.slice (some ⟨G,0,none⟩) l.length cc):
  bw ((V.setCell ⟨w.heap.size+1,0,none⟩ x).setCell ⟨w.heap.size+1,1,none⟩ y) (w.heap.size+1) x y/\uW vars l 0 (.returned (.tuple #[.agg #[x,y],.int .i64 0])) ((V.setCell ⟨w.heap.size+1,0,none⟩ x).setCell ⟨w.heap.size+1,1,none⟩ y)/\Below w.heap.size w ((V.setCell ⟨w.heap.size+1,0,none⟩ x).setCell ⟨w.heap.size+1,1,none⟩ y):=by
 subst hx hy;exact⟨h.2.1.put _ _,⟨b,some ⟨G,0,none⟩,cb,cc,rfl,hi.putT h.2.1 (slv _ _ _) (slv _ _ _) (slv _ _ _) _,((hr.off _ 0 _ (by omega)).off _ 1 _ (by omega)).fr⟩,mK h.2.2 (by omega) _ _⟩
variable {la:List Int} {rest:List Oper}
theorem ac6 (n:Nat) (hn:n<=100000) (w:World):
  Calls Tryz.prog 252 #[.slice none 0 0,.int .i64 (n:Nat)] w fun e w'=>∃v,e=.returned v/\bA w' w.heap.size v []/\Below w.heap.size w w':=by
 obtain⟨i0,bY,hz0,hz1,hz2⟩:=dH Tryz.infoInt;by_cases h:n=0
 ·subst h;go_enter Tryz.func252,Tryz.ntmps252;go_wp2;go_ret;exact⟨_,rfl,⟨rfl,.inl ⟨rfl,rfl⟩⟩,au _ _⟩
 ·have hold:(Builtin.firstCells i0.size 0 (.slice none 0 0)).run Tryz.prog w.drew=.ok ([]:List Value).toArray w.drew:=run_firstCells_none w.drew i0.size 0 0 0
  have Ph:∀ty,(Builtin.append_ #[27,3] ty #[.slice none 0 0,.int .i64 (n:Int)]).run Tryz.prog w=.ok (.slice (some ⟨w.heap.size,0,none⟩) (0+n) (grownCap w (0+n) 0 3)) (w.drew.alloc (.cells (([]:List Value).toArray++Builtin.zeroCells (Value.int .i64 0).cells n++Builtin.zeroCells (Value.int .i64 0).cells (grownCap w (0+n) 0 3 - (0+n))) 3)):=fun ty=>
   Lib.run_append_grow_zeros w 27 3 ty 3 i0 (.int .i64 0) .i64 .i64 Tryz.underlying27 Tryz.underlying3 bY hz0 none 0 0 [] hold n (by omega) (by omega) (by omega) (by omega) (by rw[hz2];omega) (Jh (by omega) (by rw[hz2];omega))
  have ZA:0+n<=grownCap w (0+n) 0 3:=grownCap_ge w _ _ _;have Hp:=grownCap_le_maxLen w (0+n) 0 3 (by unfold maxLen;omega);rw[bD] at Ph ZA Hp;obtain⟨G,hG⟩:∃G,G=grownCap w n 0 3:=⟨_,rfl⟩;rw[<- hG] at Ph ZA Hp;have HGM:=hid Hp;have al8:G<=9223372036854775807:=by unfold maxLen at Hp;omega
  have ly:(0:Int)<(n:Int):=by omega
  clear hold hG Hp;go_enter Tryz.func252,Tryz.ntmps252;go_wp2_with (at_builtin;refine Lib.wpList_append_run _ rfl _ _ _ _ rfl _ _ rfl rfl _ _ (Ph _) ?_)
  go_ret;refine⟨_,rfl,⟨rfl,.inr ⟨w.heap.size,G,_,rfl,aq _,im w.drew _,aU _,HGM.o,?_,by simp⟩⟩,((au _ w).drew).alloc (aq _) _⟩;simp[size_zeroCells];omega
theorem vO {o:Oper} {a:Act} {Q:Exit ->Act ->World ->Prop} (hgd:o.guard=none) (s x:Operand)
  (ho:o.op=.call {callee:=.builtin .append,args:= #[s,x],argTypes:= #[27,27]}) (base:Nat) (v:Value) (xs la:List Int) (hs:a.eval s=v) (hown:bA w base v xs) (p:Option Addr) (ca:Nat) (hx:a.eval x=.slice p la.length ca) (hi:aC w p la) (hp:p=none ->ca=0) (hlen:xs.length+la.length<=100000) (hbase:base<=w.heap.size)
  (h:∀v' w',bA w' base v' (xs++la) ->w.grownBy w' v.ownBlock ->wpList Tryz.prog ops Q rest (a.put o.dst v') w'):wpList Tryz.prog ops Q (o::rest) a w:=by
 obtain⟨i0,bY,hz0,hz1,hz2⟩:=dH Tryz.infoInt;cases p with
 |none=>
  have hl:la=[]:=by
   cases la with
   |nil=>rfl
   |cons x l=>obtain⟨g,o,e,_⟩:=hi 0 (by simp);cases e
  subst hl;have h0:=hp rfl;subst h0;have h1:=h v w (by rw[xJ];exact hown) ⟨rfl,rfl,rfl,aq _,fun _ _ _=>rfl⟩;exact wpList_append_own_none hgd s x 27 ho base 3 i0 1 Tryz.underlying27 bY v xs.length _ hs hown hx h1
 |some ad=>
  refine AV _ hgd s x 27 ho base 3 i0 (.int .i64 0) 1 8 Tryz.underlying27 bY hz0 hz1 hz2 rfl (by decide) v xs.length _ hs hown ad la.length ca (la.map (Value.int .i64)) hx (by simp) ?_ ?_ (by unfold maxLen;omega) (by omega) hbase ?_
  ·intro j u hj;rw[kD] at hj;cases hq:la[j]? with
   |none=>rw[hq] at hj;cases hj
   |some z=>
    rw[hq] at hj;cases hj;obtain⟨GP,PA⟩:=nY.1 hq;obtain⟨g,o',e,_,hc⟩:=hi j GP;cases e;rw[<- PA];rw[Addr.add];by_cases h0:j=0
    ·subst h0;simpa using hc
    ·simpa [h0] using hc
  ·intro u hu;obtain⟨z,_,rfl⟩:=aW.1 hu;rfl
  ·intro v' w' h1 h2 _;refine h v' w' ?_ h2;rw[bA,cK,dL];exact h1
def wN (la lb:List Int) (i:Nat):List Int:=if i=0 then[] else if i=1 then la else la++lb
theorem bA.own {B:Nat} {v:Value} (h:bA w B v l):∀k,v.ownBlock=some k ->B<=k:=by
 intro k hk;rcases h.2 with ⟨rfl,_⟩ |⟨g,cap,cur,rfl,h2,_⟩
 ·cases hk
 ·cases hk;exact h2
theorem aiU {lb:List Int} (kh:la.length<=1000) (iC:lb.length<=1000) (i:Nat):(wN la lb i).length<=2000:=by
 rw[wN];by_cases h:i=0
 ·rw[aA h];simp
 ·rw[aD h];by_cases h1:i=1
  ·rw[aA h1];omega
  ·rw[aD h1,cK];omega
theorem ac8 (R:Nat) (a b:Option Addr) (ca cb:Nat) (la lb:List Int) (w:World) (hR:R<w.heap.size) (r0:w.cell? ⟨R,0,none⟩=some (.slice a la.length ca)) (r1:w.cell? ⟨R,1,none⟩=some (.slice b lb.length cb)) (ha:aC w a la) (hb:aC w b lb) (ha0:a=none ->ca=0) (hb0:b=none ->cb=0) (kh:la.length<=1000) (iC:lb.length<=1000):
  Calls Tryz.prog 236 #[.slice (some ⟨R,0,none⟩) 2 2] w fun e w'=>∃v,e=.returned v/\bA w' w.heap.size v (la++lb)/\Below w.heap.size w w':=by
 have one:∀i,i< 2 ->∃(p:Option Addr) (c:Nat) (l:List Int),w.cell? ⟨R,i,none⟩=some (.slice p l.length c)/\aC w p l/\(p=none ->c=0)/\l.length<=1000/\wN la lb (i+1)=wN la lb i++l:=by
  intro i hi;by_cases h:i=0
  ·subst h;exact⟨a,ca,la,r0,ha,ha0,kh,by simp[wN]⟩
  ·obtain rfl:i=1:=by omega
   exact⟨b,cb,lb,r1,hb,hb0,iC,by simp[wN]⟩
 have IV:=hid one;have ij:=hid (fun i=>aiU kh iC i);have h2:wN la lb 2=la++lb:=by simp[wN]
 rw[<- h2];have hz:wN la lb 0=[]:=rfl;clear one r0 r1 ha hb ha0 hb0 h2 kh iC;generalize wN la lb=F at *;go_enter Tryz.func236,Tryz.ntmps236;go_wp2_with fail
 go_loopw [3,11] (fun sv iv wr=>∃i:Nat,i<=2/\iv=.int .i64 i/\sv=.int .i64 ((F i).length:Nat)/\Hid (Below w.heap.size w wr)) (fun _ iv _=>2 - (intOf iv).toNat)
 case atStart=>exact⟨0,by omega,rfl,by rw[hz];rfl,au _ _⟩
 case round=>
  obtain⟨i,hi,rfl,rfl,HW⟩:=hrel;by_cases hlt:i<2
  ·obtain⟨p,c,l,hc,hI,hp,hl,hf⟩:=IV.o i hlt;have hcw:=(HW.o.cell (p:=⟨R,i,none⟩) hR).trans hc;have jP:=ij.o i;(have hw1:IntKind.i64.wrap (((F i).length:Int)+(l.length:Int))=((F i).length:Int)+(l.length:Int):=by rw[gI];omega);(have HE:Hid (((F (i+1)).length:Int)=((F i).length:Int)+(l.length:Int)):=by show _=_;rw[hf,cK];exact zu _ _);(have uu:(0:Int)<=((F i).length:Int)+(l.length:Int):=by omega);clear hf hc hp hI;go_wp2;go_roundw
   case rel=>exact⟨i+1,by omega,by go_num,by rw[HE.o],HW⟩
   case measure=>simp[intOf];omega
  ·obtain rfl:i=2:=by omega
   have jP:=ij.o 2;go_wp2_with fail
   refine(ac6 (F 2).length (by omega) _).af ?_;rintro e w1 ⟨v1,rfl,hr1,hb1⟩;have eU:=hid (HW.o.trans (hb1.af HW.o.size));have qX:Hid (∀b,b<=wr.heap.size ->bA w1 b v1 []):=fun b hb=>⟨hr1.1,hr1.2.imp id (fun ⟨g,cap,cur,h1,h2,h3⟩=>⟨g,cap,cur,h1,aL hb h2,h3⟩)⟩;have HR:=hid (qX.o w.heap.size HW.o.size);clear hr1 hb1 qX;go_wp2_with fail
   go_loopw [6,27] (fun sv iv wr=>∃i:Nat,i<=2/\iv=.int .i64 i/\Hid (bA wr w.heap.size sv (F i))/\Hid (Below w.heap.size w wr)) (fun _ iv _=>2 - (intOf iv).toNat)
   case atStart=>exact⟨0,by omega,rfl,by rw[hz];exact HR,eU⟩
   case round=>
    obtain⟨i,hi,rfl,pW,EA⟩:=hrel;by_cases hlt:i<2
    ·obtain⟨p,c,l,hc,hI,hp,hl,hf⟩:=IV.o i hlt;have hcw:=(EA.o.cell (p:=⟨R,i,none⟩) hR).trans hc;have jP:=ij.o i;have HI:=hid (hI.aa EA.o);have HP:=hid hp;have HE:=hid hf;have nP:=hid pW.o.own;clear hf hc hp hI;go_wp2_with (at_builtin;refine vO rfl _ _ rfl w.heap.size _ (F i) l rfl pW.o p c rfl HI.o HP.o (by omega) EA.o.size ?_;intro v' w2 hr2 hg2)
     have eJ:=hid hr2;have bB:=hid (EA.o.grown hg2 EA.o.size nP.o);clear hr2 hg2;go_roundw
     case rel=>exact⟨i+1,by omega,by go_num,by rw[HE.o];exact eJ,bB⟩
     case measure=>simp[intOf];omega
    ·obtain rfl:i=2:=by omega
     go_wp2;go_ret;exact⟨_,rfl,pW.o,EA.o⟩
theorem Dy (w:World) (u:Int):aC (w.alloc (.cells #[.int .i64 u] 3)) (some ⟨w.heap.size,0,none⟩) [u]:=fun k hk=>by
 obtain rfl:k=0:=by simp at hk;omega
 exact⟨w.heap.size,0,rfl,by simp,(aY w _ _).cell⟩
theorem bA.under {B:Nat} {v:Value} (h:bA w B v l) (hb:Below w.heap.size w w'):bA w' B v l:=by
 refine⟨h.1,h.2.imp id ?_⟩;rintro⟨g,cap,cur,h1,h2,h3,h4⟩;exact⟨g,cap,cur,h1,h2,(hb.block g (dm.1 h3).1).trans h3,h4⟩
theorem aiK {P:List (List Nat)} {out:List Nat} (h:v∈out):gO P out v=false:=by simp[gO,h]
theorem aiJ {P:List (List Nat)} {out p:List Nat} (hp:P.getD v []=p) (h:¬∀u∈p,u∈out):gO P out v=false:=by rw[gO,hp,cD h,Bool.and_false]
theorem aiI {P:List (List Nat)} {out p:List Nat} (hp:P.getD v []=p) (h:¬v∈out) (h':∀u∈p,u∈out):gO P out v=true:=by rw[gO,hp,cS h',cD h];rfl
theorem ae8 (G c:Nat) (P:List (List Nat)) (w:World) (hU:b9 w G (P.map az)) (hn:P.length<=8) (hP:∀p∈P,∀u∈p,u<8):
  Calls Tryz.prog 124 #[.slice (some ⟨G,0,none⟩) P.length c] w fun e w'=>∃x,e=.returned x/\bA w' w.heap.size x (iL (aR P P.length))/\Below w.heap.size w w':=by
 obtain⟨i0,bY,hz0,hz1,hz2⟩:=dH Tryz.infoInt;have HU:=hid hU
 have HP:Hid (∀i,i<P.length ->(∀u∈P.getD i [],u<8)/\∃h:i<(P.map az).length,(P.map az)[i]=az (P.getD i [])):=fun i hi=>by
  have e:P.getD i []=P[i]:=by rw[bU,a8 hi];rfl
  rw[e];exact⟨hP _ (bM hi),by simpa using hi,by simp⟩
 have EN:Hid (∀k,∀u∈aR P k,u<8):=fun k u hu=>aO (Bo P k u hu) hn;have HLN:=hid (Dx P);have yM:Hid (∀k v,v<P.length ->gO P (aR P k) v=true ->(∀u,u< v ->gO P (aR P k) u=false) ->aR P (k+1)=aR P k++[v]):=fun k v h1 h2 h3=>Kp (aft h1 h2 h3);have HST:Hid (∀k,k<=P.length ->(∀u,u<P.length ->gO P (aR P k) u=false) ->aR P P.length=aR P k):=fun k h1 h2=>ae9 (afu h2) h1;have EO:Hid (aR P 0=[]):=rfl;generalize hF:aR P=F at *;clear hU hP hF;go_enter Tryz.func124,Tryz.ntmps124;go_wp2_with fail
 go_step3
 go_wp2_with (first
  |(at_make;refine wpList_make_own _ rfl _ _ 27 rfl w.heap.size 3 i0 (.int .i64 0) 1 Tryz.underlying27 bY hz0 hz1 .i64 .i64 _ P.length rfl rfl (by go_num) (by rw[hz2];omega) (by unfold maxLen;omega) (aq _) ?_;intro w2 hown2 hgrow2))
 have HI:Hid (bA w2 w.heap.size (.slice (some ⟨w.heap.size,0,none⟩) 0 P.length) []):=hown2;have bB:Hid (Below w.heap.size w w2):=(au _ w).grown hgrow2 (aq _) (fun k e=>by cases e);clear hown2 hgrow2;go_wp2_with fail
 go_step3
 go_wp2_with fail
 go_loopw [3,4,12] (fun sv lv iv wr=>∃k:Nat,k<=P.length/\iv=.int .i64 k/\sv=.int .u32 (az (F k):Nat)/\Hid (bA wr w.heap.size lv (iL (F k)))/\Hid (Below w.heap.size w wr)) (fun _ _ iv _=>P.length - (intOf iv).toNat)
 case atStart=>exact⟨0,aU _,rfl,by rw[EO.o];rfl,by rw[EO.o];exact HI,bB⟩
 case round=>
  obtain⟨k,hk,rfl,rfl,HR,HB⟩:=hrel;clear HI bB;by_cases hlt:k<P.length
  ·have HUW:=hid (HU.o.aa HB.o HU.o.lt);go_wp2_with fail
   go_loopw [3,4,16] (fun sv lv jv wq=>∃v:Nat,v<=P.length/\jv=.int .i64 v/\sv=.int .u32 (az (F k):Nat)/\lv=u4/\Hid (∀u,u< v ->gO P (F k) u=false)/\wq=wr) (fun _ _ jv _=>P.length - (intOf jv).toNat)
   case atStart=>exact⟨0,aU _,rfl,rfl,rfl,fun u h=>absurd h (by omega),rfl⟩
   case round=>
    obtain⟨v,hv,rfl,rfl,rfl,HN,rfl⟩:=hrel;by_cases ie:v<P.length
    ·obtain⟨XY,hm1,bq⟩:=HP.o v ie;have c0:=HUW.o.cell v hm1;rw[bq] at c0;have Sh:=hid XY;have HFO:Hid (v∈F k ->gO P (F k) v=false):=aiK;have HFP:Hid (¬(∀u∈P.getD v [],u∈F k) ->gO P (F k) v=false):=aiJ rfl;have HFY:Hid (¬v∈F k ->(∀u∈P.getD v [],u∈F k) ->gO P (F k) v=true):=aiI rfl
     have tO:Hid (gO P (F k) v=false ->∀u,u<v+1 ->gO P (F k) u=false):=fun h u hu=>by
      rcases cT u v with h2 |h2
      ·exact HN.o u h2
      ·obtain rfl:u=v:=by omega
       exact h
     clear XY hm1 bq;generalize P.getD v []=p at *;go_wp2_with fail
     refine(NA (F k) v _ (EN.o k) (by omega)).af ?_;rintro e w3 ⟨rfl,rfl⟩;by_cases hin:v∈F k
     ·rw[cS hin];have HE:=hid (tO.o (HFO.o hin));clear hin;go_wp2;go_roundw
      case rel=>exact⟨v+1,by omega,by go_num,rfl,rfl,HE,trivial⟩
      case measure=>simp[intOf];omega
     ·rw[cD hin];have SC:=hid hin;clear hin;go_wp2_with fail
      refine(adu (F k) p _ (EN.o k) Sh.o).af ?_;rintro e w4 ⟨rfl,rfl⟩;by_cases hh:∀u∈p,u∈F k
      ·rw[cS hh];have hS:=yM.o k v ie (HFY.o SC.o hh) HN.o;(have HM:Hid (az (v::F k)=az (F (k+1))):=Oy fun z=>by rw[hS,dG,cI,eD];exact or_comm);(have HIL:Hid (iL (F (k+1))=iL (F k)++[(v:Int)]):=by show _=_;rw[hS,OV];rfl)
       have EW:Hid ((iL (F k)).length<=8):=by
        have:=HLN.o k;show (iL (F k)).length<=8;rw[bs];omega
       clear hh hS;have nP:=hid HR.o.own;have mM:Hid (bA (w4.alloc (.cells #[.int .i64 (v:Nat)] 3)) w.heap.size _ (iL (F k))):=E9 HR.o _;have bW:=hid (HB.o.alloc HB.o.size (.cells #[.int .i64 (v:Nat)] 3));have kY:=hid (Dy w4 (v:Nat));go_wp2_with (at_builtin;refine vO rfl _ _ rfl w.heap.size _ (iL (F k)) [((v:Nat):Int)] rfl mM.o (some ⟨w4.heap.size,0,none⟩) 1 rfl kY.o (fun e=>by cases e) (by have:=EW.o;simp;omega) bW.o.size ?_;intro v' w5 ur GU)
       have tJ:=hid ur;have eT:=hid (bW.o.grown GU bW.o.size nP.o);clear ur GU;refine(Dr (F k) v _ (EN.o k) (by omega)).af ?_;rintro e w6 ⟨rfl,rfl⟩;rw[HM.o];go_wp2;go_roundw
       case rel=>exact⟨k+1,by omega,by go_num,rfl,by rw[HIL.o];exact tJ,eT⟩
       case measure=>simp[intOf];omega
      ·rw[cD hh];have HE:=hid (tO.o (HFP.o hh));clear hh;go_wp2;go_roundw
       case rel=>exact⟨v+1,by omega,by go_num,rfl,rfl,HE,trivial⟩
       case measure=>simp[intOf];omega
    ·obtain rfl:v=P.length:=by omega
     have HE:=hid (HST.o k hk HN.o);go_wp2;(try rw[Exit.noGoto_ret]);go_ret;exact⟨_,rfl,by rw[HE.o];exact HR.o,HB.o⟩
  ·obtain rfl:k=P.length:=by omega
   go_wp2;(try rw[Exit.noGoto_ret]);go_ret;exact⟨_,rfl,HR.o,HB.o⟩
section
attribute [local go_sem] Oper.semAt_some
theorem UK (s:List Nat) (w:World) (hs:∀u∈s,u<8):
  Calls Tryz.prog 189 #[.int .u32 (az s:Nat)] w fun e w'=>e=.returned (.int .i64 ((eo s 8).length:Nat))/\∃k,w'=w.drewN k:=by
 have hm:=sS hs;have HO:=hid (fun U=>afg (az s) U hm);rw[aek] at HO;generalize (eo s 8).length=c at *;generalize az s=m at *;go_enter Tryz.func189,Tryz.ntmps189;go_wp2_with fail
 refine(HO.o _).af ?_;rintro e w1 ⟨rfl,k,rfl⟩;go_wp2;go_ret;exact⟨rfl,k,rfl⟩
theorem afY (s:List Nat) (v:Nat) (hs:∀u∈s,u<8) (hv:v<8):az s&&&(4294967295 - 2^v)=az (s.filter fun u=>decide (u≠v)):=by
 have h2:2^v<2^8:=MJ (by decide) hv;have e:4294967295 - 2^v=2^32 - (2^v+1):=by omega
 have hs':2^v<2^32:=by omega
 apply Jm;intro i;rw[e,Nat.testBit_and,MH hs',pq,pq,Nat.testBit_two_pow];by_cases hi:i∈s
 ·have h8:=hs i hi;have QN:i<32:=by omega
  by_cases iA:v=i
  ·subst iA;simp[hi]
  ·have h':¬i=v:=fun e=>iA e.symm;simp[hi,QN,iA,h']
 ·simp[hi]
theorem FZ (s:List Nat) (v:Nat) (w:World) (hs:∀u∈s,u<8) (hv:v<8):
  Calls Tryz.prog 145 #[.int .u32 (az s:Nat),.int .i64 (v:Nat)] w fun e w'=>e=.returned (.int .u32 (az (s.filter fun u=>decide (u≠v)):Nat))/\w'=w:=by
 have hm:=sS hs;have h2:2^v<256:=show 2^v<2^8 from MJ (by decide) hv
 have HE:Hid (bits BinOp.andNot IntKind.u32 (az s:Nat) (2^v % 4294967296)=((az (s.filter fun u=>decide (u≠v)):Nat):Int)):=by
  show _=_
  have e:((2:Int)^v % 4294967296)=((2^v:Nat):Int):=by
   (have e2:((2:Int)^v)=((2^v:Nat):Int):=by rw[Int.natCast_pow];rfl);rw[e2];generalize (2^v:Nat)=q at *;omega
  rw[e,u32_andNot_nat _ _ (by omega) (by omega),afY s v hs hv]
 generalize az (s.filter fun u=>decide (u≠v))=r at *;generalize az s=m at *;go_enter Tryz.func145,Tryz.ntmps145;go_wp2;go_ret;exact⟨by rw[HE.o];rfl,rfl⟩
theorem ag0 (l:List Nat):(iL l).map (Value.int .i64)=l.map iv:=by simp[iL,iv]
theorem WT (s:List Nat) (w:World) (hs:∀u∈s,u<8):
  Calls Tryz.prog 135 #[.int .u32 (az s:Nat)] w fun e w'=>∃v,e=.returned v/\bA w' w.heap.size v (iL (eo s 8))/\Below w.heap.size w w':=by
 refine(fZ (n:=6)).1 ?_;obtain⟨i0,hi,hz0,hz1,hz2⟩:=dH Tryz.infoInt;have hc8:=OC s 8;have HC:=hid (fun U=>UK s U hs);obtain⟨cl,hcl⟩:∃cl,cl=(eo s 8).length:=⟨_,rfl⟩;rw[<- hcl] at HC hc8;clear hcl;refine sG Tryz.func135 rfl trivial ?_ rfl;simp only[Tryz.ntmps135,lR,dI,k8,Nat.reduceAdd,Nat.reduceSub,lX,lW,lS,k9,gY,eE]
 gi_wp2_with (first
  |(refine⟨trivial,?_⟩;gi_at_call 189;refine(fZ.2 (HC.o _)).af ?_;rintro e w0 ⟨rfl,hw0⟩)
  |(gi_at_make;refine wpListIn_make_own _ rfl _ _ 27 rfl w.heap.size 3 i0 (.int .i64 0) 1 Tryz.underlying27 hi hz0 hz1 .i64 .i64 _ cl rfl rfl (by omega) (by rw[hz2];omega) (by unfold maxLen;omega) (by obtain⟨k,rfl⟩:=hw0;exact aq _) ?_;intro w1 hown1 GS))
 have hb0:Below w.heap.size w w0:=by obtain⟨k,rfl⟩:=hw0;exact below_drewN (au _ w) k
 have hs0:w0.heap.size=w.heap.size:=by obtain⟨k,rfl⟩:=hw0;rfl
 clear hw0;have DU:=GS.size;have hB1:Below w.heap.size w w1:=hb0.grown GS (by omega) (fun k e=>by cases e);have bO:=aY w1 27 (.slice (some ⟨w0.heap.size,0,none⟩) 0 cl);have hB2:Below w.heap.size w (w1.alloc (.cells #[.slice (some ⟨w0.heap.size,0,none⟩) 0 cl] 27)):=hB1.alloc (by omega) _;have ag9:w.heap.size<=w1.heap.size:=by omega
 clear hs0 DU
 refine Bc (by omega) s hs rfl rfl
  (fun k V=>(∃v,Boxed V w1.heap.size 27 v/\V.ownsRow w.heap.size 3 1 v (eo s k).length ((eo s k).map iv)/\True)/\Below w.heap.size w V)
  (eC (fD (holdsRow_own w.heap.size w1.heap.size 27 3 1 (fun k:Nat=>(eo s k).length) (fun k=>(eo s k).map iv) (fun _ _=>True)) _) (xC (aq _) (by simp;omega)))
  ⟨⟨_,bO,hown1.alloc _,trivial⟩,hB2⟩
  (fun k=> {tmps:= #[.int .u32 (az s:Nat),undef,.slice none 0 0,.pointer (some ⟨w1.heap.size,0,none⟩),.int .i64 (k:Nat),.int .u32 (az s:Nat),.int .i64 (cl:Nat),.slice (some ⟨w0.heap.size,0,none⟩) 0 cl,.int .u32 (az s:Nat),.func (.func 144) #[.int .u32 (az s:Nat)] #[],.int .i64 (k:Nat),undef,undef,undef,undef,undef],defers:=[]}) ?assign ?body ?skip ?done
 case assign=>
  intro l k W K hK;gi_wp2
  exact hK
 case body=>
  rintro l k V hk hm ⟨⟨v,hv,hrow,_⟩,hB⟩;have hc:=hv.cell;have nE:=OC s k;gi_wp2_with (gi_at_builtin;refine wpListIn_append_own _ rfl _ _ 27 rfl w.heap.size 3 i0 (.int .i64 0) 1 8 Tryz.underlying27 hi hz0 hz1 hz2 rfl (by decide) _ _ _ rfl (hrow.alloc _) ⟨V.heap.size,0,none⟩ 1 1 [.int .i64 (k:Nat)] rfl rfl (cell_one_new _ _ _) (by simp[Value.oneCell']) (by unfold maxLen;omega) (by omega) (by have:=hB.size;simp;omega) ?_;intro v' w3 hown' hgrow _;obtain⟨g',cap',rfl⟩:=ownsRow_succ hown';obtain⟨ny,hv2,hr2,hk2,hb2⟩:=hv.appended (by decide) hrow hB.size ag9 hown' hgrow;have hc1:=ny.cell;have Ed:=ny.frozen)
  exact⟨hk2.from _,⟨⟨_,hv2,by rw[OB hm];simpa [iv] using hr2,trivial⟩,hB.trans hb2⟩⟩
 case skip=>
  rintro k V hk hm h;rwa [Kz hm]
 case done=>
  rintro D V hD ⟨⟨v,hv,hrow,_⟩,hB⟩ hK;have hc:=hv.cell;gi_wp2
  refine⟨by simp,.inl ⟨_,_,rfl,ze hK,?_⟩⟩;refine⟨_,zg rfl _ _ _,v,rfl,?_,hB.trans (sH (w:=w) (aq _) V D _ _ (by simp at hD;omega) hK rfl rfl)⟩;rw[bA,ag0,bs];exact ownsRow_putObj hrow _ hK rfl
end
theorem afZ (a b:List Nat):az a |||az b=az (a++b):=by
 apply Jm;intro i;rw[Nat.testBit_or,pq,pq,pq];by_cases h:i∈a<;>by_cases h2:i∈b<;>simp[h,h2]
theorem af0 (a b:List Nat) (ha:∀u∈a,u<8) (hb:∀u∈b,u<8):az a&&&(4294967295 - az b)=az (a.filter fun x=>decide (¬x∈b)):=by
 have h1:=sS hb;have e:4294967295 - az b=2^32 - (az b+1):=by omega
 have hs':az b<2^32:=by omega
 apply Jm;intro i;rw[e,Nat.testBit_and,MH hs',pq,pq,pq];by_cases h:i∈a
 ·have h8:=ha i h;have QN:i<32:=by omega
  by_cases h2:i∈b<;>simp[h,h2,QN]
 ·simp[h]
theorem Rm (a b:List Nat) (ha:∀u∈a,u<8) (hb:∀u∈b,u<8):bits BinOp.or IntKind.u32 (az a:Nat) (az b:Nat)=((az (a++b):Nat):Int):=by
 have h1:=sS ha;have h2:=sS hb;rw[u32_or_nat _ _ (by omega) (by omega),afZ]
theorem ake (a b:List Nat) (ha:∀u∈a,u<8) (hb:∀u∈b,u<8):bits BinOp.andNot IntKind.u32 (az a:Nat) (az b:Nat)=((az (a.filter fun x=>decide (¬x∈b)):Nat):Int):=by
 have h1:=sS ha;have h2:=sS hb;rw[u32_andNot_nat _ _ (by omega) (by omega),af0 a b ha hb]
theorem H3 (h:∀u∈s,u<8) (p:Nat ->Bool):∀u∈s.filter p,u<8:=fun u hu=>h u (dE.1 hu).1
theorem aaW {a b:List Nat} (ha:∀u∈a,u<8) (hb:∀u∈b,u<8):∀u∈a++b,u<8:=fun u hu=>(cI.1 hu).elim (ha u) (hb u)
theorem Ai {P:List (List Nat)} (hP:∀p∈P,∀u∈p,u<8) (v:Nat):∀u∈P.getD v [],u<8:=by
 by_cases h:v<P.length
 ·rw[bU,a8 h];exact hP _ (bM h)
 ·rw[bU,iJ (by omega)];intro u hu;simp at hu
theorem BC {P:List (List Nat)} (h:v<P.length):(P.map az)[v]'(by rw[cX];exact h)=az (P.getD v []):=by rw[lV,bU,a8 h];rfl
def Gh (B:List (List Nat)) (v u:Nat):Nat:=(eo (((B.getD v []).filter fun x=>decide (¬x∈B.getD u [])).filter fun x=>decide (x≠u)) 8).length
def oH (B:List (List Nat)) (v k:Nat):Nat:=((eo (B.getD v []) k).map (Gh B v)).sum
theorem aaj {B:List (List Nat)} (h:k∈B.getD v []):oH B v (k+1)=oH B v k+Gh B v k:=by rw[oH,OB h,dL,List.sum_append,oH];simp
theorem aak {B:List (List Nat)} (h:¬k∈B.getD v []):oH B v (k+1)=oH B v k:=by rw[oH,Kz h,oH]
theorem Xb (B:List (List Nat)) (v u:Nat):Gh B v u<=8:=OC _ _
theorem LC (B:List (List Nat)) (v:Nat):∀k,oH B v k<=8*k
 |0=>by simp[oH,eo]
 |k+1=>by
  have h1:=LC B v k;have h2:=Xb B v k;by_cases h:k∈B.getD v []
  ·rw[aaj h];omega
  ·rw[aak h];omega
def np (B:List (List Nat)) (v:Nat):Nat:=oH B v 8/2
section
attribute [local go_sem] Oper.semAt_some
variable {U W':World}
theorem iR {W:World} {B:Nat} {t:TypeId} {v:Value} (h:Boxed W B t v) (b j:Nat) (y:Value) (hne:B≠b):Boxed (W.setCell ⟨b,j,none⟩ y) B t v:=(jq W ⟨b,j,none⟩ y B hne).trans h
theorem uT {W:World} {B b:Nat} {t:TypeId} {v:Value} (h:Boxed W B t v) (hb:Below b W W') (hB:B<b):Boxed W' B t v:=(hb.block B hB).trans h
theorem OJ {V:World} (h:Below V.heap.size V V'):KeepsOthers V V':=⟨h.size,fun k _ hk _=>(h.block k (dm.1 hk).1).trans hk⟩
theorem OL {V:World} (h:KeepsOthers V U) (k:Nat):KeepsOthers V (U.drewN k):=⟨h.1,h.2⟩
theorem agH (G n c v:Nat) (P:List (List Nat)) (w:World) (hn:P.length=n) (h8:n<=8) (hU:b9 w G (P.map az)) (hP:∀p∈P,∀u∈p,u<n) (hv:v<n):
  Calls Tryz.prog 233 #[.slice (some ⟨G,0,none⟩) n c,.int .i64 (v:Nat)] w fun e w'=>e=.returned (.int .i64 (np P v:Nat))/\Below w.heap.size w w':=by
 refine(fZ (n:=6)).1 ?_;have rR:∀p∈P,∀u∈p,u<8:=fun p hp u hu=>by have:=hP p hp u hu;omega
 have hs:=Ai rR v;have Le:=hU.lt;have kv:=hU.cell v (by rw[cX];omega);rw[BC (by omega)] at kv;have Mm:=hid kv
 have CR:Hid (∀u,u< n ->w.cell? ⟨G,u,none⟩=some (.int .u32 (az (P.getD u []):Nat))):=fun u hu=>by
  have:=hU.cell u (by rw[cX];omega);rwa [BC (by omega)] at this
 have IY:Hid (∀k,k∈P.getD v [] ->k<n):=fun k hk=>by
  rw[bU,a8 (by omega)] at hk;exact hP _ (bM _) k hk
 have HGS:=hid (fun u=>Ai rR u);have HEY:=hid (fun k h=>aaj (B:=P) (v:=v) (k:=k) h);have HEN:=hid (fun k h=>aak (B:=P) (v:=v) (k:=k) h);have HEL:=hid (fun k=>LC P v k);have q8:=hid (fun u=>Xb P v u);have kT:=hid (fun (u:Nat) (hu:u<8) (U:World)=>FZ ((P.getD v []).filter fun x=>decide (¬x∈P.getD u [])) u U (H3 hs _) hu);have My:=hid (fun (u:Nat) (U:World)=>UK (((P.getD v []).filter fun x=>decide (¬x∈P.getD u [])).filter fun x=>decide (x≠u)) U (H3 (H3 hs _) _));have HAN:=hid (fun (u:Nat)=>ake (P.getD v []) (P.getD u []) hs (Ai rR u));have HLD:Hid (∀u,(eo (((P.getD v []).filter fun x=>decide (¬x∈P.getD u [])).filter fun x=>decide (x≠u)) 8).length=Gh P v u):=fun u=>rfl
 have ak8:Hid ((oH P v 8:Int).tdiv 2=(np P v:Nat)):=by
  show _=_;rw[np];exact(vL _ _).symm▸rfl
 have hw0:G<w.heap.size:=Le;have e64:=LC P v 8;generalize np P v=res at *;generalize K5:P.getD v []=bv at *;clear hU hP rR kv K5;refine sG Tryz.func233 rfl trivial ?_ rfl;simp only[Tryz.ntmps233,lR,dI,k8,Nat.reduceAdd,Nat.reduceSub,lX,lW,lS,k9,gY,eE];obtain⟨W0,hW0⟩:∃W0,W0=((w.alloc (.cells #[.slice (some ⟨G,0,none⟩) n c] 109)).alloc (.cells #[.int .i64 (v:Nat)] 3)).alloc (.cells #[.int .i64 0] 3):=⟨_,rfl⟩;have b0:Boxed W0 w.heap.size 109 (.slice (some ⟨G,0,none⟩) n c):=by rw[hW0];exact((aY w _ _).alloc _).alloc _
 have b1:Boxed W0 (w.heap.size+1) 3 (.int .i64 (v:Nat)):=by
  have h:=(aY (w.alloc (.cells #[.slice (some ⟨G,0,none⟩) n c] 109)) 3 (.int .i64 (v:Nat))).alloc (.cells #[.int .i64 0] 3);rw[di] at h;rw[hW0];exact h
 have b2:Boxed W0 (w.heap.size+1+1) 3 (.int .i64 (oH P v 0:Nat)):=by
  have h:=aY ((w.alloc (.cells #[.slice (some ⟨G,0,none⟩) n c] 109)).alloc (.cells #[.int .i64 (v:Nat)] 3)) 3 (.int .i64 0);rw[di,di] at h;rw[hW0];exact h
 have hB0:Below w.heap.size w W0:=by
  rw[hW0];exact(((au _ w).alloc (aq _) _).alloc (by simp) _).alloc (by simp;omega) _
 have k0:=b0.cell;have k1:=b1.cell;have kG:=(hB0.cell (p:=⟨G,v,none⟩) hw0).trans Mm.o;rw[hW0] at k0 k1 kG;gi_wp2
 rw[<- hW0];clear k0 k1 kG hW0;have wA:w.heap.size+1+1<W0.heap.size:=b2.lt
 refine Bc (by omega) bv hs rfl rfl
  (fun k V=>Boxed V w.heap.size 109 (.slice (some ⟨G,0,none⟩) n c)/\Boxed V (w.heap.size+1) 3 (.int .i64 (v:Nat))/\Boxed V (w.heap.size+1+1) 3 (.int .i64 (oH P v k:Nat))/\Below w.heap.size w V)
  (eC (fD (iW _ _ (fun _=>_)) _) (eC (fD (iW _ _ (fun _=>_)) _) (eC (fD (iW _ _ (fun k:Nat=>.int .i64 (oH P v k:Nat))) _) (xC (aq _) (by omega)))))
  ⟨b0,b1,b2,hB0⟩
  (fun k=> {tmps:= #[.slice (some ⟨G,0,none⟩) n c,.int .i64 (v:Nat),.pointer (some ⟨w.heap.size,0,none⟩),.pointer (some ⟨w.heap.size+1,0,none⟩),.int .i64 0,.pointer (some ⟨w.heap.size+1+1,0,none⟩),.int .i64 (k:Nat),.slice (some ⟨G,0,none⟩) n c,.int .i64 (v:Nat),.pointer (some ⟨G,v,none⟩),.int .u32 (az bv:Nat),.func (.func 144) #[.int .u32 (az bv:Nat)] #[],.int .i64 (k:Nat),undef,undef,undef,undef,undef,undef,undef,undef,undef,undef,undef,undef,undef,undef,undef,undef],defers:=[]}) ?assign ?body ?skip ?done
 case assign=>
  intro l k W K hK;gi_wp2
  exact hK
 case body=>
  rintro l k V hk hm ⟨h0,h1,h2,hB⟩;have hkn:=IY.o k hm;have k0:=h0.cell;have k1:=h1.cell;have k2:=h2.cell;have kG:=(hB.cell (p:=⟨G,v,none⟩) hw0).trans Mm.o;have kU:=(hB.cell (p:=⟨G,k,none⟩) hw0).trans (CR.o k hkn);have hAN:=HAN.o k;have Cx:=hid (kT.o k hk);have Mw:=hid (My.o k);rw[HLD.o k] at Mw;have hel:=HEL.o k;have hle:=q8.o k;have HEk:=hid (HEY.o k hm);generalize az (bv.filter fun x=>decide (¬x∈P.getD k []))=m1 at *;generalize az ((bv.filter fun x=>decide (¬x∈P.getD k [])).filter fun x=>decide (x≠k))=m2 at *;generalize az (P.getD k [])=mu at *;generalize Gh P v k=le at *;generalize oH P v k=en at *;generalize az bv=mv at *;have O3:IntKind.i64.wrap ((en:Int)+(le:Int))=((en+le:Nat):Int):=by rw[gI];omega
  have f2:=h2.frozen;gi_wp2_with fail
  refine vU (fun u=>u.cell? ⟨w.heap.size,0,none⟩=some (.slice (some ⟨G,0,none⟩) n c)/\u.cell? ⟨w.heap.size+1,0,none⟩=some (.int .i64 (v:Nat))/\u.cell? ⟨G,v,none⟩=some (.int .u32 (mv:Nat))/\u.cell? ⟨G,k,none⟩=some (.int .u32 (mu:Nat))) (by kernel_rfl) (by kernel_rfl) (fun ⟨_,_,h⟩=>h) ⟨k0,k1,kG,kU⟩ ?_;intro ak;have hD:KeepsOthers V V.drew:=xK V;have q0:Boxed V.drew w.heap.size 109 (.slice (some ⟨G,0,none⟩) n c):=h0;have q1:Boxed V.drew (w.heap.size+1) 3 (.int .i64 (v:Nat)):=h1;have q2:Boxed V.drew (w.heap.size+1+1) 3 (.int .i64 (en:Nat)):=h2;have qB:=hB.drew;have Xd:=q2.cell;clear k0 k1 k2 kG kU f2 h0 h1 h2 hB b0 b1 b2 hB0;have k2:=Xd;clear Xd;generalize V.drew=U0 at *;refine aw 1 (.slice (some ⟨G,0,none⟩) n c) ?_;refine aw 2 (.int .i64 (v:Nat)) ?_;refine aw 3 (.pointer (some ⟨G,v,none⟩)) ?_;refine aw 4 (.int .u32 (mv:Nat)) ?_;refine aw 5 (.slice (some ⟨G,0,none⟩) n c) ?_;refine aw 6 (.int .i64 (k:Nat)) ?_;refine aw 7 (.pointer (some ⟨G,k,none⟩)) ?_;refine aw 8 (.int .u32 (mu:Nat)) ?_;refine aw 9 (.int .u32 (m1:Nat)) ?_;refine aw 10 (.int .i64 (k:Nat)) ?_;refine aH [0,11] (cA ?_ (cA ?_ aG))
  focus
   intro K' hK';go_simp;clear k2;refine hK'.o _ _ ak (fun ah=>?_);clear hK' K' ah;refine aH [11] (cA ?_ aG);intro K' hK';go_simp;refine(Cx.o _).af ?_;rintro e U1 ⟨rfl,eB⟩;subst eB;refine hK'.o _ _ ak (fun ah=>?_);clear hK' K' ah;generalize U1=U0 at *;refine aH [12] (cA ?_ aG);intro K' hK';go_simp;refine(Mw.o _).af ?_;rintro e U1 ⟨rfl,kk,eB⟩;(have p0:Boxed U1 w.heap.size 109 (.slice (some ⟨G,0,none⟩) n c):=by rw[eB];exact q0);(have p1:Boxed U1 (w.heap.size+1) 3 (.int .i64 (v:Nat)):=by rw[eB];exact q1);(have p2:Boxed U1 (w.heap.size+1+1) 3 (.int .i64 (en:Nat)):=by rw[eB];exact q2);(have pB:Below w.heap.size w U1:=by rw[eB];exact below_drewN qB kk);(have pD:KeepsOthers V U1:=by rw[eB];exact OL hD kk);refine hK'.o _ _ (by rw[eB];exact ak) (fun ah=>?_);clear hK' K' eB q0 q1 q2 qB hD ak;have ak:=ah;have q0:=p0;have q1:=p1;have q2:=p2;have qB:=pB;have hD:=pD;clear ah p0 p1 p2 pB pD;clear U0;generalize U1=U0 at *
  rotate_left
  focus
   intro K' hK';go_simp;refine(Cx.o _).af ?_;rintro e U1 ⟨rfl,eB⟩;subst eB;refine hK'.o _ _ ak (fun ah=>?_);clear hK' K' ah;generalize U1=U0 at *;refine aH [0,12] (cA ?_ (cA ?_ aG))
   focus
    intro K' hK';go_simp;clear k2;refine hK'.o _ _ ak (fun ah=>?_);clear hK' K' ah;refine aH [12] (cA ?_ aG);intro K' hK';go_simp;refine(Mw.o _).af ?_;rintro e U1 ⟨rfl,kk,eB⟩;(have p0:Boxed U1 w.heap.size 109 (.slice (some ⟨G,0,none⟩) n c):=by rw[eB];exact q0);(have p1:Boxed U1 (w.heap.size+1) 3 (.int .i64 (v:Nat)):=by rw[eB];exact q1);(have p2:Boxed U1 (w.heap.size+1+1) 3 (.int .i64 (en:Nat)):=by rw[eB];exact q2);(have pB:Below w.heap.size w U1:=by rw[eB];exact below_drewN qB kk);(have pD:KeepsOthers V U1:=by rw[eB];exact OL hD kk);refine hK'.o _ _ (by rw[eB];exact ak) (fun ah=>?_);clear hK' K' eB q0 q1 q2 qB hD ak;have ak:=ah;have q0:=p0;have q1:=p1;have q2:=p2;have qB:=pB;have hD:=pD;clear ah p0 p1 p2 pB pD;clear U0;generalize U1=U0 at *
   rotate_left
   focus
    intro K' hK';go_simp;refine(Mw.o _).af ?_;rintro e U1 ⟨rfl,kk,eB⟩;(have p0:Boxed U1 w.heap.size 109 (.slice (some ⟨G,0,none⟩) n c):=by rw[eB];exact q0);(have p1:Boxed U1 (w.heap.size+1) 3 (.int .i64 (v:Nat)):=by rw[eB];exact q1);(have p2:Boxed U1 (w.heap.size+1+1) 3 (.int .i64 (en:Nat)):=by rw[eB];exact q2);(have pB:Below w.heap.size w U1:=by rw[eB];exact below_drewN qB kk);(have pD:KeepsOthers V U1:=by rw[eB];exact OL hD kk);refine hK'.o _ _ (by rw[eB];exact ak) (fun ah=>?_);clear hK' K' eB q0 q1 q2 qB hD ak;have ak:=ah;have q0:=p0;have q1:=p1;have q2:=p2;have qB:=pB;have hD:=pD;clear ah p0 p1 p2 pB pD;clear k2;have k2:=q2.cell;clear U0;generalize U1=U0 at *;refine aH [0] (cA ?_ aG);intro K' hK';go_simp;clear k2;refine hK'.o _ _ ak (fun ah=>?_);clear hK' K' ah
  all_goals
   have f2:=q2.frozen;have k2:=q2.cell;refine aw 13 (.int .i64 ((en+le:Nat):Int)) ?_;refine aH [14] (cA ?_ aG);intro K' hK';go_simp;refine hK'.o _ _ ⟨(iR q0 (w.heap.size+1+1) 0 _ (by omega)).cell,(iR q1 (w.heap.size+1+1) 0 _ (by omega)).cell,(dO _ _ _ _ (fun e=>(show ¬w.heap.size+1+1=G by omega) (cU Addr.block e))).trans ak.2.2.1,(dO _ _ _ _ (fun e=>(show ¬w.heap.size+1+1=G by omega) (cU Addr.block e))).trans ak.2.2.2⟩ (fun _=>eK (by kernel_rfl) ?_ _);clear hK' K' ak;gi_wp2
   exact⟨(hD.trans (jo U0 _ _)).from _,iR q0 _ 0 _ (by omega),iR q1 _ 0 _ (by omega),by rw[HEk.o];exact q2.set _,qB.setCell (p:=⟨w.heap.size+1+1,0,none⟩) (by show w.heap.size<=w.heap.size+1+1;omega) _⟩
 case skip=>
  rintro k V hk hm h;rw[HEN.o k hm];exact h
 case done=>
  rintro D V hD ⟨h0,h1,h2,hB⟩ hK;have hc:=h2.cell;gi_wp2
  refine⟨by simp,.inl ⟨_,_,rfl,ze hK,?_⟩⟩;refine⟨_,zg rfl _ _ _,?_,hB.trans (sH (w:=w) (aq _) V D _ _ (by omega) hK rfl rfl)⟩;rw[<- ak8.o];rfl
end
section
attribute [local go_sem] Oper.semAt_some
variable {u:Nat}
def vX (P:List (List Nat)) (v u:Nat):List Nat:=((P.getD u []++P.getD v []).filter fun x=>decide (x≠u)).filter fun x=>decide (x≠v)
def fR (P:List (List Nat)) (v k:Nat):List (List Nat):=(List.range P.length).map fun u=>if u<k/\u∈P.getD v [] then vX P v u else P.getD u []
theorem Dk (P:List (List Nat)) (v k:Nat):(fR P v k).length=P.length:=by simp[fR]
theorem acm (P:List (List Nat)) (v:Nat):fR P v 0=P:=by
 apply rz (by simp[fR]);intro i h1 h2;simp[fR,bU,h2]
theorem acn {P:List (List Nat)} (hm:k∈P.getD v []):fR P v (k+1)=(fR P v k).set k (vX P v k):=by
 apply rz (by simp[fR]);intro i h1 h2;rw[List.getElem_set];simp only[fR,lV,Dc];by_cases h:k=i
 ·subst h;rw[aA ⟨by omega,hm⟩,aA rfl]
 ·rw[aD h];have e:(i<k+1/\i∈P.getD v [])↔(i<k/\i∈P.getD v []):=⟨fun ⟨a,b⟩=>⟨by omega,b⟩,fun ⟨a,b⟩=>⟨by omega,b⟩⟩;simp only[e]
theorem aco {P:List (List Nat)} (hm:¬k∈P.getD v []):fR P v (k+1)=fR P v k:=by
 apply qd;intro i hi;have e:(i<k+1/\i∈P.getD v [])↔(i<k/\i∈P.getD v []):=⟨fun ⟨a,b⟩=>⟨by rcases cT i k with h |h;exact h;exact absurd (show i=k by omega) (fun e=>hm (e▸b)),b⟩,fun ⟨a,b⟩=>⟨by omega,b⟩⟩;simp only[e]
theorem acp {P:List (List Nat)} (hu:u<P.length) (h:¬(u<k/\u∈P.getD v [])):(fR P v k).getD u []=P.getD u []:=by
 have h1:u<(fR P v k).length:=by rw[Dk];exact hu
 have e:(fR P v k).getD u []=(fR P v k)[u]:=by rw[bU,a8 h1];rfl
 rw[e];simp only[fR,lV,Dc];rw[aD h]
def qg (P:List (List Nat)) (v:Nat):List (List Nat):=fR P v 8
theorem JX {β:Type} (g:Nat) (f:β ->List Nat):Own (fun s W=>b9 W g (f s)):=fun s X Y row hs hg hrow=>by
 refine(hg.block g hs.lt (fun e=>?_)).trans hs;obtain⟨o,ho,hc⟩:=hrow g e.symm;rw[hs] at ho;cases ho;cases hc
theorem VG {β:Type} {G B:Nat} (hB:w.heap.size<=B):OwnFrom B (fun (_:β) W=>w.grownBy W (some G)):=fun _ W W' row hs hg hr=>
 ⟨hg.os.trans hs.os,hg.tape.trans hs.tape,hg.output.trans hs.output,aL hs.size hg.size,fun k hk hne=>(hg.block k (aO hk hs.size) (fun e=>by
  have:=(hr k e.symm).1;omega)).trans (hs.block k hk hne)⟩
theorem aia (h:Below w.heap.size w w') (G:Nat):w.grownBy w' (some G):=⟨h.os,h.tape,h.output,h.size,fun k hk _=>h.block k hk⟩
theorem ZN {a b c:World} {G:Nat} (h:a.grownBy b (some G)) (k:b.grownBy c (some G)):a.grownBy c (some G):=
 ⟨k.os.trans h.os,k.tape.trans h.tape,k.output.trans h.output,aL h.size k.size,fun i hi hne=>(k.block i (aO hi h.size) hne).trans (h.block i hi hne)⟩
theorem ah9 (w:World) (G j:Nat) (y:Value):w.grownBy (w.setCell ⟨G,j,none⟩ y) (some G):=⟨rfl,rfl,rfl,by simp,fun k _ hne=>jq w ⟨G,j,none⟩ y k (fun e=>hne (cU some e))⟩
theorem ZO {a b:World} {G:Nat} (h:a.grownBy b (some G)):a.grownBy b.drew (some G):=⟨h.os,h.tape,h.output,h.size,h.block⟩
theorem acu (G n c v:Nat) (P:List (List Nat)) (w:World) (hn:P.length=n) (h8:n<=8) (hU:b9 w G (P.map az)) (hP:∀p∈P,∀u∈p,u<n) (hv:v<n) (DN:¬v∈P.getD v []):
  Calls Tryz.prog 196 #[.slice (some ⟨G,0,none⟩) n c,.int .i64 (v:Nat)] w fun e w'=>(∃r,e=.returned r)/\b9 w' G ((qg P v).map az)/\w.grownBy w' (some G):=by
 refine(fZ (n:=6)).1 ?_;have rR:∀p∈P,∀u∈p,u<8:=fun p hp u hu=>by have:=hP p hp u hu;omega
 have hs:=Ai rR v;have hw0:=hU.lt
 have IY:Hid (∀k,k∈P.getD v [] ->k<n):=fun k hk=>by
  rw[bU,a8 (by omega)] at hk;exact hP _ (bM _) k hk
 have CW:Hid (∀(V:World) (k u:Nat),u< n ->¬(u<k/\u∈P.getD v []) ->b9 V G ((fR P v k).map az) ->V.cell? ⟨G,u,none⟩=some (.int .u32 (az (P.getD u []):Nat))/\V.frozen? ⟨G,u,none⟩=false):=fun V k u hu hne hR=>by
  have h1:u<(fR P v k).length:=by rw[Dk];omega
  have:=hR.cell u (by rw[cX];exact h1);rw[BC h1,acp (by omega) hne] at this;exact⟨this,hR.fz u⟩
 have jV:Hid (∀(V:World) (k:Nat),k∈P.getD v [] ->b9 V G ((fR P v k).map az) ->b9 (V.setCell ⟨G,k,none⟩ (.int .u32 (az (vX P v k):Nat))) G ((fR P v (k+1)).map az)):=fun V k hm hR=>by
  have:=hR.set k (az (vX P v k));rwa [acn hm,A5]
 have gG:Hid (∀k,¬k∈P.getD v [] ->fR P v (k+1)=fR P v k):=fun k h=>aco h;have yV:Hid (∀k,¬(v<k/\v∈P.getD v [])):=fun k h=>DN h.2;have IU:=hid (fun u=>Rm (P.getD u []) (P.getD v []) (Ai rR u) hs);have Cz:=hid (fun (u:Nat) (hu:u<8) (U:World)=>FZ (P.getD u []++P.getD v []) u U (aaW (Ai rR u) hs) hu);have Aw:Hid (∀(u:Nat) (U:World),Calls Tryz.prog 145 #[.int .u32 (az ((P.getD u []++P.getD v []).filter fun x=>decide (x≠u)):Nat),.int .i64 (v:Nat)] U fun e w'=>e=.returned (.int .u32 (az (vX P v u):Nat))/\w'=U):=fun u U=>FZ _ v U (H3 (aaW (Ai rR u) hs) _) (by omega);have jf:b9 w G ((fR P v 0).map az):=by rw[acm];exact hU
 have pO:qg P v=fR P v 8:=rfl;rw[pO];have Mm:=hid (CW.o w 0 v hv (yV.o 0) jf);generalize K5:P.getD v []=bv at *;have xz:=hid K5;clear hU hP rR pO DN K5;refine sG Tryz.func196 rfl trivial ?_ rfl;simp only[Tryz.ntmps196,lR,dI,k8,Nat.reduceAdd,Nat.reduceSub,lX,lW,lS,k9,gY,eE];obtain⟨W0,hW0⟩:∃W0,W0=(w.alloc (.cells #[.slice (some ⟨G,0,none⟩) n c] 109)).alloc (.cells #[.int .i64 (v:Nat)] 3):=⟨_,rfl⟩;have b0:Boxed W0 w.heap.size 109 (.slice (some ⟨G,0,none⟩) n c):=by rw[hW0];exact(aY w _ _).alloc _
 have b1:Boxed W0 (w.heap.size+1) 3 (.int .i64 (v:Nat)):=by
  have h:=aY (w.alloc (.cells #[.slice (some ⟨G,0,none⟩) n c] 109)) 3 (.int .i64 (v:Nat));rw[di] at h;rw[hW0];exact h
 have hB0:Below w.heap.size w W0:=by
  rw[hW0];exact((au _ w).alloc (aq _) _).alloc (by simp) _
 have k0:=b0.cell;have k1:=b1.cell;have kG:=(hB0.cell (p:=⟨G,v,none⟩) hw0).trans Mm.o.1;rw[hW0] at k0 k1 kG;gi_wp2
 rw[<- hW0];clear k0 k1 kG hW0;have wA:w.heap.size+1<W0.heap.size:=b1.lt
 refine Bc (by omega) bv hs rfl rfl
  (fun k V=>Boxed V w.heap.size 109 (.slice (some ⟨G,0,none⟩) n c)/\Boxed V (w.heap.size+1) 3 (.int .i64 (v:Nat))/\b9 V G ((fR P v k).map az)/\w.grownBy V (some G))
  (eC (fD (iW _ _ (fun _=>_)) _) (eC (fD (iW _ _ (fun _=>_)) _) (eC (fD (JX _ (fun k:Nat=>(fR P v k).map az)) _) (VG (by omega)))))
  ⟨b0,b1,jf.aa hB0 hw0,aia hB0 G⟩
  (fun k=> {tmps:= #[.slice (some ⟨G,0,none⟩) n c,.int .i64 (v:Nat),.pointer (some ⟨w.heap.size,0,none⟩),.pointer (some ⟨w.heap.size+1,0,none⟩),.int .i64 (k:Nat),.slice (some ⟨G,0,none⟩) n c,.int .i64 (v:Nat),.pointer (some ⟨G,v,none⟩),.int .u32 (az bv:Nat),.func (.func 144) #[.int .u32 (az bv:Nat)] #[],.int .i64 (k:Nat),undef,undef,undef,undef,undef,undef,undef,undef,undef,undef,undef,undef,undef,undef,undef,undef],defers:=[]}) ?assign ?body ?skip ?done
 case assign=>
  intro l k W K hK;gi_wp2
  exact hK
 case body=>
  rintro l k V hk hm ⟨h0,h1,h2,hB⟩;have hkn:=IY.o k hm;have hkv:k≠v:=fun e=>yV.o (k+1) ⟨by omega,e▸hm⟩;have k0:=h0.cell;have k1:=h1.cell;have kG:=(CW.o V k v hv (yV.o k) h2).1;rw[xz.o] at kG;have Hd:=CW.o V k k hkn (by omega) h2;have Zt:=IU.o k;have akV:=hid (Cz.o k hk);have akU:=hid (Aw.o k);have tH:=hid (fun U hU=>jV.o U k hm hU);generalize az ((P.getD k []++bv).filter fun x=>decide (x≠k))=m2 at *;generalize az (P.getD k []++bv)=m1 at *;generalize az (P.getD k [])=mu at *;generalize az (vX P v k)=m3 at *;generalize az bv=mv at *;gi_wp2_with fail
  refine vU (fun u=>u.cell? ⟨w.heap.size,0,none⟩=some (.slice (some ⟨G,0,none⟩) n c)/\u.cell? ⟨w.heap.size+1,0,none⟩=some (.int .i64 (v:Nat))/\u.cell? ⟨G,v,none⟩=some (.int .u32 (mv:Nat))) (by kernel_rfl) (by kernel_rfl) (fun ⟨_,_,h⟩=>h) ⟨k0,k1,kG⟩ ?_;intro ak;have hD:KeepsOthers V V.drew:=xK V;have q0:Boxed V.drew w.heap.size 109 (.slice (some ⟨G,0,none⟩) n c):=h0;have q1:Boxed V.drew (w.heap.size+1) 3 (.int .i64 (v:Nat)):=h1;have q2:b9 V.drew G ((fR P v k).map az):=h2;have qB:=ZO hB;have kU:V.drew.cell? ⟨G,k,none⟩=some (.int .u32 (mu:Nat)):=Hd.1;have fU:V.drew.frozen? ⟨G,k,none⟩=false:=Hd.2;clear k0 k1 kG Hd h0 h1 h2 hB b0 b1 hB0;generalize V.drew=U0 at *;refine aw 0 (.slice (some ⟨G,0,none⟩) n c) ?_;refine aw 1 (.int .i64 (k:Nat)) ?_;refine aw 2 (.slice (some ⟨G,0,none⟩) n c) ?_;refine aw 3 (.int .i64 (k:Nat)) ?_;refine aw 4 (.pointer (some ⟨G,k,none⟩)) ?_;refine aw 6 (.slice (some ⟨G,0,none⟩) n c) ?_;refine aw 7 (.int .i64 (v:Nat)) ?_;refine aw 8 (.pointer (some ⟨G,v,none⟩)) ?_;refine aw 9 (.int .u32 (mv:Nat)) ?_;refine aw 11 (.int .i64 (k:Nat)) ?_;refine aw 13 (.int .i64 (v:Nat)) ?_;refine aH [5] (cA ?_ aG);intro K' hK';go_simp;refine hK'.o _ _ ak (fun ah=>?_);clear hK' K' ah;refine aw 10 (.int .u32 (m1:Nat)) ?_;refine aH [12] (cA ?_ aG);intro K' hK';go_simp;refine(akV.o _).af ?_;rintro e U1 ⟨rfl,eB⟩;subst eB;refine hK'.o _ _ ak (fun ah=>?_);clear hK' K' ah;generalize U1=U0 at *;refine aH [14] (cA ?_ aG);intro K' hK';go_simp;refine(akU.o _).af ?_;rintro e U1 ⟨rfl,eB⟩
  subst eB;refine hK'.o _ _ ak (fun ah=>?_);clear hK' K' ah;generalize U1=U0 at *;refine aw 15 (.pointer (some ⟨G,k,none⟩)) ?_;refine aH [16] (cA ?_ aG);intro K' hK';go_simp;refine hK'.o _ _ ⟨(iR q0 G k _ (by omega)).cell,(iR q1 G k _ (by omega)).cell,(dO _ _ _ _ (fun e=>hkv (cU Addr.off e))).trans ak.2.2⟩ (fun _=>eK (by kernel_rfl) ?_ _);clear hK' K' ak;gi_wp2
  exact⟨(hD.trans (jo U0 _ _)).from _,iR q0 G k _ (by omega),iR q1 G k _ (by omega),tH.o U0 q2,ZN qB (ah9 U0 G k _)⟩
 case skip=>
  rintro k V hk hm h;rw[gG.o k hm];exact h
 case done=>
  rintro D V hD ⟨h0,h1,h2,hB⟩ hK;gi_wp2
  refine⟨by simp,.inl ⟨_,_,rfl,ze hK,?_⟩⟩;refine⟨_,results_none rfl _ _ _,⟨_,rfl⟩,JX G (fun (_:Unit)=>(fR P v 8).map az) () V _ (some D) h2 (grownBy_putObj' V D _) (fun r e=>by cases e;exact⟨_,hK,rfl⟩),?_⟩;exact VG (β:=Unit) (aq _) () V _ (some D) hB (grownBy_putObj' V D _) (fun r e=>by cases e;exact⟨by omega,_,hK,rfl⟩)
end
section
attribute [local go_sem] Oper.semAt_some
def iP (f:Nat ->Nat) (s:List Nat):Nat ->Option (Nat×Nat)
 |0=>none
 |k+1=>if k∈s then(match iP f s k with |none=>some (k,f k) |some (b,m)=>if f k<m then some (k,f k) else some (b,m)) else iP f s k
def Hv:Option (Nat×Nat) ->Nat
 |none=>0
 |some (b,_)=>b
def QZ:Option (Nat×Nat) ->Int
 |none=> -1
 |some (_,m)=>(m:Int)
theorem aiy (h:¬k∈s):iP f s (k+1)=iP f s k:=by rw[iP,aD h]
theorem aiB (h:k∈s) (e:iP f s k=none):iP f s (k+1)=some (k,f k):=by rw[iP,aA h,e]
theorem aiA {b:Nat} (h:k∈s) (e:iP f s k=some (b,m)) (hl:f k<m):iP f s (k+1)=some (k,f k):=by rw[iP,aA h,e];exact aA hl
theorem aiz {b:Nat} (h:k∈s) (e:iP f s k=some (b,m)) (hl:¬f k<m):iP f s (k+1)=some (b,m):=by rw[iP,aA h,e];exact aD hl
def jg (P:List (List Nat)) (s:List Nat):Nat:=Hv (iP (np P) s 8)
theorem agI (P:List (List Nat)) (v:Nat):np P v<=32:=by
 have:=LC P v 8;rw[np];omega
theorem aiX (G n c:Nat) (P:List (List Nat)) (s:List Nat) (w:World) (hn:P.length=n) (h8:n<=8) (hU:b9 w G (P.map az)) (hP:∀p∈P,∀u∈p,u<n) (hs:∀u∈s,u<n):
  Calls Tryz.prog 195 #[.slice (some ⟨G,0,none⟩) n c,.int .u32 (az s:Nat)] w fun e w'=>e=.returned (.int .i64 (jg P s:Nat))/\Below w.heap.size w w':=by
 refine(fZ (n:=6)).1 ?_;have DW:∀u∈s,u<8:=fun u hu=>by have:=hs u hu;omega
 have hw0:=hU.lt;have HL:=hid (fun (V:World) (hB:Below w.heap.size w V) (k:Nat) (hk:k<n)=>agH G n c k P V hn h8 (hU.aa hB hw0) hP hk);have HN:=hid (fun k (h:¬k∈s)=>aiy (f:=np P) h);have HF:=hid (fun k (h:k∈s) e=>aiB (f:=np P) h e);have HS:=hid (fun k b m (h:k∈s) e hl=>aiA (f:=np P) (b:=b) (m:=m) h e hl);have HM:=hid (fun k b m (h:k∈s) e hl=>aiz (f:=np P) (b:=b) (m:=m) h e hl);have yN:=hid hs;have kM:jg P s=Hv (iP (np P) s 8):=rfl;rw[kM];have hf0:iP (np P) s 0=none:=rfl;have mP:=hid (fun k=>agI P k);generalize iP (np P) s=fw at *;generalize np P=lk at *;clear hU hP hs kM;refine sG Tryz.func195 rfl trivial ?_ rfl;simp only[Tryz.ntmps195,lR,dI,k8,Nat.reduceAdd,Nat.reduceSub,lX,lW,lS,k9,gY,eE];obtain⟨W0,hW0⟩:∃W0,W0=((w.alloc (.cells #[.slice (some ⟨G,0,none⟩) n c] 109)).alloc (.cells #[.int .i64 0] 3)).alloc (.cells #[.int .i64 (-1)] 3):=⟨_,rfl⟩;have b0:Boxed W0 w.heap.size 109 (.slice (some ⟨G,0,none⟩) n c):=by rw[hW0];exact((aY w _ _).alloc _).alloc _
 have b1:Boxed W0 (w.heap.size+1) 3 (.int .i64 (Hv (fw 0):Nat)):=by
  have h:=(aY (w.alloc (.cells #[.slice (some ⟨G,0,none⟩) n c] 109)) 3 (.int .i64 0)).alloc (.cells #[.int .i64 (-1)] 3);rw[di] at h;rw[hW0,hf0];exact h
 have b2:Boxed W0 (w.heap.size+1+1) 3 (.int .i64 (QZ (fw 0))):=by
  have h:=aY ((w.alloc (.cells #[.slice (some ⟨G,0,none⟩) n c] 109)).alloc (.cells #[.int .i64 0] 3)) 3 (.int .i64 (-1));rw[di,di] at h;rw[hW0,hf0];exact h
 have hB0:Below w.heap.size w W0:=by
  rw[hW0];exact(((au _ w).alloc (aq _) _).alloc (by simp) _).alloc (by simp;omega) _
 gi_wp2
 rw[<- hW0];clear hW0;have wA:w.heap.size+1+1<W0.heap.size:=b2.lt
 refine Bc (by omega) s DW rfl rfl
  (fun k V=>Boxed V w.heap.size 109 (.slice (some ⟨G,0,none⟩) n c)/\Boxed V (w.heap.size+1) 3 (.int .i64 (Hv (fw k):Nat))/\Boxed V (w.heap.size+1+1) 3 (.int .i64 (QZ (fw k)))/\Below w.heap.size w V)
  (eC (fD (iW _ _ (fun _=>_)) _) (eC (fD (iW _ _ (fun k:Nat=>.int .i64 (Hv (fw k):Nat))) _) (eC (fD (iW _ _ (fun k:Nat=>.int .i64 (QZ (fw k)))) _) (xC (aq _) (by omega)))))
  ⟨b0,b1,b2,hB0⟩
  (fun k=> {tmps:= #[.slice (some ⟨G,0,none⟩) n c,.int .u32 (az s:Nat),.pointer (some ⟨w.heap.size,0,none⟩),undef,.int .i64 0,.pointer (some ⟨w.heap.size+1,0,none⟩),.pointer (some ⟨w.heap.size+1+1,0,none⟩),.int .i64 (k:Nat),undef,.int .u32 (az s:Nat),.func (.func 144) #[.int .u32 (az s:Nat)] #[],.int .i64 (k:Nat),undef,undef,undef,undef,undef,undef,undef,undef,undef,undef,undef,undef,undef],defers:=[]}) ?assign ?body ?skip ?done
 case assign=>
  intro l k W K hK;gi_wp2
  exact hK
 case body=>
  rintro l k V hk hm ⟨h0,h1,h2,hB⟩;have Sw:=hid (HL.o V hB k (yN.o k hm));have alN:=mP.o k;have HFk:=hid (HF.o k hm);have L9:=hid (fun b m=>HS.o k b m hm);have HMk:=hid (fun b m=>HM.o k b m hm);have k0:=h0.cell;have xz:=hid hB;have HQ:=hid (And.intro h0 (And.intro h1 h2));have hlt2:=h2.lt;clear h0 h1 h2 hB b0 b1 b2 hB0;generalize fw k=st at *;generalize lk k=lv at *;have hlv:¬(lv:Int)<0:=by omega
  cases st with
  |none=>
   have he:=HFk.o rfl;have HE:=hid he;clear he;gi_wp2_with (refine⟨trivial,?_⟩;gi_at_call 233;refine(JA l (fZ.2 Sw.o)).af ?_;rintro e V2 ⟨rfl,hb⟩;have q0:=uT HQ.o.1 hb (by omega);have q1:=uT HQ.o.2.1 hb (by omega);have q2:=uT HQ.o.2.2 hb hlt2;have j1:=q1.cell;have j2:=q2.cell;have g1:=q1.frozen;have g2:=q2.frozen;have Xe:V2.cell? ⟨w.heap.size+1+1,0,none⟩=some (.int .i64 (-1)):=j2;clear j2)
   refine⟨((OJ hb).trans ((jo V2 _ _).trans (jo _ _ _))).from _,iR (iR q0 _ 0 _ (by omega)) _ 0 _ (by omega),?_,?_,?_⟩
   ·rw[HE.o];exact iR (q1.set _) _ 0 _ (by omega)
   ·rw[HE.o];exact(iR q2 _ 0 _ (by omega)).set _
   ·exact((xz.o.trans (hb.af xz.o.size)).setCell (p:=⟨w.heap.size+1,0,none⟩) (by simp) _).setCell (p:=⟨w.heap.size+1+1,0,none⟩) (by show w.heap.size<=w.heap.size+1+1;omega) _
  |some bm=>
   obtain⟨b,m⟩:=bm;(have hm0:¬(m:Int)<0:=by omega);by_cases kg:lv<m
   ·have he:=L9.o b m rfl kg;have HE:=hid he;(have aht:(lv:Int)<(m:Int):=by omega);clear he;gi_wp2_with (refine⟨trivial,?_⟩;gi_at_call 233;refine(JA l (fZ.2 Sw.o)).af ?_;rintro e V2 ⟨rfl,hb⟩;have q0:=uT HQ.o.1 hb (by omega);have q1:=uT HQ.o.2.1 hb (by omega);have q2:=uT HQ.o.2.2 hb hlt2;have j1:=q1.cell;have j2:=q2.cell;have g1:=q1.frozen;have g2:=q2.frozen;have Xe:V2.cell? ⟨w.heap.size+1+1,0,none⟩=some (.int .i64 (m:Nat)):=j2;clear j2)
    refine⟨((OJ hb).trans ((jo V2 _ _).trans (jo _ _ _))).from _,iR (iR q0 _ 0 _ (by omega)) _ 0 _ (by omega),?_,?_,?_⟩
    ·rw[HE.o];exact iR (q1.set _) _ 0 _ (by omega)
    ·rw[HE.o];exact(iR q2 _ 0 _ (by omega)).set _
    ·exact((xz.o.trans (hb.af xz.o.size)).setCell (p:=⟨w.heap.size+1,0,none⟩) (by simp) _).setCell (p:=⟨w.heap.size+1+1,0,none⟩) (by show w.heap.size<=w.heap.size+1+1;omega) _
   ·have he:=HMk.o b m rfl kg;have HE:=hid he;(have aht:¬(lv:Int)<(m:Int):=by omega);clear he kg;gi_wp2_with (refine⟨trivial,?_⟩;gi_at_call 233;refine(JA l (fZ.2 Sw.o)).af ?_;rintro e V2 ⟨rfl,hb⟩;have q0:=uT HQ.o.1 hb (by omega);have q1:=uT HQ.o.2.1 hb (by omega);have q2:=uT HQ.o.2.2 hb hlt2;have j2:=q2.cell;have Xe:V2.cell? ⟨w.heap.size+1+1,0,none⟩=some (.int .i64 (m:Nat)):=j2;clear j2)
    exact⟨(OJ hb).from _,q0,by rw[HE.o];exact q1,by rw[HE.o];exact q2,xz.o.trans (hb.af xz.o.size)⟩
 case skip=>
  rintro k V hk hm h;rw[HN.o k hm];exact h
 case done=>
  rintro D V hD ⟨h0,h1,h2,hB⟩ hK;have hc:=h1.cell;gi_wp2
  refine⟨by simp,.inl ⟨_,_,rfl,ze hK,?_⟩⟩;exact⟨_,zg rfl _ _ _,rfl,hB.trans (sH (w:=w) (aq _) V D _ _ (by omega) hK rfl rfl)⟩
end
variable {j:Nat}
def oK (w:World) (g:Nat) (l:List Value):Prop:=w.heap[g]? =some (.cells l.toArray 27 (0,0))
theorem oK.cell {l:List Value} (h:oK w g l) (j:Nat) (hj:j<l.length):w.cell? ⟨g,j,none⟩=some l[j]:=by
 rw[bX w g j _ _ (0,0) h];simp[hj]
theorem oK.fz {l:List Value} (h:oK w g l) (j:Nat):w.frozen? ⟨g,j,none⟩=false:=kZ w g j _ _ h
theorem oK.lt {l:List Value} (h:oK w g l):g<w.heap.size:=(dm.1 h).1
theorem oK.aa {b:Nat} {l:List Value} (h:oK w g l) (hb:Below b w w') (hg:g<b):oK w' g l:=(hb.block g hg).trans h
theorem oK.set {l:List Value} (h:oK w g l) (j:Nat) (y:Value):oK (w.setCell ⟨g,j,none⟩ y) g (l.set j y):=by
 have h2:=jY w g j _ _ y h;rw[oK,h2];simp
theorem Tryz.infoInts1:(Tryz.prog.info? 27).map (fun i=>(i.zero,i.size,i.bytes))=some (some (.slice none 0 0),1,24):=by kernel_rfl
theorem agp (n:Nat):(madeCells (Value.slice none 0 0).cells (n*1)).toList=List.replicate n (Value.slice none 0 0):=by
 rw[show (Value.slice none 0 0).cells= #[Value.slice none 0 0] from rfl,E7,nW]
def fj (s:List Nat):List Int:=iL (eo s 8)
def Iu (w:World) (P:List (List Nat)) (l:List Value) (i:Nat):Prop:=l.length=P.length/\∀j (hj:j<P.length),j< i ->∃d cd,l[j]? =some (.slice d (fj P[j]).length cd)/\aC w d (fj P[j])
theorem Iu.aa {P:List (List Nat)} {l:List Value} (h:Iu w P l i) (hb:Below w.heap.size w w'):Iu w' P l i:=⟨h.1,fun j hj hi=>by
 obtain⟨d,cd,h1,h2⟩:=h.2 j hj hi;exact⟨d,cd,h1,h2.aa hb⟩⟩
theorem aC.off {d:Option Addr} (h:aC w d l) (hne:∀g' o',d=some ⟨g',o',none⟩ ->l≠[] ->g'≠g):aC (w.setCell ⟨g,j,none⟩ y) d l:=fun k hk=>by
 obtain⟨g',o',h1,h2,h3⟩:=h k hk;have hn:=hne g' o' h1 (fun e=>by rw[e] at hk;simp at hk);refine⟨g',o',h1,by simpa using h2,?_⟩;rw[<- h3];have e:=jq w ⟨g,j,none⟩ y g' (by show g'≠g;exact hn);exact lQ e
theorem Xh {d:Option Addr} {vs:List Value} (h:aC w d l) (hg:oK w g vs) (hv:∀v∈vs,∃a n c,v=.slice a n c):∀g' o',d=some ⟨g',o',none⟩ ->l≠[] ->g'≠g:=fun g' o' hd hl e=>by
 subst e;have hp:0<l.length:=List.length_pos_iff.2 hl;obtain⟨g2,o2,h1,h2,h3⟩:=h 0 hp;rw[hd] at h1;cases h1;rw[bX w g' _ _ _ (0,0) hg] at h3;rw[List.getElem?_toArray] at h3;obtain⟨a,n,c,e⟩:=hv _ (MP h3);cases e
def Slv (l:List Value):Prop:=∀v∈l,∃a n c,v=Value.slice a n c
theorem WS (a:Option Addr) (ca:Nat) (P:List (List Nat)) (w:World) (hP:∀p∈P,∀u∈p,u<8) (hn:P.length<=5000) (hS:∀k (h:k<P.length),∃g o,a=some ⟨g,o,none⟩/\g<w.heap.size/\w.cell? ⟨g,o+k,none⟩=some (.int .u32 (az P[k]:Nat))):
  Calls Tryz.prog 146 #[.slice a P.length ca] w fun e w'=>∃G,e=.returned (.slice (some ⟨G,0,none⟩) P.length P.length)/\w.heap.size<=G/\fC w' (some ⟨G,0,none⟩) (P.map fj)/\Below w.heap.size w w':=by
 obtain⟨i0,bY,hz0,hz1,hz2⟩:=dH Tryz.infoInts1;have HS:=hid hS;have HP:=hid hP;have yZ:=hid (fun (s:List Nat) (hs:∀u∈s,u<8) (U:World)=>WT s U hs);clear hS hP;go_enter Tryz.func146,Tryz.ntmps146
 go_wp2_with (first
  |(at_make;refine mR _ rfl _ _ 23 rfl w.heap.size 27 i0 (.slice none 0 0) 1 Tryz.underlying23 bY hz0 hz1 .i64 .i64 _ _ P.length rfl rfl (by go_num) (by go_num) (by rw[hz2];omega) (by unfold maxLen;omega) (aq _) ?_;intro w2 hown2 hgrow2))
 have hb2:=pS hown2;rw[agp] at hb2;have bB:Hid (Below w.heap.size w w2):=(au _ w).grown hgrow2 (aq _) (fun k e=>by cases e);have HI:Hid (oK w2 w.heap.size (List.replicate P.length (.slice none 0 0))):=hb2;clear hown2 hgrow2 hb2;go_wp2_with fail
 go_loopw [11] (fun iv wr=>∃(i:Nat) (vs:List Value),i<=P.length/\iv=.int .i64 i/\Hid (oK wr w.heap.size vs)/\Hid (Iu wr P vs i)/\Hid (Slv vs)/\Hid (Below w.heap.size w wr)) (fun iv _=>P.length - (intOf iv).toNat)
 case atStart=>exact⟨0,_,aU _,rfl,HI,⟨by simp,fun j _ h=>absurd h (by omega)⟩,fun v hv=>⟨none,0,0,(List.mem_replicate.1 hv).2⟩,bB⟩
 case round=>
  obtain⟨i,vs,hi,rfl,HR,R3,RY,HB⟩:=hrel;clear HI bB;by_cases hlt:i<P.length
  ·obtain⟨g,o,rfl,hg,c0⟩:=HS.o i hlt;have c1:=(HB.o.cell (p:=⟨g,o+i,none⟩) hg).trans c0;have HL:=hid (yZ.o P[i] (HP.o _ (bM hlt)));have hlv:=R3.o.1;clear c0;go_wp2_with fail
   refine(HL.o _).af ?_;rintro e w3 ⟨v,rfl,hv,hb3⟩;obtain⟨d,cd,rfl,hI⟩:=hv.ints;have km:=HR.o.aa hb3 HR.o.lt;have Zl:=R3.o.aa hb3;have k3:=km.cell i (by omega);have f3:=km.fz i;have CX:=hid ((HB.o.trans (hb3.af HB.o.size)).setCell (p:=⟨w.heap.size,i,none⟩) (aq _) (.slice d (fj P[i]).length cd));have jD:=hid (km.set i (.slice d (fj P[i]).length cd))
   have akZ:Hid (Slv (vs.set i (.slice d (fj P[i]).length cd))):=fun x hx=>by
    rcases Tc hx with h |h
    ·exact RY.o x h
    ·exact⟨_,_,_,h⟩
   have ak2:Hid (Iu (w3.setCell ⟨w.heap.size,i,none⟩ (.slice d (fj P[i]).length cd)) P (vs.set i (.slice d (fj P[i]).length cd)) (i+1)):=by
    refine⟨by rw[tY];exact hlv,fun j hj pH=>?_⟩;by_cases e:j=i
    ·subst e;exact⟨d,cd,by rw[List.getElem?_set_self (by omega)],aC.off hI (Xh hI km RY.o)⟩
    ·obtain⟨d',wO,h1,h2⟩:=Zl.2 j hj (by omega);exact⟨d',wO,by rw[MR (fun e'=>e e'.symm)];exact h1,aC.off h2 (Xh h2 km RY.o)⟩
   rw[show iL (eo P[i] 8)=fj P[i] from rfl];generalize (fj P[i]).length=ln at *;generalize vs[i]'(by omega)=z at *;clear km Zl hb3 hI hv c1;go_wp2;go_roundw
   case rel=>exact⟨i+1,_,by omega,by go_num,jD,ak2,akZ,CX⟩
   case measure=>simp[intOf];omega
  ·obtain rfl:i=P.length:=by omega
   have cC:Hid (fC wr (some ⟨w.heap.size,0,none⟩) (P.map fj)):=fun k hk=>by
    rw[cX] at hk;obtain⟨d,cd,h1,h2⟩:=R3.o.2 k hk hk;obtain⟨h3,h4⟩:=nY.1 h1;refine⟨w.heap.size,0,d,cd,rfl,HR.o.lt,?_,by rw[lV];exact h2⟩;rw[bD,HR.o.cell k h3,h4,lV]
   go_wp2;go_ret;exact⟨w.heap.size,rfl,aq _,cC.o,HB.o⟩
variable {u:Nat} {nv v':Value} {w9 wr wr':World}
def uX (w:World) (B:Nat) (v:Value) (l:List Nat):Prop:=w.ownsRow B 115 1 v l.length (l.map uv)
theorem uX.own {B:Nat} {v:Value} {l:List Nat} (h:uX w B v l):∀k,v.ownBlock=some k ->B<=k:=by
 intro k hk;rcases h.2 with ⟨rfl,_⟩ |⟨g,cap,cur,rfl,h2,_⟩
 ·cases hk
 ·cases hk;exact h2
theorem uX.slv {B:Nat} {v:Value} {l:List Nat} (h:uX w B v l):∃d n c,v=.slice d n c:=by
 rcases h.2 with ⟨rfl,_⟩ |⟨g,cap,cur,rfl,h2,_⟩
 ·exact⟨_,_,_,rfl⟩
 ·exact⟨_,_,_,rfl⟩
theorem VE {W:World} {B1 B2:Nat} {e1 e2:TypeId} {v1 v2:Value} {n1 n2:Nat} {x1 x2:List Value} (h1:W.ownsRow B1 e1 1 v1 n1 x1) (h2:W.ownsRow B2 e2 1 v2 n2 x2) (he:e1≠e2):v2.ownBlock=none∨v2.ownBlock≠v1.ownBlock:=by
 rcases h2.2 with ⟨rfl,_⟩ |⟨g,cap,cur,rfl,_,hg,_⟩
 ·exact .inl rfl
 ·refine .inr fun e=>?_;rcases h1.2 with ⟨rfl,_⟩ |⟨g',cap',cur',rfl,_,iO,_⟩
  ·cases e
  ·have e':g=g':=mS e;subst e';rw[hg] at iO;injection iO with h3;injection h3 with _ h4 _;exact he h4.symm
theorem VF {W:World} {B G:Nat} {e:TypeId} {v:Value} {x:List Value} (h:W.ownsRow B e 1 v n x) (hG:G<B):v.ownBlock=none∨v.ownBlock≠some G:=by
 rcases h.2 with ⟨rfl,_⟩ |⟨g,cap,cur,rfl,hB,_⟩
 ·exact .inl rfl
 ·exact .inr fun e=>by
   have e':g=G:=mS e;omega
theorem QO {V:World} {G:Nat} {row:Option Nat} (h:w.grownBy V (some G)) (hg:V.grownBy V' row) (hr:∀r,row=some r ->w.heap.size<=r):w.grownBy V' (some G):=
 ⟨hg.os.trans h.os,hg.tape.trans h.tape,hg.output.trans h.output,aL h.size hg.size,fun k hk hne=>(hg.block k (aO hk h.size) (fun e=>by
  have:=hr k e.symm;omega)).trans (h.block k hk hne)⟩
theorem Tryz.infoSet2:(Tryz.prog.info? 115).map (fun i=>(i.zero,i.size,i.bytes))=some (some (.int .u32 0),1,4):=by kernel_rfl
theorem abF {o:Oper} {a:Act} {K:Act ->World ->Prop} {Q:Exit ->Act ->World ->Prop} (s x:Operand)
  (ho:o.op=.call {callee:=.builtin .append,args:= #[s,x],argTypes:= #[109,109]}) (base:Nat) (v:Value) (l:List Nat) (f:Nat) (hs:a.eval s=v) (hown:uX w base v l) (g:Nat) (hx:a.eval x=.slice (some ⟨g,0,none⟩) 1 1) (hg:w.cell? ⟨g,0,none⟩=some (uv f)) (hlen:l.length+1<=100000) (hbase:base<=w.heap.size)
  (h:∀v' w',uX w' base v' (l++[f]) ->w.grownBy w' v.ownBlock ->K (a.put o.dst v') w'):o.wp Tryz.prog a w K Q:=by
 obtain⟨i0,bY,hz0,hz1,hz2⟩:=dH Tryz.infoSet2;refine wp_append_own _ s x 109 ho base 115 i0 (.int .u32 0) 1 4 Tryz.underlying109 bY hz0 hz1 hz2 rfl (by decide) v l.length _ hs hown ⟨g,0,none⟩ 1 1 [uv f] hx rfl ?_ ?_ (by unfold maxLen;omega) (by omega) hbase ?_
 ·intro j u hj;match j,hj with
  |0,hj=>cases hj;exact hg
  |j+1,hj=>simp at hj
 ·intro u hu;simp only[dG,kC,sF] at hu;subst hu;rfl
 ·intro v' w' h1 h2 _;refine h v' w' ?_ h2;rw[uX,cK,dL];exact h1
theorem abH {o:Oper} {a:Act} {K:Act ->World ->Prop} {Q:Exit ->Act ->World ->Prop} (s x:Operand)
  (ho:o.op=.call {callee:=.builtin .append,args:= #[s,x],argTypes:= #[27,27]}) (base:Nat) (v:Value) (l:List Int) (f:Int) (hs:a.eval s=v) (hown:bA w base v l) (g:Nat) (hx:a.eval x=.slice (some ⟨g,0,none⟩) 1 1) (hg:w.cell? ⟨g,0,none⟩=some (.int .i64 f)) (hlen:l.length+1<=100000) (hbase:base<=w.heap.size)
  (h:∀v' w',bA w' base v' (l++[f]) ->w.grownBy w' v.ownBlock ->K (a.put o.dst v') w'):o.wp Tryz.prog a w K Q:=by
 obtain⟨i0,bY,hz0,hz1,hz2⟩:=dH Tryz.infoInt;refine wp_append_own _ s x 27 ho base 3 i0 (.int .i64 0) 1 8 Tryz.underlying27 bY hz0 hz1 hz2 rfl (by decide) v l.length _ hs hown ⟨g,0,none⟩ 1 1 [.int .i64 f] hx rfl ?_ ?_ (by unfold maxLen;omega) (by omega) hbase ?_
 ·intro j u hj;match j,hj with
  |0,hj=>cases hj;exact hg
  |j+1,hj=>simp at hj
 ·intro u hu;simp only[dG,kC,sF] at hu;subst hu;rfl
 ·intro v' w' h1 h2 _;refine h v' w' ?_ h2;rw[bA,cK,dL];exact h1
def ud:Nat ->List Nat
 |0=>[]
 |i+1=>i::ud i
theorem xO {x:Nat}:x∈ud i↔x<i:=by
 induction i with
 |zero=>simp[ud]
 |succ i ih=>rw[ud,dG,ih];omega
structure FlS where
 ord:List Nat
 bag:List (List Nat)
 lft:List Nat
 nei:List (List Nat)
def bt (P:List (List Nat)) (n:Nat):Nat ->FlS
 |0=>⟨[],[],ud n,P⟩
 |k+1=>⟨(bt P n k).ord++[jg (bt P n k).nei (bt P n k).lft],(bt P n k).bag++[jg (bt P n k).nei (bt P n k).lft::(bt P n k).nei.getD (jg (bt P n k).nei (bt P n k).lft) []],(bt P n k).lft.filter (fun u=>decide (u≠jg (bt P n k).nei (bt P n k).lft)),qg (bt P n k).nei (jg (bt P n k).nei (bt P n k).lft)⟩
structure qT (n:Nat) (P:List (List Nat)):Prop where
 len:P.length=n
 lt:∀p∈P,∀u∈p,u<n
 self:∀u,¬u∈P.getD u []
theorem qT.at {P:List (List Nat)} (h:qT n P) (v:Nat):∀u∈P.getD v [],u<n:=by
 by_cases hv:v<P.length
 ·rw[bU,a8 hv];exact h.lt _ (bM hv)
 ·rw[bU,iJ (by omega)];intro u hu;simp at hu
theorem Ov {P:List (List Nat)} {x:Nat}:x∈vX P v u↔(x∈P.getD u []∨x∈P.getD v [])/\x≠u/\x≠v:=by
 simp only[vX,dE,cI,MF];exact⟨fun ⟨⟨a,b⟩,c⟩=>⟨a,b,c⟩,fun ⟨a,b,c⟩=>⟨⟨a,b⟩,c⟩⟩
theorem qT.take {P:List (List Nat)} (h:qT n P) (v:Nat):qT n (qg P v):=by
 refine⟨by rw[qg,Dk];exact h.len,fun p hp u hu=>?_,fun u hu=>?_⟩
 ·obtain⟨i,hi,rfl⟩:=aW.1 hp;by_cases hc:i<8/\i∈P.getD v []
  ·rw[aA hc,Ov] at hu;exact hu.1.elim (h.at i u) (h.at v u)
  ·rw[aD hc] at hu;exact h.at i u hu
 ·by_cases hl:u<P.length
  ·have e:(qg P v).getD u []=if u<8/\u∈P.getD v [] then vX P v u else P.getD u []:=by
    rw[bU,a8 (by rw[qg,Dk];exact hl)];simp[qg,fR]
   rw[e] at hu;by_cases hc:u<8/\u∈P.getD v []
   ·rw[aA hc,Ov] at hu;exact hu.2.1 rfl
   ·rw[aD hc] at hu;exact h.self u hu
  ·rw[bU,iJ (by rw[qg,Dk];omega)] at hu;simp at hu
theorem Lp:∀ {k b m:Nat},iP f s k=some (b,m) ->b∈s
 |0,_,_,h=>by cases h
 |k+1,b,m,h=>by
  by_cases hk:k∈s
  ·rw[iP,aA hk] at h;cases hf:iP f s k with
   |none=>rw[hf] at h;cases h;exact hk
   |some x=>
    obtain⟨b',m'⟩:=x;rw[hf] at h;simp only at h;by_cases hl:f k<m'
    ·rw[aA hl] at h;cases h;exact hk
    ·rw[aD hl] at h;cases h;exact Lp hf
  ·rw[iP,aD hk] at h;exact Lp h
theorem Z9 {P:List (List Nat)} (h1:1<=n) (hs:∀u∈s,u<n):jg P s<n:=by
 rw[jg];cases h:iP (np P) s 8 with
 |none=>exact h1
 |some x=>
  obtain⟨b,m⟩:=x;exact hs b (Lp h)
theorem Lx {P:List (List Nat)} (h:qT n P):∀k,qT n (bt P n k).nei/\(∀u∈(bt P n k).lft,u<n)/\(bt P n k).ord.length=k/\(bt P n k).bag.length=k
 |0=>⟨h,fun u hu=>xO.1 hu,rfl,rfl⟩
 |k+1=>by
  obtain⟨h1,h2,h3,h4⟩:=Lx h k;exact⟨h1.take _,fun u hu=>h2 u (dE.1 hu).1,by simp[bt,h3],by simp[bt,h4]⟩
structure lN (w wr:World) (G:Nat) (nv bv:Value) (o:List Int) (b Q:List Nat):Prop where
 row:b9 wr G Q
 grow:w.grownBy wr (some G)
 nd:bA wr w.heap.size nv o
 bg:uX wr w.heap.size bv b
theorem lN.aa {G:Nat} {bv:Value} {o:List Int} {b Q:List Nat} (h:lN w wr G nv bv o b Q) (hb:Below wr.heap.size wr wr'):lN w wr' G nv bv o b Q:=
 ⟨h.row.aa hb h.row.lt,QO h.grow (row:=none) ⟨hb.os,hb.tape,hb.output,hb.size,fun k hk _=>hb.block k hk⟩ (fun r e=>by cases e),h.nd.under hb,Kn h.bg hb (aq _)⟩
theorem lN.nodes {G:Nat} {bv:Value} {o o':List Int} {b Q:List Nat} (h:lN w wr G nv bv o b Q) (hG:G<w.heap.size) (hr:bA w9 w.heap.size v' o') (hg:wr.grownBy w9 nv.ownBlock):lN w w9 G v' bv o' b Q:=
 ⟨(hg.block G h.row.lt (fun e=>by have:=h.nd.own G e.symm;omega)).trans h.row,QO h.grow hg (fun r e=>h.nd.own r e),hr,MG h.bg hg (VE h.nd h.bg (by decide))⟩
theorem lN.bags {G:Nat} {bv:Value} {o:List Int} {b b' Q:List Nat} (h:lN w wr G nv bv o b Q) (hG:G<w.heap.size) (hr:uX w9 w.heap.size v' b') (hg:wr.grownBy w9 bv.ownBlock):lN w w9 G nv v' o b' Q:=
 ⟨(hg.block G h.row.lt (fun e=>by have:=h.bg.own G e.symm;omega)).trans h.row,QO h.grow hg (fun r e=>h.bg.own r e),MG h.nd hg (VE h.bg h.nd (by decide)),hr⟩
theorem lN.o {G:Nat} {bv:Value} {o:List Int} {b Q Q':List Nat} (h:lN w wr G nv bv o b Q) (hG:G<w.heap.size) (hr:b9 w9 G Q') (hg:wr.grownBy w9 (some G)):lN w w9 G nv bv o b Q':=
 ⟨hr,ZN h.grow hg,MG h.nd hg (VF h.nd hG),MG h.bg hg (VF h.bg hG)⟩
theorem lN.drew {G:Nat} {bv:Value} {o:List Int} {b Q:List Nat} (h:lN w wr G nv bv o b Q):lN w wr.drew G nv bv o b Q:=⟨h.row,ZO h.grow,h.nd,h.bg⟩
theorem aih (G n c:Nat) (P:List (List Nat)) (w:World) (h1:1<=n) (h8:n<=8) (hU:b9 w G (P.map az)) (hP:qT n P):
  Calls Tryz.prog 148 #[.slice (some ⟨G,0,none⟩) n c] w fun e w'=>∃nv bv,e=.returned (.tuple #[nv,bv])/\lN w w' G nv bv (iL (bt P n n).ord) ((bt P n n).bag.map az) ((bt P n n).nei.map az):=by
 have hG:=hU.lt;have xg:=hid (fun k=>Lx hP k);have Ez:Hid (lN w w G (.slice none 0 0) (.slice none 0 0) (iL (bt P n 0).ord) ((bt P n 0).bag.map az) ((bt P n 0).nei.map az)):=⟨hU,⟨rfl,rfl,rfl,aq _,fun _ _ _=>rfl⟩,⟨rfl,.inl ⟨rfl,rfl⟩⟩,⟨rfl,.inl ⟨rfl,rfl⟩⟩⟩;have LZ:=hid (fun (i:Nat) (hi:i<8) (U:World)=>Dr (ud i) i U (fun u hu=>by have:=xO.1 hu;omega) hi);have HUL:Hid (∀i,az (i::ud i)=az (ud (i+1))):=fun i=>rfl;have ak0:Hid (∀k,bt P n (k+1)=⟨(bt P n k).ord++[jg (bt P n k).nei (bt P n k).lft],(bt P n k).bag++[jg (bt P n k).nei (bt P n k).lft::(bt P n k).nei.getD (jg (bt P n k).nei (bt P n k).lft) []],(bt P n k).lft.filter (fun u=>decide (u≠jg (bt P n k).nei (bt P n k).lft)),qg (bt P n k).nei (jg (bt P n k).nei (bt P n k).lft)⟩):=fun k=>rfl;have Ml:Hid ((bt P n 0).lft=ud n):=rfl;generalize bt P n=fl at *;clear hU hP;go_enter Tryz.func148,Tryz.ntmps148;go_wp2_with fail
 go_loopw [4,9] (fun sv iv wr=>∃i:Nat,i<=n/\sv=.int .u32 (az (ud i):Nat)/\iv=.int .i64 i/\wr=w) (fun _ iv _=>n - (intOf iv).toNat)
 case atStart=>exact⟨0,aU _,rfl,rfl,rfl⟩
 case round=>
  obtain⟨i,hi,rfl,rfl,hwr⟩:=hrel;replace hwr:=hwr.symm;subst hwr;by_cases hlt:i<n
  ·have LY:=hid (LZ.o i (by omega));rw[HUL.o i] at LY;generalize az (ud i)=m0 at *;go_wp2_with fail
   refine(LY.o _).af ?_;rintro e w1 ⟨rfl,hw1⟩;subst hw1;go_wp2;go_roundw
   case rel=>exact⟨i+1,by omega,rfl,by go_num,trivial⟩
   case measure=>simp[intOf];omega
  ·obtain rfl:i=n:=by omega
   rw[<- Ml.o];clear hi hlt LZ HUL;go_wp2_with fail
   go_loopw [2,3,4,18] (fun nv bv sv iv wr'=>∃k:Nat,k<=i/\iv=.int .i64 k/\sv=.int .u32 (az (fl k).lft:Nat)/\Hid (lN w wr' G nv bv (iL (fl k).ord) ((fl k).bag.map az) ((fl k).nei.map az))) (fun _ _ _ iv _=>i - (intOf iv).toNat)
   case atStart=>exact⟨0,aU _,rfl,rfl,Ez⟩
   case round=>
    obtain⟨k,hk,rfl,rfl,HX⟩:=hrel;clear Ez;by_cases hlt:k<i
    ·obtain⟨hNb,Lb,hOl,hBl⟩:=xg.o k;have L9:=hid (ak0.o k);(obtain⟨d2,n2,e2,rfl⟩:∃d n c,u2=Value.slice d n c:=by obtain⟨d,cd,e, -⟩:=HX.o.nd.ints;exact⟨_,_,_,e⟩);obtain⟨d3,n3,e3,rfl⟩:=HX.o.bg.slv;generalize fl k=S at *;have YB:=Z9 (P:=S.nei) h1 Lb;have HFW:=hid (fun (U:World) (hU:b9 U G (S.nei.map az))=>aiX G i c S.nei S.lft U hNb.len h8 hU hNb.lt Lb);have CA:=hid (fun (U:World) (hU:b9 U G (S.nei.map az))=>acu G i c (jg S.nei S.lft) S.nei U hNb.len h8 hU hNb.lt YB (hNb.self _));have Cy:=hid (fun (U:World)=>Dr (S.nei.getD (jg S.nei S.lft) []) (jg S.nei S.lft) U (fun u hu=>by have:=hNb.at _ u hu;omega) (by omega));have kT:=hid (fun (U:World)=>FZ S.lft (jg S.nei S.lft) U (fun u hu=>by have:=Lb u hu;omega) (by omega))
     have xu:Hid (∀U:World,b9 U G (S.nei.map az) ->U.cell? ⟨G,jg S.nei S.lft,none⟩=some (.int .u32 (az (S.nei.getD (jg S.nei S.lft) []):Nat))):=fun U hR=>by
      have hl:=hNb.len;have:=hR.cell (jg S.nei S.lft) (by rw[cX];omega);rwa [BC (by omega)] at this
     generalize DN:jg S.nei S.lft=v at *;clear DN hNb Lb;generalize hm4:az (S.lft.filter fun u=>decide (u≠v))=m4 at *;have yY:=hid hm4;clear hm4;go_wp2_with fail
     refine(HFW.o _ HX.o.row).af ?_;rintro e w1 ⟨rfl,hb⟩;have Qp:=HX.o.aa hb;clear hb HX;have kc:=xu.o _ Qp.row;have xj:Hid (az (v::S.nei.getD v [])=az (v::S.nei.getD v [])):=rfl;generalize hm1:az (v::S.nei.getD v [])=m1 at *;replace xj:Hid (az (v::S.nei.getD v [])=m1):=hm1;clear hm1;generalize az (S.nei.getD v [])=m0 at *;go_upto_region 10 with fail
     refine jE (S:=fun u=>u.cell? ⟨G,v,none⟩=some (.int .u32 (m0:Nat))) (by kernel_rfl) kc (fun ak=>?_);have Cf:=Qp.drew;(have hlo:(iL S.ord).length<=8:=by rw[bs];omega);(have iC:(S.bag.map az).length<=8:=by rw[cX];omega);clear kc Qp;generalize w1.drew=U0 at *;refine aw 0 (.slice d2 n2 e2) ?_;refine aw 1 (.int .i64 (v:Nat)) ?_;refine aw 4 (.slice d3 n3 e3) ?_;refine aw 5 (.slice (some ⟨G,0,none⟩) i c) ?_;refine aw 6 (.int .i64 (v:Nat)) ?_;refine aw 7 (.pointer (some ⟨G,v,none⟩)) ?_;(try simp only[gE,aP]);refine cN 8 (.int .u32 (m0:Nat)) ?_ ?_
     ·intro u' aN;have s0:=aN;go_simp
     refine aw 9 (.int .i64 (v:Nat)) ?_;refine aH [2] (cA ?_ aG);intro K' hK';go_simp;have kj:=(au _ U0).alloc (aq _) (.cells #[.int .i64 (v:Nat)] 3);have mI:=Cf.aa kj;have HC:=(aY U0 3 (.int .i64 (v:Nat))).cell;refine hK'.o _ _ ((kj.cell (p:=⟨G,v,none⟩) Cf.row.lt).trans ak) (fun ah=>?_);clear hK' K' ak Cf kj;have ak:=ah;clear ah;generalize (U0.alloc (.cells #[.int .i64 (v:Nat)] 3))=U1 at *;generalize U0.heap.size=BN at *;refine aH [3] (cA ?_ aG);intro K' hK';rw[aA (by rfl)];refine abH _ _ rfl w.heap.size _ (iL S.ord) (v:Nat) rfl mI.nd BN rfl HC (by omega) mI.grow.size ?_;intro v' w9 yf gN;(obtain⟨d9,n9,LN,rfl⟩:∃d n c,v'=Value.slice d n c:=by obtain⟨d,cd,e, -⟩:=yf.ints;exact⟨_,_,_,e⟩);have z7:=mI.nodes hG yf gN;refine hK'.o _ _ ((lQ (gN.block G mI.row.lt (fun e=>by have:=mI.nd.own G e.symm;omega))).trans ak) (fun ah=>?_);clear hK' K' ak mI yf gN HC;have ak:=ah;clear ah;have B8:True:=trivial;clear B8;generalize hd:d9=dn at *;generalize lx:n9=nn at *;generalize hc9:LN=cn at *;clear hd lx hc9 d9 n9 LN;refine aH [10] (cA ?_ aG);intro K' hK';go_simp;refine(Cy.o _).af ?_;rintro e U2 ⟨rfl,Hd⟩;subst Hd;refine hK'.o _ _ ak (fun ah=>?_);clear hK' K' ah;have Cf:=z7;clear z7;generalize U2=U0 at *;refine aH [11] (cA ?_ aG);intro K' hK';go_simp;have kj:=(au _ U0).alloc (aq _) (.cells #[.int .u32 (m1:Nat)] 115);have mI:=Cf.aa kj;have HC:=(aY U0 115 (.int .u32 (m1:Nat))).cell;refine hK'.o _ _ ((kj.cell (p:=⟨G,v,none⟩) Cf.row.lt).trans ak) (fun ah=>?_);clear hK' K' ak Cf kj;have ak:=ah
     clear ah;generalize (U0.alloc (.cells #[.int .u32 (m1:Nat)] 115))=U1 at *;generalize U0.heap.size=BN at *;refine aH [12] (cA ?_ aG);intro K' hK';rw[aA (by rfl)];refine abF _ _ rfl w.heap.size _ (S.bag.map az) m1 rfl mI.bg BN rfl HC (by omega) mI.grow.size ?_;intro v' w9 yf gN;obtain⟨d9,n9,LN,rfl⟩:∃d n c,v'=Value.slice d n c:=yf.slv;have z7:=mI.bags hG yf gN;refine hK'.o _ _ ((lQ (gN.block G mI.row.lt (fun e=>by have:=mI.bg.own G e.symm;omega))).trans ak) (fun ah=>?_);clear hK' K' ak mI yf gN HC;have ak:=ah;clear ah;refine aw 13 (.slice dn nn cn) ?_;refine aw 14 (.slice d9 n9 LN) ?_;(try simp only[gE,aP]);refine eK (by kernel_rfl) ?_ _;clear ak;have Qn:=z7;clear z7;generalize w9=w3 at *;go_wp2_with fail
     refine(kT.o _).af ?_;rintro e w4 ⟨rfl,hw4⟩;subst hw4;go_wp2_with fail
     refine(CA.o _ Qn.row).af ?_;rintro e w5 ⟨⟨rr,rfl⟩,ur,GU⟩;have tD:=hid (Qn.o hG ur GU);clear ur GU Qn;go_wp2;go_roundw
     case rel=>exact⟨k+1,by omega,by go_num,by rw[L9.o];show _=Value.int .u32 (az (S.lft.filter fun u=>decide (u≠v)):Nat);rw[yY.o],by rw[L9.o];show lN _ _ _ _ _ (iL (S.ord++[v])) ((S.bag++[v::S.nei.getD v []]).map az) _;rw[OV,dL,show [v::S.nei.getD v []].map az=[m1] from by rw[<- xj.o];rfl];exact tD⟩
     case measure=>simp[intOf];omega
    ·obtain rfl:k=i:=by omega
     (obtain⟨d2,n2,e2,rfl⟩:∃d n c,u2=Value.slice d n c:=by obtain⟨d,cd,e, -⟩:=HX.o.nd.ints;exact⟨_,_,_,e⟩);obtain⟨d3,n3,e3,rfl⟩:=HX.o.bg.slv;go_wp2;go_ret2;exact⟨_,_,rfl,HX.o⟩
variable {ds:List Deferred} {B' lo:Nat} {W':World}
def Shut (lo:Nat):Nat ->List Deferred ->World ->Prop
 |_,[],_=>True
 |B,d::ds,W=>∃r,lo<=r/\r<B/\d= {target:=.collected r,args:= #[]}/\W.heap[r]? =some (.deferred (some []))/\Shut lo r ds W
theorem Shut.af {B:Nat} {W:World} (h:Shut lo B ds W) (hb:B<=B'):Shut lo B' ds W:=by
 cases ds with
 |nil=>trivial
 |cons d ds=>
  obtain⟨r,h1,h2,h3⟩:=h;exact⟨r,h1,by omega,h3⟩
theorem Shut.keep:∀ {ds:List Deferred} {B:Nat} {W W':World},Shut lo B ds W ->(∀r,r< B ->W'.heap[r]? =W.heap[r]?) ->Shut lo B ds W'
 |[],_,_,_,_,_=>trivial
 |d::ds,B,W,W',h,hk=>by
  obtain⟨r,h1,h2,h3,h4,h5⟩:=h;exact⟨r,h1,h2,h3,(hk r h2).trans h4,h5.keep fun k hlt=>hk k (by omega)⟩
theorem Shut.aa {B:Nat} {W:World} (h:Shut lo B ds W) (hb:Below B W W'):Shut lo B ds W':=h.keep fun r hr=>hb.block r hr
theorem BF {F:Fence} {P:Program} {tmps:Array Value} {R:Ending ->World ->Prop} {K:World ->Prop}
  (hK:∀W r,K W ->lo<=r ->W.heap[r]? =some (.deferred (some [])) ->K (W.putObj r (.deferred none))) (hend:∀W,K W ->LeavesInM F n P fn tmps R [] .returning W):
  ∀(ds:List Deferred) (B:Nat) (W:World),Shut lo B ds W ->K W ->LeavesInM F n P fn tmps R ds .returning W
 |[],_,W,_,hW=>hend W hW
 |d::ds,B,W,h,hW=>by
  obtain⟨r,h1,h2,rfl,h4,h5⟩:=h;refine⟨by simp,.inl ⟨r,_,rfl,ze h4,BF hK hend ds r _ ?_ (hK W r hW h1 h4)⟩⟩;exact h5.keep fun k hk=>vG (by omega)
section
attribute [local go_sem] Oper.semAt_some
variable {c:Nat}
def lF (U:List (List Nat)) (u:Nat):Nat ->List Nat
 |0=>[]
 |v+1=>if u∈U.getD v [] then v::lF U u v else lF U u v
theorem Ie {U:List (List Nat)}:∀ {v x:Nat},x∈lF U u v↔x<v/\u∈U.getD x []
 |0,x=>by simp[lF]
 |v+1,x=>by
  rw[lF];by_cases h:u∈U.getD v []
  ·rw[aA h,dG,Ie];constructor
   ·rintro(rfl |⟨h1,h2⟩)
    ·exact⟨by omega,h⟩
    ·exact⟨by omega,h2⟩
   ·rintro⟨h1,h2⟩;by_cases e:x=v
    ·exact .inl e
    ·exact .inr ⟨by omega,h2⟩
  ·rw[aD h,Ie];constructor
   ·rintro⟨h1,h2⟩;exact⟨by omega,h2⟩
   ·rintro⟨h1,h2⟩;exact⟨by rcases cT x v with h3 |h3;exact h3;exact absurd (show x=v by omega) (fun e=>h (e▸h2)),h2⟩
def kn (U:List (List Nat)) (n v k:Nat):List (List Nat):=(List.range n).map fun u=>if u<k/\u∈U.getD v [] then v::lF U u v else lF U u v
def ko (U:List (List Nat)) (n v:Nat):List (List Nat):=(List.range n).map fun u=>lF U u v
theorem ajV (U:List (List Nat)) (n v:Nat):kn U n v 0=ko U n v:=by simp[kn,ko]
theorem aj0 {U:List (List Nat)} (h:n<=8):kn U n v 8=ko U n (v+1):=by
 apply qd;intro u hu;have:=cH.1 hu;rw[lF];by_cases h1:u∈U.getD v []
 ·rw[aA ⟨by omega,h1⟩,aA h1]
 ·rw[aD (fun e=>h1 e.2),aD h1]
theorem ajW {U:List (List Nat)} (hm:k∈U.getD v []):kn U n v (k+1)=(kn U n v k).set k (v::lF U k v):=by
 apply rz (by simp[kn]);intro i h1 h2;rw[List.getElem_set];simp only[kn,lV,Dc];by_cases h:k=i
 ·subst h;rw[aA ⟨by omega,hm⟩,aA rfl]
 ·rw[aD h];have e:(i<k+1/\i∈U.getD v [])↔(i<k/\i∈U.getD v []):=⟨fun ⟨a,b⟩=>⟨by omega,b⟩,fun ⟨a,b⟩=>⟨by omega,b⟩⟩;simp only[e]
theorem ajX {U:List (List Nat)} (hm:¬k∈U.getD v []):kn U n v (k+1)=kn U n v k:=by
 apply qd;intro i hi;have e:(i<k+1/\i∈U.getD v [])↔(i<k/\i∈U.getD v []):=⟨fun ⟨a,b⟩=>⟨by rcases cT i k with h |h;exact h;exact absurd (show i=k by omega) (fun e=>hm (e▸b)),b⟩,fun ⟨a,b⟩=>⟨by omega,b⟩⟩;simp only[e]
theorem ajZ {U:List (List Nat)} (hu:u<n) (h:¬u<k):(kn U n v k)[u]? =some (lF U u v):=by
 simp[kn,hu,h]
theorem ajY (U:List (List Nat)) (n v k:Nat):(kn U n v k).length=n:=by simp[kn]
theorem aaG (U:List (List Nat)) (n v:Nat):(ko U n v).length=n:=by simp[ko]
theorem Shut.putAt {B:Nat} {W:World} (h:Shut lo B ds W) (hg:g<lo) (v:Value):Shut lo B ds (W.setCell ⟨g,j,none⟩ v):=by
 induction ds generalizing B with
 |nil=>trivial
 |cons d ds ih=>
  obtain⟨r,h1,h2,h3,h4,h5⟩:=h;exact⟨r,h1,h2,h3,(jq W ⟨g,j,none⟩ v r (by show r≠g;omega)).trans h4,ih h5⟩
theorem Nx {β:Type} {B:Nat}:OwnFrom B (fun (_:β) W=>B<=W.heap.size/\Shut lo B ds W):=fun _ W W' row hs hg hr=>
 ⟨aL hs.1 hg.size,hs.2.keep fun k hk=>hg.block k (by omega) (fun e=>by have:=(hr k e.symm).1;omega)⟩
def p7 (w:World) (n c:Nat) (l:List Nat) (W:World):Prop:=b9 W w.heap.size l/\Boxed W (w.heap.size+1) 109 (.slice (some ⟨w.heap.size,0,none⟩) n c)/\Below w.heap.size w W
theorem p7.shut {l:List Nat} (hlo:w.heap.size+1<lo) (W:World) (r:Nat) (h:p7 w n c l W) (hr:lo<=r) (hd:W.heap[r]? =some (.deferred (some []))):p7 w n c l (W.putObj r (.deferred none)):=
 ⟨(vG (by omega)).trans h.1,(vG (by omega)).trans h.2.1,h.2.2.trans (sH (w:=w) (aq _) W r _ _ (by omega) hd rfl rfl)⟩
theorem p7.own {β:Type} {B:Nat} (f:β ->List Nat) (hB:w.heap.size<=B):OwnFrom B (fun (s:β) W=>p7 w n c (f s) W):=
 eC (fD (JX _ f) _) (eC (fD (iW _ _ (fun _=>_)) _) (xC (aq _) hB))
theorem p7.aa {W:World} {l:List Nat} (h:p7 w n c l W) (hb:Below W.heap.size W W'):p7 w n c l W':=⟨h.1.aa hb h.1.lt,uT h.2.1 hb h.2.1.lt,h.2.2.trans (hb.af h.2.2.size)⟩
theorem ajQ (G n c:Nat) (U:List (List Nat)) (w:World) (hn:U.length=n) (h8:n<=8) (hU:b9 w G (U.map az)) (hP:∀p∈U,∀u∈p,u<n):
  Calls Tryz.prog 126 #[.slice (some ⟨G,0,none⟩) n c] w fun e w'=>e=.returned (.slice (some ⟨w.heap.size,0,none⟩) n n)/\b9 w' w.heap.size ((ko U n n).map az)/\Below w.heap.size w w':=by
 refine(fZ (n:=6)).1 ?_;obtain⟨i0,bY,hz0,hz1,hz2⟩:=dH Tryz.infoSet;have hG:=hU.lt;have rR:∀p∈U,∀u∈p,u<8:=fun p hp u hu=>by have:=hP p hp u hu;omega
 have CR:Hid (∀(V:World) (v:Nat),Below w.heap.size w V ->v< n ->V.cell? ⟨G,v,none⟩=some (.int .u32 (az (U.getD v []):Nat))):=fun V v hB hv=>by
  have:=(hU.aa hB hG).cell v (by rw[cX];omega);rwa [BC (by omega)] at this
 have HGS:=hid (fun v=>Ai rR v)
 have IY:Hid (∀v k,v< n ->k∈U.getD v [] ->k<n):=fun v k hv hk=>by
  rw[bU,a8 (by omega)] at hk;exact hP _ (bM _) k hk
 have LZ:=hid (fun (u v:Nat) (hv:v<n) (V:World)=>Dr (lF U u v) v V (fun x hx=>by have:=(Ie.1 hx).1;omega) (by omega))
 have CW:Hid (∀(V:World) (g v k u:Nat),u< n ->¬u< k ->b9 V g ((kn U n v k).map az) ->V.cell? ⟨g,u,none⟩=some (.int .u32 (az (lF U u v):Nat))/\V.frozen? ⟨g,u,none⟩=false):=fun V g v k u hu hne hR=>by
  have h1:u<(kn U n v k).length:=by rw[ajY];exact hu
  have h2:=hR.cell u (by rw[cX];exact h1);obtain⟨h3,h4⟩:=nY.1 (ajZ (U:=U) (v:=v) hu hne);rw[lV,h4] at h2;exact⟨h2,hR.fz u⟩
 have jV:Hid (∀(V:World) (g v k:Nat),k∈U.getD v [] ->b9 V g ((kn U n v k).map az) ->b9 (V.setCell ⟨g,k,none⟩ (.int .u32 (az (v::lF U k v):Nat))) g ((kn U n v (k+1)).map az)):=fun V g v k hm hR=>by
  have:=hR.set k (az (v::lF U k v));rwa [ajW hm,A5]
 have gG:Hid (∀v k,¬k∈U.getD v [] ->kn U n v (k+1)=kn U n v k):=fun v k h=>ajX h;have HZ:=hid (fun v=>ajV U n v);have HA:=hid (fun v=>aj0 (U:=U) (v:=v) h8)
 have hz:(ko U n 0).map az=List.replicate n 0:=by
  apply rz (by simp[ko]);intro i h1 h2;simp[ko,lF,az]
 clear hU hP rR;refine sG Tryz.func126 rfl trivial ?_ rfl;simp only[Tryz.ntmps126,lR,dI,k8,Nat.reduceAdd,Nat.reduceSub,lX,lW,lS,k9,gY,eE];have hmk:=fun V=>run_make_row' (P:=Tryz.prog) 109 115 (.int .u32 0) 4 Tryz.underlying109 Tryz.infoSet rfl .i64 .i64 n (by omega) (by omega) V;gi_wp2
 clear hmk;obtain⟨W2,hW2⟩:∃W2,W2=(w.alloc (.cells (madeCells #[.int .u32 0] n) 115)).alloc (.cells #[.slice (some ⟨w.heap.size,0,none⟩) n n] 109):=⟨_,rfl⟩
 have hL2:p7 w n n ((ko U n 0).map az) W2:=by
  rw[hW2,hz];refine⟨?_,?_,((au _ w).alloc (aq _) _).alloc (by simp) _⟩
  ·have h:=im w (.cells (madeCells #[.int .u32 0] n) 115)
   have e:(madeCells #[.int .u32 0] n).toList=(List.replicate n (0:Nat)).map uv:=by
    have:=OD n;rwa [nW] at this
   (have e2:madeCells #[Value.int .u32 0] n=((List.replicate n (0:Nat)).map uv).toArray:=by rw[<- e]);rw[b9,rB _ _ _ (by simp),h,e2]
  ·have h:=aY (w.alloc (.cells (madeCells #[.int .u32 0] n) 115)) 109 (.slice (some ⟨w.heap.size,0,none⟩) n n);rwa [di] at h
 rw[<- hW2];have hs2:W2.heap.size=w.heap.size+2:=by rw[hW2];simp
 have oQ:=hid hL2;clear hW2 hL2 hz;refine wpIn_loop (fun a' w'=>∃(v:Nat) (ds:List Deferred) (u4 u5 u13 u14 u15 u16 FO FN xP:Value),a'= {tmps:= #[.slice (some ⟨G,0,none⟩) n c,undef,.slice none 0 0,.pointer (some ⟨w.heap.size+1,0,none⟩),u4,u5,undef,.slice (some ⟨G,0,none⟩) n c,.int .i64 (n:Nat),.slice (some ⟨w.heap.size,0,none⟩) n n,.slice (some ⟨G,0,none⟩) n c,.int .i64 (n:Nat),.int .i64 (v:Nat),u13,u14,u15,u16,FO,FN,undef,undef,undef,undef,undef,undef,undef,undef,undef,undef,xP,undef],defers:=ds}/\v<=n/\Hid (p7 w n n ((ko U n v).map az) w')/\Hid (Shut (w.heap.size+2) w'.heap.size ds w')) (fun a' _=>n - (intOf (a'.tmps.getD 12 undef)).toNat) ?_ ?_
 ·exact⟨0,[],_,_,_,_,_,_,_,_,_,rfl,aU _,oQ,trivial⟩
 intro a' wr hinv;obtain⟨v,ds,u4,u5,u13,u14,u15,u16,FO,FN,xP,rfl,hv,kX,oO⟩:=hinv;clear oQ;by_cases hlt:v<n
 ·have kv:=CR.o wr v kX.o.2.2 hlt;have hs:=HGS.o v;have HMv:=hid (fun k hk=>IY.o v k hlt hk);have HWv:=hid (fun u=>LZ.o u v hlt);have SX:=hid (fun V g k u=>CW.o V g v k u);have RX:=hid (fun V g k=>jV.o V g v k);have Sl:=hid (fun k=>gG.o v k);have Qk:=HZ.o v;have QI:=HA.o v;generalize U.getD v []=bv at *;have cP:w.heap.size+1<wr.heap.size:=kX.o.2.1.lt;gi_wp2
  obtain⟨W3,hW3⟩:∃W3,W3=wr.alloc (.cells #[.int .i64 (v:Nat)] 3):=⟨_,rfl⟩;have b4:Boxed W3 wr.heap.size 3 (.int .i64 (v:Nat)):=by rw[hW3];exact aY wr _ _
  have hb3:Below wr.heap.size wr W3:=by rw[hW3];exact(au _ wr).alloc (aq _) _
  have hs3:W3.heap.size=wr.heap.size+1:=by rw[hW3];simp
  rw[<- hW3];clear hW3 kv;have hL3:=kX.o.aa hb3;have Hf:=(oO.o.aa hb3).af (show wr.heap.size<=W3.heap.size by omega);have R9:=hid (oO.o);clear kX oO R9;rw[<- Qk] at hL3
  refine Bc (by omega) bv hs rfl rfl
   (fun k V=>p7 w n n ((kn U n v k).map az) V/\Boxed V wr.heap.size 3 (.int .i64 (v:Nat))/\(W3.heap.size<=V.heap.size/\Shut (w.heap.size+2) W3.heap.size ds V))
   (eC (p7.own (fun k:Nat=>(kn U n v k).map az) (by omega)) (eC (fD (iW _ _ (fun _=>_)) _) Nx))
   ⟨hL3,b4,aq _,Hf⟩
   (fun k=> {tmps:= #[.slice (some ⟨G,0,none⟩) n c,undef,.slice none 0 0,.pointer (some ⟨w.heap.size+1,0,none⟩),.pointer (some ⟨wr.heap.size,0,none⟩),.int .u32 (az bv:Nat),.int .i64 (k:Nat),.slice (some ⟨G,0,none⟩) n c,.int .i64 (n:Nat),.slice (some ⟨w.heap.size,0,none⟩) n n,.slice (some ⟨G,0,none⟩) n c,.int .i64 (n:Nat),.int .i64 (v:Nat),.bool true,.int .i64 (v:Nat),.pointer (some ⟨G,v,none⟩),.int .u32 (az bv:Nat),.int .u32 (az bv:Nat),.func (.func 144) #[.int .u32 (az bv:Nat)] #[],.int .i64 (k:Nat),undef,undef,undef,undef,undef,undef,undef,undef,undef,xP,undef],defers:=[]}) ?assign ?body ?skip ?done
  case assign=>
   intro l k W K hK;gi_wp2
   exact hK
  case body=>
   rintro l k V hk hm ⟨h0,h4,uq,nC⟩;have hkn:=HMv.o k hm;have k1:=h0.2.1.cell;have k4:=h4.cell;obtain⟨kU,fU⟩:=SX.o V w.heap.size k k hkn (by omega) h0.1;have Cx:=hid (HWv.o k);have tH:=hid (fun W hW=>RX.o W w.heap.size k hm hW);generalize az (v::lF U k v)=m1 at *;generalize az (lF U k v)=m0 at *;generalize az bv=mv at *;gi_wp2_with fail
   refine vU (fun u=>u.cell? ⟨w.heap.size+1,0,none⟩=some (.slice (some ⟨w.heap.size,0,none⟩) n n)/\u.cell? ⟨wr.heap.size,0,none⟩=some (.int .i64 (v:Nat))) (by kernel_rfl) (by kernel_rfl) (fun ⟨_,_,h⟩=>h) ⟨k1,k4⟩ ?_;intro ak;have hD:KeepsOthers V V.drew:=xK V;have q0:p7 w n n ((kn U n v k).map az) V.drew:=⟨h0.1,h0.2.1,h0.2.2.drew⟩;have q4:Boxed V.drew wr.heap.size 3 (.int .i64 (v:Nat)):=h4;have qS:Shut (w.heap.size+2) W3.heap.size ds V.drew:=nC.keep fun _ _=>rfl;have qz:W3.heap.size<=V.drew.heap.size:=uq;have kU2:V.drew.cell? ⟨w.heap.size,k,none⟩=some (.int .u32 (m0:Nat)):=kU;have fU2:V.drew.frozen? ⟨w.heap.size,k,none⟩=false:=fU;clear k1 k4 kU fU h0 h4 nC uq b4 hb3 hL3 Hf;generalize V.drew=U0 at *;refine aw 0 (.slice (some ⟨w.heap.size,0,none⟩) n n) ?_;refine aw 1 (.int .i64 (k:Nat)) ?_;refine aw 2 (.slice (some ⟨w.heap.size,0,none⟩) n n) ?_;refine aw 3 (.int .i64 (k:Nat)) ?_;refine aw 4 (.pointer (some ⟨w.heap.size,k,none⟩)) ?_;refine aw 6 (.int .i64 (v:Nat)) ?_;refine aH [5] (cA ?_ aG);intro K' hK';go_simp;refine hK'.o _ _ ak (fun ah=>?_);clear hK' K' ah;refine aH [7] (cA ?_ aG);intro K' hK';go_simp;refine(Cx.o _).af ?_;rintro e U1 ⟨rfl,eB⟩;subst eB;refine hK'.o _ _ ak (fun ah=>?_);clear hK' K' ah;generalize U1=U0 at *;refine aw 8 (.pointer (some ⟨w.heap.size,k,none⟩)) ?_;refine aH [9] (cA ?_ aG);intro K' hK';go_simp;refine hK'.o _ _ ⟨(iR q0.2.1 w.heap.size k _ (by omega)).cell,(iR q4 w.heap.size k _ (by omega)).cell⟩ (fun _=>eK (by kernel_rfl) ?_ _);clear hK' K' ak;gi_wp2
   exact⟨(hD.trans (jo U0 _ _)).from _,⟨tH.o U0 q0.1,iR q0.2.1 w.heap.size k _ (by omega),q0.2.2.setCell (p:=⟨w.heap.size,k,none⟩) (aq _) _⟩,iR q4 w.heap.size k _ (by omega),by simpa using qz,qS.putAt (by omega) _⟩
  case skip=>
   rintro k V hk hm h;rw[Sl.o k hm];exact h
  case done=>
   rintro D V hD ⟨h0,h4,uq,nC⟩ hK;rw[QI] at h0;have yw:D<V.heap.size:=(dm.1 hK).1;have CC:Hid (Shut (w.heap.size+2) V.heap.size ({target:=.collected D,args:= #[]}::ds) V):=⟨D,by omega,yw,rfl,hK,nC.af hD⟩;have I1:=hid h0;clear h0 h4 nC hK;gi_wp2
   refine⟨⟨v+1,_,_,_,_,_,_,_,_,_,_,rfl,by omega,I1,CC⟩,?_⟩;simp[intOf];omega
 ·obtain rfl:v=n:=by omega
  have kc:=kX.o.2.1.cell;gi_wp2
  refine BF (lo:=w.heap.size+2) (K:=p7 w v v ((ko U v v).map az)) (p7.shut (by omega)) (fun Z hZ=>⟨_,zg rfl _ _ _,rfl,hZ.1,hZ.2.2⟩) _ wr.heap.size wr oO.o kX.o
end
theorem pP (h:gB L=true):1<=L.length/\L.length<=8/\nO L L.length=true/\vW L=true:=by
 rw[gB,iK,iK,eh] at h;exact⟨h.1.1.1,h.1.1.2,h.1.2,h.2⟩
theorem aiq (h:gB L=true):∀p∈aI L,∀u∈p,u<8:=by
 obtain⟨h1,h2,h3,h4⟩:=pP h;intro p hp;obtain⟨l,hl,rfl⟩:=aW.1 hp;exact UQ h2 (fE.1 h3 l hl)
theorem QW (a:Option Addr) (ca:Nat) (L:List (List Int)) (w:World) (h:fC w a L) (hl:∀l∈L,l.length<=140737488355328):
  Calls Tryz.prog 72 #[.slice a L.length ca] w fun e w'=>Below w.heap.size w w'/\
   ((bQ L=0/\∃G,e=.returned (.tuple #[.slice (some ⟨G,0,none⟩) L.length L.length,.int .i64 0])/\w.heap.size<=G/\b9 w' G (jb L))∨(bQ L≠0/\e=.returned (.tuple #[.slice none 0 0,.int .i64 (bQ L)]))):=by
 have HF:=hid h;have HR:=hid (fun (V:World) (hV:fC V a L)=>UT a ca L V hV hl);have Ms:Hid (gB L=false ->bQ L=11):=fun h=>aD (by rw[h];decide);have sk:Hid (gB L=true ->(aR (aI L) L.length).length<L.length ->bQ L=10):=fun h1 h2=>by rw[bQ,aA h1,aA h2]
 have tS:Hid (gB L=true ->¬(aR (aI L) L.length).length<L.length ->bQ L=0):=fun h1 h2=>by rw[bQ,aA h1,aD h2]
 have HO:Hid (gB L=true ->∀(G c:Nat) (V:World),b9 V G (jb L) ->Calls Tryz.prog 124 #[.slice (some ⟨G,0,none⟩) L.length c] V fun e w'=>∃x,e=.returned x/\bA w' V.heap.size x (iL (aR (aI L) L.length))/\Below V.heap.size V w'):=fun hg G c V hV=>by
  have h8:=(pP hg).2.1;have:=ae8 G c (aI L) V (by rw[<- DI];exact hV) (by rw[jI];exact h8) (aiq hg);rwa [jI] at this
 generalize bQ L=ge at *;generalize jb L=ms at *;clear h hl;go_enter Tryz.func72,Tryz.ntmps72;go_wp2_with fail
 refine(HR.o _ HF.o).af ?_;rintro e w1 ⟨hb,⟨hg,G,rfl,hG,hU⟩ |⟨hg,v,rfl⟩⟩
 ·have pV:=hid hU;have HOG:=hid (HO.o hg G L.length);have HB:=hid hb;have CS:=hid hg;clear hU hb hg HO HR;go_wp2_with fail
  refine(HOG.o _ pV.o).af ?_;rintro e w2 ⟨x,rfl,hx,hb2⟩;obtain⟨d,cd,rfl,_⟩:=hx.ints;have bB:=hid (HB.o.trans (hb2.af HB.o.size));have yL:=hid (pV.o.aa hb2 pV.o.lt);have mP:Hid ((iL (aR (aI L) L.length)).length=(aR (aI L) L.length).length):=bs _;clear hx hb2;by_cases hlt:(aR (aI L) L.length).length<L.length
  ·have HE:=hid (sk.o CS.o hlt);(have ux:(iL (aR (aI L) L.length)).length<L.length:=by rw[mP.o];exact hlt);clear hlt;generalize (iL (aR (aI L) L.length)).length=m at *;go_wp2;go_ret2;exact⟨bB.o,.inr ⟨by rw[HE.o];decide,by rw[HE.o];rfl⟩⟩
  ·have HE:=hid (tS.o CS.o hlt);(have ux:¬(iL (aR (aI L) L.length)).length<L.length:=by rw[mP.o];exact hlt);clear hlt;generalize (iL (aR (aI L) L.length)).length=m at *;go_wp2;go_ret2;exact⟨bB.o,.inl ⟨HE.o,G,rfl,hG,yL.o⟩⟩
 ·have HE:=hid (Ms.o hg);have HB:=hid hb;clear hg hb;go_wp2;go_ret2;exact⟨HB.o,.inr ⟨by rw[HE.o];decide,by rw[HE.o];rfl⟩⟩
theorem aio (a:Option Addr) (ca:Nat) (L:List (List Int)) (w:World) (h:fC w a L) (hl:∀l∈L,l.length<=140737488355328):
  Calls Tryz.prog 130 #[.slice a L.length ca] w fun e w'=>e=.returned (.int .i64 (bQ L))/\Below w.heap.size w w':=by
 have HF:=hid h;have HR:=hid (fun (V:World) (hV:fC V a L)=>QW a ca L V hV hl);generalize bQ L=ge at *;clear h hl;go_enter Tryz.func130,Tryz.ntmps130;go_wp2_with fail
 refine(HR.o _ HF.o).af ?_;rintro e w1 ⟨hb,⟨rfl,G,rfl,hG,hU⟩ |⟨hg,rfl⟩⟩
 ·clear hU;go_wp2;go_ret;exact⟨rfl,hb⟩
 ·clear hg;go_wp2;go_ret;exact⟨rfl,hb⟩
theorem ajt {l1 l2:List Nat} (h1:i<l1.length) (h2:i<l2.length) (h:l1[i]≠l2[i]):decide (l1=l2)=false:=cD fun e=>h (by subst e;rfl)
theorem ajw {l1 l2:List Nat} (hl:l1.length=l2.length) (h:∀i (h1:i<l1.length) (h2:i<l2.length),l1[i]=l2[i]):decide (l1=l2)=true:=cS (rz hl h)
theorem ado (G1 G2 n c1 c2:Nat) (l1 l2:List Nat) (w:World) (e1:l1.length=n) (e2:l2.length=n) (hn:n<=5000) (h1:b9 w G1 l1) (h2:b9 w G2 l2):
  Calls Tryz.prog 194 #[.slice (some ⟨G1,0,none⟩) n c1,.slice (some ⟨G2,0,none⟩) n c2] w fun e w'=>e=.returned (.bool (decide (l1=l2)))/\Below w.heap.size w w':=by
 have H1:=hid h1;have H2:=hid h2;have HN:=hid (fun i (a:i<l1.length) (b:i<l2.length) h=>ajt a b h);have HE:=hid (fun h=>ajw (l1:=l1) (l2:=l2) (by omega) h);generalize decide (l1=l2)=r at *;clear h1 h2;go_enter Tryz.func194,Tryz.ntmps194;go_wp2_with fail
 go_loopw [13] (fun iv wr=>∃i:Nat,i<=n/\iv=.int .i64 i/\Hid (∀j (a:j<l1.length) (b:j<l2.length),j< i ->l1[j]=l2[j])/\Hid (Below w.heap.size w wr)) (fun iv _=>n - (intOf iv).toNat)
 case atStart=>exact⟨0,aU _,rfl,fun j _ _ h=>absurd h (by omega),au _ _⟩
 case round=>
  obtain⟨i,hi,rfl,HI,HB⟩:=hrel;by_cases hlt:i<n
  ·have a1:=(H1.o.aa HB.o H1.o.lt).cell i (by omega);have a2:=(H2.o.aa HB.o H2.o.lt).cell i (by omega);have si:=hid (HN.o i (by omega) (by omega))
   have HS:Hid (l1[i]'(by omega)=l2[i]'(by omega) ->∀j (a:j<l1.length) (b:j<l2.length),j<i+1 ->l1[j]=l2[j]):=fun h j a b hj=>by
    rcases cT j i with h3 |h3
    ·exact HI.o j a b h3
    ·obtain rfl:j=i:=by omega
     exact h
   generalize l1[i]'(by omega)=x at *;generalize l2[i]'(by omega)=y at *;go_upto_region 6 with fail
   go_quiet (fail)
   have HBn:=hid (below_drewN HB.o nq);clear a1 a2;generalize wr.drewN nq=w2 at *;by_cases uj:x=y
   ·have mL:=hid (HS.o uj);subst uj;go_wp2;go_roundw
    case rel=>exact⟨i+1,by omega,by go_num,mL,HBn⟩
    case measure=>simp[intOf];omega
   ·have HR:=hid (si.o uj)
    have hb:((x:Int) !=(y:Int))=true:=by
     (have:¬(x:Int)=(y:Int):=by omega);simpa using this
    clear uj;go_wp2;go_ret;exact⟨by rw[HR.o];rfl,HBn.o⟩
  ·obtain rfl:i=n:=by omega
   have HR:=hid (HE.o fun j a b=>HI.o j a b (by omega));go_wp2;go_ret;exact⟨by rw[HR.o];rfl,HB.o⟩
def rE (L:List (List Int)):Bool:=gB L&&decide (jb L=(ko (aI L) L.length L.length).map az)
theorem F6 (h:gB L=true):∀p∈aI L,∀u∈p,u<L.length:=by
 obtain⟨_,_,hr,_⟩:=pP h;intro p hp u hu;obtain⟨l,hl,rfl⟩:=aW.1 hp;obtain⟨x,hx,rfl⟩:=aW.1 hu;obtain⟨i,hi,rfl⟩:=iZ hl;have h2:=xQ (Ry hr hi);obtain⟨j,hj,rfl⟩:=iZ hx;have:=h2.each j hj;omega
theorem DD (h:gB L=true):qT L.length (aI L):=by
 refine⟨jI L,F6 h,fun u hu=>?_⟩;obtain⟨_,_,_,hs⟩:=pP h;by_cases hl:u<L.length
 ·rw[Ki hl] at hu;rw[Wn hl hu] at hs;cases hs
 ·rw[bU,iJ (by rw[jI];omega)] at hu;simp at hu
theorem adH (a:Option Addr) (ca:Nat) (L:List (List Int)) (w:World) (h:fC w a L) (hl:∀l∈L,l.length<=140737488355328):
  Calls Tryz.prog 147 #[.slice a L.length ca] w fun e w'=>Below w.heap.size w w'/\
   ((rE L=true/\∃G,e=.returned (.tuple #[.slice (some ⟨G,0,none⟩) L.length L.length,.bool true])/\w.heap.size<=G/\b9 w' G (jb L))∨(rE L=false/\e=.returned (.tuple #[.slice none 0 0,.bool false]))):=by
 have EI:=hid (UT a ca L w h hl);have pZ:Hid (rE L=(gB L&&decide (jb L=(ko (aI L) L.length L.length).map az))):=rfl
 have S2:Hid (gB L=true ->∀(G:Nat) (U:World),b9 U G (jb L) ->Calls Tryz.prog 126 #[.slice (some ⟨G,0,none⟩) L.length L.length] U fun e w'=>e=.returned (.slice (some ⟨U.heap.size,0,none⟩) L.length L.length)/\b9 w' U.heap.size ((ko (aI L) L.length L.length).map az)/\Below U.heap.size U w'):=fun hg G U hU=>by
  rw[DI] at hU;exact ajQ G L.length L.length (aI L) U (jI L) (pP hg).2.1 hU (F6 hg)
 have CU:Hid (gB L=true ->∀(G1 G2:Nat) (U:World),b9 U G1 (jb L) ->b9 U G2 ((ko (aI L) L.length L.length).map az) ->Calls Tryz.prog 194 #[.slice (some ⟨G1,0,none⟩) L.length L.length,.slice (some ⟨G2,0,none⟩) L.length L.length] U fun e w'=>e=.returned (.bool (decide (jb L=(ko (aI L) L.length L.length).map az)))/\Below U.heap.size U w'):=fun hg G1 G2 U h1 h2=>ado G1 G2 L.length L.length L.length _ _ U (WH L) (by rw[cX,aaG]) (by have:=(pP hg).2.1;omega) h1 h2;generalize rE L=nb at *;generalize decide (jb L=(ko (aI L) L.length L.length).map az)=dq at *;generalize (ko (aI L) L.length L.length).map az=cm at *;clear h hl;go_enter Tryz.func147,Tryz.ntmps147;go_wp2_with fail
 refine EI.o.af ?_;rintro e w1 ⟨hb,⟨hg,G,rfl,hG,hU⟩ |⟨hg,v,rfl⟩⟩
 ·have HC:=hid (S2.o hg G);have HE:=hid (CU.o hg G);rw[hg] at pZ;have HU:=hid hU;have HB:=hid hb;clear hU hb S2 CU;go_wp2_with fail
  refine(HC.o _ HU.o).af ?_;rintro e w2 ⟨rfl,hr2,hb2⟩;have yL:=hid (HU.o.aa hb2 HU.o.lt);have eJ:=hid hr2;have bB:=hid (HB.o.trans (hb2.af HB.o.size));clear hr2 hb2 HC;go_wp2_with fail
  refine(HE.o _ _ yL.o eJ.o).af ?_;rintro e w3 ⟨rfl,hb3⟩;have L6:=hid (yL.o.aa hb3 yL.o.lt);have eZ:=hid (bB.o.trans (hb3.af bB.o.size));clear hb3 HE;cases dq
  ·go_wp2;go_ret2;exact⟨eZ.o,.inr ⟨pZ.o,rfl⟩⟩
  ·go_wp2;go_ret2;exact⟨eZ.o,.inl ⟨pZ.o,G,rfl,hG,L6.o⟩⟩
 ·rw[hg] at pZ;have HB:=hid hb;clear hb S2 CU hg;go_wp2;go_ret2;exact⟨HB.o,.inr ⟨pZ.o,rfl⟩⟩
theorem uX.cells {B:Nat} {v:Value} {l:List Nat} (h:uX w B v l):∃d cd,v=.slice d l.length cd/\∀k (hk:k<l.length),∃g o,d=some ⟨g,o,none⟩/\g<w.heap.size/\w.cell? ⟨g,o+k,none⟩=some (.int .u32 (l[k]:Nat)):=by
 rcases h.2 with ⟨h1,h2⟩ |⟨g,cap,cur,h1,h2,h3,h4,h5,h6,h7⟩
 ·have:l=[]:=Db.1 h2;subst this;exact⟨none,0,h1,fun k hk=>absurd hk (by simp)⟩
 ·refine⟨_,_,h1,fun j hj=>⟨g,0,rfl,(dm.1 h3).1,?_⟩⟩;rw[bD,bX w g j _ _ (0,0) h3]
  have e:cur[j]? =(cur.toList.take (l.length*1))[j]?:=by
   rw[sI,aA (by omega),xL]
  rw[e,h7,kD,a8 hj];rfl
def FlR (L:List (List Int)) (e:Ending) (w':World):Prop:=
 (rE L=true/\∃d cd G,e=.returned (.tuple #[.slice d L.length cd,.slice (some ⟨G,0,none⟩) L.length L.length,.int .i64 0])/\aC w' d (iL (bt (aI L) L.length L.length).ord)/\fC w' (some ⟨G,0,none⟩) ((bt (aI L) L.length L.length).bag.map fj))∨
 (rE L=false/\e=.returned (.tuple #[.slice none 0 0,.slice none 0 0,.int .i64 11]))
theorem ain (a:Option Addr) (ca:Nat) (L:List (List Int)) (w:World) (h:fC w a L) (hl:∀l∈L,l.length<=140737488355328):
  Calls Tryz.prog 94 #[.slice a L.length ca] w fun e w'=>FlR L e w'/\Below w.heap.size w w':=by
 have EJ:=hid (adH a ca L w h hl)
 have cC:Hid (rE L=true ->∀(G:Nat) (U:World),b9 U G (jb L) ->Calls Tryz.prog 148 #[.slice (some ⟨G,0,none⟩) L.length L.length] U fun e w'=>∃nv bv,e=.returned (.tuple #[nv,bv])/\lN U w' G nv bv (iL (bt (aI L) L.length L.length).ord) ((bt (aI L) L.length L.length).bag.map az) ((bt (aI L) L.length L.length).nei.map az)):=fun hn G U hU=>by
  have hg:gB L=true:=by
   rw[rE,iK] at hn;exact hn.1
  rw[DI] at hU;exact aih G L.length L.length (aI L) U (pP hg).1 (pP hg).2.1 hU (DD hg)
 have xg:Hid (rE L=true ->(bt (aI L) L.length L.length).ord.length=L.length/\(bt (aI L) L.length L.length).bag.length=L.length/\L.length<=8/\∀p∈(bt (aI L) L.length L.length).bag,∀u∈p,u<8):=fun hn=>by
  have hg:gB L=true:=by
   rw[rE,iK] at hn;exact hn.1
  have h8:=(pP hg).2.1;have h1:=(pP hg).1;have hk:=fun k=>Lx (DD hg) k;refine⟨(hk L.length).2.2.1,(hk L.length).2.2.2,h8,?_⟩
  have key:∀k,∀p∈(bt (aI L) L.length k).bag,∀u∈p,u<8:=fun k=>by
   induction k with
   |zero=>intro p hp;simp[bt] at hp
   |succ k ih=>
    intro p hp u hu;rw[bt] at hp;rcases cI.1 hp with hp |hp
    ·exact ih p hp u hu
    ·rw[eD.1 hp] at hu;rcases dG.1 hu with rfl |hu
     ·have:=Z9 (P:=(bt (aI L) L.length k).nei) h1 (hk k).2.1;omega
     ·have:=(hk k).1.at _ u hu;omega
  exact key _
 clear h hl;go_enter Tryz.func94,Tryz.ntmps94;go_wp2_with fail
 refine EJ.o.af ?_;rintro e w1 ⟨hb,⟨hn,G,rfl,hG,hU⟩ |⟨hn,rfl⟩⟩
 ·have HF:=hid (cC.o hn G _ hU);obtain⟨ho,hbl,h8,fp⟩:=xg.o hn;have HN:=hid hn;have HB:=hid hb;have E5:=hid fp;clear hU hb cC xg hn fp;generalize hS:bt (aI L) L.length L.length=S at *;have CD:=hid hS;clear hS;go_wp2_with fail
  refine HF.o.af ?_;rintro e w2 ⟨nv,bv,rfl,hX⟩;obtain⟨d,cd,rfl,hI⟩:=hX.nd.ints;obtain⟨d2,cd2,rfl,hC⟩:=hX.bg.cells;have bB:Hid (Below w.heap.size w w2):=⟨hX.grow.os.trans HB.o.os,hX.grow.tape.trans HB.o.tape,hX.grow.output.trans HB.o.output,aL HB.o.size hX.grow.size,fun k hk=>(hX.grow.block k (aO hk HB.o.size) (fun e=>by have:=mS e;omega)).trans (HB.o.block k hk)⟩;have e1:(iL S.ord).length=L.length:=by rw[bs];exact ho
  have e2:(S.bag.map az).length=L.length:=by rw[cX];exact hbl
  rw[e1,e2]
  have yZ:=hid (WS d2 cd2 S.bag w2 E5.o (by omega) (fun k hk=>by
   obtain⟨g,o,h1,h2,h3⟩:=hC k (by rw[cX];exact hk);exact⟨g,o,h1,h2,by rw[h3,lV]⟩))
  rw[hbl] at yZ;have HI:=hid hI;clear hX hI hC e1 e2;go_wp2_with fail
  refine yZ.o.af ?_;rintro e w3 ⟨G3,rfl,Lf,hL3,hb3⟩;have nT:=hid (HI.o.aa hb3);have I3:=hid hL3;have eZ:=hid (bB.o.trans (hb3.af bB.o.size));clear hb3 hL3;go_wp2;refine bS (results_tmp3 rfl _ _ _) rfl ?_;exact⟨.inl ⟨HN.o,d,cd,G3,rfl,by rw[CD.o];exact nT.o,by rw[CD.o];exact I3.o⟩,eZ.o⟩
 ·have HN:=hid hn;have HB:=hid hb;clear hn hb;go_wp2;refine bS (results_tmp3 rfl _ _ _) rfl ?_;exact⟨.inr ⟨HN.o,rfl⟩,HB.o⟩
def yH (t:TypeId) (w w':World):Prop:=∀(k:Nat) (c:Array Value) (fr:Nat×Nat),w.heap[k]? =some (Obj.cells c t fr) ->w'.heap[k]? =some (Obj.cells c t fr)
theorem yH.aa {t:TypeId} (hb:Below w.heap.size w w'):yH t w w':=fun k _ _ h=>(hb.block k (dm.1 h).1).trans h
theorem Dw {B:Nat} {e:TypeId} {s:Nat} {v:Value} (h:w.ownsRow B e s v n xs) (hk:yH e w w'):w'.ownsRow B e s v n xs:=by
 refine⟨h.1,?_⟩;rcases h.2 with h1 |⟨g,cap,cur,h1,h2,h3,h4⟩
 ·exact .inl h1
 ·exact .inr ⟨g,cap,cur,h1,h2,hk _ _ _ h3,h4⟩
theorem aip (h1:1<=L.length) (h2:L.length<=8) (h:∀i (hi:i<L.length),dR L[i] L.length=true/\¬i∈ag L[i]):gB L=true:=by
 rw[gB,cS (p:=1<=L.length/\L.length<=8) ⟨h1,h2⟩,Wm fun i hi=>(h i hi).2]
 have:nO L L.length=true:=fE.2 fun l hl=>by
  obtain⟨i,hi,rfl⟩:=iZ hl;exact(h i hi).1
 rw[this];rfl
theorem abM {o:Oper} {a:Act} {Q:Exit ->Act ->World ->Prop} (hgd:o.guard=none) (s x:Operand)
  (ho:o.op=.call {callee:=.builtin .append,args:= #[s,x],argTypes:= #[27,27]}) (base:Nat) (v:Value) (l:List Int) (f:Int) (hs:a.eval s=v) (hown:bA w base v l) (g:Nat) (hx:a.eval x=.slice (some ⟨g,0,none⟩) 1 1) (hg:w.cell? ⟨g,0,none⟩=some (.int .i64 f)) (hlen:l.length+1<=100000) (hbase:base<=w.heap.size)
  (h:∀v' w',bA w' base v' (l++[f]) ->w.grownBy w' v.ownBlock ->(v'.ownBlock=v.ownBlock∨∀k,v'.ownBlock=some k ->w.heap.size<=k) ->wpList Tryz.prog ops Q rest (a.put o.dst v') w'):wpList Tryz.prog ops Q (o::rest) a w:=by
 obtain⟨i0,bY,hz0,hz1,hz2⟩:=dH Tryz.infoInt
 have hnews:∀j u,[Value.int .i64 f][j]? =some u ->w.cell? ((⟨g,0,none⟩:Addr).add j)=some u:=fun j u hj=>by
  match j,hj with
  |0,hj=>cases hj;exact hg
  |j+1,hj=>simp at hj
 have wE:∀u∈[Value.int .i64 f],u.oneCell'=true:=fun u hu=>by
  simp only[dG,kC,sF] at hu;subst hu;rfl
 have hmax:l.length+1<=maxLen:=by unfold maxLen;omega
 obtain⟨v',w',hr,h2,h3, -⟩:=run_append_own (P:=Tryz.prog) w base 27 o.type 3 i0 (.int .i64 0) 1 8 Tryz.underlying27 bY hz0 hz1 hz2 rfl (by decide) v l.length _ hown ⟨g,0,none⟩ 1 1 [.int .i64 f] rfl hnews wE hmax (by omega) hbase
 have hnew:v'.ownBlock=v.ownBlock∨∀k,v'.ownBlock=some k ->w.heap.size<=k:=by
  rcases hown.2 with ⟨h4,h5⟩ |⟨g',cap,cur,h4,hbg,iO,zR,hcm,hcs,Xz⟩
  ·right
   have e:=run_append_nil (P:=Tryz.prog) w 27 o.type 3 i0 (.int .i64 0) Tryz.underlying27 bY hz0 ⟨g,0,none⟩ 1 1 [.int .i64 f] (by rw[hz1];rfl) hnews (by decide) (by decide) (by rw[hz2];decide);rw[h4] at hr;rw[hr] at e;cases e;intro k hk;cases hk;exact aq _
  ·rw[h4] at hr;by_cases hroom:l.length+1<=cap
   ·left
    have e:=run_append_room (P:=Tryz.prog) w 27 o.type 3 i0 Tryz.underlying27 bY g' l.length cap cur iO ⟨g,0,none⟩ 1 1 [.int .i64 f] (by rw[hz1];rfl) hnews wE hroom (by rw[hz1,hcs];simp;omega);rw[hr] at e;cases e;rw[h4];rfl
   ·right
    have hown':=hown;rw[h4] at hown';have e:=run_append_grow (P:=Tryz.prog) w 27 o.type 3 i0 (.int .i64 0) Tryz.underlying27 bY hz0 ⟨g',0,none⟩ l.length cap (l.map (Value.int .i64)) (by rw[hz1];simp) (World.ownsRow.cells hown' rfl) ⟨g,0,none⟩ 1 1 [.int .i64 f] (by rw[hz1];rfl) hnews (by omega) (by omega) (Jh (by omega) (by rw[hz2];omega));rw[hr] at e;cases e;intro k hk;cases hk;exact aq _
 refine wpList_plain hgd fun _ hK=>?_;unfold Oper.wp execOp;simp only[ho,resolve,invoke,builtin,Fc,AX,xD,Fq,fQ,k7,hs,hx,hr];refine hK _ _ (h v' w' ?_ h3 hnew);rw[bA,cK,dL];exact h2
section
attribute [local go_sem] Oper.semAt_some
theorem UL {P:Program} (w:World) (base:Nat) (t ty e:TypeId) (i:TypeInfo) (z:Value) (size bytes:Nat) (ht:P.underlying t=some (.slice e)) (hi:P.info? e=some i) (hz:i.zero=some z) (hsize:i.size=size) (hby:i.bytes=bytes) (hzs:z.cells.size=size) (hsz:0<size)
  (v:Value) (n:Nat) (xs:List Value) (hown:w.ownsRow base e size v n xs) (a:Addr) (m c:Nat) (news:List Value) (hl:news.length=m*size) (hnews:∀j u,news[j]? =some u ->w.cell? (a.add j)=some u) (h1:∀u∈news,u.oneCell'=true)
  (h63:n+m<=maxLen) (hbytes:(n+m)*bytes<=140737488355328) (hbase:base<=w.heap.size) (hm:0<m):
  ∃v' w',(Builtin.append_ #[t,t] ty #[v,.slice (some a) m c]).run P w=.ok v' w'/\w'.ownsRow base e size v' (n+m) (xs++news)/\w.grownBy w' v.ownBlock/\(v'.ownBlock=v.ownBlock∨∀k,v'.ownBlock=some k ->w.heap.size<=k):=by
 obtain⟨v',w',hr,h2,h3, -⟩:=run_append_own (P:=P) w base t ty e i z size bytes ht hi hz hsize hby hzs hsz v n xs hown a m c news hl hnews h1 h63 hbytes hbase;refine⟨v',w',hr,h2,h3,?_⟩;have alD:n+m<=9223372036854775807:=by simp only[maxLen] at h63;omega
 subst hsize;subst hby
 rcases hown.2 with ⟨h4,h5⟩ |⟨g',cap,cur,h4,hbg,iO,zR,hcm,hcs,Xz⟩
 ·right
  have e':=run_append_nil (P:=P) w t ty e i z ht hi hz a m c news hl hnews hm (by omega) (by
   have hb:=hbytes;rw[h5,bD] at hb;omega)
  rw[h4] at hr;rw[hr] at e';cases e';intro k hk;cases hk;exact aq _
 ·rw[h4] at hr;by_cases hroom:n+m<=cap
  ·left
   (have pI:n*i.size+news.length<=cur.size:=by rw[hl,hcs, <- eL];exact jl _ hroom);have e':=run_append_room (P:=P) w t ty e i ht hi g' n cap cur iO a m c news hl hnews h1 hroom pI;rw[hr] at e';cases e';rw[h4];rfl
  ·right
   have hown':=hown;rw[h4] at hown';have e':=run_append_grow (P:=P) w t ty e i z ht hi hz ⟨g',0,none⟩ n cap xs hown'.1 (World.ownsRow.cells hown' rfl) a m c news hl hnews (by omega) (by omega) (Jh (by omega) hbytes);rw[hr] at e';cases e';intro k hk;cases hk;exact aq _
end
def BD (c:Nat):Bool:=decide (97<=c/\c<=122)
def H4 (c:Nat):Bool:=decide (48<=c/\c<=57)
def sL (c:Nat):Bool:=BD c ||H4 c ||decide (c=95)
def xN (s:ByteArray):Bool:=(s.data.toList.all fun c=>sL c.toNat)&&BD (s.data.toList.headD 0).toNat
def isVar (s:ByteArray):Bool:=s.toList==[118,97,114]
def Gi (s:ByteArray):Bool:=s.toList==[101,108,115,101]
def zI (s:ByteArray):Bool:=decide (s.size<=12)&&!isVar s&&!Gi s&&xN s
theorem Ww (c:Nat) (w:World):Calls Tryz.prog 247 #[.int .u8 (c:Nat)] w fun e w'=>e=.returned (.bool (BD c))/\w'=w:=by
 rw[BD];by_cases h1:97<=c
 ·have HE:Hid (decide ((c:Int)<=122)=decide (97<=c/\c<=122)):=AW.2 ⟨fun h=>⟨h1,by omega⟩,fun h=>by omega⟩;have e1:(97:Int)<=(c:Int):=by omega
  go_enter Tryz.func247,Tryz.ntmps247;go_wp2;go_ret;exact⟨by rw[<- HE.o];rfl,rfl⟩
 ·have HE:Hid (decide (97<=c/\c<=122)=false):=cD fun h=>h1 h.1;rw[HE.o];have e1:(c:Int)<97:=by omega
  clear h1;go_enter Tryz.func247,Tryz.ntmps247;go_wp2;go_ret;exact⟨rfl,rfl⟩
theorem afR (c:Nat) (w:World):Calls Tryz.prog 257 #[.int .u8 (c:Nat)] w fun e w'=>e=.returned (.bool (H4 c))/\w'=w:=by
 rw[H4];by_cases h1:48<=c
 ·have HE:Hid (decide ((c:Int)<=57)=decide (48<=c/\c<=57)):=AW.2 ⟨fun h=>⟨h1,by omega⟩,fun h=>by omega⟩;have e1:(48:Int)<=(c:Int):=by omega
  go_enter Tryz.func257,Tryz.ntmps257;go_wp2;go_ret;exact⟨by rw[<- HE.o];rfl,rfl⟩
 ·have HE:Hid (decide (48<=c/\c<=57)=false):=cD fun h=>h1 h.1;rw[HE.o];have e1:(c:Int)<48:=by omega
  clear h1;go_enter Tryz.func257,Tryz.ntmps257;go_wp2;go_ret;exact⟨rfl,rfl⟩
theorem afP (c:Nat) (w:World):Calls Tryz.prog 246 #[.int .u8 (c:Nat)] w fun e w'=>e=.returned (.bool (sL c))/\w'=w:=by
 have HW:Hid (sL c=(BD c ||H4 c ||decide (c=95))):=rfl;have HL:=hid (Ww c);have HF:=hid (afR c);generalize sL c=r at *;go_enter Tryz.func246,Tryz.ntmps246;go_wp2_with fail
 refine(HL.o _).af ?_;rintro e w1 ⟨rfl,rfl⟩;cases hl:BD c with
 |true=>
  rw[hl] at HW;have HE:Hid (r=true):=HW.o;clear hl;go_wp2;go_ret;exact⟨by rw[HE.o];rfl,rfl⟩
 |false=>
  rw[hl] at HW;go_wp2_with fail
  refine(HF.o _).af ?_;rintro e w2 ⟨rfl,rfl⟩;cases hf:H4 c with
  |true=>
   rw[hf] at HW;have HE:Hid (r=true):=HW.o;clear hl hf;go_wp2;go_ret;exact⟨by rw[HE.o];rfl,rfl⟩
  |false=>
   rw[hf] at HW
   have HE:Hid (r=((c:Int)==95)):=by
    show _=_;rw[HW.o,Bool.false_or,Bool.false_or,tZ,eh,p8];omega
   clear hl hf;go_wp2;go_ret;exact⟨by rw[HE.o];rfl,rfl⟩
theorem acs {s:ByteArray} (h:k<s.size):s.data.toList.take (k+1)=s.data.toList.take k++[s[k]]:=by
 have h':k<s.data.toList.length:=by simpa using h
 rw[fP h'];rfl
theorem abX {s:ByteArray} (h:k<s.size) (e:sL s[k].toNat=false):xN s=false:=by
 have hm:s[k]∈s.data.toList:=by
  have:s.data.toList[k]'(by simpa using h)=s[k]:=rfl;rw[<- this];exact bM _
 have:(s.data.toList.all fun c=>sL c.toNat)=false:=by
  rw[De];exact⟨_,hm,by rw[e];decide⟩
 rw[xN,this];rfl
theorem ahN {s:ByteArray} (h:0<s.size):s.data.toList.headD 0=s[0]:=by
 obtain⟨⟨l⟩⟩:=s;cases l with
 |nil=>exact absurd h (by decide)
 |cons c l=>rfl
theorem abV {s:ByteArray} (h:0<s.size) (e:(s.data.toList.take s.size).all (fun c=>sL c.toNat)=true):xN s=BD s[0].toNat:=by
 have e2:s.data.toList.all (fun c=>sL c.toNat)=true:=by
  rwa [jn (by simp)] at e
 rw[xN,e2,Df,ahN h]
theorem afO (s:ByteArray) (w:World) (hs:s.size<=140737488355328):
  Calls Tryz.prog 221 #[.string s] w fun e w'=>e=.returned (.bool (zI s))/\w'=w:=by
 have HN:Hid (zI s=(decide (s.size<=12)&&!isVar s&&!Gi s&&xN s)):=rfl;have RO:=hid (fun k h e=>abX (s:=s) (k:=k) h e);have HWF:=hid (fun h e=>abV (s:=s) h e)
 have HW0:Hid (s.size=0 ->xN s=false):=fun h=>by
  have:s.data.toList=[]:=Db.1 (by rw[A9];exact h);rw[xN,this];rfl
 generalize zI s=nb at *;generalize xN s=wb at *;by_cases h0:s.size=0
 ·have HE:Hid (nb=false):=by show _=_;rw[HN.o,HW0.o h0];simp
  have e1:(s.size:Int)<1:=by omega
  clear h0 HN;go_enter Tryz.func221,Tryz.ntmps221;go_wp2;go_ret;exact⟨by rw[HE.o];rfl,rfl⟩
 by_cases yB:12<s.size
 ·have HE:Hid (nb=false):=by show _=_;rw[HN.o,cD (show ¬s.size<=12 by omega)];rfl
  have e1:(1:Int)<=(s.size:Int):=by omega
  have e2:(12:Int)<(s.size:Int):=by omega
  clear h0 HN;go_enter Tryz.func221,Tryz.ntmps221;go_wp2;go_ret;exact⟨by rw[HE.o];rfl,rfl⟩
 have e1:(1:Int)<=(s.size:Int):=by omega
 have e2:(s.size:Int)<=12:=by omega
 cases hv:isVar s with
 |true=>
  have HE:Hid (nb=false):=by show _=_;rw[HN.o,hv];simp
  rw[isVar] at hv;clear HN h0 yB;go_enter Tryz.func221,Tryz.ntmps221;go_wp2;go_ret;exact⟨by rw[HE.o];rfl,rfl⟩
 |false=>
  cases he:Gi s with
  |true=>
   (have HE:Hid (nb=false):=by show _=_;rw[HN.o,he];simp);rw[isVar] at hv;rw[Gi] at he;clear HN h0 yB;go_enter Tryz.func221,Tryz.ntmps221;go_wp2;go_ret;exact⟨by rw[HE.o];rfl,rfl⟩
  |false=>
   (have HE:Hid (nb=wb):=by show _=_;rw[HN.o,hv,he,cS (show s.size<=12 by omega)];simp);rw[isVar] at hv;rw[Gi] at he;(have h1:0<s.size:=by omega);clear HN h0 yB;go_enter Tryz.func221,Tryz.ntmps221;go_wp2_with fail
   go_loopw [22] (fun iv wr=>∃k:Nat,k<=s.size/\iv=.int .i64 k/\Hid ((s.data.toList.take k).all (fun c=>sL c.toNat)=true)/\wr=w) (fun iv _=>s.size - (intOf iv).toNat)
   case atStart=>exact⟨0,aU _,rfl,rfl,rfl⟩
   case round=>
    obtain⟨k,hk,rfl,HA,rfl⟩:=hrel;by_cases hlt:k<s.size
    ·have HB:=hid (RO.o k hlt)
     have HT:Hid (sL s[k].toNat=true ->(s.data.toList.take (k+1)).all (fun c=>sL c.toNat)=true):=fun h=>by
      rw[acs hlt,Fx,HA.o];simp[h]
     go_wp2_with fail
     refine(afP s[k].toNat _).af ?_;rintro e w1 ⟨rfl,rfl⟩;cases hw:sL s[k].toNat with
     |false=>
      have HF:=hid (HB.o hw);clear hw;go_wp2;go_ret;exact⟨by rw[HE.o,HF.o];rfl,rfl⟩
     |true=>
      have HS:=hid (HT.o hw);clear hw;go_wp2;go_roundw
      case rel=>exact⟨k+1,by omega,by go_num,HS,trivial⟩
      case measure=>simp[intOf];omega
    ·obtain rfl:k=s.size:=by omega
     have HF:=hid (HWF.o h1 HA.o);go_wp2_with fail
     refine(Ww s[0].toNat _).af ?_;rintro e w1 ⟨rfl,rfl⟩;go_wp2;go_ret;exact⟨by rw[HE.o,HF.o];rfl,rfl⟩
def qQ (w:World) (a:Option Addr) (l:List ByteArray):Prop:=∀k (h:k<l.length),∃g o,a=some ⟨g,o,none⟩/\g<w.heap.size/\w.cell? ⟨g,o+k,none⟩=some (.string l[k])
theorem qQ.aa {l:List ByteArray} (h:qQ w a l) (hb:Below w.heap.size w w'):qQ w' a l:=fun k hk=>by
 obtain⟨g,o,h1,h2,h3⟩:=h k hk;exact⟨g,o,h1,aO h2 hb.size,(hb.cell (p:=⟨g,o+k,none⟩) h2).trans h3⟩
theorem qQ.take {l:List ByteArray} (h:qQ w a l) (i:Nat):qQ w a (l.take i):=fun k hk=>by
 have eV:k<l.length:=by rw[dP] at hk;omega
 obtain⟨g,o,h1,h2,h3⟩:=h k eV;refine⟨g,o,h1,h2,?_⟩;rw[zm];exact h3
def iD (f:Nat ->Int):Nat ->Int
 |0=>0
 |n+1=>if iD f n=0 then f n else iD f n
theorem yC {f:Nat ->Int}:∀ {n:Nat},(∀j,j< n ->f j=0) ->iD f n=0
 |0,_=>rfl
 |n+1,h=>by rw[iD,aA (yC fun j hj=>h j (by omega)),h n (by omega)]
theorem Hy {f:Nat ->Int} (h:∀j,j< i ->f j=0) (hi:f i≠0):∀ {n:Nat},i< n ->iD f n=f i
 |0,hn=>by omega
 |n+1,hn=>by
  rcases cT i n with h1 |h1
  ·rw[iD,Hy h hi h1,aD hi]
  ·obtain rfl:i=n:=by omega
   rw[iD,aA (yC h)]
theorem MU {f:Nat ->Int} (h:∀j,j< i ->f j=0) (hi:f i=0):∀j,j<i+1 ->f j=0:=fun j hj=>by
 rcases cT j i with h1 |h1
 ·exact h j h1
 ·obtain rfl:j=i:=by omega
  exact hi
def x4 (l:List ByteArray) (v:ByteArray):Bool:=l.any fun x=>decide (x=v)
def ug (l:List ByteArray) (i:Nat):Int:=if zI (l.getD i ⟨#[]⟩)=true then(if x4 (l.take i) (l.getD i ⟨#[]⟩)=true then 7 else 0) else 4
def l6 (l:List ByteArray):Int:=iD (ug l) l.length
theorem QS {l:List ByteArray} (h:i<l.length):l.getD i ⟨#[]⟩=l[i]:=by rw[bU,a8 h];rfl
def xV (l:List ByteArray) (v:ByteArray):Int:=match l.findIdx? (fun x=>decide (x=v)) with
 |some i=>(i:Int)
 |none=> -1
theorem Rj {a b:ByteArray}:(a.toList==b.toList)=decide (a=b):=by
 rw[tZ,p8,eh];constructor
 ·intro h;rw[toList_data,toList_data] at h;obtain⟨⟨x⟩⟩:=a;obtain⟨⟨y⟩⟩:=b;simp only at h;rw[h]
 ·intro h;rw[h]
theorem aey {l:List ByteArray} {v:ByteArray} (h:i<l.length) (e:l[i]=v) (hn:∀j (hj:j<l.length),j< i ->¬l[j]=v):xV l v=i:=by
 have:l.findIdx? (fun x=>decide (x=v))=some i:=List.findIdx?_eq_some_iff_getElem.2 ⟨h,cS e,fun j hj=>by
  rw[eh];exact hn j (by omega) hj⟩
 rw[xV,this]
theorem aew {l:List ByteArray} {v:ByteArray} (hn:∀j (hj:j<l.length),¬l[j]=v):xV l v= -1:=by
 have:l.findIdx? (fun x=>decide (x=v))=none:=List.findIdx?_eq_none_iff.2 fun x hx=>by
  obtain⟨j,hj,rfl⟩:=iZ hx;exact cD (hn j hj)
 rw[xV,this]
theorem aex (l:List ByteArray) (v:ByteArray):decide (0<=xV l v)=x4 l v:=by
 rw[tZ,eh,x4,sJ,xV];cases e:l.findIdx? (fun x=>decide (x=v)) with
 |some i=>
  obtain⟨h,hp,_⟩:=List.findIdx?_eq_some_iff_getElem.1 e;exact⟨fun _=>⟨l[i],bM h,hp⟩,fun _=>by show (0:Int)<=(i:Int);omega⟩
 |none=>
  have:=List.findIdx?_eq_none_iff.1 e;exact⟨fun h=>by exact absurd (show (0:Int)<= -1 from h) (by decide),fun ⟨x,hx,hp⟩=>by rw[this x hx] at hp;cases hp⟩
theorem ac5 (a:Option Addr) (ca:Nat) (l:List ByteArray) (v:ByteArray) (w:World) (h:qQ w a l) (hn:l.length<=140737488355328):
  Calls Tryz.prog 248 #[.slice a l.length ca,.string v] w fun e w'=>e=.returned (.int .i64 (xV l v))/\w'=w:=by
 have HF:=hid h;have HP:=hid (fun i h e hn=>aey (l:=l) (v:=v) (i:=i) h e hn);have HQ:=hid (fun hn=>aew (l:=l) (v:=v) hn);generalize xV l v=r at *;clear h;go_enter Tryz.func248,Tryz.ntmps248;go_wp2_with fail
 go_loopw [8] (fun iv wr=>∃i:Nat,i<=l.length/\iv=.int .i64 i/\Hid (∀j (hj:j<l.length),j< i ->¬l[j]=v)/\wr=w) (fun iv _=>l.length - (intOf iv).toNat)
 case atStart=>exact⟨0,aU _,rfl,fun j _ h=>absurd h (by omega),rfl⟩
 case round=>
  obtain⟨i,hi,rfl,HN,rfl⟩:=hrel;by_cases hlt:i<l.length
  ·obtain⟨g,o,rfl,hg,c0⟩:=HF.o i hlt;have yP:=hid (fun e=>HP.o i hlt e HN.o)
   have si:Hid (¬l[i]=v ->∀j (hj:j<l.length),j<i+1 ->¬l[j]=v):=fun h j hj pH=>by
    rcases cT j i with h2 |h2
    ·exact HN.o j hj h2
    ·obtain rfl:j=i:=by omega
     exact h
   generalize l[i]=x at *;by_cases e:x=v
   ·have HE:=hid (yP.o e);subst e;go_wp2;go_ret;exact⟨by rw[HE.o];rfl,rfl⟩
   ·have HE:=hid (si.o e);(have e1:(v.toList==x.toList)=false:=by rw[Rj];exact cD fun h=>e h.symm);clear e;go_wp2;go_roundw
    case rel=>exact⟨i+1,by omega,by go_num,HE,trivial⟩
    case measure=>simp[intOf];omega
  ·obtain rfl:i=l.length:=by omega
   have HE:=hid (HQ.o fun j hj=>HN.o j hj hj);go_wp2;go_ret;exact⟨by rw[HE.o];rfl,rfl⟩
theorem ac7 (a:Option Addr) (ca:Nat) (l:List ByteArray) (v:ByteArray) (w:World) (h:qQ w a l) (hn:l.length<=140737488355328):
  Calls Tryz.prog 222 #[.slice a l.length ca,.string v] w fun e w'=>e=.returned (.bool (x4 l v))/\w'=w:=by
 have HF:=hid h;have HI:=hid (fun (V:World) (hV:qQ V a l)=>ac5 a ca l v V hV hn);have HM:=hid (aex l v);generalize x4 l v=m at *;generalize xV l v=r at *;clear h;go_enter Tryz.func222,Tryz.ntmps222;go_wp2_with fail
 refine(HI.o _ HF.o).af ?_;rintro e w1 ⟨rfl,rfl⟩;go_wp2;go_ret;exact⟨by rw[<- HM.o];rfl,rfl⟩
theorem afL {l:List ByteArray} (h:i<l.length) (e:zI l[i]=false):ug l i=4:=by rw[ug,QS h,e,aD (by decide)]
theorem afN {l:List ByteArray} (h:i<l.length) (e:zI l[i]=true) (e':x4 (l.take i) l[i]=true):ug l i=7:=by rw[ug,QS h,e,aA rfl,e',aA rfl]
theorem afM {l:List ByteArray} (h:i<l.length) (e:zI l[i]=true) (e':x4 (l.take i) l[i]=false):ug l i=0:=by rw[ug,QS h,e,aA rfl,e',aD (by decide)]
theorem aaF (a:Option Addr) (ca:Nat) (l:List ByteArray) (w:World) (h:qQ w a l) (hn:l.length<=140737488355328) (hc:l.length<=ca) (hs:∀s∈l,s.size<=140737488355328):
  Calls Tryz.prog 174 #[.slice a l.length ca] w fun e w'=>e=.returned (.int .i64 (l6 l))/\w'=w:=by
 have HF:=hid h;have fN:=hid hs;have HA:Hid (∀i,i<l.length ->(∀j,j< i ->ug l j=0) ->∀k,ug l i=k ->k≠0 ->l6 l=k):=fun i hi hz k hk hk0=>by rw[l6,Hy hz (by rw[hk];exact hk0) hi,hk]
 have HZ:Hid ((∀j,j<l.length ->ug l j=0) ->l6 l=0):=fun h=>yC h;have HW:=hid (fun i h e=>afL (l:=l) (i:=i) h e);have HD:=hid (fun i h e e'=>afN (l:=l) (i:=i) h e e');have HO:=hid (fun i h e e'=>afM (l:=l) (i:=i) h e e');generalize l6 l=r at *;clear h hs;go_enter Tryz.func174,Tryz.ntmps174;go_wp2_with fail
 go_loopw [7] (fun iv wr=>∃i:Nat,i<=l.length/\iv=.int .i64 i/\Hid (∀j,j< i ->ug l j=0)/\wr=w) (fun iv _=>l.length - (intOf iv).toNat)
 case atStart=>exact⟨0,aU _,rfl,fun j h=>absurd h (by omega),rfl⟩
 case round=>
  obtain⟨i,hi,rfl,HN,rfl⟩:=hrel;by_cases hlt:i<l.length
  ·obtain⟨g,o,rfl,hg,c0⟩:=HF.o i hlt;have hsz:=fN.o l[i] (bM hlt);have LY:=hid (fun e=>HA.o i hlt HN.o 4 (HW.o i hlt e) (by decide));have HDi:=hid (fun e e'=>HA.o i hlt HN.o 7 (HD.o i hlt e e') (by decide));have Mg:=hid (fun e e'=>MU HN.o (HO.o i hlt e e'));have HTK:=hid (HF.o.take i);(have nB:(l.take i).length=i:=by rw[dP];omega)
   have vE:Hid (∀(v:ByteArray) (V:World),qQ V (some ⟨g,o,none⟩) (l.take i) ->Calls Tryz.prog 222 #[.slice (some ⟨g,o,none⟩) i ca,.string v] V fun e w'=>e=.returned (.bool (x4 (l.take i) v))/\w'=V):=fun v V hV=>by
    have:=ac7 (some ⟨g,o,none⟩) ca (l.take i) v V hV (by omega);rwa [nB] at this
   clear nB;generalize l[i]=x at *;go_wp2_with fail
   refine(afO x _ hsz).af ?_;rintro e w1 ⟨rfl,rfl⟩;cases rL:zI x with
   |false=>
    have HE:=hid (LY.o rL);clear rL;go_wp2;go_ret;exact⟨by rw[HE.o];rfl,rfl⟩
   |true=>
    go_wp2_with fail
    refine(vE.o x _ HTK.o).af ?_;rintro e w2 ⟨rfl,rfl⟩;cases hm:x4 (l.take i) x with
    |true=>
     have HE:=hid (HDi.o rL hm);clear rL hm;go_wp2;go_ret;exact⟨by rw[HE.o];rfl,rfl⟩
    |false=>
     have HE:=hid (Mg.o rL hm);clear rL hm;go_wp2;go_roundw
     case rel=>exact⟨i+1,by omega,by go_num,HE,trivial⟩
     case measure=>simp[intOf];omega
  ·obtain rfl:i=l.length:=by omega
   have HE:=hid (HZ.o HN.o);go_wp2;go_ret;exact⟨by rw[HE.o];rfl,rfl⟩
variable {z:Value}
abbrev Vr:Type:=ByteArray×List ByteArray
def rY (w:World) (a:Option Addr) (V:List Vr):Prop:=∀k (h:k<V.length),∃g o b c,a=some ⟨g,o,none⟩/\g<w.heap.size/\w.cell? ⟨g,o+k*2,none⟩=some (.string V[k].1)/\w.cell? ⟨g,o+k*2+1,none⟩=some (.slice b V[k].2.length c)/\qQ w b V[k].2/\V[k].2.length<=c
theorem rY.aa {V:List Vr} (h:rY w a V) (hb:Below w.heap.size w w'):rY w' a V:=fun k hk=>by
 obtain⟨g,o,b,c,h1,h2,h3,h4,h5,h6⟩:=h k hk;exact⟨g,o,b,c,h1,aO h2 hb.size,(hb.cell (p:=⟨g,o+k*2,none⟩) h2).trans h3,(hb.cell (p:=⟨g,o+k*2+1,none⟩) h2).trans h4,h5.aa hb,h6⟩
abbrev NC (x y z:Value):Obj:=.cells #[x,y,z] 26
abbrev VC (x y:Value):Obj:=.cells #[x,y] 69
def cR (w:World) (g:Nat) (x y z:Value):Prop:=w.heap[g]? =some (.cells #[x,y,z] 26 (0,0))
theorem cR.at (hg:w.heap.size=g) (x y z:Value):cR (w.alloc (NC x y z)) g x y z:=by subst hg;exact im w _
theorem cR.lt (h:cR w g x y z):g<w.heap.size:=(dm.1 h).1
theorem cR.aa {b:Nat} (h:cR w g x y z) (hb:Below b w w') (hg:g<b):cR w' g x y z:=(hb.block g hg).trans h
theorem cR.cells (h:cR w g x y z):w.cell? ⟨g,0,none⟩=some x/\w.cell? ⟨g,1,none⟩=some y/\w.cell? ⟨g,2,none⟩=some z:=by
 refine⟨?_,?_,?_⟩<;>(rw[bX w g _ _ _ (0,0) h];rfl)
theorem Dg (w:World) (x y:Value):(w.alloc (VC x y)).cell? ⟨w.heap.size,0,none⟩=some x/\(w.alloc (VC x y)).cell? ⟨w.heap.size,1,none⟩=some y:=by
 have h:(w.alloc (VC x y)).heap[w.heap.size]? =some (.cells #[x,y] 69 (0,0)):=im w _;exact⟨by rw[bX _ _ _ _ _ (0,0) h];rfl,by rw[bX _ _ _ _ _ (0,0) h];rfl⟩
def ar (V:List Vr):List Nat:=V.map fun x=>x.2.length
theorem kI (V:List Vr):(ar V).length=V.length:=by simp[ar]
theorem FY {V:List Vr} (h:i<V.length):(ar V)[i]? =some V[i].2.length:=by simp[ar,h]
theorem Ge (a b c:Option Addr) (ca cb cc n m:Nat) (V:List Vr) (w:World) (h:rY w a V) (hV:V.length<=5000):
  Calls Tryz.prog 25 #[.agg #[.slice a V.length ca,.slice b n cb,.slice c m cc]] w fun e w'=>∃G,e=.returned (.slice (some ⟨G,0,none⟩) V.length V.length)/\w.heap.size<=G/\ck w' G (ar V)/\Below w.heap.size w w':=by
 obtain⟨i0,bY,hz0,hz1,hz2⟩:=dH Tryz.infoInt;have HF:=hid h;have HG:Hid (∀i (h:i<V.length),(ar V)[i]? =some V[i].2.length):=fun i h=>FY h;have cZ:=kI V;generalize ar V=ds at *;clear h;have hN:=cR.at (w:=w) rfl (.slice a V.length ca) (.slice b n cb) (.slice c m cc);have hB0:=(au _ w).alloc (aq _) (NC (.slice a V.length ca) (.slice b n cb) (.slice c m cc));obtain⟨c0, -, -⟩:=hN.cells;have KZ:=hN.lt;go_enter Tryz.func25,Tryz.ntmps25;go_upto_region 1 with fail
 generalize (w.alloc (NC (.slice a V.length ca) (.slice b n cb) (.slice c m cc)))=w1 at *
 go_wp2_with (first
  |(at_make;refine mR _ rfl _ _ 27 rfl w1.heap.size 3 i0 (.int .i64 0) 1 Tryz.underlying27 bY hz0 hz1 .i64 .i64 _ _ V.length rfl rfl (by go_num) (by go_num) (by rw[hz2];omega) (by unfold maxLen;omega) (aq _) ?_;intro w2 hown2 hgrow2;have hB2:Below w1.heap.size w1 w2:=(au _ w1).grown hgrow2 (aq _) (fun k e=>by cases e);have LO:=(hN.aa hB2 KZ).cells.1;clear c0))
 have hb2:=pS hown2;rw[DJ] at hb2;have HI:Hid (ck w2 w1.heap.size (List.replicate V.length 0)):=hb2;have bB:Hid (Below w.heap.size w w2):=hB0.trans (hB2.af hB0.size);have hG:=hB0.size;clear hown2 hgrow2 hb2 hB2;clear LO;go_loopw [13] (fun iv wr=>∃i:Nat,i<=V.length/\iv=.int .i64 i/\Hid (ck wr w1.heap.size (ou ds i))/\Hid (Below w.heap.size w wr)) (fun iv _=>V.length - (intOf iv).toNat)
 case atStart=>exact⟨0,aU _,rfl,by rw[Vw,cZ];exact HI,bB⟩
 case round=>
  obtain⟨i,hi,rfl,HR,HB⟩:=hrel;clear HI bB;by_cases hlt:i<V.length
  ·obtain⟨g,o,b',c',rfl,hg,c0,c1, -, -⟩:=(HF.o.aa HB.o) i hlt;obtain⟨qu,pL⟩:=nY.1 (HG.o i hlt);have pX:=hid (Vx ds qu);rw[pL] at pX;generalize V[i]=v at *;obtain⟨nm,vs⟩:=v;simp only at c0 c1 pX;obtain⟨d0,d1⟩:=Dg wr (.string nm) (.slice b' vs.length c');have bc:=(au _ wr).alloc (aq _) (VC (.string nm) (.slice b' vs.length c'));have yq:=HR.o.aa bc HR.o.lt;have k0:=yq.cell i (by rw[Kh _ (by omega)];omega);have f0:=yq.fz i;have hS:=yq.set i vs.length;rw[pX.o] at hS;have HS:=hid hS;have CX:=hid ((HB.o.trans (bc.af HB.o.size)).setCell (p:=⟨w1.heap.size,i,none⟩) hG (.int .i64 (vs.length:Nat)));generalize (ou ds i)[i]'(by rw[Kh _ (by omega)];omega)=z at *;clear qu pL bc yq hS;go_wp2;go_roundw
   case rel=>exact⟨i+1,by omega,by go_num,HS,CX⟩
   case measure=>simp[intOf];omega
  ·obtain rfl:i=V.length:=by omega
   have jz:=HR.o;rw[<- cZ,Vy] at jz;have cC:=hid jz;clear jz;go_wp2;go_ret;exact⟨w1.heap.size,rfl,hG,cC.o,HB.o⟩
end Go.Proofs.YtfgkjjlocjmfeaaGreatDoor
