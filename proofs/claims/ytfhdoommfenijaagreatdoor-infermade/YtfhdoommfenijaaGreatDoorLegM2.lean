/- Part2: part 2. -/
import Derived.Test.YtfhdoommfenijaaGreatDoorLegM1
set_option maxRecDepth 100000
set_option maxHeartbeats 400000000
set_option linter.unusedSimpArgs false
set_option linter.unusedVariables false
namespace Go.Proofs.YtfhdoommfenijaaGreatDoor
open Go.RowKit
variable {q:Rat}
theorem aiT (n nb:Bool) (a y b c:ByteArray) (w:World) (i:a.size+y.size<=50000) (j:b.size+c.size<=50000):
  c6 108 #[.agg #[.bool n,.string a,.string y],.agg #[.bool nb,.string b,.string c]] w (da w (C (val n a y - val nb b c))):=by
 have A:=aD (fun V=>PU n (!nb) a y b c V i j);rw[aaj, <- Rat.sub_eq_add_neg] at A;generalize val n a y - val nb b c=r at *;go_enter Tryz.func108,Tryz.ntmps108;have f:=aF.at (w:=(w.alloc (FC n a y)).alloc (FC (!nb) b c)) (g:=w.heap.size+2) aE false ⟨#[]⟩ ⟨#[]⟩;have h:c8 w (((w.alloc (FC n a y)).alloc (FC (!nb) b c)).alloc (FC false ⟨#[]⟩ ⟨#[]⟩)):=(((aw _ w).alloc (ar _) _).alloc aE _).alloc (by simp;omega) _;go_wp2_with fail
 refine(A.o _).af ?_;rintro e v ⟨rfl,d⟩;have k:=f.aa d f.lt;have l:=h.trans (d.af h.size);obtain⟨s,t,u,m,p,q⟩:=k.facts;rw[kL];go_wp2;refine bD ((k.put _ _ _).result rfl _ rfl) rfl ?_;exact⟨rfl,bL l al _ _ _⟩
theorem abI (n nb:Bool) (a y b c:ByteArray) (w:World) (ha:a.size+y.size<=50000) (hb:b.size+c.size<=50000):
  c6 67 #[.agg #[.bool n,.string a,.string y],.agg #[.bool nb,.string b,.string c]] w (da w (C (val n a y*val nb b c))):=by
 have Y:=aD (fun V=>Je n a y V al al);have Z:=aD (fun V=>Je nb b c V al al);have q1:=Ej n a y;have q2:=Ej nb b c;generalize val n a y=p at *;generalize val nb b c=q at *;have z1:=lC p;have z2:=lC q;have s1:=tj p.num.natAbs q.num.natAbs;have s3:=tj p.den q.den;have e1:(B p.num.natAbs).size=(nu p).size:=rfl;have e2:(B p.den).size=(de p).size:=rfl;have e3:(B q.num.natAbs).size=(nu q).size:=rfl;have e4:(B q.den).size=(de q).size:=rfl
 have HS:Hid (val (aJ p !=aJ q) (B (p.num.natAbs*q.num.natAbs)) (B (p.den*q.den))=p*q):=by
  show _=_;have e:=val_mul (aJ p) (aJ q) (nu p) (de p) (nu q) (de q);rw[gg,gg,vY,vY,nP,nP] at e;rw[val,bS,bS,e]
 have U:=aD (fun (V:World)=>Lv (w:=V) (p.num.natAbs*q.num.natAbs) (aw _ V) (by rw[vY,vY]) (show (nu p).size<=_ by omega) (show (nu q).size<=_ by omega));have Oh:=aD (fun (V:World)=>Lv (w:=V) (p.den*q.den) (aw _ V) (by rw[nP,nP]) (show (de p).size<=_ by omega) (show (de q).size<=_ by omega));generalize p*q=r at *;generalize p.num.natAbs*q.num.natAbs=X at *;generalize p.den*q.den=D at *;have t1:(B X).size<=200000:=al
 have t3:(B D).size<=200000:=al
 clear s1 s3 e1 e2 e3 e4 z1 z2 q1 q2 ha hb;go_enter Tryz.func67,Tryz.ntmps67;have z:=((aF.at (w:=w) rfl n a y).alloc (FC nb b c)).alloc (FC false ⟨#[]⟩ ⟨#[]⟩);have A:=(aF.at (w:=w.alloc (FC n a y)) (g:=w.heap.size+1) aE nb b c).alloc (FC false ⟨#[]⟩ ⟨#[]⟩);have T:=aF.at (w:=(w.alloc (FC n a y)).alloc (FC nb b c)) (g:=w.heap.size+2) aE false ⟨#[]⟩ ⟨#[]⟩;have R:c8 w (((w.alloc (FC n a y)).alloc (FC nb b c)).alloc (FC false ⟨#[]⟩ ⟨#[]⟩)):=(((aw _ w).alloc (ar _) _).alloc aE _).alloc (by simp;omega) _;go_wp2_with fail
 refine(Y.o _).af ?_;rintro e w1 ⟨rfl,i⟩;have L:=z.aa i z.lt;have s:=(A.aa i A.lt).far3 (g':=w.heap.size) al (.bool (aJ p)) (.string (nu p)) (.string (de p));have I:=(T.aa i T.lt).far3 (g':=w.heap.size) al (.bool (aJ p)) (.string (nu p)) (.string (de p));have S:=bL (R.trans (i.af R.size)) (ar _) (.bool (aJ p)) (.string (nu p)) (.string (de p));have K:=L.put (aJ p) (nu p) (de p);obtain⟨E,F,H,t,u,v⟩:=L.facts;obtain⟨d,f,h,_,_,_⟩:=s.facts;rw[kL];clear z A T R L i;go_wp2_with fail
 clear E F H t u v d f h;refine(Z.o _).af ?_;rintro e w2 ⟨rfl,j⟩;have J:=s.aa j s.lt;have M:=(K.aa j K.lt).far3 (g':=w.heap.size+1) al (.bool (aJ q)) (.string (nu q)) (.string (de q));have yO:=(I.aa j I.lt).far3 (g':=w.heap.size+1) al (.bool (aJ q)) (.string (nu q)) (.string (de q));have cj:=bL (S.trans (j.af S.size)) (g:=w.heap.size+1) al (.bool (aJ q)) (.string (nu q)) (.string (de q));have O:=J.put (aJ q) (nu q) (de q);obtain⟨E,F,H,t,u,v⟩:=J.facts;have ht:Nx w _ p q false ⟨#[]⟩ ⟨#[]⟩:=⟨M,O,yO,cj⟩;obtain⟨d,f,h,_,_,_⟩:=M.facts;obtain⟨k,l,m,_,_,_⟩:=O.facts;rw[kL];clear K s I S J M yO cj O j Y Z;go_wp2_with fail
 refine(U.o _).af ?_;rintro e w3 ⟨rfl,ab⟩;clear d f h k l m E F H t u v;have x:=ht.step ab;clear ht ab U;obtain⟨d,f,h,_,_,_⟩:=x.1.facts;obtain⟨k,l,m,_,_,_⟩:=x.2.1.facts;go_wp2_with fail
 refine(Oh.o _).af ?_;rintro e w4 ⟨rfl,ad⟩;clear d f h k l m;have Q:=x.step ad;clear x ad Oh;obtain⟨d,f,h,_,_,_⟩:=Q.1.facts;obtain⟨k,l,m,_,_,_⟩:=Q.2.1.facts;go_wp2_with fail
 refine(Lx (aJ p !=aJ q) (B X) (B D) _ al al).af ?_;rintro e w7 ⟨rfl,bV⟩;have P:=Q.step bV;obtain⟨g0,g1,g2,i0,i1,i2⟩:=P.2.2.1.facts;rw[HS.o,kL];go_wp2;refine bD ((P.2.2.1.put _ _ _).result rfl _ rfl) rfl ?_;exact⟨rfl,bL P.2.2.2 al _ _ _⟩
theorem acP (h:q=0):nu q=⟨#[]⟩:=by subst h;exact BP
theorem acQ (h:¬q=0):(nu q).toList.isEmpty=false:=DR (by rw[Ne,Int.natAbs_eq_zero,Rat.num_eq_zero];exact h)
theorem T8 (n:Bool) (x y:ByteArray) (w:World) (m:x.size+y.size<=50000):
  c6 65 #[.agg #[.bool n,.string x,.string y]] w (da w (.bool (decide (val n x y=0)))):=by
 have g:=aD (fun V=>Je n x y V al al);generalize val n x y=q at *
 have z:(q=0/\decide (q=0)=true)∨(¬q=0/\decide (q=0)=false):=by
  by_cases h:q=0
  ·exact .inl ⟨h,cY h⟩
  ·exact .inr ⟨h,cK h⟩
 have H:=aD z;clear z;generalize decide (q=0)=t at *;go_enter Tryz.func65,Tryz.ntmps65;have b:=aF.at (w:=w) rfl n x y;have c:c8 w (w.alloc (FC n x y)):=(aw _ w).alloc (ar _) _;go_wp2_with fail
 refine(g.o _).af ?_;rintro e v ⟨rfl,f⟩;have i:=b.aa f b.lt;have d:=bL (c.trans (f.af c.size)) (ar _) (.bool (aJ q)) (.string (nu q)) (.string (de q));obtain⟨p,r,s,j,k,l⟩:=i.facts;rw[kL];rcases H.o with ⟨h,rfl⟩ |⟨h,rfl⟩
 ·have a:=acP h;clear h H;generalize nu q=u at *;subst a;go_wp2;go_ret;exact⟨rfl,d⟩
 ·have a:=acQ h;clear h H;go_wp2;go_ret;exact⟨rfl,d⟩
theorem aji (a nb:Bool) (x c b y:ByteArray) (w:World) (h:val nb b y=0) (i:b.size+y.size<=50000):
  c6 32 #[.agg #[.bool a,.string x,.string c],.agg #[.bool nb,.string b,.string y]] w (da w (.tuple #[.agg #[.bool false,.string ⟨#[]⟩,.string ⟨#[]⟩],.int .i64 3])):=by
 have H:=aD (fun V=>T8 nb b y V i);rw[cY h] at H;clear h;go_enter Tryz.func32,Tryz.ntmps32;have r:=aF.at (w:=(w.alloc (FC a x c)).alloc (FC nb b y)) (g:=w.heap.size+2) aE false ⟨#[]⟩ ⟨#[]⟩;have d:c8 w (((w.alloc (FC a x c)).alloc (FC nb b y)).alloc (FC false ⟨#[]⟩ ⟨#[]⟩)):=(((aw _ w).alloc (ar _) _).alloc aE _).alloc (by simp;omega) _;go_wp2_with fail
 refine(H.o _).af ?_;rintro e t ⟨rfl,f⟩;have k:=r.aa f r.lt;have j:=d.trans (f.af d.size);obtain⟨p,q,s,l,m,n⟩:=k.facts;go_wp2;refine bD ((k.put _ _ _).result2 rfl _ rfl) rfl ?_;exact⟨rfl,bL j al _ _ _⟩
theorem abL (n nb:Bool) (a c b y:ByteArray) (w:World) (h:¬val nb b y=0) (U:a.size+c.size<=40000) (X:b.size+y.size<=40000):
  c6 32 #[.agg #[.bool n,.string a,.string c],.agg #[.bool nb,.string b,.string y]] w (da w (.tuple #[C (val n a c/val nb b y),.int .i64 0])):=by
 have Z:=aD (fun V=>T8 nb b y V al);rw[cK h] at Z;have J:=aD (fun V=>Je nb b y V al al);have q2:=Ej nb b y;generalize val nb b y=q at *;have z2:=lC q;have H:=aD (fun V=>abI n (aJ q) a c (de q) (nu q) V al al)
 have x:val (aJ q) (de q) (nu q)=q⁻¹:=by
  rw[Tw (aJ q) (nu q) (de q) (by rw[vY,Ne,Int.natAbs_eq_zero,Rat.num_eq_zero];exact h) (by rw[nP];exact q.den_nz),gg]
 rw[x, <- vg] at H;generalize val n a c/q=r at *;clear x h z2 q2 U X;go_enter Tryz.func32,Tryz.ntmps32;have i:=((aF.at (w:=w) rfl n a c).alloc (FC nb b y)).alloc (FC false ⟨#[]⟩ ⟨#[]⟩);have k:=(aF.at (w:=w.alloc (FC n a c)) (g:=w.heap.size+1) aE nb b y).alloc (FC false ⟨#[]⟩ ⟨#[]⟩);have s:=aF.at (w:=(w.alloc (FC n a c)).alloc (FC nb b y)) (g:=w.heap.size+2) aE false ⟨#[]⟩ ⟨#[]⟩;have m:c8 w (((w.alloc (FC n a c)).alloc (FC nb b y)).alloc (FC false ⟨#[]⟩ ⟨#[]⟩)):=(((aw _ w).alloc (ar _) _).alloc aE _).alloc (by simp;omega) _;go_wp2_with fail
 refine(Z.o _).af ?_;rintro e w1 ⟨rfl,d⟩;have L:=i.aa d i.lt;have j:=k.aa d k.lt;have l:=s.aa d s.lt;have p:=m.trans (d.af m.size);obtain⟨K,M,P,_,_,_⟩:=j.facts;clear i k s m d;go_wp2_with fail
 refine(J.o _).af ?_;rintro e w2 ⟨rfl,f⟩;have oW:=(L.aa f L.lt).far3 (g':=w.heap.size+1) al (.bool (aJ q)) (.string (nu q)) (.string (de q));have Y:=j.aa f j.lt;have E:=(l.aa f l.lt).far3 (g':=w.heap.size+1) al (.bool (aJ q)) (.string (nu q)) (.string (de q));have F:=bL (p.trans (f.af p.size)) (g:=w.heap.size+1) al (.bool (aJ q)) (.string (nu q)) (.string (de q));clear K M P L j l p f;obtain⟨z,A,D,t,u,v⟩:=Y.facts;obtain⟨R,S,T,_,_,_⟩:=oW.facts;rw[kL];go_wp2_with fail
 refine(H.o _).af ?_;rintro e w3 ⟨rfl,I⟩;have O:=E.aa I E.lt;have Q:=F.trans (I.af F.size);clear z A D t u v R S T;obtain⟨z,A,D,t,u,v⟩:=O.facts;rw[kL];go_wp2;refine bD ((O.put _ _ _).result2 rfl _ rfl) rfl ?_;exact⟨rfl,bL Q al _ _ _⟩
theorem apg (p q:Rat):c5 p q=if p - q=0 then 0 else if aJ (p - q)=true then -1 else 1:=by
 have s:aJ (p - q)=true↔p - q<0:=by
  have h:=Rat.num_nonneg (q:=p - q);rw[aJ,eR];constructor
  ·intro a;have b:¬0<=p - q:=fun e=>absurd (h.2 e) al;grind
  ·intro a;have b:¬0<=(p - q).num:=fun e=>absurd (h.1 e) (by grind);omega
 by_cases h:p - q=0
 ·rw[aA h,c5,aB (by grind),aA (by grind)]
 ·rw[aB h];by_cases a:p - q<0
  ·rw[aA (s.2 a),c5,aA (by grind)]
  ·rw[aB (fun e=>a (s.1 e)),c5,aB (by grind),aB (by grind)]
theorem abN (n nb:Bool) (a y b c:ByteArray) (w:World) (l:a.size+y.size<=50000) (m:b.size+c.size<=50000):
  c6 62 #[.agg #[.bool n,.string a,.string y],.agg #[.bool nb,.string b,.string c]] w (da w (.int .i64 (c5 (val n a y) (val nb b c)))):=by
 have S:=aD (fun V=>aiT n nb a y b c V l m);have H:=aD (apg (val n a y) (val nb b c));generalize c5 (val n a y) (val nb b c)=k at *;generalize val n a y - val nb b c=d at *;go_enter Tryz.func62,Tryz.ntmps62;have i:c8 w ((w.alloc (FC n a y)).alloc (FC nb b c)):=((aw _ w).alloc (ar _) _).alloc aE _;go_wp2_with fail
 refine(S.o _).af ?_;rintro e q ⟨rfl,p⟩;have j:=i.trans (p.af i.size);have f:=j.alloc j.size (FC (aJ d) (nu d) (de d));rw[kL];by_cases h:d=0
 ·rw[aA h] at H;have g:=acP h;clear h;generalize nu d=nd at *;subst g;go_wp2;go_ret;exact⟨by rw[H.o];rfl,f⟩
 ·rw[aB h] at H;have g:=acQ h;clear h;generalize aJ d=s at *;cases s
  ·go_wp2;go_ret;exact⟨by rw[H.o];rfl,f⟩
  ·go_wp2;go_ret;exact⟨by rw[H.o];rfl,f⟩
theorem akz {k:Int} (h:k<0):C (mkRat k 1)=.agg #[.bool true,.string (B ((-(k+1)).toNat+1)),.string (B 1)]:=by
 have e:k=sg true ((-(k+1)).toNat+1):=by simp only[sg,if_true];omega
 have a:=SZ true ((-(k+1)).toNat+1) 1 al a6;rw[<- e,Nat.gcd_one_right,Cb,Cb] at a;exact a
theorem aky (n:Nat):C (mkRat (n:Int) 1)=.agg #[.bool false,.string (B n),.string (B 1)]:=by
 by_cases h:n=0
 ·subst h;rw[show ((0:Nat):Int)=0 from rfl,F3,FU,BP]
 ·have a:=SZ false n 1 h a6;rw[Nat.gcd_one_right,Cb,Cb] at a;exact a
theorem Lu (k:Int) (w:World) (h0: -9223372036854775808<=k) (h1:k<=9223372036854775807):
  c6 33 #[.int .i64 k] w (da w (C (mkRat k 1))):=by
 by_cases j:k<0
 ·rw[akz j];have H:=aD (fun V=>Jd (-(k+1)) V al al);have t:(B (-(k+1)).toNat).size<=8:=by rw[lq];exact pY 8 _ (by show _<18446744073709551616;omega)
  have A:=aD (fun V=>abP (B (-(k+1)).toNat) ⟨#[1]⟩ V al (by show 1<=_;omega));rw[bS,show N ⟨#[1]⟩=1 from rfl] at A;rw[OO];generalize (-(k+1)).toNat=n at *;go_enter Tryz.func33,Tryz.ntmps33;have r:=aF.at (w:=w) rfl false ⟨#[]⟩ ⟨#[]⟩;have h:c8 w (w.alloc (FC false ⟨#[]⟩ ⟨#[]⟩)):=(aw _ w).alloc (ar _) _;go_wp2_with fail
  refine(H.o _).af ?_;rintro e q ⟨rfl,b⟩;have a:=r.aa b r.lt;have c:=h.trans (b.af h.size);go_wp2_with fail
  refine(A.o _).af ?_;rintro e u ⟨rfl,d⟩;have E:=a.aa d a.lt;have s:=c.trans (d.af c.size);obtain⟨l,m,p,f,g,i⟩:=E.facts;go_wp2;refine bD ((E.put _ _ _).result rfl _ rfl) rfl ?_;exact⟨rfl,bL s al _ _ _⟩
 ·obtain⟨n,rfl⟩:∃n:Nat,k=n:=⟨k.toNat,al⟩;rw[aky n];have H:=aD (fun V=>Jd (n:Int) V al al);rw[nh] at H;rw[OO];go_enter Tryz.func33,Tryz.ntmps33;have r:=aF.at (w:=w) rfl false ⟨#[]⟩ ⟨#[]⟩;have h:c8 w (w.alloc (FC false ⟨#[]⟩ ⟨#[]⟩)):=(aw _ w).alloc (ar _) _;go_wp2_with fail
  refine(H.o _).af ?_;rintro e q ⟨rfl,b⟩;have a:=r.aa b r.lt;have c:=h.trans (b.af h.size);obtain⟨l,m,p,f,g,i⟩:=a.facts;go_wp2;refine bD ((a.put _ _ _).result rfl _ rfl) rfl ?_;exact⟨rfl,bL c al _ _ _⟩
theorem aoz (k:Int) (w:World) (h0: -9223372036854775808<=k) (h1:k<=9223372036854775807):
  c6 57 #[.int .i64 k] w (da w (C (mkRat k 1))):=by
 by_cases p:k<0
 ·have q:val true (B ((-(k+1)).toNat+1)) (B 1)=mkRat k 1:=by
   (have e:k=sg true ((-(k+1)).toNat+1):=by simp only[sg,if_true];omega);rw[val,bS,bS, <- e]
  have u:(B (-(k+1)).toNat).size<=8:=by rw[lq];exact pY 8 _ (by show _<18446744073709551616;omega)
  have v:(B ((-(k+1)).toNat+1)).size<=8:=by rw[lq];exact pY 8 _ (by show _<18446744073709551616;omega)
  have y:=OM;have Q:=aD q;have d: -(k+1)=((-(k+1)).toNat:Int):=al
  have z:(-(k+1)).toNat<=9223372036854775807:=al
  have H:=aD d;clear q d;go_enter Tryz.func57,Tryz.ntmps57;have b:=aF.at (w:=w) rfl false ⟨#[]⟩ ⟨#[]⟩;have a:c8 w (w.alloc (FC false ⟨#[]⟩ ⟨#[]⟩)):=(aw _ w).alloc (ar _) _;have h:=aw (w.alloc (FC false ⟨#[]⟩ ⟨#[]⟩)).heap.size (w.alloc (FC false ⟨#[]⟩ ⟨#[]⟩));go_wp2_with fail
  refine(NA (-(k+1)).toNat h H.o al).af ?_;rintro e c ⟨rfl,h⟩;go_wp2_with fail
  refine(NA 1 h rfl al).af ?_;rintro e c ⟨rfl,h⟩;go_wp2_with fail
  refine(arn ((-(k+1)).toNat+1) h (by rw[bS,bS]) al al).af ?_;rintro e c ⟨rfl,h⟩;go_wp2_with fail
  refine(NA 1 h rfl al).af ?_;rintro e c ⟨rfl,h⟩;go_wp2_with fail
  refine(ND true (B ((-(k+1)).toNat+1)) (B 1) _ al al).af ?_;rintro e g ⟨rfl,f⟩;rw[Q.o];have x:=(b.aa h b.lt).aa f (b.aa h b.lt).lt;have i:c8 w g:=(a.trans (h.af a.size)).trans (f.af (a.trans (h.af a.size)).size);obtain⟨r,s,t,j,l,m⟩:=x.facts;clear b a h;rw[kL];go_wp2;refine bD ((x.put _ _ _).result rfl _ rfl) rfl ?_;exact⟨rfl,bL i al _ _ _⟩
 ·obtain⟨n,rfl⟩:∃n:Nat,k=n:=⟨k.toNat,al⟩;have:=ae9 n w al;rwa [show ((n:Nat):Rat)=mkRat (n:Int) 1 by rw[Rat.mkRat_one];rfl] at this
variable {k m n:Nat} {a:Option Addr} {p:Rat} {w w':World}
def Fits (m:Nat) (q:Rat):Prop:=∃(A:Int) (D:Nat),D≠0/\q=mkRat A D/\D<256^m/\A.natAbs<256^m
theorem M7 (h:Fits m q):qw q<=2*m:=by
 obtain⟨A,D,a,rfl,b,c⟩:=h;rw[Qv a];have:=Uj (n:=A) a;have d:(B A.natAbs).size<=m:=by rw[lq];exact pY m _ c
 have e:(B D).size<=m:=by rw[lq];exact pY m _ b
 omega
theorem Ji (h:m<=n):256^m<=256^n:=kN a6 h
theorem XH (n:Bool) (x y:ByteArray):Fits (x.size+y.size+1) (val n x y):=by
 by_cases h:N y=0
 ·refine⟨0,1,a6,by rw[K7 h,F3],?_,?_⟩
  ·exact aU (by decide:1<256^1) (Ji al)
  ·exact vh a6
 ·refine⟨sg n (N x),N y,h,rfl,aU (Fi y) (Ji al),?_⟩;rw[PG];exact aU (Fi x) (Ji al)
theorem ae5 (j:Fits m p) (l:Fits k q):Fits (m+k+1) (p+q):=by
 obtain⟨A,D,d,rfl,h,g⟩:=j;obtain⟨b,a,E,rfl,c,i⟩:=l;refine⟨A*a+b*D,D*a,F5 d E,Rat.mkRat_add_mkRat _ _ d E,?_,?_⟩
 ·have:D*a<256^m*256^k:=KQ h c;rw[<- DU] at this;exact aU this (Ji al)
 ·have f:A.natAbs*a<256^m*256^k:=KQ g c;have e:b.natAbs*D<256^k*256^m:=KQ i h;rw[dJ (256^k)] at e;rw[<- DU] at f e
  have n:(A*a+b*D).natAbs<=A.natAbs*a+b.natAbs*D:=by
   refine aR (Int.natAbs_add_le _ _) ?_;rw[Int.natAbs_mul,Int.natAbs_mul];exact ar _
  rw[ji];omega
abbrev Fr:Type:=Bool×ByteArray×ByteArray
def E8 (f:Fr):Rat:=val f.1 f.2.1 f.2.2
def fw:List Fr ->Nat
 |[]=>0
 |f::l=>f.2.1.size+f.2.2.size+2+fw l
def aX (l:List Fr):Rat:=l.foldl (fun s f=>s+E8 f) 0
theorem Ry (l:List Fr) (f:Fr):aX (l++[f])=aX l+E8 f:=by simp[aX]
theorem XD (a b:List Fr):fw (a++b)=fw a+fw b:=by
 induction a with
 |nil=>simp[fw]
 |cons f a ih=>simp only[fM,fw,ih];omega
theorem XC (l:List Fr) (k:Nat):fw (l.take k)<=fw l:=by
 have:=XD (l.take k) (l.drop k);rw[Cc] at this;omega
theorem Rw {l:List Fr} {f:Fr} (h:f∈l):f.2.1.size+f.2.2.size+2<=fw l:=by
 induction l with
 |nil=>cases h
 |cons g l ih=>
  rcases dR.1 h with rfl |h
  ·simp only[fw];omega
  ·have:=ih h;simp only[fw];omega
theorem XI (l:List Fr):Fits (fw l+1) (aX l):=by
 induction l using I6 with
 |h0=>exact⟨0,1,a6,(F3 _).symm,a6,a6⟩
 |h1 l f ih=>
  rw[Ry,XD];have:=ae5 ih (XH f.1 f.2.1 f.2.2);have e:fw l+1+(f.2.1.size+f.2.2.size+1)+1=fw l+fw [f]+1:=by simp only[fw];omega
  rwa [e] at this
theorem take_one {l:List Fr} (h:k<l.length):aX (l.take (k+1))=aX (l.take k)+E8 l[k]:=by
 rw[fL h,Ry]
def cG (w:World) (a:Option Addr) (l:List Fr):Prop:=∀k (h:k<l.length),∃g o,a=some ⟨g,o,none⟩/\g<w.heap.size/\w.cell? ⟨g,o+k*3,none⟩=some (.bool l[k].1)/\w.cell? ⟨g,o+k*3+1,none⟩=some (.string l[k].2.1)/\w.cell? ⟨g,o+k*3+2,none⟩=some (.string l[k].2.2)
theorem cG.aa {l:List Fr} (h:cG w a l) (c:c8 w w'):cG w' a l:=fun k j=>by
 obtain⟨g,o,d,b,e,f,i⟩:=h k j;exact⟨g,o,d,aU b c.size,(c.cell (p:=⟨g,_,none⟩) b).trans e,(c.cell (p:=⟨g,_,none⟩) b).trans f,(c.cell (p:=⟨g,_,none⟩) b).trans i⟩
theorem XO (a:Option Addr) (cap:Nat) (l:List Fr) (w:World) (h:cG w a l) (u:∀k (h:k<l.length),l[k].2.1.size+l[k].2.2.size<=40000) (v:∀k,k<=l.length ->qw (aX (l.take k))<=40000) (hn:l.length<=10000):
  c6 83 #[.slice a l.length cap] w (da w (C (aX l))):=by
 have E:=aD h;have L:=aD u;have Q:=aD v;clear h u v;have U:Hid (aX (l.take l.length)=aX l):=by show _=_;rw[fD]
 go_enter Tryz.func83,Tryz.ntmps83;have s:=aF.at (w:=w) rfl false ⟨#[]⟩ ⟨#[]⟩;have o:c8 w (w.alloc (FC false ⟨#[]⟩ ⟨#[]⟩)):=(aw _ w).alloc (ar _) _;go_wp2_with fail
 refine(UM _).af ?_;rintro e x ⟨rfl,q⟩;have z:=s.aa q s.lt;have p:c8 w x:=o.trans (q.af o.size);clear s o q;rw[kL];go_wp2_with fail
 have Md:=z.lt;go_loopw [9] (fun iv wr=>∃k:Nat,k<=l.length/\iv=.int .i64 k/\Hid (aF wr x.heap.size (aJ (aX (l.take k))) (nu (aX (l.take k))) (de (aX (l.take k))))/\Hid (aF wr w.heap.size false ⟨#[]⟩ ⟨#[]⟩)/\c8 w wr) (fun iv _=>l.length - (intOf iv).toNat)
 case atStart=>exact⟨0,aS _,rfl,aF.at rfl _ _ _,z.alloc _,p.alloc p.size _⟩
 case round=>
  obtain⟨k,P,rfl,S,H,b⟩:=hrel;by_cases t:k<l.length
  ·obtain⟨g,ad,rfl,hg,J,M,O⟩:=(E.o.aa b) k t;have D:=take_one t;have ab:=L.o k t;have T:=Q.o k P;have R:=lC (aX (l.take k));have F:=aD (fun V=>afd (aJ (aX (l.take k))) l[k].1 (nu (aX (l.take k))) (de (aX (l.take k))) l[k].2.1 l[k].2.2 V al al al al);rw[gg,show val l[k].1 l[k].2.1 l[k].2.2=E8 l[k] from rfl, <- D] at F;have K:=S.o;clear S D ab T R;generalize l[k].1=fn at *;generalize l[k].2.1=f at *;generalize l[k].2.2=y at *;obtain⟨j,m,n,c,d,i⟩:=K.facts;have cR:=K.lt;go_wp2_with fail
   refine(F.o _).af ?_;rintro e X ⟨rfl,r⟩;have A:=(K.alloc (FC fn f y)).aa r (K.alloc (FC fn f y)).lt;have Z:=(H.o.alloc (FC fn f y)).aa r (H.o.alloc (FC fn f y)).lt;have I:=b.alloc b.size (FC fn f y);have Y:c8 w X:=I.trans (r.af I.size);clear j m n c d i J M O;obtain⟨j,m,n,c,d,i⟩:=A.facts;rw[kL];go_wp2;go_roundw
   case rel=>exact⟨k+1,al,bd,A.put _ _ _,Z.far3 al _ _ _,bL Y p.size _ _ _⟩
   case measure=>simp[intOf];omega
  ·obtain rfl:k=l.length:=al
   have K:=S.o;rw[U.o] at K;obtain⟨j,m,n,c,d,i⟩:=K.facts;obtain⟨j0,j1,j2,i0,i1,i2⟩:=H.o.facts;go_wp2;refine bD ((H.o.put _ _ _).result rfl _ rfl) rfl ?_;exact⟨rfl,bL b (ar _) _ _ _⟩
theorem aoy (a:Option Addr) (cap:Nat) (l:List Fr) (w:World) (h:cG w a l) (c:fw l<=10000) (n:l.length<=10000):
  c6 83 #[.slice a l.length cap] w fun e w'=>e=.returned (C (aX l))/\c8 w w':=
 XO a cap l w h (fun k b=>by have:=Rw (bB b);omega) (fun k _=>by have:=M7 (XI (l.take k));have:=XC l k;omega) n
theorem aiS (a:Option Addr) (cap:Nat) (l:List Fr) (w:World) (h:cG w a l) (hl:fw l<=10000) (hn:l.length<=10000):
  c6 87 #[.slice a l.length cap] w (da w (C (aX l))):=by
 have z:=aD h;clear h;have T:Hid (aX (l.take l.length)=aX l):=by show _=_;rw[fD]
 have O:=aD (fun V=>Lu 0 V al al);rw[F3] at O;go_enter Tryz.func87,Tryz.ntmps87;have r:=aF.at (w:=w) rfl false ⟨#[]⟩ ⟨#[]⟩;have c:c8 w (w.alloc (FC false ⟨#[]⟩ ⟨#[]⟩)):=(aw _ w).alloc (ar _) _;go_wp2_with fail
 refine(O.o _).af ?_;rintro e u ⟨rfl,f⟩;have v:=r.aa f r.lt;have d:c8 w u:=c.trans (f.af c.size);clear r c f;rw[kL];go_wp2_with fail
 have M:=v.lt;go_loopw [4] (fun iv wr=>∃k:Nat,k<=l.length/\iv=.int .i64 k/\Hid (aF wr u.heap.size (aJ (aX (l.take k))) (nu (aX (l.take k))) (de (aX (l.take k))))/\Hid (aF wr w.heap.size false ⟨#[]⟩ ⟨#[]⟩)/\c8 w wr) (fun iv _=>l.length - (intOf iv).toNat)
 case atStart=>exact⟨0,aS _,rfl,aF.at rfl _ _ _,v.alloc _,d.alloc d.size _⟩
 case round=>
  obtain⟨k,hk,rfl,S,H,b⟩:=hrel;by_cases t:k<l.length
  ·obtain⟨g,o,rfl,Z,P,Q,R⟩:=(z.o.aa b) k t;have y:=take_one t;have L:=Rw (bB t);have I:=M7 (XI (l.take k));have E:=XC l k;have A:=lC (aX (l.take k));have F:=aD (fun V=>PU (aJ (aX (l.take k))) l[k].1 (nu (aX (l.take k))) (de (aX (l.take k))) l[k].2.1 l[k].2.2 V al al);rw[gg,show val l[k].1 l[k].2.1 l[k].2.2=E8 l[k] from rfl, <- y] at F;have K:=S.o;clear S y L I E A;generalize l[k].1=fn at *;generalize l[k].2.1=X at *;generalize l[k].2.2=Y at *;obtain⟨p,q,s,j,m,n⟩:=K.facts;have U:=K.lt;go_upto_region 5 with fail
   go_region_with (
     (go_at_call 74;refine(F.o _).af ?_;rintro e w2 ⟨rfl,i⟩;have x:=K.drew.aa i K.lt;have J:=(aF.drew H.o).aa i H.o.lt;have D:=b.drew.trans (i.af b.size);obtain⟨p,q,s,j,m,n⟩:=x.facts;rw[kL]))
   all_goals
    go_wp2;go_roundw
    case rel=>exact⟨k+1,al,bd,x.put _ _ _,J.far3 al _ _ _,bL D d.size _ _ _⟩
    case measure=>simp[intOf];omega
  ·obtain rfl:k=l.length:=al
   have K:=S.o;rw[T.o] at K;obtain⟨p,q,s,j,m,n⟩:=K.facts;obtain⟨j0,j1,j2,i0,i1,i2⟩:=H.o.facts;go_wp2;refine bD ((H.o.put _ _ _).result rfl _ rfl) rfl ?_;exact⟨rfl,bL b (ar _) _ _ _⟩
variable {g:Nat}
def jZ (sizes vars:List Int) (m:Nat):Int:=if countB sizes vars=true then(if m=cnt (ag sizes) (ag vars) then 0 else 8) else 11
theorem apw {sizes vars:List Int} (h:countB sizes vars=false):jZ sizes vars m=11:=aB (by rw[h];decide)
theorem apx {sizes vars:List Int} (h:countB sizes vars=true) (h1:¬m=cnt (ag sizes) (ag vars)):jZ sizes vars m=8:=by rw[jZ,aA h,aB h1]
theorem RQ {sizes vars:List Int} (h:countB sizes vars=true) (h1:m=cnt (ag sizes) (ag vars)):jZ sizes vars m=0:=by rw[jZ,aA h,aA h1]
abbrev TC (u v:Value):Obj:=.cells #[u,v] 58
def bs (w:World) (g:Nat) (u v:Value):Prop:=w.heap[g]? =some (.cells #[u,v] 58 (0,0))
theorem bs.c0 {u v:Value} (h:bs w g u v):w.cell? ⟨g,0,none⟩=some u:=by rw[bZ w g 0 _ _ (0,0) h];rfl
theorem bs.c1 {u v:Value} (h:bs w g u v):w.cell? ⟨g,1,none⟩=some v:=by rw[bZ w g 1 _ _ (0,0) h];rfl
theorem bs.lt {u v:Value} (h:bs w g u v):g<w.heap.size:=(dS.1 h).1
theorem bs.aa {B:Nat} {u v:Value} (h:bs w g u v) (b:Below B w w') (a:g<B):bs w' g u v:=(b.block g a).trans h
theorem bs.at (h:w.heap.size=g) (u v:Value):bs (w.alloc (TC u v)) g u v:=by
 subst h;exact jg _ _
theorem bs.alloc {u v:Value} (h:bs w g u v) (o:Obj):bs (w.alloc o) g u v:=(r8 w o g h.lt).trans h
theorem Ef (a b c:Option Addr) (ca cb cc m:Nat) (sizes vars:List Int) (w:World) (s:az w a sizes) (v:az w b vars) (t:sizes.length<=140737488355328) (q:vars.length<=140737488355328):
  c6 81 #[.slice a sizes.length ca,.agg #[.slice b vars.length cb,.slice c m cc]] w (da w (.int .i64 (jZ sizes vars m))):=by
 have S:=hid s;have j:=hid v;have H:=hid (fun V n p=>Px a b ca cb sizes vars V n p t q);clear s v;have d:c8 w (w.alloc (TC (.slice b vars.length cb) (.slice c m cc))):=(aw _ w).alloc (ar _) _;have P:=bs.at (w:=w) rfl (.slice b vars.length cb) (.slice c m cc);cases hcb:countB sizes vars with
 |false=>
  have A:=hid (apw (m:=m) hcb);rw[Hk hcb] at H;simp only at H;generalize jZ sizes vars m=r at *;go_enter Tryz.func81,Tryz.ntmps81;go_wp2_with fail
  refine(H.o _ (S.o.aa d) (j.o.aa d)).af ?_;rintro e u ⟨rfl,g⟩;have f:=d.trans (g.af d.size);go_wp2;go_ret;exact⟨by rw[A.o];rfl,f⟩
 |true=>
  have l:=hid (fun h=>apx (m:=m) hcb h);have Y:=hid (fun h=>RQ (m:=m) hcb h);rw[Hj hcb] at H;simp only at H;obtain⟨M,k⟩:=RJ hcb;have I:cnt (ag sizes) (ag vars)<=65536:=qL M.sz_le (by rw[cV];have:=M.eight;have:=k.length;omega);clear hcb M k;generalize jZ sizes vars m=r at *;generalize cnt (ag sizes) (ag vars)=i at *;go_enter Tryz.func81,Tryz.ntmps81;go_wp2_with fail
  refine(H.o _ (S.o.aa d) (j.o.aa d)).af ?_;rintro e u ⟨rfl,g⟩;have f:=d.trans (g.af d.size);have x:=P.aa g P.lt;have D:=x.c0;have F:=x.c1;by_cases h:m=i
  ·have E:=hid (Y.o h);subst h;go_wp2;go_ret;exact⟨by rw[E.o];rfl,f⟩
  ·have E:=hid (l.o h);(have y:((m:Int)==(i:Int))=false:=by simp;omega);(have z:¬(m:Int)=(i:Int):=al);go_wp2;go_ret;exact⟨by rw[E.o];rfl,f⟩
variable {S:List Nat} {i:Nat}
theorem apd (S vs:List Nat) (i:Nat):cnt S (vs.drop i)∣cnt S vs:=by
 have h:=XX S (vs.take i) (vs.drop i);rw[Cc] at h;exact⟨_,by rw[h,dJ]⟩
theorem afp (p:Pos S):∀(vs:List Nat) (k i:Nat) (_:k<cnt S vs) (h:i<vs.length),(bX S vs k)[i]'(by rw[vT];exact h)=k % cnt S (vs.drop i)/cnt S (vs.drop (i+1))
 |[],_,_,_,h=>absurd h aE
 |v::vs,k,0,hk,_=>by
  show k/cnt S vs=k % cnt S (v::vs)/cnt S vs;rw[jM hk]
 |v::vs,k,i+1,_,h=>by
  have a:i<vs.length:=by simpa using h
  have:=afp p vs (k % cnt S vs) i (iw _ (A3 p vs)) a;show (bX S vs (k % cnt S vs))[i]'_=k % cnt S (vs.drop i)/cnt S (vs.drop (i+1));rw[this,Nat.mod_mod_of_dvd _ (apd S vs i)]
theorem aoX (p:Pos S) (vs:List Nat) (k i:Nat) (a:k<cnt S vs) (h:i<vs.length):(bX S vs k)[i]? =some (k % cnt S (vs.drop i)/cnt S (vs.drop (i+1))):=by
 rw[List.getElem?_eq_getElem (by rw[vT];exact h),afp p vs k i a h]
theorem ape (S vs:List Nat) (h:i<vs.length):cnt S (vs.drop i)=sz S vs[i]*cnt S (vs.drop (i+1)):=by
 rw[ou h,cnt]
def lB (l:List Nat) (i:Nat):List Nat:=l.take i++List.replicate (l.length - i) 0
theorem P9 (l:List Nat):lB l 0=List.replicate l.length 0:=by simp[lB]
theorem Cu (l:List Nat) (h:i<=l.length):(lB l i).length=l.length:=by simp[lB];omega
theorem Qb (l:List Nat):lB l l.length=l:=by simp[lB]
theorem Qa (l:List Nat) (h:i<l.length):(lB l i).set i l[i]=lB l (i+1):=by
 rw[lB,lB,F7 _ _ (by simp;omega),fL h];have e:l.length - i=(l.length - (i+1))+1:=al
 rw[e,KT,eX,wE al,rZ,F6,sX];rfl
def iL (l:List Nat):List Int:=l.map fun x:Nat=>(x:Int)
theorem ba (l:List Nat):(iL l).length=l.length:=by simp[iL]
theorem eM (l:List Nat):ag (iL l)=l:=by simp[ag,iL,Function.comp_def]
theorem cC.ints {l:List Nat} (h:cC w g l):az w (some ⟨g,0,none⟩) (iL l):=fun k a=>by
 rw[ba] at a;refine⟨g,0,rfl,h.lt,?_⟩;rw[bM,h.cell k a];simp[iL]
def Cj (sizes vars:List Int) (k:Int):List Nat:=if countB sizes vars=true/\0<=k/\k<(cnt (ag sizes) (ag vars):Int) then bX (ag sizes) (ag vars) k.toNat else[]
def Ah (sizes vars:List Int) (k:Int):Int:=if countB sizes vars=true then(if 0<=k/\k<(cnt (ag sizes) (ag vars):Int) then 0 else 15) else 11
theorem aiO (a b:Option Addr) (ca cb:Nat) (sizes vars:List Int) (k:Int) (w:World) (O:az w a sizes) (P:az w b vars) (hn:sizes.length<=140737488355328) (hm:vars.length<=140737488355328):
  c6 59 #[.slice a sizes.length ca,.slice b vars.length cb,.int .i64 k] w fun e w'=>∃(c:Option Addr) (cc:Nat),e=.returned (.tuple #[.slice c (Cj sizes vars k).length cc,.int .i64 (Ah sizes vars k)])/\az w' c (iL (Cj sizes vars k))/\c8 w w':=by
 obtain⟨i0,b6,aq,av,ax⟩:=dW Tryz.infoInt;have S:=hid O;have q:=hid P;have m:=hid (fun V h1 h2=>Uf a b ca cb sizes vars V h1 h2 hn hm);clear O P;cases hcb:countB sizes vars with
 |false=>
  have H:Hid (Cj sizes vars k=[]):=aB (by rw[hcb];simp);have E:Hid (Ah sizes vars k=11):=aB (by rw[hcb];decide);rw[Hk hcb] at m;simp only at m;generalize Cj sizes vars k=rl at *;generalize Ah sizes vars k=re at *;go_enter Tryz.func59,Tryz.ntmps59;go_wp2_with fail
  refine(m.o _ S.o q.o).af ?_;rintro e l ⟨rfl,o⟩;go_wp2;go_ret2;exact⟨none,0,by rw[H.o,E.o];rfl,by rw[H.o];exact fun k d=>absurd d (by simp[iL]),o⟩
 |true=>
  rw[Hj hcb] at m;simp only at m;obtain⟨M,r⟩:=RJ hcb;have oO:=M.eight;have i6:=r.length;have bb:cnt (ag sizes) (ag vars)<=65536:=qL M.sz_le (by rw[cV];omega);by_cases d:0<=k/\k<(cnt (ag sizes) (ag vars):Int)
  ·have H:Hid (Cj sizes vars k=bX (ag sizes) (ag vars) k.toNat):=aA ⟨hcb,d⟩;(have E:Hid (Ah sizes vars k=0):=by show _=_;rw[Ah,aA hcb,aA d]);rw[H.o,E.o];obtain⟨aQ,xu⟩:=d;obtain⟨K,rfl⟩:∃K:Nat,k=K:=⟨k.toNat,al⟩;rw[nh];(have y:K<cnt (ag sizes) (ag vars):=al);have HD:=hid (fun i h=>aoX M.pos (ag vars) K i y h);(have A:(bX (ag sizes) (ag vars) K).length=vars.length:=by rw[vT,cV]);have I:=hid M;have gP:=hid r;have J:=hid (fun i=>show cnt (ag sizes) ((ag vars).drop i)<=65536 from qL M.sz_le (by rw[mY,cV];omega));have qU:=hid (fun i=>A3 M.pos ((ag vars).drop i));have ab:Hid (cnt (ag sizes) (ag vars)=cnt (ag sizes) ((ag vars).drop 0)/\K=K % cnt (ag sizes) ((ag vars).drop 0)):=⟨by rw[Aa],by rw[Aa,jM y]⟩;clear H E hcb M r y;generalize bX (ag sizes) (ag vars) K=ds at *;rw[A];go_enter Tryz.func59,Tryz.ntmps59;go_wp2_with fail
   refine(m.o _ S.o q.o).af ?_;rintro e l ⟨rfl,o⟩
   go_wp2_with (first
    |(at_make;refine nY _ rfl _ _ 22 rfl l.heap.size 3 i0 (.int .i64 0) 1 Tryz.underlying22 b6 aq av .i64 .i64 _ _ vars.length rfl rfl bd bd (by rw[ax];omega) (by unfold maxLen;omega) (ar _) ?_;intro w2 ai aj))
   have D:=qP ai;rw[CA] at D;have an:c8 w w2:=o.grown aj o.size (fun k e=>by cases e);have F:Hid (cC w2 l.heap.size (List.replicate vars.length 0)):=D;have Md:=o.size;clear ai aj D;go_wp2_with fail
   go_loopw [2,8,11] (fun kv nv iv wr=>∃i:Nat,i<=vars.length/\iv=.int .i64 i/\nv=.int .i64 (cnt (ag sizes) ((ag vars).drop i):Nat)/\kv=.int .i64 (K % cnt (ag sizes) ((ag vars).drop i):Nat)/\Hid (cC wr l.heap.size (lB ds i))/\c8 w wr) (fun _ _ iv _=>vars.length - (intOf iv).toNat)
   case atStart=>exact⟨0,aS _,rfl,by rw[<- ab.o.1],by rw[<- ab.o.2],by rw[P9,A];exact F,an⟩
   case round=>
    obtain⟨i,hi,rfl,rfl,rfl,R,s⟩:=hrel;by_cases u:i<vars.length
    ·obtain⟨g,ay,rfl,hg,c0⟩:=(q.o.aa s) i u;obtain⟨Y,U⟩:=gP.o.nat u;(have jG:i<(ag vars).length:=by rw[cV];exact u);have t:=ape (ag sizes) (ag vars) jG;rw[qj u] at t
     have X:ds[i]'al=K % cnt (ag sizes) ((ag vars).drop i)/cnt (ag sizes) ((ag vars).drop (i+1)):=by
      have:=HD.o i jG;rwa [List.getElem?_eq_getElem al,Option.some.injEq] at this
     have dG:=qU.o (i+1);have a7:=J.o i;have ak:=J.o (i+1);have hz:=iM I.o.pos vars[i].toNat;have vD:=I.o.sz_le vars[i].toNat;(have ae:K % cnt (ag sizes) ((ag vars).drop (i+1))=K % cnt (ag sizes) ((ag vars).drop i) % cnt (ag sizes) ((ag vars).drop (i+1)):=by rw[t,U4]);generalize hV:vars[i].toNat=v at *;rw[<- Y] at c0;obtain⟨g',o',rfl,iA,c1⟩:=(S.o.aa s) v U;rw[<- I.o.sz_eq U] at c1;have Z:=hid (R.o.set i (ds[i]'al));rw[Qa ds al] at Z;have bg:wr.cell? ⟨l.heap.size,i,none⟩=some (.int .i64 ((lB ds i)[i]'(by rw[Cu _ al];omega):Nat)):=R.o.cell i (by rw[Cu _ al];omega);have aO:=R.o.fz i;(have aN:i<ds.length:=al);rw[X] at Z;generalize (lB ds i)[i]'(by rw[Cu _ al];omega)=z at *;have ad:=hid ae;clear ae X Y hV R F;(have L:cnt (ag sizes) ((ag vars).drop i)/sz (ag sizes) v=cnt (ag sizes) ((ag vars).drop (i+1)):=by rw[t,Nat.mul_div_cancel_left _ al]);have Q:=hid L;clear L t;have bf:=iw K (show 0<cnt (ag sizes) ((ag vars).drop i) from qU.o i);obtain⟨f,x⟩:∃n,cnt (ag sizes) ((ag vars).drop (i+1))=n:=⟨_,rfl⟩;rw[x] at Z dG ak ad Q;have uP:=hid x;clear x;generalize cnt (ag sizes) ((ag vars).drop i)=n0 at *;generalize sz (ag sizes) v=s0 at *;generalize K % n0=j at *;(have tA:(n0:Int)/(s0:Int)=(f:Int):=by rw[<- Q.o];exact(vp _ _).symm);have mz:(j:Int)/(f:Int)=((j/f:Nat):Int):=(vp _ _).symm;have ao:(j:Int) % (f:Int)=((j % f:Nat):Int):=(sY _ _).symm
     have a1:j/f<=65536:=aR (wF _ _) al;have a6:j % f<=65536:=aR (II _ _) al;generalize j/f=dd at *;generalize j % f=mm at *;(have aG:¬(s0:Int)=0:=al);(have aE:¬(f:Int)=0:=al);go_wp2;go_roundw
     case rel=>exact⟨i+1,al,bd,by rw[uP.o],by rw[uP.o,ad.o, <- ao],(by have h:=Z.o;rwa [<- mz] at h),s.setCell (p:=⟨l.heap.size,_,none⟩) Md _⟩
     case measure=>simp[intOf];omega
    ·obtain rfl:i=vars.length:=al
     have T:=R.o.ints;rw[<- A,Qb] at T;go_wp2;go_ret2;exact⟨some ⟨l.heap.size,0,none⟩,vars.length,rfl,T,s⟩
  ·have H:Hid (Cj sizes vars k=[]):=aB (fun h=>d h.2);(have E:Hid (Ah sizes vars k=15):=by show _=_;rw[Ah,aA hcb,aB d]);clear hcb M r;generalize Cj sizes vars k=rl at *;generalize Ah sizes vars k=re at *;generalize cnt (ag sizes) (ag vars)=N0 at *;rcases (show k<0∨(0<=k/\(N0:Int)<=k) by omega) with h3 |⟨h3,h4⟩
   all_goals
    clear d;go_enter Tryz.func59,Tryz.ntmps59;go_wp2_with fail
    refine(m.o _ S.o q.o).af ?_;rintro e l ⟨rfl,o⟩;go_wp2;go_ret2;exact⟨none,0,by rw[H.o,E.o];rfl,by rw[H.o];exact fun k d=>absurd d (by simp[iL]),o⟩
variable {L:List (List Int)} {l:List Int}
def fN (w:World) (a:Option Addr) (L:List (List Int)):Prop:=∀k (h:k<L.length),∃g o b c,a=some ⟨g,o,none⟩/\g<w.heap.size/\w.cell? ⟨g,o+k,none⟩=some (.slice b L[k].length c)/\az w b L[k]
theorem fN.aa (h:fN w a L) (d:c8 w w'):fN w' a L:=fun k l=>by
 obtain⟨g,o,b,c,f,e,i,j⟩:=h k l;exact⟨g,o,b,c,f,aU e d.size,(d.cell (p:=⟨g,o+k,none⟩) e).trans i,j.aa d⟩
def vZ (w:World) (a:Option Addr) (L:List (List Int)):Prop:=∀k,k<L.length ->∀g o b n c,a=some ⟨g,o,none⟩ ->w.cell? ⟨g,o+k,none⟩=some (.slice b n c) ->b=none ->c=0
theorem vZ.aa (h:vZ w a L) (m:fN w a L) (i:c8 w w'):vZ w' a L:=fun k f g o b n c d j q=>by
 obtain⟨g',o',_,_,e,l,_⟩:=m k f;rw[d] at e;cases e;exact h k f g o b n c d ((i.cell (p:=⟨g,o+k,none⟩) l).symm.trans j) q
abbrev uv (x:Nat):Value:=.int .u32 (x:Int)
def cS (w:World) (g:Nat) (l:List Nat):Prop:=w.heap[g]? =some (.cells (l.map uv).toArray 153 (0,0))
theorem cS.cell {l:List Nat} (h:cS w g l) (j:Nat) (a:j<l.length):w.cell? ⟨g,j,none⟩=some (.int .u32 (l[j]:Nat)):=by
 rw[bZ w g j _ _ (0,0) h];simp[uv,a]
theorem cS.fz {l:List Nat} (h:cS w g l) (j:Nat):w.frozen? ⟨g,j,none⟩=false:=lr w g j _ _ h
theorem cS.lt {l:List Nat} (h:cS w g l):g<w.heap.size:=(dS.1 h).1
theorem cS.aa {b:Nat} {l:List Nat} (h:cS w g l) (a:Below b w w') (c:g<b):cS w' g l:=(a.block g c).trans h
theorem cS.set {l:List Nat} (h:cS w g l) (j y:Nat):cS (w.setCell ⟨g,j,none⟩ (.int .u32 (y:Int))) g (l.set j y):=by
 have a:=kM w g j _ _ (.int .u32 (y:Int)) h;rw[cS,a];simp[F8,uv]
theorem U8 (n:Nat):(madeCells (Value.int .u32 0).cells (n*1)).toList=(List.replicate n (0:Nat)).map uv:=by
 rw[show (Value.int .u32 0).cells= #[Value.int .u32 0] from rfl,KL,pI,O4];rfl
theorem Tryz.infoSet:(Tryz.prog.info? 153).map (fun i=>(i.zero,i.size,i.bytes))=some (some (.int .u32 0),1,4):=ao
def uF (L:List (List Int)) (n:Nat):Bool:=L.all fun l=>dY l n
def ko (L:List (List Int)):List Nat:=L.map fun l=>aC (ag l)
theorem adg (L:List (List Int)):(ko L).length=L.length:=by simp[ko]
theorem afY (h:i<L.length) (e:dY L[i] n=false):uF L n=false:=by
 rw[uF,IV];exact⟨L[i],bB h,by rw[e];decide⟩
theorem abd (h:dY l n=true):setA l n=aC (ag l):=aA h
theorem ail (a:Option Addr) (ca n:Nat) (L:List (List Int)) (w:World) (h:fN w a L) (hL:L.length<=8) (hn:n<=8) (o:∀l∈L,l.length<=140737488355328):
  c6 219 #[.slice a L.length ca,.int .i64 (n:Nat)] w fun e w'=>c8 w w'/\
   ((uF L n=true/\∃G,e=.returned (.tuple #[.slice (some ⟨G,0,none⟩) L.length L.length,.bool true])/\w.heap.size<=G/\cS w' G (ko L))∨(uF L n=false/\e=.returned (.tuple #[.slice none 0 0,.bool false]))):=by
 obtain⟨i0,Q,ae,ai,aj⟩:=dW Tryz.infoSet;have O:=hid h;have M:=hid (fun i h e=>afY (L:=L) (n:=n) (i:=i) h e)
 have T:Hid ((∀i (h:i<L.length),dY L[i] n=true) ->uF L n=true):=fun h=>gW.2 fun l o=>by
  obtain⟨i,x,rfl⟩:=ij o;exact h i x
 have P:Hid (∀i (h:i<L.length),(ko L)[i]? =some (aC (ag L[i]))):=fun i h=>by simp[ko,h]
 have V:=hid o;have F:=adg L;generalize uF L n=rb at *;generalize ko L=m at *;clear h o;go_enter Tryz.func219,Tryz.ntmps219
 go_wp2_with (first
  |(at_make;refine nY _ rfl _ _ 149 rfl w.heap.size 153 i0 (.int .u32 0) 1 Tryz.underlying149 Q ae ai .i64 .i64 _ _ L.length rfl rfl bd bd (by rw[aj];omega) (by unfold maxLen;omega) (ar _) ?_;intro y A D))
 have r:=qP A;rw[U8] at r;have u:Hid (c8 w y):=(aw _ w).grown D (ar _) (fun k e=>by cases e);have I:Hid (cS y w.heap.size (List.replicate L.length 0)):=r;clear A D r;go_wp2_with fail
 go_loopw [15] (fun iv wr=>∃i:Nat,i<=L.length/\iv=.int .i64 i/\Hid (∀j (h:j<L.length),j< i ->dY L[j] n=true)/\Hid (cS wr w.heap.size (lB m i))/\Hid (c8 w wr)) (fun iv _=>L.length - (intOf iv).toNat)
 case atStart=>exact⟨0,aS _,rfl,fun j _ h=>absurd h al,by rw[P9,F];exact I,u⟩
 case round=>
  obtain⟨i,x,rfl,R,H,U⟩:=hrel;clear I u;by_cases t:i<L.length
  ·obtain⟨g,ak,b,c,rfl,hg,c0,v⟩:=(O.o.aa U.o) i t;have S:=V.o L[i] (bB t);have Z:=hid v;clear v;have ab:=hid (M.o i t);have ad:=hid (P.o i t)
   have Y:Hid (dY L[i] n=true ->∀j (h:j<L.length),j<i+1 ->dY L[j] n=true):=fun h j f nH=>by
    rcases cF j i with d |d
    ·exact R.o j f d
    ·obtain rfl:j=i:=al
     exact h
   have lp:Hid (dY L[i] n=true ->setA L[i] n=aC (ag L[i])):=abd;generalize L[i]=l at *;go_wp2_with fail
   refine(abc b c l n _ Z.o S hn).af ?_;rintro e w3 ⟨rfl,rfl⟩;cases hr:dY l n with
   |false=>
    have E:=hid (ab.o hr);generalize setA l n=s at *;go_wp2;go_ret2;exact⟨U.o,.inr ⟨E.o,rfl⟩⟩
   |true=>
    rw[lp.o hr];have tP:=hid (Y.o hr);have k0:=H.o.cell i (by rw[Cu _ al];omega);have f0:=H.o.fz i;have K:=hid (H.o.set i (aC (ag l)))
    have nQ:Hid ((lB m i).set i (aC (ag l))=lB m (i+1)):=by
     show _=_;obtain⟨X,d⟩:=mZ.1 ad.o;rw[<- d];exact Qa m X
    rw[nQ.o] at K;have J:=hid (U.o.setCell (p:=⟨w.heap.size,i,none⟩) (ar _) (.int .u32 (aC (ag l):Nat)));clear hr;generalize aC (ag l)=s at *;generalize (lB m i)[i]'(by rw[Cu _ al];omega)=z at *;go_wp2;go_roundw
    case rel=>exact⟨i+1,al,bd,tP,K,J⟩
    case measure=>simp[intOf];omega
  ·obtain rfl:i=L.length:=al
   have E:=hid (T.o fun j f=>R.o j f f);have q:=H.o;rw[<- F,Qb] at q;have p9:=hid q;clear q;go_wp2;go_ret2;exact⟨U.o,.inl ⟨E.o,_,rfl,ar _,p9.o⟩⟩
def Am (L:List (List Int)):Bool:=(List.range L.length).all fun v=>!decide (v∈ag (L.getD v []))
def gB (L:List (List Int)):Bool:=decide (1<=L.length/\L.length<=8)&&uF L L.length&&Am L
theorem adf (n:Nat) (w:World):
  c6 218 #[.int .i64 (n:Nat)] w fun e w'=>e=.returned (.bool (decide (1<=n/\n<=8)))/\w'=w:=by
 by_cases a:1<=n
 ·by_cases b:n<=8
  ·rw[cY (p:=1<=n/\n<=8) ⟨a,b⟩];(have c:(1:Int)<=(n:Int):=al);(have d:(n:Int)<=8:=al);go_enter Tryz.func218,Tryz.ntmps218;go_wp2;go_ret;exact⟨rfl,rfl⟩
  ·rw[cK (p:=1<=n/\n<=8) (fun h=>b h.2)];(have c:(1:Int)<=(n:Int):=al);have E:Hid (decide ((n:Int)<=8)=false):=cK al;clear b;go_enter Tryz.func218,Tryz.ntmps218;go_wp2;go_ret;exact⟨by rw[E.o];rfl,rfl⟩
 ·rw[cK (p:=1<=n/\n<=8) (fun h=>a h.1)];obtain rfl:n=0:=al
  clear a;go_enter Tryz.func218,Tryz.ntmps218;go_wp2;go_ret;exact⟨rfl,rfl⟩
theorem abw (a:n<=8) (h:dY l n=true):∀u∈ag l,u<8:=by
 have:=abu (l:=l) (n:=n) (i:=l.length) a h (ar _);rwa [fD] at this
theorem R3 (h:uF L n=true) (a:i<L.length):dY L[i] n=true:=gW.1 h _ (bB a)
theorem UO (h:i<L.length) (e:i∈ag L[i]):Am L=false:=by
 rw[Am,IV];refine⟨i,bJ.2 h,?_⟩;rw[List.getD_eq_getElem?_getD,List.getElem?_eq_getElem h];simpa using e
theorem acY (h:∀i (a:i<L.length),¬i∈ag L[i]):Am L=true:=by
 rw[Am,gW];intro i a;have b:=bJ.1 a;rw[List.getD_eq_getElem?_getD,List.getElem?_eq_getElem b];simpa using h i b
theorem abz (a:Option Addr) (ca:Nat) (L:List (List Int)) (w:World) (h:fN w a L) (x:∀l∈L,l.length<=140737488355328):
  c6 173 #[.slice a L.length ca] w fun e w'=>c8 w w'/\
   ((gB L=true/\∃G,e=.returned (.tuple #[.slice (some ⟨G,0,none⟩) L.length L.length,.bool true])/\w.heap.size<=G/\cS w' G (ko L))∨(gB L=false/\∃v,e=.returned (.tuple #[v,.bool false]))):=by
 have F:=hid h;have I:=hid x;have H:Hid (gB L=(decide (1<=L.length/\L.length<=8)&&uF L L.length&&Am L)):=rfl;generalize gB L=g at *;clear h x;cases hm:decide (1<=L.length/\L.length<=8) with
 |false=>
  have b:=hid (fun V:World=>adf L.length V);rw[hm] at H b;have aa:Hid (g=false):=by show _=_;rw[H.o];rfl
  clear hm H;go_enter Tryz.func173,Tryz.ntmps173;go_wp2_with fail
  refine(b.o _).af ?_;rintro e w1 ⟨rfl,rfl⟩;go_wp2;go_ret2;exact⟨aw _ _,.inr ⟨aa.o,_,rfl⟩⟩
 |true=>
  have b:=hid (fun V:World=>adf L.length V);rw[hm] at H b;obtain⟨h1,k⟩:=tW hm;have J:=hid (fun (V:World) (Q:fN V a L)=>ail a ca L.length L V Q k k I.o);have T:Hid (uF L L.length=true ->∀i (m:i<L.length),∀u∈ag L[i],u<8):=fun h i m=>abw k (R3 h m);have Z:=hid (fun i h e=>UO (L:=L) (i:=i) h e);have wy:=hid (fun h=>acY (L:=L) h);have M:Hid (∀i (h:i<L.length),(ko L)[i]? =some (aC (ag L[i]))):=fun i h=>by simp[ko,h]
  clear hm;generalize uF L L.length=ra at *;generalize Am L=rn at *;generalize ko L=ms at *;go_enter Tryz.func173,Tryz.ntmps173;go_wp2_with fail
  refine(b.o _).af ?_;rintro e w1 ⟨rfl,rfl⟩;go_wp2_with fail
  refine(J.o _ F.o).af ?_;rintro e y ⟨d,⟨q,G,rfl,P,s⟩ |⟨q,rfl⟩⟩
  ·have U:=hid s;have c:=hid d;have K:=hid (T.o q);(have S:Hid (g=rn):=by show _=_;rw[H.o,q];rfl);clear s d q H;go_wp2_with fail
   go_loopw [21] (fun iv wr=>∃i:Nat,i<=L.length/\iv=.int .i64 i/\Hid (∀j (h:j<L.length),j< i ->¬j∈ag L[j])/\wr=y) (fun iv _=>L.length - (intOf iv).toNat)
   case atStart=>exact⟨0,aS _,rfl,fun j _ h=>absurd h al,rfl⟩
   case round=>
    obtain⟨i,m,rfl,R,rfl⟩:=hrel;by_cases t:i<L.length
    ·have A:=M.o i t;obtain⟨z,p⟩:=mZ.1 A;have O:=U.o.cell i z;rw[p] at O;have X:=hid (Z.o i t)
     have Y:Hid (¬i∈ag L[i] ->∀j (h:j<L.length),j<i+1 ->¬j∈ag L[j]):=fun h j f nH=>by
      rcases cF j i with r |r
      ·exact R.o j f r
      ·obtain rfl:j=i:=al
       exact h
     have D:=hid (fun V:World=>T1 (ag L[i]) i V (K.o i t) al);clear A z p;generalize ag L[i]=l at *;go_wp2_with fail
     refine(D.o _).af ?_;rintro e w3 ⟨rfl,rfl⟩;by_cases n:i∈l
     ·rw[cY n];have E:=hid (X.o n);clear n;go_wp2;go_ret2;exact⟨c.o,.inr ⟨by rw[S.o];exact E.o,_,rfl⟩⟩
     ·rw[cK n];have E:=hid (Y.o n);clear n;go_wp2;go_roundw
      case rel=>exact⟨i+1,al,bd,E,trivial⟩
      case measure=>simp[intOf];omega
    ·obtain rfl:i=L.length:=al
     have E:=hid (wy.o fun j f=>R.o j f f);go_wp2;go_ret2;exact⟨c.o,.inl ⟨by rw[S.o];exact E.o,G,rfl,P,U.o⟩⟩
  ·have S:Hid (g=false):=by show _=_;rw[H.o,q];rfl
   have c:=hid d;clear q d H;go_wp2_with fail
   go_loopw [21] (fun iv wr=>iv=.int .i64 0/\wr=y) (fun _ _=>0)
   case atStart=>exact⟨rfl,rfl⟩
   case round=>
    obtain⟨rfl,rfl⟩:=hrel;go_wp2;go_ret2;exact⟨c.o,.inr ⟨S.o,_,rfl⟩⟩
section
open Go.Shelf
attribute [local go_sem] Oper.semAt_some
theorem aoI (n:Nat) (r:1<=n) (l:Nat) (s:List Nat) (p:∀u∈s,u<8) (J:Nat ->World ->Prop)
  (Y:∀k V,k< 8 ->k∈s ->J k V ->YieldAt Fence.wide (n - 1) Tryz.prog l #[.int .i64 (k:Nat)] V fun e V'=>e=.returned (.bool true)/\J (k+1) V')
  (j:∀k V,k< 8 ->¬k∈s ->J k V ->J (k+1) V) (V:World) (h0:J 0 V):
  CallsIn Fence.wide n Tryz.prog 130 #[.int .u32 (aC s:Nat),.func (.yield l) #[] #[]] V fun e V'=>(∃v,e=.returned v)/\J 8 V':=by
 refine IG Tryz.func130 rfl trivial ?_ rfl;simp only[Tryz.ntmps130,od,eA,mg,Nat.reduceAdd,Nat.reduceSub,oz,ow,oh,ng,iI,fM];have H:=hid (fun (k:Nat) (d:k<8) (U:World)=>T1 s k U p d);generalize aC s=m at *;gi_wp2
 gi_loopw [5] (fun i wr=>∃k:Nat,k<=8/\i=.int .i64 k/\J k wr) (fun i _=>8 - (intOf i).toNat)
 case atStart=>exact⟨0,aS _,rfl,h0⟩
 case round=>
  obtain⟨k,d,rfl,b⟩:=hrel;by_cases t:k<8
  ·have F:(k:Int)<8:=al
   have S:=hid (H.o k t);by_cases a:k∈s
   ·rw[cY a] at S;obtain⟨fn,z,A,x,y,R⟩:=Y k wr t a b;have g:=hid R;clear R;gi_wp2_with (refine⟨trivial,?_⟩;gi_at_call 180;refine(iG.2 (S.o _)).af ?_;rintro e w' ⟨rfl,w⟩;subst w)
    refine g.o.af ?_;rintro e q ⟨rfl,c⟩;gi_wp2
    go_roundw
    case rel=>exact⟨k+1,al,bd,c⟩
    case measure=>simp[intOf];omega
   ·rw[cK a] at S;have c:=j k wr t a b;gi_wp2_with (refine⟨trivial,?_⟩;gi_at_call 180;refine(iG.2 (S.o _)).af ?_;rintro e w' ⟨rfl,w⟩;subst w)
    refine⟨fun f h=>(by cases h),?_⟩;gi_wp2
    go_roundw
    case rel=>exact⟨k+1,al,bd,c⟩
    case measure=>simp[intOf];omega
  ·obtain rfl:k=8:=al
   gi_wp2
   go_end0
   exact⟨⟨_,rfl⟩,b⟩
def aoJ (B:Nat) (I:Nat ->World ->Prop) (k:Nat) (W:World):Exit ->Act ->World ->Prop
 |.normal,_,W'=>KeepsFrom B W W'/\I (k+1) W'
 |_,_,_=>False
theorem Gc {g:Operand} {j:Array Tmp} {assign body:Code} {Q:Exit ->Act ->World ->Prop} {a:Act} (h1:2<=n) (s:List Nat) (S:∀u∈s,u<8)
  (O:a.eval g=.func (.func 130) #[.int .u32 (aC s:Nat)] #[]) (L:j.size=1) (I:Nat ->World ->Prop) (i:OwnFrom w.heap.size I) (h0:I 0 w) (A:Nat ->Act)
  (ad:∀(l k:Nat) (W:World) (K:Act ->World ->Prop),K (A k) W ->
   assign.wpIn (Fence.wide.inRound l) (n - 1 - 1) Tryz.prog (Exit.then K (fun _ _ _=>False)) {tmps:=(j.zip #[.int .i64 (k:Nat)]).foldl (fun t (p,v)=>t.setIfInBounds p v) a.tmps,defers:=[]} W)
  (ab:∀(l k:Nat) (W:World),k< 8 ->k∈s ->I k W ->body.wpIn (Fence.wide.inRound l) (n - 1 - 1) Tryz.prog (aoJ w.heap.size I k W) (A k) W)
  (aa:∀k W,k< 8 ->¬k∈s ->I k W ->I (k+1) W)
  (an:∀(D:Nat) (W:World),w.heap.size<=D ->I 8 W ->W.heap[D]? =some (.deferred (some [])) ->Q .normal {a with defers:= {target:=.collected D,args:= #[]}::a.defers} W):
  (Code.rangeFunc g j assign body).wpIn Fence.wide n Tryz.prog Q a w:=by
 refine wpIn_rangeFunc fun fn ai=>?_;rw[show Fence.wide.round=none from rfl];obtain⟨c,H⟩:∃c:LoopState ->Option Code ->Loop,c=fun V U=> {state:=V,pending:=U,fn,tmps:=a.tmps,params:=j,assign,body,defers:=w.heap.size}:=⟨_,rfl⟩;obtain⟨b,m⟩:∃b,(w.alloc (.deferred (some []))).alloc (.loop (c .ready none))=b:=⟨_,rfl⟩
 have yU:b.heap[w.heap.size+1]? =some (.loop (c .ready none)):=by
  rw[<- m];have h:=World.alloc_heap_new (w.alloc (.deferred (some []))) (.loop (c .ready none));rwa [cU] at h
 have ae:b.heap[w.heap.size]? =some (.deferred (some [])):=by
  rw[<- m];exact(r8 _ _ _ aE).trans (World.alloc_heap_new w _)
 have X:I 0 b:=by
  rw[<- m];exact i.alloc _ (i.alloc _ h0)
 refine⟨w.heap.size+1,[{target:=.collected w.heap.size,args:= #[]}],b, {target:=.fn (.func 130) #[],args:= #[.int .u32 (aC s:Nat),.func (.yield (w.heap.size+1)) #[] #[]]},b,130, #[.int .u32 (aC s:Nat),.func (.yield (w.heap.size+1)) #[] #[]],b,?_,?_,?_,?_,fun _=>al,?_⟩
 ·rw[<- m,H];exact run_enterLoop_outer _ _ _ _ _
 ·simp only[resolve,O];simp[go_sem]
 ·intro f' F;simp[Target.leads] at F;subst F;trivial
 ·have M:∀r w,(callFunc 130 r).run Tryz.prog w=.ok (.enter 130 r) w:=enters_of Tryz.func130 ao rfl;simp[invoke,go_sem,M]
 ·refine(aoI (n - 1) al (w.heap.size+1) s S (fun k W=>I k W/\W.heap[w.heap.size+1]? =some (.loop (c .ready none))/\W.heap[w.heap.size]? =some (.deferred (some []))) ?_ (fun k W x y h=>⟨aa k W x y h.1,h.2⟩) b ⟨X,yU,ae⟩).af ?_
  ·rintro k W x y ⟨q,d,o⟩;have ak:w.heap.size+1<W.heap.size:=(dS.1 d).1;have E:=run_yield (P:=Tryz.prog) (args:= #[.int .i64 (k:Nat)]) d (by rw[H];exact L.symm);rw[H] at E;refine⟨fn,_,assign,body,E,roundIn_of_wpIn ai (ad _ k W _ ⟨_,run_beginRound d (by rw[H]),?_⟩)⟩;have aj:(W.putObj (w.heap.size+1) (.loop {c .ready none with state:=.busy})).heap[w.heap.size+1]? =some (.loop {c .ready none with state:=.busy}):=World.putObj_heap_same ak;have T:(W.putObj (w.heap.size+1) (.loop {c .ready none with state:=.busy})).heap[w.heap.size]? =some (.deferred (some [])):=(zW al).trans o;refine wpIn_mono (ab _ k _ x y (i.putObj _ q al d rfl)) ?_;rintro e a3 W3 f;cases e with
   |normal=>
    obtain⟨J,Z⟩:=f;have z:=J.same _ _ al aj rfl;have R:=run_endRound (P:=Tryz.prog) none z;have Y:=J.same _ _ (ar _) T rfl;refine⟨_,_,R,rfl,i.putObj _ Z al z rfl,?_,(zW al).trans Y⟩;rw[H];exact World.putObj_heap_same (dS.1 z).1
   |ret=>exact f.elim
   |exit id=>exact f.elim
   |goto t=>exact f.elim
   |panic ch=>exact f.elim
   |outgrown=>exact f.elim
  ·rintro e W2 ⟨⟨v,rfl⟩,q,d,o⟩;have h:=run_endLoop (P:=Tryz.prog) d (by rw[H];simp);rw[H] at h;exact⟨none,_,h,an _ _ (ar _) (i.putObj _ q al d rfl) ((zW al).trans o)⟩
end
open Go.Shelf
variable {s:List Nat} {v:Nat}
def Cp:ByteArray:=⟨(([0,1,1,2,1,2,2,3,1,2,2,3,2,3,3,4,1,2,2,3,2,3,3,4,2,3,3,4,3,4,4,5,1,2,2,3,2,3,3,4,2,3,3,4,3,4,4,5,2,3,3,4,3,4,4,5,3,4,4,5,4,5,5,6].append [1,2,2,3,2,3,3,4,2,3,3,4,3,4,4,5,2,3,3,4,3,4,4,5,3,4,4,5,4,5,5,6,2,3,3,4,3,4,4,5,3,4,4,5,4,5,5,6,3,4,4,5,4,5,5,6,4,5,5,6,5,6,6,7]).append ([1,2,2,3,2,3,3,4,2,3,3,4,3,4,4,5,2,3,3,4,3,4,4,5,3,4,4,5,4,5,5,6,2,3,3,4,3,4,4,5,3,4,4,5,4,5,5,6,3,4,4,5,4,5,5,6,4,5,5,6,5,6,6,7].append [2,3,3,4,3,4,4,5,3,4,4,5,4,5,5,6,3,4,4,5,4,5,5,6,4,5,5,6,5,6,6,7,3,4,4,5,4,5,5,6,4,5,5,6,5,6,6,7,4,5,5,6,5,6,6,7,5,6,6,7,6,7,7,8])).toArray⟩
def gi (s:List Nat) (k:Nat):List Nat:=(List.range k).filter fun v=>decide (v∈s)
theorem U5 (h:k∈s):gi s (k+1)=gi s k++[k]:=by rw[gi,sV,Ch,gi];simp[h]
theorem Qw (h:¬k∈s):gi s (k+1)=gi s k:=by rw[gi,sV,Ch,gi];simp[h]
theorem Jr:v∈gi s k↔v<k/\v∈s:=by simp[gi]
theorem U6 (s:List Nat) (k:Nat):(gi s k).length<=k:=by
 have:=pJ (fun v=>decide (v∈s)) (List.range k);simpa [gi] using this
def Cq (m:Nat):Nat:=((List.range 8).filter fun v=>m.testBit v).length
theorem ajy (s:List Nat):Cq (aC s)=(gi s 8).length:=by
 rw[Cq,gi];congr 1
 exact List.filter_congr fun v _=>tu s v
theorem ajB:((List.range 256).all fun m=>decide (Cp.data.toList[m]? =some (UInt8.ofNat (Cq m))))=true:=by decide+kernel
theorem ajA (h:m<256):Cp.data.toList[m]? =some (UInt8.ofNat (Cq m)):=tW (gW.1 ajB m (bJ.2 h))
theorem ajz:Cp.size=256:=by decide+kernel
theorem ab1 (m:Nat):Cq m<=8:=by
 have:=pJ (fun v=>m.testBit v) (List.range 8);simpa [Cq] using this
theorem aku (m:Nat) (w:World) (s:m<256):
  c6 221 #[.int .u32 (m:Nat)] w fun e w'=>e=.returned (.int .i64 (Cq m:Nat))/\∃k,w'=w.drewN k:=by
 have x:(m:Int)/16777216=0:=al
 have u:(m:Int)/65536=0:=al
 have n:(m:Int)/256=0:=al
 have r:bits BinOp.and IntKind.u32 (m:Nat) 255=((m:Nat):Int):=by
  have e:(255:Int)=((255:Nat):Int):=rfl;rw[e,u32_and_nat _ _ al al,show (255:Nat)=2^8 - 1 from rfl,Nat.and_two_pow_sub_one_eq_mod];omega
 have t:bits BinOp.and IntKind.u32 0 255=0:=a6
 have y:=ajz;have l:m<Cp.size:=al
 have a:∀i (h:i<Cp.size),Cp[i]=UInt8.ofNat (Cq i):=fun i h=>by
  have b:=ajA (m:=i) al;rw[vr] at b;obtain⟨j,d⟩:=dS.1 b;exact d
 have g:Cp[0]'al=0:=a 0 al
 obtain⟨q,A,z⟩:∃q:UInt8,Cp[m]'l=q/\q.toNat=Cq m:=⟨_,a m l,by
  have:=ab1 m;rw[UInt8.toNat_ofNat'];omega⟩
 have D:IntKind.u8.wrap 0=0:=a6
 have c:=ab1 m;rw[<- z] at c
 have v:IntKind.u8.wrap ((q.toNat:Nat):Int)=((q.toNat:Nat):Int):=by
  have:(q.toNat:Int)<256:=al
  rw[IntKind.wrap_u8];omega
 have f:=hid z;clear a z;have p:Cp=⟨(([0,1,1,2,1,2,2,3,1,2,2,3,2,3,3,4,1,2,2,3,2,3,3,4,2,3,3,4,3,4,4,5,1,2,2,3,2,3,3,4,2,3,3,4,3,4,4,5,2,3,3,4,3,4,4,5,3,4,4,5,4,5,5,6].append [1,2,2,3,2,3,3,4,2,3,3,4,3,4,4,5,2,3,3,4,3,4,4,5,3,4,4,5,4,5,5,6,2,3,3,4,3,4,4,5,3,4,4,5,4,5,5,6,3,4,4,5,4,5,5,6,4,5,5,6,5,6,6,7]).append ([1,2,2,3,2,3,3,4,2,3,3,4,3,4,4,5,2,3,3,4,3,4,4,5,3,4,4,5,4,5,5,6,2,3,3,4,3,4,4,5,3,4,4,5,4,5,5,6,3,4,4,5,4,5,5,6,4,5,5,6,5,6,6,7].append [2,3,3,4,3,4,4,5,3,4,4,5,4,5,5,6,3,4,4,5,4,5,5,6,4,5,5,6,5,6,6,7,3,4,4,5,4,5,5,6,4,5,5,6,5,6,6,7,4,5,5,6,5,6,6,7,5,6,6,7,6,7,7,8])).toArray⟩:=rfl;go_enter Tryz.func221,Tryz.ntmps221;go_upto_region 1 with fail
 rw[<- p];clear p;go_quiet (fail)
 go_wp2;go_ret;exact⟨by rw[<- f.o];rfl,_,rfl⟩
def gz (P:List (List Nat)) (out:List Nat) (v:Nat):Bool:=!decide (v∈out)&&decide (∀u∈P.getD v [],u∈out)
def nD (P:List (List Nat)) (out:List Nat):Option Nat:=(List.range P.length).find? (gz P out)
def aZ (P:List (List Nat)):Nat ->List Nat
 |0=>[]
 |k+1=>match nD P (aZ P k) with
  |some v=>aZ P k++[v]
  |none=>aZ P k
theorem find_range {p:Nat ->Bool}:∀ {n v:Nat},v< n ->p v=true ->(∀u,u< v ->p u=false) ->(List.range n).find? p=some v:=by
 intro n;induction n with
 |zero=>intro v h;omega
 |succ n ih=>
  intro v c a b;rw[sV,List.find?_append];rcases cF v n with h |h
  ·rw[ih h a b];rfl
  ·obtain rfl:v=n:=al
   (have:(List.range v).find? p=none:=List.find?_eq_none.2 fun u z=>by rw[b u (bJ.1 z)];decide);rw[this];simp[a]
theorem akJ {P:List (List Nat)} {o:List Nat} (b:v<P.length) (h:gz P o v=true) (a:∀u,u< v ->gz P o u=false):nD P o=some v:=find_range b h a
theorem akK {P:List (List Nat)} {o:List Nat} (h:∀u,u<P.length ->gz P o u=false):nD P o=none:=List.find?_eq_none.2 fun u z=>by rw[h u (bJ.1 z)];decide
theorem LI {P:List (List Nat)} (h:nD P (aZ P k)=some v):aZ P (k+1)=aZ P k++[v]:=by rw[aZ,h]
theorem acA {P:List (List Nat)} (h:nD P (aZ P k)=none):∀j,aZ P (k+j)=aZ P k
 |0=>rfl
 |j+1=>by
  have i:=acA h j;show aZ P (k+j+1)=_;rw[aZ,i,h]
theorem acx {P:List (List Nat)} (h:nD P (aZ P k)=none) (a:k<=n):aZ P n=aZ P k:=by
 have:=acA h (n - k);rwa [show k+(n - k)=n by omega] at this
theorem Em (P:List (List Nat)):∀k,(aZ P k).length<=k
 |0=>ar _
 |k+1=>by
  have:=Em P k;rw[aZ];cases nD P (aZ P k) with
  |none=>show (aZ P k).length<=_;omega
  |some v=>show (aZ P k++[v]).length<=_;rw[dm];simp;omega
theorem Gi (P:List (List Nat)):∀k,∀v∈aZ P k,v<P.length
 |0,v,hv=>by cases hv
 |k+1,v,hv=>by
  rw[aZ] at hv;cases e:nD P (aZ P k) with
  |none=>rw[e] at hv;exact Gi P k v hv
  |some u=>
   rw[e] at hv;rcases dh.1 hv with h |h
   ·exact Gi P k v h
   ·obtain rfl:=dX.1 h;exact bJ.1 (ZQ e)
theorem akn (P:List (List Nat)) (h:nD P (aZ P k)=none) (a:k<P.length):(aZ P P.length).length<P.length:=by
 rw[acx h (vk a)];have:=Em P k;omega
def aL (L:List (List Int)):List (List Nat):=L.map ag
theorem kW (L:List (List Int)):(aL L).length=L.length:=by simp[aL]
theorem LD (h:i<L.length):(aL L).getD i []=ag L[i]:=by simp[aL,List.getD_eq_getElem?_getD,h]
theorem Js (L:List (List Int)):ko L=(aL L).map aC:=by simp[ko,aL]
theorem QD (a b:List Nat):iL (a++b)=iL a++iL b:=by simp[iL]
def bH (L:List (List Int)):Int:=if gB L=true then(if (aZ (aL L) L.length).length<L.length then 10 else 0) else 11
section
attribute [local go_sem] Oper.semAt_some
variable {Bn:Nat}
def Hp (B:Nat) (w:World) (a:Option Addr) (l:List Int):Prop:=∀k (h:k<l.length),∃g o,a=some ⟨g,o,none⟩/\g<B/\w.cell? ⟨g,o+k,none⟩=some (.int .i64 l[k])
theorem Hp.aa {B:Nat} (h:Hp B w a l) (e:Below B w w'):Hp B w' a l:=fun k f=>by
 obtain⟨g,o,c,b,d⟩:=h k f;exact⟨g,o,c,b,(e.cell (p:=⟨g,_,none⟩) b).trans d⟩
theorem az.toB (h:az w a l):Hp w.heap.size w a l:=h
def sK (Bn B:Nat) (V V':World):Prop:=pg Bn V V'/\Below B V V'
theorem sK.t {B:Nat} {X Y Z:World} (h:sK Bn B X Y) (k:sK Bn B Y Z):sK Bn B X Z:=⟨h.1.t k.1,h.2.trans k.2⟩
theorem sK.b {B:Nat} (n:Bn<w.heap.size) (d:B<=w.heap.size) (V:World) (l:Nat) (o o':Obj) (c:w.heap.size<=l) (h1:V.heap[l]? =some o) (h:o.isCells=false) (a:o.isWalk=false):sK Bn B V (V.putObj l o'):=
 ⟨pg.b n V l o o' c h1 h a,uZ d V l o o' c h1 h a⟩
def o0 (n k:Nat):List Nat:=(List.range k).map fun j=>n - 1 - j
theorem R1 (n k:Nat):o0 n (k+1)=o0 n k++[n - 1 - k]:=by simp[o0,sV]
theorem ap0 (n k:Nat):(o0 n k).length=k:=by simp[o0]
abbrev At (l:List Int):Type:= {i:Nat//i<l.length}
abbrev Yd (l:List Int) (x:At l):Array Value:= #[.int .i64 (x.1:Nat),.int .i64 (l[x.1]'x.2)]
theorem apZ (n:Nat) (T:1<=n) (l Bn B:Nat) (a:Option Addr) (cap:Nat) (xs:List Int) (Q:xs.length<=140737488355328) (J c:List (At xs) ->World ->Prop)
  (Y:∀p x V,J p V ->p.length<xs.length ->YieldAt Fence.wide (n - 1) Tryz.prog l (Yd xs x) V fun e V'=>
   (e=.returned (.bool true)/\J (p++[x]) V'/\sK Bn B V V')∨(e=.returned (.bool false)/\c (p++[x]) V'))
  (V:World) (r:V.cell? ⟨Bn,0,none⟩=some (.slice a xs.length cap)) (d:Hp B V a xs) (h0:J [] V):
  CallsIn Fence.wide n Tryz.prog 189 #[.func (.yield l) #[] #[],.pointer (some ⟨Bn,0,none⟩)] V fun e V'=>(∃v,e=.returned v)/\
   ((∃s:List (At xs),s.map (·.1)=o0 xs.length xs.length/\J s V')∨(∃p:List (At xs),(∃k,k<=xs.length/\p.map (·.1)=o0 xs.length k)/\c p V')):=by
 have q:=hid d;clear d;refine IG Tryz.func189 rfl trivial ?_ rfl;simp only[Tryz.ntmps189,od,eA,mg,Nat.reduceAdd,Nat.reduceSub,oz,ow,oh,ng,iI,fM];gi_wp2
 gi_loopw [3] (fun i wr=>∃(k:Nat) (p:List (At xs)),k<=xs.length/\i=.int .i64 ((xs.length:Int) - 1 - (k:Int))/\Hid (p.map (·.1)=o0 xs.length k)/\J p wr/\wr.cell? ⟨Bn,0,none⟩=some (.slice a xs.length cap)/\Hid (Hp B wr a xs))
  (fun i _=>(intOf i+1).toNat)
 case atStart=>exact⟨0,[],aS _,aE,rfl,h0,r,q⟩
 case round=>
  obtain⟨k,p,O,rfl,H,f,P,b⟩:=hrel;by_cases Z:k<xs.length
  ·have ab:p.length=k:=by have:=bU List.length H.o;rwa [dD,ap0] at this
   (have h:xs.length - 1 - k<xs.length:=al);obtain⟨fn,ae,ai,ad,y,R⟩:=Y p ⟨xs.length - 1 - k,h⟩ wr f al;obtain⟨g,o,rfl,M,L⟩:=b.o (xs.length - 1 - k) h;(have S:Hid ((p++[(⟨xs.length - 1 - k,h⟩:At xs)]).map (·.1)=o0 xs.length (k+1)):=by show _=_;rw[fg,H.o,R1];rfl);have m:=hid R;clear R;rw[Yd] at y;simp only at y;(have w:Hid ((xs.length:Int) - 1 - ((k+1:Nat):Int)=(xs.length:Int) - 1 - (k:Int) - 1):=by show _=_;omega);(have X:(xs.length:Int) - 1 - (k:Int)=((xs.length - 1 - k:Nat):Int):=al);rw[X];have A:=hid X;clear X;have I:xs.length - 1 - k<xs.length:=h;generalize hEn:xs[xs.length - 1 - k]=U at *;generalize Xk:xs.length - 1 - k=E at *;gi_wp2
   refine m.o.af ?_;rintro e K (⟨rfl,D,j⟩ |⟨rfl,F⟩)
   ·have t:=Eq.trans j.1 P;have u:=b.o.aa j.2;gi_wp2
    go_roundw
    case rel=>exact⟨k+1,_,al,by rw[w.o,A.o],S,D,t,u⟩
    case measure=>simp[intOf]
   ·gi_wp2
    refine bD (results_none rfl _ _ _) rfl ?_;exact⟨⟨_,rfl⟩,.inr ⟨_,⟨k+1,al,S.o⟩,F⟩⟩
  ·obtain rfl:k=xs.length:=al
   (have z:(xs.length:Int) - 1 - (xs.length:Int)= -1:=al);rw[z];gi_wp2
   go_end0
   exact⟨⟨_,rfl⟩,.inl ⟨_,H.o,f⟩⟩
end
variable {ops:Array Oper}
def LB (ops:Array Oper):Bool:=ops.all fun o=>match o.op with |.defer _=>false |_=>true
theorem ajJ (h:LB ops=true) {o:Oper} (d:ops[i]? =some o):∀c,o.op≠.defer c:=by
 intro c e;rw[LB,Array.all_eq_true] at h;obtain⟨b,a⟩:=dS.1 d;have:=h i b;rw[a,e] at this;cases this
theorem aks {l:Nat} {P:Program} {Q:Exit ->Act ->World ->Prop} (E:LB ops=true) (t:¬LetsOut Q) {K k:Act ->World ->Prop} {a:Act} (b:∀a w,K a w ->k a w)
  (h:wpOp P ops Q i K a w):wpOpIn (Fence.wide.inRound l) n P ops Q i k a w:=by
 unfold wpOp at h;unfold wpOpIn;cases ho:ops[i]? with
 |none=>rw[ho] at h;exact b _ _ h
 |some o=>
  rw[ho] at h;simp only at h⊢;by_cases m:Region.wanted o (yielded ops a.tmps)=true
  ·rw[aA m] at h⊢;rcases h with h |h
   ·refine⟨fun _ _=>trivial,?_⟩;rw[Oper.semAt_eq _ _ _ (ajJ E ho)];unfold Oper.wp at h;generalize (execOp a.eval o).run P w=r at *;cases r with
    |ok nx w'=>
     cases nx with
     |value v=>exact b _ _ h
     |skip=>exact b _ _ h
     |defer d=>exact b _ _ h
     |enter f args=>
      refine⟨fun g=>absurd g (show ¬Fence.wide.depth.isSome=true by decide),(iG (n:=n - 1)).2 (Calls.af h ?_)⟩;intro e u j;cases e with
      |returned v=>exact b _ _ j
      |panicked c=>exact j
      |outgrown=>exact j
     |row r args=>exact⟨fun g=>absurd g (show ¬Fence.wide.depth.isSome=true by decide),fun c p _=>let ⟨v,q,r,s⟩:=h c p;⟨v,q,b _ _ r,stepsIn_wide.2 s⟩⟩
     |_=>exact h.elim
    |halt hl w'=>
     cases hl with
     |panic v=>exact h
     |_=>exact h.elim
   ·exact absurd h.2 t
  ·rw[aB m] at h⊢;exact⟨fun _ _=>trivial,b _ _ h⟩
theorem afV {l:Nat} {P:Program} {md:Region.Mode} {Q:Exit ->Act ->World ->Prop} (j:LB ops=true) (o:¬LetsOut Q):∀(fuel:Nat) (d:Array Bool) (a:Act) (w:World),wpAny P md ops Q fuel d a w ->wpAnyIn (Fence.wide.inRound l) n P md ops Q fuel d a w
 |0,_,_,_,h=>h
 |fuel+1,_,_,_,h=>⟨h.1,fun i b=>aks j o (fun a w=>afV j o fuel _ a w) (h.2 i b)⟩
theorem wK {l id:Nat} {P:Program} {Q:Exit ->Act ->World ->Prop} {a:Act} (S:World ->Prop) (m:P.follows .mixedOrders=true) (j:LB ops=true) (o:¬LetsOut Q) (b:S w.drew)
  (h:S w.drew ->wpAnyH P .any ops Q S ops.size (Array.replicate ops.size false) a w.drew):(Code.region id ops true).wpIn (Fence.wide.inRound l) n P Q a w:=
 wpIn_region_any m (afV j o _ _ _ _ (wpAny_of_held _ _ _ _ (h b)))
section
attribute [local go_sem] Oper.semAt_some
variable {vs:List Nat} {K:Nat}
def Ff (S vs:List Nat) (st:Nat×List Nat) (i:Nat):Nat×List Nat:=(st.1/sz S (vs.getD i 0),st.2.set i (st.1 % sz S (vs.getD i 0)))
def kj (S vs:List Nat) (K n:Nat) (pre:List Nat):Nat×List Nat:=pre.foldl (Ff S vs) (K,List.replicate n 0)
theorem Yf (S vs:List Nat) (K n:Nat) (e:List Nat) (i:Nat):kj S vs K n (e++[i])=Ff S vs (kj S vs K n e) i:=by simp[kj]
theorem afQ (S vs:List Nat) (K n:Nat) (e:List Nat):(kj S vs K n e).1<=K/\(kj S vs K n e).2.length=n:=by
 have k:∀(l:List Nat) (s:Nat×List Nat),s.1<=K ->s.2.length=n ->(l.foldl (Ff S vs) s).1<=K/\(l.foldl (Ff S vs) s).2.length=n:=by
  intro l;induction l with
  |nil=>intro s h a;exact⟨h,a⟩
  |cons i l ih=>
   intro s h a;exact ih _ (aR (wF _ _) h) (by simp[Ff,a])
 exact k e _ (ar _) aE
theorem afR (S vs:List Nat) (K:Nat):∀m,m<=vs.length ->kj S vs K vs.length (o0 vs.length m)=(K/cnt S (vs.drop (vs.length - m)),List.replicate (vs.length - m) 0++bX S (vs.drop (vs.length - m)) (K % cnt S (vs.drop (vs.length - m))))
 |0,_=>by simp[kj,o0,cnt,bX]
 |m+1,h=>by
  rw[R1,Yf,afR S vs K m al];have a:vs.length - 1 - m<vs.length:=al
  have e:vs.length - (m+1)=vs.length - 1 - m:=al
  have b:vs.length - m=(vs.length - 1 - m)+1:=al
  have d:vs.drop (vs.length - 1 - m)=vs[vs.length - 1 - m]::vs.drop ((vs.length - 1 - m)+1):=ou a;rw[e,b,d,Ff,C9 a];generalize vs.drop ((vs.length - 1 - m)+1)=rest;generalize vs[vs.length - 1 - m]=v;generalize vs.length - 1 - m=j;simp only[cnt,bX];rw[ada,U4,S8,dJ (cnt S rest),List.replicate_succ',sX,F7 _ _ aE];simp
theorem afS (h:K<cnt S vs):kj S vs K vs.length (o0 vs.length vs.length)=(0,bX S vs K):=by
 rw[afR S vs K _ (ar _),rZ];simp[jM h,zZ h]
theorem RZ (n:Nat) (a:Option Addr) (l cap:Nat) (w:World):
  CallsIn Fence.wide n Tryz.prog 145 #[.slice a l cap] w fun e w'=>e=.returned (.func (.func 189) #[] #[.pointer (some ⟨w.heap.size,0,none⟩)])/\w'=w.alloc (.cells #[.slice a l cap] 22):=by
 refine IG Tryz.func145 rfl trivial ?_ rfl;simp only[Tryz.ntmps145,od,eA,mg,Nat.reduceAdd,Nat.reduceSub,oz,ow,oh,ng,iI,fM];gi_wp2
 go_ret;exact⟨rfl,rfl⟩
theorem RY (n:Nat) (g:1<=n) (Bn B:Nat) (a:Option Addr) (cap:Nat) (xs:List Int) (f:xs.length<=140737488355328) (w:World) (b:Bn<w.heap.size) (d:B<=w.heap.size) (e:w.cell? ⟨Bn,0,none⟩=some (.slice a xs.length cap)) (i:Hp B w a xs):
  SeqStopsK Fence.wide n Tryz.prog 189 #[.pointer (some ⟨Bn,0,none⟩)] (Yd xs) (sK Bn B) (fun s=>s.map (·.1)=o0 xs.length xs.length) (fun r=>∃k,k<=xs.length/\r.map (·.1)=o0 xs.length k) xs.length w:=fun l J x V h _ _ Y c=>
 apZ n g l Bn B a cap xs f J x Y V ((h.cell (p:=⟨Bn,0,none⟩) b).trans e) (i.aa (h.af d)) c
theorem Jc {β:Type} (g:Nat) (f:β ->List Nat):Own (fun s W=>cC W g (f s)):=fun s X Y w h b r=>by
 refine(b.block g h.lt fun e=>?_).trans h;obtain⟨o,a,c⟩:=r g e.symm;rw[show X.heap[g]? =_ from h] at a;cases a;cases c
theorem Va (w:World) (n:Nat):cC (w.alloc (.cells (madeCells #[Value.int .i64 0] n) 3)) w.heap.size (List.replicate n 0):=by
 have h:(madeCells #[Value.int .i64 0] n).toList=(List.replicate n (0:Nat)).map iv:=by
  have:=CA n;rwa [pI,show (Value.int .i64 0).cells= #[Value.int .i64 0] from rfl] at this
 have e:madeCells #[Value.int .i64 0] n=((List.replicate n (0:Nat)).map iv).toArray:=by rw[<- h]
 rw[cC, <- e];exact jg _ _
theorem cC.alloc {l:List Nat} (h:cC w g l) (o:Obj):cC (w.alloc o) g l:=(r8 w o g h.lt).trans h
theorem fA {V:World} {t:TypeId} {v:Value} (h:Boxed V k t v) (b j:Nat) (y:Value) (e:k≠b):Boxed (V.setCell ⟨b,j,none⟩ y) k t v:=(iJ V ⟨b,j,none⟩ y k e).trans h
theorem cC.off {V:World} {l:List Nat} (h:cC V g l) (b j:Nat) (y:Value) (e:g≠b):cC (V.setCell ⟨b,j,none⟩ y) g l:=(iJ V ⟨b,j,none⟩ y g e).trans h
theorem ap4 (a b:Option Addr) (ca cb:Nat) (sizes vars:List Int) (K:Nat) (w:World) (Z:az w a sizes) (hv:az w b vars) (Q:eW sizes) (a8:Up vars sizes.length) (q:K<cnt (ag sizes) (ag vars)):
  c6 97 #[.slice a sizes.length ca,.slice b vars.length cb,.int .i64 (K:Nat)] w fun e w'=>∃(c:Option Addr) (cc:Nat),e=.returned (.slice c (bX (ag sizes) (ag vars) K).length cc)/\az w' c (iL (bX (ag sizes) (ag vars) K))/\c8 w w':=by
 refine(iG (n:=6)).1 ?_;have oO:=Q.eight;have i6:=a8.length;have av:cnt (ag sizes) (ag vars)<=65536:=qL Q.sz_le (by rw[cV];omega);have an:=fun V=>OQ (P:=Tryz.prog) 22 3 (.int .i64 0) 8 Tryz.underlying22 Tryz.infoInt rfl .i64 .i64 vars.length al al V;have HS:=hid Z;have HV:=hid hv;have S:=hid Q;have gP:=hid a8;have qC:(bX (ag sizes) (ag vars) K).length=vars.length:=by rw[vT,cV]
 have rX:=hid (afS q);rw[cV] at rX;rw[qC];clear Z hv Q a8;refine uY Tryz.func97 rfl trivial ?_ rfl;simp only[Tryz.ntmps97,od,eA,mg,Nat.reduceAdd,Nat.reduceSub,oz,ow,oh,ng,iI,fM];gi_wp2_with ((refine⟨trivial,?_⟩;gi_at_call 145;refine(RZ _ _ _ _ _).af ?_;rintro e w2 ⟨rfl,rfl⟩))
 obtain⟨k,m⟩:∃k,k=(((((w.alloc (.cells #[.slice a sizes.length ca] 22)).alloc (.cells #[.int .i64 (K:Nat)] 3)).alloc (.cells (madeCells #[.int .i64 0] vars.length) 3)).alloc (.cells #[.slice (some ⟨w.heap.size+1+1,0,none⟩) vars.length vars.length] 22)).alloc (.cells #[.slice b vars.length cb] 22)):=⟨_,rfl⟩;have xo:k.heap.size=w.heap.size+1+1+1+1+1:=by rw[m];simp
 have b0:Boxed k w.heap.size 22 (.slice a sizes.length ca):=by rw[m];exact((((bh w _ _).alloc _).alloc _).alloc _).alloc _
 have b1:Boxed k (w.heap.size+1) 3 (.int .i64 (K:Nat)):=by
  have h:=((((bh (w.alloc (.cells #[.slice a sizes.length ca] 22)) 3 (.int .i64 (K:Nat))).alloc (.cells (madeCells #[.int .i64 0] vars.length) 3)).alloc (.cells #[.slice (some ⟨w.heap.size+1+1,0,none⟩) vars.length vars.length] 22)).alloc (.cells #[.slice b vars.length cb] 22));rw[cU] at h;rw[m];exact h
 have r2:cC k (w.heap.size+1+1) (List.replicate vars.length 0):=by
  have h:=((Va ((w.alloc (.cells #[.slice a sizes.length ca] 22)).alloc (.cells #[.int .i64 (K:Nat)] 3)) vars.length).alloc (.cells #[.slice (some ⟨w.heap.size+1+1,0,none⟩) vars.length vars.length] 22)).alloc (.cells #[.slice b vars.length cb] 22);rw[cU,cU] at h;rw[m];exact h
 have b3:Boxed k (w.heap.size+1+1+1) 22 (.slice (some ⟨w.heap.size+1+1,0,none⟩) vars.length vars.length):=by
  have h:=(bh (((w.alloc (.cells #[.slice a sizes.length ca] 22)).alloc (.cells #[.int .i64 (K:Nat)] 3)).alloc (.cells (madeCells #[.int .i64 0] vars.length) 3)) 22 (.slice (some ⟨w.heap.size+1+1,0,none⟩) vars.length vars.length)).alloc (.cells #[.slice b vars.length cb] 22);rw[cU,cU,cU] at h;rw[m];exact h
 have b4:Boxed k (w.heap.size+1+1+1+1) 22 (.slice b vars.length cb):=by
  have h:=bh ((((w.alloc (.cells #[.slice a sizes.length ca] 22)).alloc (.cells #[.int .i64 (K:Nat)] 3)).alloc (.cells (madeCells #[.int .i64 0] vars.length) 3)).alloc (.cells #[.slice (some ⟨w.heap.size+1+1,0,none⟩) vars.length vars.length] 22)) 22 (.slice b vars.length cb);rw[cU,cU,cU,cU] at h;rw[m];exact h
 have ae:c8 w k:=by
  rw[m];exact(((((aw _ w).alloc (ar _) _).alloc aE _).alloc (by simp;omega) _).alloc (by simp;omega) _).alloc (by simp;omega) _
 rw[<- m];clear m
 refine KJ (α:=At vars) rfl al (gf:=189) (lb:= #[.pointer (some ⟨w.heap.size+1+1+1+1,0,none⟩)]) rfl trivial (enters_of Tryz.func189 ao rfl)
  (RY 5 al (w.heap.size+1+1+1+1) w.heap.size b cb vars al k al al b4.cell (HV.o.toB.aa ae)) sK.t (sK.b al al) (aw _ _) (fun _=>rfl)
  (fun (d:List (At vars)) V=>Boxed V w.heap.size 22 (.slice a sizes.length ca)/\Boxed V (w.heap.size+1) 3 (.int .i64 ((kj (ag sizes) (ag vars) K vars.length (d.map (·.1))).1:Nat))/\cC V (w.heap.size+1+1) (kj (ag sizes) (ag vars) K vars.length (d.map (·.1))).2/\Boxed V (w.heap.size+1+1+1) 22 (.slice (some ⟨w.heap.size+1+1,0,none⟩) vars.length vars.length)/\Boxed V (w.heap.size+1+1+1+1) 22 (.slice b vars.length cb)/\c8 w V)
  (fun _ _ _=>False)
  (eZ (fY (jh _ _ (fun _=>_)) _) (eZ (fY (jh _ _ (fun d:List (At vars)=>.int .i64 ((kj (ag sizes) (ag vars) K vars.length (d.map (·.1))).1:Nat))) _) (eZ (fY (Jc _ (fun d:List (At vars)=>(kj (ag sizes) (ag vars) K vars.length (d.map (·.1))).2)) _) (eZ (fY (jh _ _ (fun _=>_)) _) (eZ (fY (jh _ _ (fun _=>_)) _) (zV (ar _) al))))))
  (fun _ _ _ _ _ Z _ _=>Z)
  ⟨b0,b1,r2,b3,b4,ae⟩
  (fun x=> {tmps:= #[.slice a sizes.length ca,.slice b vars.length cb,.int .i64 (K:Nat),.pointer (some ⟨w.heap.size,0,none⟩),undef,.pointer (some ⟨w.heap.size+1,0,none⟩),.slice none 0 0,.pointer (some ⟨w.heap.size+1+1+1,0,none⟩),.int .i64 (x.1:Nat),.int .i64 (vars[x.1]'x.2),.slice b vars.length cb,.int .i64 (vars.length:Nat),.slice (some ⟨w.heap.size+1+1,0,none⟩) vars.length vars.length,.slice b vars.length cb,.func (.func 189) #[] #[.pointer (some ⟨w.heap.size+1+1+1+1,0,none⟩)],.int .i64 (x.1:Nat),.int .i64 (vars[x.1]'x.2),undef,undef,undef,undef,undef,undef,undef,undef,undef,undef,undef,undef,undef,undef,undef,undef],defers:=[]}) ?assign ?body ?done ?stop
 case assign=>
  intro l x V K q;gi_wp2
  exact q
 case body=>
  rintro l d ⟨i,Y⟩ V ⟨h0,M,I,J,h4,X⟩ aQ;obtain⟨iq,ia⟩:=gP.o.nat Y
  have ab:Hid (kj (ag sizes) (ag vars) K vars.length ((d++[(⟨i,Y⟩:At vars)]).map (·.1))=((kj (ag sizes) (ag vars) K vars.length (d.map (·.1))).1/sz (ag sizes) vars[i].toNat,(kj (ag sizes) (ag vars) K vars.length (d.map (·.1))).2.set i ((kj (ag sizes) (ag vars) K vars.length (d.map (·.1))).1 % sz (ag sizes) vars[i].toNat))):=by
   show _=_;rw[fg,gV,lx,Yf,Ff,C9 (show i<(ag vars).length by rw[cV];exact Y),qj Y]
  obtain⟨jV,ai⟩:=afQ (ag sizes) (ag vars) K vars.length (d.map (·.1));have hz:=iM S.o.pos vars[i].toNat;have vD:=S.o.sz_le vars[i].toNat;generalize hV:vars[i].toNat=v at *;rw[<- iq];obtain⟨g',o',rfl,iA,T⟩:=(HS.o.aa X) v ia;rw[<- S.o.sz_eq ia] at T
  have aN:g'<w.heap.size:=by
   obtain⟨g3,o3,e3,J,_⟩:=HS.o v ia;cases e3;exact J
  clear iq hV;generalize kj (ag sizes) (ag vars) K vars.length (d.map (·.1))=st at *;obtain⟨p,ad⟩:=st;simp only at M I jV ai ab;generalize sz (ag sizes) v=s at *;have bd:=I.cell i al;have aG:=I.fz i;have k0:=h0.cell;have k1:=M.cell;have k3:=J.cell;have f1:=M.frozen;have tA:(p:Int) % (s:Int)=((p % s:Nat):Int):=(sY _ _).symm;have mz:(p:Int)/(s:Int)=((p/s:Nat):Int):=(vp _ _).symm;have a1:p % s<=65536:=aR (II _ _) al;have bw:p/s<=65536:=aR (wF _ _) al;generalize p % s=mm at *;generalize p/s=dd at *;have bb:¬(s:Int)=0:=al
  have ax:¬w.heap.size+1+1=w.heap.size+1:=al
  have ay:¬w.heap.size+1=w.heap.size+1+1:=al
  have fj:i<ad.length:=al
  generalize ad[i]=z at *;have a6:IntKind.i64.wrap ((p:Int) % (s:Int))=(p:Int) % (s:Int):=by rw[tA,dE];omega
  have a7:IntKind.i64.wrap ((p:Int)/(s:Int))=(p:Int)/(s:Int):=by rw[mz,dE];omega
  have gR:=hid tA;have fP:=hid mz;clear tA mz an b0 b1 r2 b3 b4 ae xo qC rX gP S HV av q ai;gi_wp2_with fail
  refine wK (fun u=>u.cell? ⟨w.heap.size+1+1+1,0,none⟩=some (.slice (some ⟨w.heap.size+1+1,0,none⟩) vars.length vars.length)/\u.cell? ⟨w.heap.size+1,0,none⟩=some (.int .i64 (p:Nat))/\u.cell? ⟨w.heap.size,0,none⟩=some (.slice (some ⟨g',o',none⟩) sizes.length ca)/\u.cell? ⟨g',o'+v,none⟩=some (.int .i64 (s:Nat))) ao ao (fun ⟨_,_,h⟩=>h) ⟨k3,k1,k0,T⟩ ?_;intro R;refine cM 0 (.slice (some ⟨w.heap.size+1+1,0,none⟩) vars.length vars.length) ?_ ?_
  ·intro u O;obtain⟨A,E,f,g⟩:=O;simp only[gE];go_simp
  simp only[gE,aP];refine cM 1 (.int .i64 (i:Nat)) ?_ ?_
  ·intro u O;obtain⟨A,E,f,g⟩:=O;simp only[gE];go_simp
  simp only[gE,aP];refine cM 2 (.int .i64 (p:Nat)) ?_ ?_
  ·intro u O;obtain⟨A,E,f,g⟩:=O;simp only[gE];go_simp
  simp only[gE,aP];refine cM 3 (.slice (some ⟨g',o',none⟩) sizes.length ca) ?_ ?_
  ·intro u O;obtain⟨A,E,f,g⟩:=O;simp only[gE];go_simp
  simp only[gE,aP];refine cM 4 (.int .i64 (v:Nat)) ?_ ?_
  ·intro u O;obtain⟨A,E,f,g⟩:=O;simp only[gE];go_simp
  simp only[gE,aP];refine cM 5 (.pointer (some ⟨g',o'+v,none⟩)) ?_ ?_
  ·intro u O;obtain⟨A,E,f,g⟩:=O;simp only[gE];go_simp
  simp only[gE,aP];refine cM 6 (.int .i64 (s:Nat)) ?_ ?_
  ·intro u O;obtain⟨A,E,f,g⟩:=O;simp only[gE];go_simp
  simp only[gE,aP];refine cM 7 (.int .i64 ((p:Int) % (s:Int))) ?_ ?_
  ·intro u O;obtain⟨A,E,f,g⟩:=O;simp only[gE];go_simp;rw[aB (show ¬s=0 by omega),ZV (Tj _)]
  simp only[gE,aP];refine cM 8 (.pointer (some ⟨w.heap.size+1+1,i,none⟩)) ?_ ?_
  ·intro u O;obtain⟨A,E,f,g⟩:=O;simp only[gE];go_simp
  simp only[gE,aP];refine aI [9] (cA ?_ aH);intro L H;simp only[gE];go_simp;have F:∀(b j:Nat) (y:Value),¬w.heap.size+1+1=b ->(V.setCell ⟨w.heap.size+1+1,i,none⟩ y).drew.cell? ⟨b,j,none⟩=V.cell? ⟨b,j,none⟩:=fun b j y hb=>cD _ _ _ _ (fun e=>hb (by cases e;rfl));refine H.o _ _ ⟨(F _ _ _ al).trans k3,(F _ _ _ al).trans k1,(F _ _ _ al).trans k0,(F _ _ _ al).trans T⟩ (fun _=>dC ao ?_ _);clear H L R;have m0:=(F w.heap.size 0 (.int .i64 ((p:Int) % (s:Int))) al).trans k0;have m1:=(F (w.heap.size+1) 0 (.int .i64 ((p:Int) % (s:Int))) al).trans k1;have m2:=(F g' (o'+v) (.int .i64 ((p:Int) % (s:Int))) al).trans T;have aj:=I.set i mm;rw[<- gR.o] at aj;have q0:Boxed (V.setCell ⟨w.heap.size+1+1,i,none⟩ (.int .i64 ((p:Int) % (s:Int)))).drew w.heap.size 22 (.slice (some ⟨g',o',none⟩) sizes.length ca):=fA h0 _ i _ al;have q1:Boxed (V.setCell ⟨w.heap.size+1+1,i,none⟩ (.int .i64 ((p:Int) % (s:Int)))).drew (w.heap.size+1) 3 (.int .i64 (p:Nat)):=fA M _ i _ al;have q3:Boxed (V.setCell ⟨w.heap.size+1+1,i,none⟩ (.int .i64 ((p:Int) % (s:Int)))).drew (w.heap.size+1+1+1) 22 (.slice (some ⟨w.heap.size+1+1,0,none⟩) vars.length vars.length):=fA J _ i _ al;have q4:Boxed (V.setCell ⟨w.heap.size+1+1,i,none⟩ (.int .i64 ((p:Int) % (s:Int)))).drew (w.heap.size+1+1+1+1) 22 (.slice b vars.length cb):=fA h4 _ i _ al
  have q2:cC (V.setCell ⟨w.heap.size+1+1,i,none⟩ (.int .i64 ((p:Int) % (s:Int)))).drew (w.heap.size+1+1) (ad.set i mm):=aj;have qB:c8 w (V.setCell ⟨w.heap.size+1+1,i,none⟩ (.int .i64 ((p:Int) % (s:Int)))).drew:=(X.setCell (p:=⟨w.heap.size+1+1,i,none⟩) (by simp;omega) _).drew;have qK:Below w.heap.size V (V.setCell ⟨w.heap.size+1+1,i,none⟩ (.int .i64 ((p:Int) % (s:Int)))).drew:=((aw w.heap.size V).setCell (p:=⟨w.heap.size+1+1,i,none⟩) (by simp;omega) _).drew;have qO:KeepsOthers V (V.setCell ⟨w.heap.size+1+1,i,none⟩ (.int .i64 ((p:Int) % (s:Int)))).drew:=(jk V _ _).trans (yg _);have fU:=q1.frozen;have j4:pg (w.heap.size+1+1+1+1) V (V.setCell ⟨w.heap.size+1+1,i,none⟩ (.int .i64 ((p:Int) % (s:Int)))).drew:=q4.cell.trans h4.cell.symm;clear F;generalize (V.setCell ⟨w.heap.size+1+1,i,none⟩ (.int .i64 ((p:Int) % (s:Int)))).drew=U at *;gi_wp2_with fail
  refine wK (fun u=>u.cell? ⟨w.heap.size,0,none⟩=some (.slice (some ⟨g',o',none⟩) sizes.length ca)/\u.cell? ⟨g',o'+v,none⟩=some (.int .i64 (s:Nat))) ao ao (fun ⟨_,_,h⟩=>h) ⟨m0,m2⟩ ?_;intro R;refine cM 1 (.slice (some ⟨g',o',none⟩) sizes.length ca) ?_ ?_
  ·intro u O;obtain⟨f,g⟩:=O;simp only[gE];go_simp
  simp only[gE,aP];refine cM 2 (.int .i64 (v:Nat)) ?_ ?_
  ·intro u O;obtain⟨f,g⟩:=O;simp only[gE];go_simp
  simp only[gE,aP];refine cM 3 (.pointer (some ⟨g',o'+v,none⟩)) ?_ ?_
  ·intro u O;obtain⟨f,g⟩:=O;simp only[gE];go_simp
  simp only[gE,aP];refine cM 4 (.int .i64 (s:Nat)) ?_ ?_
  ·intro u O;obtain⟨f,g⟩:=O;simp only[gE];go_simp
  simp only[gE,aP];refine aI [0] (cA ?_ aH);intro L H;simp only[gE];go_simp;refine H.o _ _ R (fun _=>?_);clear H L;refine cM 5 (.int .i64 ((p:Int)/(s:Int))) ?_ ?_
  ·intro u O;obtain⟨f,g⟩:=O;simp only[gE];go_simp;omega
  simp only[gE,aP];refine aI [6] (cA ?_ aH);intro L H;simp only[gE];go_simp;refine H.o _ _ ⟨(fA q0 (w.heap.size+1) 0 _ al).cell,(cD _ _ _ _ (fun e=>(show ¬w.heap.size+1=g' by omega) (bU Addr.block e))).trans m2⟩ (fun _=>dC ao ?_ _);clear H L R;gi_wp2
  rw[fP.o];refine⟨(qO.trans ((jk U _ _).trans (yg _))).from _,⟨j4.t ((fA q4 (w.heap.size+1) 0 (.int .i64 (dd:Nat)) al).cell.trans q4.cell.symm),(qK.setCell (p:=⟨w.heap.size+1,0,none⟩) aE _).drew⟩,?_⟩;refine⟨fA q0 _ 0 _ al,?_,?_,fA q3 _ 0 _ al,fA q4 _ 0 _ al,(qB.setCell (p:=⟨w.heap.size+1,0,none⟩) aE _).drew⟩
  ·rw[ab.o];exact q1.set _
  ·rw[ab.o];exact q2.off _ 0 _ al
 case done=>
  rintro D ys V hD Ax ⟨h0,M,I,J,h4,X⟩ q;rw[Ax,rX.o] at I;have hc:=J.cell;gi_wp2
  refine⟨aE,.inl ⟨_,_,rfl,BQ q,?_⟩⟩;refine⟨_,BR rfl _ _ _,?_⟩;refine⟨some ⟨w.heap.size+1+1,0,none⟩,⟨vars.length,rfl⟩,?_,X.trans (uZ (w:=w) (ar _) V D _ _ al q rfl rfl)⟩;have ak:cC (V.putObj D (.deferred none)) (w.heap.size+1+1) (bX (ag sizes) (ag vars) K):=Jc (w.heap.size+1+1) (fun (_:Unit)=>bX (ag sizes) (ag vars) K) () V _ (some D) I (OV V D _) (fun r e=>by cases e;exact⟨_,q,rfl⟩);exact ak.ints
 case stop=>
  rintro D c d V _ _ h _;exact h.elim
end
section
attribute [local go_sem] Oper.semAt_some
def nB (S:List Nat) (n:Nat) (vs:List Nat):List Nat:=(List.range n).map (cQ S vs)
theorem rh (S:List Nat) (n:Nat) (vs:List Nat):(nB S n vs).length=n:=by simp[nB]
theorem ahQ (S:List Nat) (n:Nat):nB S n []=List.replicate n 0:=by
 apply qh<;>simp[nB,cQ]
theorem ahS (S:List Nat) (n u:Nat) (vs:List Nat):(nB S n vs).set u (cnt S vs)=nB S n (u::vs):=by
 apply qh
 ·simp[nB]
 ·intro i a b;simp only[nB,KW,om,r5,cQ];by_cases e:u=i
  ·rw[aA e,aA e.symm]
  ·rw[aB e,aB (fun h=>e h.symm)]
theorem ahR (S:List Nat) (n:Nat) (vs:List Nat) (h:v<n):(nB S n vs)[v]'(by rw[rh];exact h)=cQ S vs v:=by simp[nB]
def Eg (S vs:List Nat) (st:Nat×List Nat) (i:Nat):Nat×List Nat:=(st.1*sz S (vs.getD i 0),st.2.set (vs.getD i 0) st.1)
def ri (S vs:List Nat) (n:Nat) (pre:List Nat):Nat×List Nat:=pre.foldl (Eg S vs) (1,List.replicate n 0)
theorem aaQ (S vs:List Nat) (n:Nat) (e:List Nat) (i:Nat):ri S vs n (e++[i])=Eg S vs (ri S vs n e) i:=by simp[ri]
theorem aaR (S vs:List Nat) (n:Nat):∀m,m<=vs.length ->ri S vs n (o0 vs.length m)=(cnt S (vs.drop (vs.length - m)),nB S n (vs.drop (vs.length - m)))
 |0,_=>by simp[ri,o0,cnt,ahQ]
 |m+1,h=>by
  rw[R1,aaQ,aaR S vs n m al];have j:vs.length - 1 - m<vs.length:=al
  have e:vs.length - (m+1)=vs.length - 1 - m:=al
  have a:vs.length - m=(vs.length - 1 - m)+1:=al
  have d:vs.drop (vs.length - 1 - m)=vs[vs.length - 1 - m]::vs.drop ((vs.length - 1 - m)+1):=ou j;rw[e,a,d,Eg,C9 j];simp only[cnt,ahS];rw[dJ]
theorem ahT (d:∀v,sz S v<=4) (vs:List Nat) (n:Nat) (e:List Nat):(ri S vs n e).1<=4^e.length/\(ri S vs n e).2.length=n:=by
 have k:∀(l:List Nat) (s:Nat×List Nat),s.2.length=n ->(l.foldl (Eg S vs) s).1<=s.1*4^l.length/\(l.foldl (Eg S vs) s).2.length=n:=by
  intro l;induction l with
  |nil=>intro s a;exact⟨aE,a⟩
  |cons i l ih=>
   intro s a;obtain⟨b,c⟩:=ih (Eg S vs s i) (by simp[Eg,a]);refine⟨aR b ?_,c⟩;show s.1*sz S (vs.getD i 0)*4^l.length<=s.1*4^(l.length+1);rw[ji,dJ (4^l.length), <- iU];exact j6 _ (l6 _ (d _))
 have h:=k e (1,List.replicate n 0) aE;rwa [kO] at h
theorem ahU (S vs:List Nat) (n:Nat):ri S vs n (o0 vs.length vs.length)=(cnt S vs,nB S n vs):=by
 rw[aaR S vs n _ (ar _),rZ,Aa]
theorem aaS (a b:Option Addr) (ca cb:Nat) (sizes vars:List Int) (w:World) (H:az w a sizes) (hv:az w b vars) (M:eW sizes) (S:Up vars sizes.length):
  c6 187 #[.slice a sizes.length ca,.slice b vars.length cb] w fun e w'=>∃(c cc:Nat),e=.returned (.slice (some ⟨c,0,none⟩) sizes.length cc)/\w.heap.size<=c/\az w' (some ⟨c,0,none⟩) (iL (nB (ag sizes) sizes.length (ag vars)))/\c8 w w':=by
 refine(iG (n:=6)).1 ?_;have oO:=M.eight;have i6:=S.length;have aG:cnt (ag sizes) (ag vars)<=65536:=qL M.sz_le (by rw[cV];omega);have ay:=fun V=>OQ (P:=Tryz.prog) 22 3 (.int .i64 0) 8 Tryz.underlying22 Tryz.infoInt rfl .i64 .i64 sizes.length al al V;have HS:=hid H;have HV:=hid hv;have I:=hid M;have gP:=hid S;have rX:=hid (ahU (ag sizes) (ag vars) sizes.length);rw[cV] at rX;clear H hv M S;refine uY Tryz.func187 rfl trivial ?_ rfl;simp only[Tryz.ntmps187,od,eA,mg,Nat.reduceAdd,Nat.reduceSub,oz,ow,oh,ng,iI,fM];gi_wp2_with ((refine⟨trivial,?_⟩;gi_at_call 145;refine(RZ _ _ _ _ _).af ?_;rintro e w2 ⟨rfl,rfl⟩))
 obtain⟨f,g⟩:∃f,f=(((((w.alloc (.cells #[.slice a sizes.length ca] 22)).alloc (.cells #[.int .i64 1] 3)).alloc (.cells (madeCells #[.int .i64 0] sizes.length) 3)).alloc (.cells #[.slice (some ⟨w.heap.size+1+1,0,none⟩) sizes.length sizes.length] 22)).alloc (.cells #[.slice b vars.length cb] 22)):=⟨_,rfl⟩;have xo:f.heap.size=w.heap.size+1+1+1+1+1:=by rw[g];simp
 have b0:Boxed f w.heap.size 22 (.slice a sizes.length ca):=by rw[g];exact((((bh w _ _).alloc _).alloc _).alloc _).alloc _
 have b1:Boxed f (w.heap.size+1) 3 (.int .i64 1):=by
  have h:=((((bh (w.alloc (.cells #[.slice a sizes.length ca] 22)) 3 (.int .i64 1)).alloc (.cells (madeCells #[.int .i64 0] sizes.length) 3)).alloc (.cells #[.slice (some ⟨w.heap.size+1+1,0,none⟩) sizes.length sizes.length] 22)).alloc (.cells #[.slice b vars.length cb] 22));rw[cU] at h;rw[g];exact h
 have r2:cC f (w.heap.size+1+1) (List.replicate sizes.length 0):=by
  have h:=((Va ((w.alloc (.cells #[.slice a sizes.length ca] 22)).alloc (.cells #[.int .i64 1] 3)) sizes.length).alloc (.cells #[.slice (some ⟨w.heap.size+1+1,0,none⟩) sizes.length sizes.length] 22)).alloc (.cells #[.slice b vars.length cb] 22);rw[cU,cU] at h;rw[g];exact h
 have b3:Boxed f (w.heap.size+1+1+1) 22 (.slice (some ⟨w.heap.size+1+1,0,none⟩) sizes.length sizes.length):=by
  have h:=(bh (((w.alloc (.cells #[.slice a sizes.length ca] 22)).alloc (.cells #[.int .i64 1] 3)).alloc (.cells (madeCells #[.int .i64 0] sizes.length) 3)) 22 (.slice (some ⟨w.heap.size+1+1,0,none⟩) sizes.length sizes.length)).alloc (.cells #[.slice b vars.length cb] 22);rw[cU,cU,cU] at h;rw[g];exact h
 have T:Boxed f (w.heap.size+1+1+1+1) 22 (.slice b vars.length cb):=by
  have h:=bh ((((w.alloc (.cells #[.slice a sizes.length ca] 22)).alloc (.cells #[.int .i64 1] 3)).alloc (.cells (madeCells #[.int .i64 0] sizes.length) 3)).alloc (.cells #[.slice (some ⟨w.heap.size+1+1,0,none⟩) sizes.length sizes.length] 22)) 22 (.slice b vars.length cb);rw[cU,cU,cU,cU] at h;rw[g];exact h
 have ae:c8 w f:=by
  rw[g];exact(((((aw _ w).alloc (ar _) _).alloc aE _).alloc (by simp;omega) _).alloc (by simp;omega) _).alloc (by simp;omega) _
 rw[<- g];clear g
 refine KJ (α:=At vars) rfl al (gf:=189) (lb:= #[.pointer (some ⟨w.heap.size+1+1+1+1,0,none⟩)]) rfl trivial (enters_of Tryz.func189 ao rfl)
  (RY 5 al (w.heap.size+1+1+1+1) w.heap.size b cb vars al f al al T.cell (HV.o.toB.aa ae)) sK.t (sK.b al al) (aw _ _) (fun _=>rfl)
  (fun (d:List (At vars)) V=>Boxed V w.heap.size 22 (.slice a sizes.length ca)/\Boxed V (w.heap.size+1) 3 (.int .i64 ((ri (ag sizes) (ag vars) sizes.length (d.map (·.1))).1:Nat))/\cC V (w.heap.size+1+1) (ri (ag sizes) (ag vars) sizes.length (d.map (·.1))).2/\Boxed V (w.heap.size+1+1+1) 22 (.slice (some ⟨w.heap.size+1+1,0,none⟩) sizes.length sizes.length)/\Boxed V (w.heap.size+1+1+1+1) 22 (.slice b vars.length cb)/\c8 w V)
  (fun _ _ _=>False)
  (eZ (fY (jh _ _ (fun _=>_)) _) (eZ (fY (jh _ _ (fun d:List (At vars)=>.int .i64 ((ri (ag sizes) (ag vars) sizes.length (d.map (·.1))).1:Nat))) _) (eZ (fY (Jc _ (fun d:List (At vars)=>(ri (ag sizes) (ag vars) sizes.length (d.map (·.1))).2)) _) (eZ (fY (jh _ _ (fun _=>_)) _) (eZ (fY (jh _ _ (fun _=>_)) _) (zV (ar _) al))))))
  (fun _ _ _ _ _ H _ _=>H)
  ⟨b0,b1,r2,b3,T,ae⟩
  (fun x=> {tmps:= #[.slice a sizes.length ca,.slice b vars.length cb,.pointer (some ⟨w.heap.size,0,none⟩),undef,.slice none 0 0,.pointer (some ⟨w.heap.size+1,0,none⟩),.pointer (some ⟨w.heap.size+1+1+1,0,none⟩),undef,.int .i64 (vars[x.1]'x.2),.slice a sizes.length ca,.int .i64 (sizes.length:Nat),.slice (some ⟨w.heap.size+1+1,0,none⟩) sizes.length sizes.length,.slice b vars.length cb,.func (.func 189) #[] #[.pointer (some ⟨w.heap.size+1+1+1+1,0,none⟩)],.int .i64 (x.1:Nat),.int .i64 (vars[x.1]'x.2),undef,undef,undef,undef,undef,undef,undef,undef,undef,undef,undef],defers:=[]}) ?assign ?body ?done ?stop
 case assign=>
  intro l x V K q;gi_wp2
  exact q
 case body=>
  rintro l d ⟨i,F⟩ V ⟨Y,A,k,m,Z,E⟩ a1;obtain⟨iq,ia⟩:=gP.o.nat F
  have ab:Hid (ri (ag sizes) (ag vars) sizes.length ((d++[(⟨i,F⟩:At vars)]).map (·.1))=((ri (ag sizes) (ag vars) sizes.length (d.map (·.1))).1*sz (ag sizes) vars[i].toNat,(ri (ag sizes) (ag vars) sizes.length (d.map (·.1))).2.set vars[i].toNat (ri (ag sizes) (ag vars) sizes.length (d.map (·.1))).1)):=by
   show _=_;rw[fg,gV,lx,aaQ,Eg,C9 (show i<(ag vars).length by rw[cV];exact F),qj F]
  obtain⟨jV,an⟩:=ahT I.o.sz_le (ag vars) sizes.length (d.map (·.1));have ak:(4:Nat)^(d.map (·.1)).length<=16384:=aR (kN al (show (d.map (·.1)).length<=7 by rw[dD];omega)) a6;have ai:=aR jV ak;have hz:=iM I.o.pos vars[i].toNat;have vD:=I.o.sz_le vars[i].toNat;clear jV ak;generalize hV:vars[i].toNat=v at *;rw[<- iq];obtain⟨g',o',rfl,iA,c1⟩:=(HS.o.aa E) v ia;rw[<- I.o.sz_eq ia] at c1
  have aQ:g'<w.heap.size:=by
   obtain⟨g3,o3,e3,m,_⟩:=HS.o v ia;cases e3;exact m
  clear iq hV;generalize ri (ag sizes) (ag vars) sizes.length (d.map (·.1))=st at *;obtain⟨p,ad⟩:=st;simp only at A k ai an ab;generalize sz (ag sizes) v=s at *;have bb:=k.cell v al;have aN:=k.fz v;have k0:=Y.cell;have k1:=A.cell;have k3:=m.cell;have dG:p*s<=65536:=aR (iH ai vD) a6;have X:(p:Int)*(s:Int)=((p*s:Nat):Int):=(jl _ _).symm;have fj:v<ad.length:=al
  generalize ad[v]=z at *;have a7:IntKind.i64.wrap ((p:Int)*(s:Int))=(p:Int)*(s:Int):=by rw[X,dE];omega
  have av:=hid X;clear X ay b0 b1 r2 b3 T ae xo rX gP I HV aG an;gi_wp2_with fail
  have aj:∀(b j:Nat),¬w.heap.size+1+1=b ->(V.setCell ⟨w.heap.size+1+1,v,none⟩ (.int .i64 (p:Int))).cell? ⟨b,j,none⟩=V.cell? ⟨b,j,none⟩:=fun b j hb=>cD _ _ _ _ (fun e=>hb (by cases e;rfl));have m2:=(aj g' (o'+v) al).trans c1;have q0:Boxed (V.setCell ⟨w.heap.size+1+1,v,none⟩ (.int .i64 (p:Int))) w.heap.size 22 (.slice (some ⟨g',o',none⟩) sizes.length ca):=fA Y _ v _ al;have q1:Boxed (V.setCell ⟨w.heap.size+1+1,v,none⟩ (.int .i64 (p:Int))) (w.heap.size+1) 3 (.int .i64 (p:Nat)):=fA A _ v _ al;have q3:Boxed (V.setCell ⟨w.heap.size+1+1,v,none⟩ (.int .i64 (p:Int))) (w.heap.size+1+1+1) 22 (.slice (some ⟨w.heap.size+1+1,0,none⟩) sizes.length sizes.length):=fA m _ v _ al;have J:Boxed (V.setCell ⟨w.heap.size+1+1,v,none⟩ (.int .i64 (p:Int))) (w.heap.size+1+1+1+1) 22 (.slice b vars.length cb):=fA Z _ v _ al;have q2:cC (V.setCell ⟨w.heap.size+1+1,v,none⟩ (.int .i64 (p:Int))) (w.heap.size+1+1) (ad.set v p):=k.set v p;have qB:c8 w (V.setCell ⟨w.heap.size+1+1,v,none⟩ (.int .i64 (p:Int))):=E.setCell (p:=⟨w.heap.size+1+1,v,none⟩) (by simp;omega) _;have qK:Below w.heap.size V (V.setCell ⟨w.heap.size+1+1,v,none⟩ (.int .i64 (p:Int))):=(aw w.heap.size V).setCell (p:=⟨w.heap.size+1+1,v,none⟩) (by simp;omega) _;have qO:KeepsOthers V (V.setCell ⟨w.heap.size+1+1,v,none⟩ (.int .i64 (p:Int))):=jk V _ _;have j4:pg (w.heap.size+1+1+1+1) V (V.setCell ⟨w.heap.size+1+1,v,none⟩ (.int .i64 (p:Int))):=J.cell.trans Z.cell.symm;have m0:=q0.cell
  have m1:=q1.cell;have fU:=q1.frozen;clear aj;generalize (V.setCell ⟨w.heap.size+1+1,v,none⟩ (.int .i64 (p:Int)))=U at *;refine wK (fun u=>u.cell? ⟨w.heap.size,0,none⟩=some (.slice (some ⟨g',o',none⟩) sizes.length ca)/\u.cell? ⟨g',o'+v,none⟩=some (.int .i64 (s:Nat))) ao ao (fun ⟨_,_,h⟩=>h) ⟨m0,m2⟩ ?_;intro aq;refine cM 1 (.slice (some ⟨g',o',none⟩) sizes.length ca) ?_ ?_
  ·intro u O;obtain⟨L,Q⟩:=O;simp only[gE];go_simp
  simp only[gE,aP];refine cM 2 (.int .i64 (v:Nat)) ?_ ?_
  ·intro u O;obtain⟨L,Q⟩:=O;simp only[gE];go_simp
  simp only[gE,aP];refine cM 3 (.pointer (some ⟨g',o'+v,none⟩)) ?_ ?_
  ·intro u O;obtain⟨L,Q⟩:=O;simp only[gE];go_simp
  simp only[gE,aP];refine cM 4 (.int .i64 (s:Nat)) ?_ ?_
  ·intro u O;obtain⟨L,Q⟩:=O;simp only[gE];go_simp
  simp only[gE,aP];refine aI [0] (cA ?_ aH);intro R y;simp only[gE];go_simp;refine y.o _ _ aq (fun _=>?_);clear y R;refine cM 5 (.int .i64 ((p:Int)*(s:Int))) ?_ ?_
  ·intro u O;obtain⟨L,Q⟩:=O;simp only[gE];go_simp
  simp only[gE,aP];refine aI [6] (cA ?_ aH);intro R y;simp only[gE];go_simp;refine y.o _ _ ⟨(fA q0 (w.heap.size+1) 0 _ al).cell,(cD _ _ _ _ (fun e=>(show ¬w.heap.size+1=g' by omega) (bU Addr.block e))).trans m2⟩ (fun _=>dC ao ?_ _);clear y R aq;gi_wp2
  rw[av.o];refine⟨(qO.trans ((jk U _ _).trans (yg _))).from _,⟨j4.t ((fA J (w.heap.size+1) 0 (.int .i64 ((p*s:Nat):Int)) al).cell.trans J.cell.symm),(qK.setCell (p:=⟨w.heap.size+1,0,none⟩) aE _).drew⟩,?_⟩;refine⟨fA q0 _ 0 _ al,?_,?_,fA q3 _ 0 _ al,fA J _ 0 _ al,(qB.setCell (p:=⟨w.heap.size+1,0,none⟩) aE _).drew⟩
  ·rw[ab.o];exact q1.set _
  ·rw[ab.o];exact q2.off _ 0 _ al
 case done=>
  rintro D ys V hD Ax ⟨Y,A,k,m,Z,E⟩ q;rw[Ax,rX.o] at k;have hc:=m.cell;gi_wp2
  refine⟨aE,.inl ⟨_,_,rfl,BQ q,?_⟩⟩;refine⟨_,BR rfl _ _ _,?_⟩;refine⟨w.heap.size+1+1,⟨sizes.length,rfl⟩,al,?_,E.trans (uZ (w:=w) (ar _) V D _ _ al q rfl rfl)⟩;have ax:cC (V.putObj D (.deferred none)) (w.heap.size+1+1) (nB (ag sizes) sizes.length (ag vars)):=Jc (w.heap.size+1+1) (fun (_:Unit)=>nB (ag sizes) sizes.length (ag vars)) () V _ (some D) k (OV V D _) (fun r e=>by cases e;exact⟨_,q,rfl⟩);exact ax.ints
 case stop=>
  rintro D c d V _ _ h _;exact h.elim
end
section
attribute [local go_sem] Oper.semAt_some
variable {vs:List Nat} {K:Nat}
def Ge (S vs ts:List Nat) (st:Nat×Nat) (i:Nat):Nat×Nat:=(st.1/sz S (vs.getD i 0),st.2+st.1 % sz S (vs.getD i 0)*ts.getD (vs.getD i 0) 0)
def rj (S vs ts:List Nat) (K:Nat) (pre:List Nat):Nat×Nat:=pre.foldl (Ge S vs ts) (K,0)
theorem aaT (S vs s:List Nat) (K:Nat) (e:List Nat) (i:Nat):rj S vs s K (e++[i])=Ge S vs s (rj S vs s K e) i:=by simp[rj]
theorem ahV (p:Pos S) (c:∀v,sz S v<=4) (vs t:List Nat) (d:∀v,t.getD v 0<=65536) (K:Nat) (e:List Nat):(rj S vs t K e).1<=K/\(rj S vs t K e).2<=262144*e.length:=by
 have k:∀(l:List Nat) (s:Nat×Nat),(l.foldl (Ge S vs t) s).1<=s.1/\(l.foldl (Ge S vs t) s).2<=s.2+262144*l.length:=by
  intro l;induction l with
  |nil=>intro s;exact⟨ar _,aE⟩
  |cons i l ih=>
   intro s;obtain⟨a,b⟩:=ih (Ge S vs t s i);refine⟨aR a (wF _ _),aR b ?_⟩;have f:=iw s.1 (show 0<sz S (vs.getD i 0) from iM p _);have g:s.1 % sz S (vs.getD i 0)*t.getD (vs.getD i 0) 0<=4*65536:=iH (by have:=c (vs.getD i 0);omega) (d _);show s.2+s.1 % sz S (vs.getD i 0)*t.getD (vs.getD i 0) 0+_<=_;rw[eA];omega
 have h:=k e (K,0);rwa [bM] at h
theorem aaU (n:vs.Nodup) (s:List Nat) (K:Nat):∀m,m<=vs.length ->rj S vs s K (o0 vs.length m)=(K/cnt S (vs.drop (vs.length - m)),gh (fun v=>aT S (vs.drop (vs.length - m)) (K % cnt S (vs.drop (vs.length - m))) v*s.getD v 0) (vs.drop (vs.length - m)))
 |0,_=>by simp[rj,o0,cnt,gh]
 |m+1,h=>by
  rw[R1,aaT,aaU n s K m al];have a:vs.length - 1 - m<vs.length:=al
  have b:vs.length - (m+1)=vs.length - 1 - m:=al
  have c:vs.length - m=(vs.length - 1 - m)+1:=al
  have d:vs.drop (vs.length - 1 - m)=vs[vs.length - 1 - m]::vs.drop ((vs.length - 1 - m)+1):=ou a;have j:(vs.drop (vs.length - 1 - m)).Nodup:=n.sublist (List.drop_sublist _ _);rw[d,q7] at j;rw[b,c,d,Ge,C9 a];generalize vs.drop ((vs.length - 1 - m)+1)=rest at j⊢;generalize vs[vs.length - 1 - m]=u at j⊢;simp only[ap7];rw[cnt,S8,dJ (cnt S rest),gh,aA rfl,DX];congr 2
  refine I5 fun v f=>?_;rw[aB (fun e=>j.1 (by rw[<- e];exact f))]
theorem ahW (n:vs.Nodup) (s:List Nat) (h:K<cnt S vs):rj S vs s K (o0 vs.length vs.length)=(0,gh (fun v=>aT S vs K v*s.getD v 0) vs):=by
 rw[aaU n s K _ (ar _),rZ,Aa,jM h,zZ h]
theorem ahY (Y F I:Nat) (a b t:Option Addr) (ca cb ct:Nat) (sizes vars:List Int) (s:List Nat) (K:Nat) (w:World) (AX:Y<w.heap.size) (yX:F<w.heap.size) (vQ:I<w.heap.size) (xv:w.cell? ⟨Y,0,none⟩=some (.slice b vars.length cb)) (xs:w.cell? ⟨F,0,none⟩=some (.slice a sizes.length ca)) (xt:w.cell? ⟨I,0,none⟩=some (.slice t sizes.length ct))
  (hs:az w a sizes) (hv:az w b vars) (ht:az w t (iL s)) (rC:s.length=sizes.length) (Z:∀v,s.getD v 0<=65536) (aM:eW sizes) (a8:Up vars sizes.length) (P:K<cnt (ag sizes) (ag vars)) (jE:(ag vars).Nodup):
  c6 225 #[.int .i64 (K:Nat),.pointer (some ⟨Y,0,none⟩),.pointer (some ⟨F,0,none⟩),.pointer (some ⟨I,0,none⟩)] w (da w (.int .i64 (gh (fun v=>aT (ag sizes) (ag vars) K v*s.getD v 0) (ag vars):Nat))):=by
 refine(iG (n:=6)).1 ?_;have oO:=aM.eight;have i6:=a8.length;have an:cnt (ag sizes) (ag vars)<=65536:=qL aM.sz_le (by rw[cV];omega);have HS:=hid hs;have HV:=hid hv;have HT:=hid ht;have R:=hid aM;have gP:=hid a8;have dV:=hid Z;have rX:=hid (ahW jE s P);rw[cV] at rX;clear hs hv aM a8 ht Z;refine uY Tryz.func225 rfl trivial ?_ rfl;simp only[Tryz.ntmps225,od,eA,mg,Nat.reduceAdd,Nat.reduceSub,oz,ow,oh,ng,iI,fM];gi_wp2_with ((refine⟨trivial,?_⟩;gi_at_call 145;refine(RZ _ _ _ _ _).af ?_;rintro e w2 ⟨rfl,rfl⟩))
 obtain⟨H,Q⟩:∃H,H=(((w.alloc (.cells #[.int .i64 (K:Nat)] 3)).alloc (.cells #[.int .i64 0] 3)).alloc (.cells #[.slice b vars.length cb] 22)):=⟨_,rfl⟩;have xo:H.heap.size=w.heap.size+1+1+1:=by rw[Q];simp
 have b0:Boxed H w.heap.size 3 (.int .i64 (K:Nat)):=by rw[Q];exact((bh w _ _).alloc _).alloc _
 have b1:Boxed H (w.heap.size+1) 3 (.int .i64 0):=by
  have h:=(bh (w.alloc (.cells #[.int .i64 (K:Nat)] 3)) 3 (.int .i64 0)).alloc (.cells #[.slice b vars.length cb] 22);rw[cU] at h;rw[Q];exact h
 have b4:Boxed H (w.heap.size+1+1) 22 (.slice b vars.length cb):=by
  have h:=bh ((w.alloc (.cells #[.int .i64 (K:Nat)] 3)).alloc (.cells #[.int .i64 0] 3)) 22 (.slice b vars.length cb);rw[cU,cU] at h;rw[Q];exact h
 have ae:c8 w H:=by
  rw[Q];exact(((aw _ w).alloc (ar _) _).alloc aE _).alloc (by simp;omega) _
 rw[<- Q];clear Q
 refine KJ (α:=At vars) rfl al (gf:=189) (lb:= #[.pointer (some ⟨w.heap.size+1+1,0,none⟩)]) rfl trivial (enters_of Tryz.func189 ao rfl)
  (RY 5 al (w.heap.size+1+1) w.heap.size b cb vars al H al al b4.cell (HV.o.toB.aa ae)) sK.t (sK.b al al) (aw _ _) (fun _=>rfl)
  (fun (q:List (At vars)) V=>Boxed V w.heap.size 3 (.int .i64 ((rj (ag sizes) (ag vars) s K (q.map (·.1))).1:Nat))/\Boxed V (w.heap.size+1) 3 (.int .i64 ((rj (ag sizes) (ag vars) s K (q.map (·.1))).2:Nat))/\Boxed V (w.heap.size+1+1) 22 (.slice b vars.length cb)/\c8 w V)
  (fun _ _ _=>False)
  (eZ (fY (jh _ _ (fun q:List (At vars)=>.int .i64 ((rj (ag sizes) (ag vars) s K (q.map (·.1))).1:Nat))) _) (eZ (fY (jh _ _ (fun q:List (At vars)=>.int .i64 ((rj (ag sizes) (ag vars) s K (q.map (·.1))).2:Nat))) _) (eZ (fY (jh _ _ (fun _=>_)) _) (zV (ar _) al))))
  (fun _ _ _ _ _ hs _ _=>hs)
  ⟨b0,b1,b4,ae⟩
  (fun x=> {tmps:= #[.int .i64 (K:Nat),.pointer (some ⟨Y,0,none⟩),.pointer (some ⟨F,0,none⟩),.pointer (some ⟨I,0,none⟩),.pointer (some ⟨w.heap.size,0,none⟩),.int .i64 0,.pointer (some ⟨w.heap.size+1,0,none⟩),undef,.int .i64 (vars[x.1]'x.2),.slice b vars.length cb,.func (.func 189) #[] #[.pointer (some ⟨w.heap.size+1+1,0,none⟩)],.int .i64 (x.1:Nat),.int .i64 (vars[x.1]'x.2),undef,undef,undef,undef,undef,undef,undef,undef,undef,undef,undef,undef,undef,undef,undef,undef,undef,undef,undef,undef],defers:=[]}) ?assign ?body ?done ?stop
 case assign=>
  intro l x V K P;gi_wp2
  exact P
 case body=>
  rintro l q ⟨i,hi⟩ V ⟨h0,L,h4,M⟩ aG;obtain⟨iq,ia⟩:=gP.o.nat hi
  have ad:Hid (rj (ag sizes) (ag vars) s K ((q++[(⟨i,hi⟩:At vars)]).map (·.1))=((rj (ag sizes) (ag vars) s K (q.map (·.1))).1/sz (ag sizes) vars[i].toNat,(rj (ag sizes) (ag vars) s K (q.map (·.1))).2+(rj (ag sizes) (ag vars) s K (q.map (·.1))).1 % sz (ag sizes) vars[i].toNat*s.getD vars[i].toNat 0)):=by
   show _=_;rw[fg,gV,lx,aaT,Ge,C9 (show i<(ag vars).length by rw[cV];exact hi),qj hi]
  obtain⟨jV,ai⟩:=ahV R.o.pos R.o.sz_le (ag vars) s dV.o K (q.map (·.1));rw[dD] at ai;have hz:=iM R.o.pos vars[i].toNat;have vD:=R.o.sz_le vars[i].toNat;have Z:=dV.o vars[i].toNat;generalize hV:vars[i].toNat=v at *;rw[<- iq];obtain⟨g',o',rfl,iA,c1⟩:=(HS.o.aa M) v ia;rw[<- R.o.sz_eq ia] at c1
  have ay:g'<w.heap.size:=by
   obtain⟨g3,o3,e3,h3,_⟩:=HS.o v ia;cases e3;exact h3
  have Gx:v<(iL s).length:=by rw[ba];omega
  obtain⟨gt,X,rfl,ax,c2⟩:=(HT.o.aa M) v Gx
  have av:gt<w.heap.size:=by
   obtain⟨g3,o3,e3,h3,_⟩:=HT.o v Gx;cases e3;exact h3
  have aj:(iL s)[v]=((s.getD v 0:Nat):Int):=by rw[C9 al];simp[iL]
  rw[aj] at c2;clear aj iq hV;generalize rj (ag sizes) (ag vars) s K (q.map (·.1))=st at *;obtain⟨p,r⟩:=st;simp only at h0 L jV ai ad;generalize sz (ag sizes) v=f at *;generalize s.getD v 0=d at *;have k0:=h0.cell;have k1:=L.cell;have ks:=(M.cell (p:=⟨F,0,none⟩) yX).trans xs;have kt:=(M.cell (p:=⟨I,0,none⟩) vQ).trans xt;have f1:=L.frozen;have tA:(p:Int) % (f:Int)=((p % f:Nat):Int):=(sY _ _).symm;have mz:(p:Int)/(f:Int)=((p/f:Nat):Int):=(vp _ _).symm;have ak:p % f<=3:=by have:=iw p (show 0<f by omega);omega
  have bw:p/f<=65536:=aR (wF _ _) al;generalize p % f=m at *;generalize p/f=dd at *;have V1:m*d<=196608:=aR (iH ak Z) a6;have ab:(m:Int)*(d:Int)=((m*d:Nat):Int):=(jl _ _).symm;have aN:IntKind.i64.wrap ((p:Int)/(f:Int))=(p:Int)/(f:Int):=by rw[mz,dE];omega
  have aQ:IntKind.i64.wrap ((m:Int)*(d:Int))=(m:Int)*(d:Int):=by rw[ab,dE];omega
  have a1:IntKind.i64.wrap ((r:Int)+(m:Int)*(d:Int))=(r:Int)+(m:Int)*(d:Int):=by rw[ab,dE];omega
  have gR:=hid tA;have fP:=hid mz;have jw:Hid ((r:Int)+(m:Int)*(d:Int)=((r+m*d:Nat):Int)):=by show _=_;rw[ab];exact(sZ _ _).symm
  clear tA mz ab b0 b1 b4 ae xo rX gP R HV dV an P;gi_wp2_with fail
  refine wK (fun u=>u.cell? ⟨w.heap.size,0,none⟩=some (.int .i64 (p:Nat))/\u.cell? ⟨F,0,none⟩=some (.slice (some ⟨g',o',none⟩) sizes.length ca)/\u.cell? ⟨g',o'+v,none⟩=some (.int .i64 (f:Nat))/\u.cell? ⟨I,0,none⟩=some (.slice (some ⟨gt,X,none⟩) sizes.length ct)/\u.cell? ⟨gt,X+v,none⟩=some (.int .i64 (d:Nat))) ao ao (fun ⟨_,_,h⟩=>h) ⟨k0,ks,c1,kt,c2⟩ ?_;intro T;refine cM 1 (.int .i64 (p:Nat)) ?_ ?_
  ·intro u O;obtain⟨y,z,g,k,A⟩:=O;simp only[gE];go_simp
  simp only[gE,aP];refine cM 2 (.slice (some ⟨g',o',none⟩) sizes.length ca) ?_ ?_
  ·intro u O;obtain⟨y,z,g,k,A⟩:=O;simp only[gE];go_simp
  simp only[gE,aP];refine cM 3 (.int .i64 (v:Nat)) ?_ ?_
  ·intro u O;obtain⟨y,z,g,k,A⟩:=O;simp only[gE];go_simp
  simp only[gE,aP];refine cM 4 (.pointer (some ⟨g',o'+v,none⟩)) ?_ ?_
  ·intro u O;obtain⟨y,z,g,k,A⟩:=O;simp only[gE];go_simp
  simp only[gE,aP];refine cM 5 (.int .i64 (f:Nat)) ?_ ?_
  ·intro u O;obtain⟨y,z,g,k,A⟩:=O;simp only[gE];go_simp
  simp only[gE,aP];refine cM 6 (.int .i64 (m:Nat)) ?_ ?_
  ·intro u O;obtain⟨y,z,g,k,A⟩:=O;simp only[gE];go_simp;rw[aB (show ¬f=0 by omega),ZV (Tj _),gR.o]
  simp only[gE,aP];refine cM 7 (.slice (some ⟨gt,X,none⟩) sizes.length ct) ?_ ?_
  ·intro u O;obtain⟨y,z,g,k,A⟩:=O;simp only[gE];go_simp
  simp only[gE,aP];refine cM 8 (.int .i64 (v:Nat)) ?_ ?_
  ·intro u O;obtain⟨y,z,g,k,A⟩:=O;simp only[gE];go_simp
  simp only[gE,aP];refine cM 9 (.pointer (some ⟨gt,X+v,none⟩)) ?_ ?_
  ·intro u O;obtain⟨y,z,g,k,A⟩:=O;simp only[gE];go_simp
  simp only[gE,aP];refine cM 10 (.int .i64 (d:Nat)) ?_ ?_
  ·intro u O;obtain⟨y,z,g,k,A⟩:=O;simp only[gE];go_simp
  simp only[gE,aP];refine cM 11 (.int .i64 ((m:Int)*(d:Int))) ?_ ?_
  ·intro u O;obtain⟨y,z,g,k,A⟩:=O;simp only[gE];go_simp
  simp only[gE,aP];refine aI [0] (cA ?_ aH);intro J E;simp only[gE];go_simp;refine E.o _ _ T (fun _=>?_);clear E J;refine cM 12 (.int .i64 ((r:Int)+(m:Int)*(d:Int))) ?_ ?_
  ·intro u O;obtain⟨y,z,g,k,A⟩:=O;simp only[gE];go_simp
  simp only[gE,aP];refine aI [13] (cA ?_ aH);intro J E;simp only[gE];go_simp;have S:∀(b j:Nat),¬w.heap.size+1=b ->(V.setCell ⟨w.heap.size+1,0,none⟩ (.int .i64 ((r:Int)+(m:Int)*(d:Int)))).drew.cell? ⟨b,j,none⟩=V.cell? ⟨b,j,none⟩:=fun b j hb=>cD _ _ _ _ (fun e=>hb (by cases e;rfl));have m0:=(S w.heap.size 0 al).trans k0;have ms:=(S F 0 al).trans ks;have mc:=(S g' (o'+v) al).trans c1;refine E.o _ _ ⟨m0,ms,mc,(S I 0 al).trans kt,(S gt (X+v) al).trans c2⟩ (fun _=>dC ao ?_ _);clear E J T S;have q0:Boxed (V.setCell ⟨w.heap.size+1,0,none⟩ (.int .i64 ((r:Int)+(m:Int)*(d:Int)))).drew w.heap.size 3 (.int .i64 (p:Nat)):=fA h0 _ 0 _ al;have q1:Boxed (V.setCell ⟨w.heap.size+1,0,none⟩ (.int .i64 ((r:Int)+(m:Int)*(d:Int)))).drew (w.heap.size+1) 3 (.int .i64 ((r:Int)+(m:Int)*(d:Int))):=L.set _;have q4:Boxed (V.setCell ⟨w.heap.size+1,0,none⟩ (.int .i64 ((r:Int)+(m:Int)*(d:Int)))).drew (w.heap.size+1+1) 22 (.slice b vars.length cb):=fA h4 _ 0 _ al;have qB:c8 w (V.setCell ⟨w.heap.size+1,0,none⟩ (.int .i64 ((r:Int)+(m:Int)*(d:Int)))).drew:=(M.setCell (p:=⟨w.heap.size+1,0,none⟩) aE _).drew;have qK:Below w.heap.size V (V.setCell ⟨w.heap.size+1,0,none⟩ (.int .i64 ((r:Int)+(m:Int)*(d:Int)))).drew:=((aw w.heap.size V).setCell (p:=⟨w.heap.size+1,0,none⟩) aE _).drew
  have qO:KeepsOthers V (V.setCell ⟨w.heap.size+1,0,none⟩ (.int .i64 ((r:Int)+(m:Int)*(d:Int)))).drew:=(jk V _ _).trans (yg _);have j4:pg (w.heap.size+1+1) V (V.setCell ⟨w.heap.size+1,0,none⟩ (.int .i64 ((r:Int)+(m:Int)*(d:Int)))).drew:=q4.cell.trans h4.cell.symm;have fU:=q0.frozen;generalize (V.setCell ⟨w.heap.size+1,0,none⟩ (.int .i64 ((r:Int)+(m:Int)*(d:Int)))).drew=U at *;gi_wp2_with fail
  refine wK (fun u=>u.cell? ⟨F,0,none⟩=some (.slice (some ⟨g',o',none⟩) sizes.length ca)/\u.cell? ⟨g',o'+v,none⟩=some (.int .i64 (f:Nat))) ao ao (fun ⟨_,_,h⟩=>h) ⟨ms,mc⟩ ?_;intro T;refine cM 1 (.slice (some ⟨g',o',none⟩) sizes.length ca) ?_ ?_
  ·intro u O;obtain⟨g,k⟩:=O;simp only[gE];go_simp
  simp only[gE,aP];refine cM 2 (.int .i64 (v:Nat)) ?_ ?_
  ·intro u O;obtain⟨g,k⟩:=O;simp only[gE];go_simp
  simp only[gE,aP];refine cM 3 (.pointer (some ⟨g',o'+v,none⟩)) ?_ ?_
  ·intro u O;obtain⟨g,k⟩:=O;simp only[gE];go_simp
  simp only[gE,aP];refine cM 4 (.int .i64 (f:Nat)) ?_ ?_
  ·intro u O;obtain⟨g,k⟩:=O;simp only[gE];go_simp
  simp only[gE,aP];refine aI [0] (cA ?_ aH);intro J E;simp only[gE];go_simp;refine E.o _ _ T (fun _=>?_);clear E J;refine cM 5 (.int .i64 ((p:Int)/(f:Int))) ?_ ?_
  ·intro u O;obtain⟨g,k⟩:=O;simp only[gE];go_simp;omega
  simp only[gE,aP];refine aI [6] (cA ?_ aH);intro J E;simp only[gE];go_simp;refine E.o _ _ ⟨(cD _ _ _ _ (fun e=>(show ¬w.heap.size=F by omega) (bU Addr.block e))).trans ms,(cD _ _ _ _ (fun e=>(show ¬w.heap.size=g' by omega) (bU Addr.block e))).trans mc⟩ (fun _=>dC ao ?_ _);clear E J T;gi_wp2
  rw[fP.o];rw[jw.o] at q1;refine⟨(qO.trans ((jk U _ _).trans (yg _))).from _,⟨j4.t ((fA q4 w.heap.size 0 (.int .i64 (dd:Nat)) al).cell.trans q4.cell.symm),(qK.setCell (p:=⟨w.heap.size,0,none⟩) aE _).drew⟩,?_⟩;refine⟨?_,?_,fA q4 _ 0 _ al,(qB.setCell (p:=⟨w.heap.size,0,none⟩) aE _).drew⟩
  ·rw[ad.o];exact q0.set _
  ·rw[ad.o];exact fA q1 _ 0 _ al
 case done=>
  rintro D ys V hD Ax ⟨h0,L,h4,M⟩ P;rw[Ax,rX.o] at L;have hc:=L.cell;gi_wp2
  refine⟨aE,.inl ⟨_,_,rfl,BQ P,?_⟩⟩;refine⟨_,BR rfl _ _ _,?_⟩;exact⟨rfl,M.trans (uZ (w:=w) (ar _) V D _ _ al P rfl rfl)⟩
 case stop=>
  rintro D c q V _ _ h _;exact h.elim
end
variable {other:List Int} {K ca cb:Nat}
theorem TR (s:∀v,sz S v<=4):∀(vs:List Nat) (v:Nat),vs.length<=8 ->cQ S vs v<=65536
 |[],_,_=>by simp[cQ]
 |u::vs,v,h=>by
  rw[cQ];have a:vs.length<=8:=by simp at h;omega
  by_cases e:v=u
  ·rw[aA e];exact qL s a
  ·rw[aB e];exact TR s vs v a
theorem aaP (S:List Nat) (n:Nat) (vs:List Nat) (v:Nat):(nB S n vs).getD v 0=if v<n then cQ S vs v else 0:=by
 by_cases h:v<n
 ·rw[aA h,C9 (by rw[rh];exact h),ahR S n vs h]
 ·rw[aB h,List.getD_eq_getElem?_getD,iV (by rw[rh];omega)];rfl
def o7 (W:World) (n m:Nat) (f:Value) (a b:Option Addr) (ca cb:Nat) (sizes vars other:List Int):Prop:=
 ∃(Bv Bs Bt g ct:Nat),f=.func (.func 225) #[] #[.pointer (some ⟨Bv,0,none⟩),.pointer (some ⟨Bs,0,none⟩),.pointer (some ⟨Bt,0,none⟩)]/\(n<=Bv/\n<=Bs/\n<=Bt/\n<=g)/\(Bv<m/\Bs<m/\Bt<m/\g<m)/\m<=W.heap.size/\
  W.cell? ⟨Bv,0,none⟩=some (.slice b vars.length cb)/\W.cell? ⟨Bs,0,none⟩=some (.slice a sizes.length ca)/\W.cell? ⟨Bt,0,none⟩=some (.slice (some ⟨g,0,none⟩) sizes.length ct)/\az W (some ⟨g,0,none⟩) (iL (nB (ag sizes) sizes.length (ag other)))
def A8 (n m:Nat) (W V:World):Prop:=m<=V.heap.size/\∀k,n<=k ->k< m ->V.heap[k]? =W.heap[k]?
theorem A8.of_below {W V:World} (h:c8 W V) (a:m<=W.heap.size):A8 n m W V:=⟨aR a h.size,fun k _ b=>h.block k (aU b a)⟩
theorem A8.set (W:World) {B:Nat} (j:Nat) (y:Value) (h:m<=W.heap.size) (c:B<n∨m<=B):A8 n m W (W.setCell ⟨B,j,none⟩ y):=⟨aR h (jk W _ _).size,fun k a b=>iJ W ⟨B,j,none⟩ y k (by show k≠B;omega)⟩
theorem o7.kept {W V:World} {f:Value} {b:Option Addr} {sizes vars:List Int} (h:o7 W n m f a b ca cb sizes vars other) (c:A8 n m W V):o7 V n m f a b ca cb sizes vars other:=by
 obtain⟨v,s,t,g,ct,u,⟨o,p,q,r⟩,⟨i,j,l,d⟩,F,x,y,z,A⟩:=h;refine⟨v,s,t,g,ct,u,⟨o,p,q,r⟩,⟨i,j,l,d⟩,c.1,(lu (c.2 v o i)).trans x,(lu (c.2 s p j)).trans y,(lu (c.2 t q l)).trans z,fun k D=>?_⟩;obtain⟨g',o',e,E,w⟩:=A k D;cases e;exact⟨g,0,rfl,aU d c.1,(lu (c.2 g r d)).trans w⟩
theorem o7.top {W:World} {f:Value} {b:Option Addr} {sizes vars:List Int} (h:o7 W n m f a b ca cb sizes vars other):m<=W.heap.size:=by
 obtain⟨_,_,_,_,_,_,_,_,c,_⟩:=h;exact c
theorem o7.wider {W:World} {n' c:Nat} {f:Value} {b:Option Addr} {sizes vars:List Int} (h:o7 W n m f a b ca cb sizes vars other) (p:n'<=n) (D:m<=c) (l:c<=W.heap.size):o7 W n' c f a b ca cb sizes vars other:=by
 obtain⟨v,s,t,g,ct,d,⟨x,y,z,A⟩,⟨q,r,u,w⟩,o,e,i,j,k⟩:=h;exact⟨v,s,t,g,ct,d,⟨al,al,al,al⟩,⟨al,al,al,al⟩,l,e,i,j,k⟩
theorem o7.aa {W V:World} {f:Value} {b:Option Addr} {sizes vars:List Int} (h:o7 W n m f a b ca cb sizes vars other) (c:c8 W V):o7 V n m f a b ca cb sizes vars other:=h.kept (A8.of_below c h.top)
theorem o7.shape {W:World} {f:Value} {b:Option Addr} {sizes vars:List Int} (h:o7 W n m f a b ca cb sizes vars other):∃l,f=.func (.func 225) #[] l:=by
 obtain⟨v,s,t,g,ct,e,_⟩:=h;exact⟨_,e⟩
theorem o7.calls {V:World} {lb:Array Value} {b:Option Addr} {sizes vars:List Int} (h:o7 V n m (.func (.func 225) #[] lb) a b ca cb sizes vars other) (r:az V a sizes) (c:az V b vars) (M:eW sizes) (d:Up vars sizes.length) (x:Up other sizes.length) (q:K<cnt (ag sizes) (ag vars)):
  c6 225 (#[.int .i64 (K:Nat)]++lb) V (da V (.int .i64 (pos (ag sizes) (aT (ag sizes) (ag vars) K) (ag other):Nat))):=by
 obtain⟨i,s,t,g,ct,f,_,⟨w,y,z,_⟩,A,k,l,o,p⟩:=h;simp only[Value.func.injEq,true_and] at f;rw[f];have u:=x.length;have O:=M.eight
 have e:=ahY i s t a b _ ca cb ct sizes vars (nB (ag sizes) sizes.length (ag other)) K V al al al k l o r c p (rh _ _ _) (fun v=>by
  rw[aaP];by_cases c:v<sizes.length
  ·rw[aA c];exact TR M.sz_le _ _ (by rw[cV];omega)
  ·rw[aB c];omega) M d q d.nodup
 have j:gh (fun v=>aT (ag sizes) (ag vars) K v*(nB (ag sizes) sizes.length (ag other)).getD v 0) (ag vars)=pos (ag sizes) (aT (ag sizes) (ag vars) K) (ag other):=by
  rw[<- stand sizes.length K d.nodup x.nodup d.aa x.aa];exact I5 fun v c=>by rw[aaP,aA (d.aa v c)]
 rw[j] at e;exact e
theorem TU (a b c:Option Addr) (ca cb cc:Nat) (sizes vars other:List Int) (w:World) (s:az w a sizes) (j:az w c other) (M:eW sizes) (y:Up other sizes.length):
  c6 186 #[.slice a sizes.length ca,.slice b vars.length cb,.slice c other.length cc] w fun e w'=>∃f,e=.returned f/\o7 w' w.heap.size w'.heap.size f a b ca cb sizes vars other/\c8 w w':=by
 have S:=hid s;have H:=hid j;have A:=hid (fun V u v=>aaS a c ca cc sizes other V u v M y);clear s j;go_enter Tryz.func186,Tryz.ntmps186;go_wp2_with fail
 have i:c8 w ((w.alloc (.cells #[.slice a sizes.length ca] 22)).alloc (.cells #[.slice b vars.length cb] 22)):=((aw _ w).alloc (ar _) _).alloc aE _;have n:Boxed ((w.alloc (.cells #[.slice a sizes.length ca] 22)).alloc (.cells #[.slice b vars.length cb] 22)) w.heap.size 22 (.slice a sizes.length ca):=(bh w _ _).alloc _
 have q:Boxed ((w.alloc (.cells #[.slice a sizes.length ca] 22)).alloc (.cells #[.slice b vars.length cb] 22)) (w.heap.size+1) 22 (.slice b vars.length cb):=by
  have h:=bh (w.alloc (.cells #[.slice a sizes.length ca] 22)) 22 (.slice b vars.length cb);rwa [cU] at h
 have I:((w.alloc (.cells #[.slice a sizes.length ca] 22)).alloc (.cells #[.slice b vars.length cb] 22)).heap.size=w.heap.size+1+1:=aE
 generalize ((w.alloc (.cells #[.slice a sizes.length ca] 22)).alloc (.cells #[.slice b vars.length cb] 22))=W at *;refine(A.o _ (S.o.aa i) (H.o.aa i)).af ?_;rintro e d ⟨t,ct,rfl,J,k,l⟩;have z:=l.size
 have F:t<d.heap.size:=by
  obtain⟨D,E,r,x,_⟩:=k 0 (by rw[ba,rh];exact M.one);cases r;exact x
 go_wp2;go_ret;have m:c8 d (d.alloc (.cells #[.slice (some ⟨t,0,none⟩) sizes.length ct] 22)):=(aw _ d).alloc (ar _) _;have g:c8 W (d.alloc (.cells #[.slice (some ⟨t,0,none⟩) sizes.length ct] 22)):=l.trans (m.af z);refine⟨_,rfl,⟨w.heap.size+1,w.heap.size,d.heap.size,t,ct,rfl,⟨al,al,al,al⟩,⟨by simp;omega,by simp;omega,aE,by simp;omega⟩,ar _,(g.cell (p:=⟨w.heap.size+1,0,none⟩) (by simp;omega)).trans q.cell,(g.cell (p:=⟨w.heap.size,0,none⟩) (by simp;omega)).trans n.cell,(bh d 22 _).cell,k.aa m⟩,i.trans (g.af al)⟩
variable {f h:Nat ->Nat} {x y:Value}
theorem rq (f:Nat ->Nat) (d:∀u,f u<sz S u):∀vs:List Nat,pos S f vs<cnt S vs:=by
 intro vs
 have e:∀(vs:List Nat) (k c:Nat),k< c ->vs.foldl (fun k v=>k*sz S v+f v) k<c*cnt S vs:=by
  intro vs;induction vs with
  |nil=>intro k c h;simpa [cnt] using h
  |cons u vs ih=>
   intro k c h
   have a:k*sz S u+f u<c*sz S u:=by
    have b:(k+1)*sz S u<=c*sz S u:=j6 _ h;have g:=d u;rw[gC,kO] at b;omega
   have:=ih _ _ a;rwa [iU] at this
 have:=e vs 0 1 al;rwa [kO] at this
theorem o6 (p:Pos S):∀(vs:List Nat) (k v:Nat),k<cnt S vs ->aT S vs k v<sz S v
 |[],_,v,_=>iM p v
 |u::vs,k,v,h=>by
  rw[aT];by_cases e:v=u
  ·rw[aA e,e];exact(Nat.div_lt_iff_lt_mul (A3 p vs)).2 h
  ·rw[aB e];exact o6 p vs _ v (iw _ (A3 p vs))
def aV (f:Nat ->Nat) (v x:Nat):Nat ->Nat:=fun u=>if u=v then x else f u
theorem aaL {g:Nat ->Nat} (b:g v=0) (a:∀u,¬u=v ->h u=g u):∀ {l:List Nat},l.Nodup ->gh h l=gh g l+if v∈l then h v else 0
 |[],_=>by simp[gh]
 |u::l,hn=>by
  rw[q7] at hn;rw[gh,gh,aaL b a hn.2];by_cases e:u=v
  ·subst e;rw[aB hn.1,aA dQ,b];omega
  ·rw[a u e];(have:v∈u::l↔v∈l:=by rw[dR];exact⟨fun h=>h.elim (fun h=>absurd h.symm e) id,.inr⟩);simp only[this];omega
theorem ajv (x:Nat) (a:f v=0) {other:List Nat} (n:other.Nodup):pos S f other+x*cQ S other v=pos S (aV f v x) other:=by
 rw[P5 S f n,P5 S (aV f v x) n,aaL (g:=fun u=>f u*cQ S other u) (h:=fun u=>aV f v x u*cQ S other u) (v:=v) (by show f v*_=0;rw[a,mX]) (fun u b=>by show aV f v x u*_=f u*_;rw[aV,aB b]) n];congr 1
 by_cases h:v∈other
 ·rw[aA h];show _=aV f v x v*_;rw[aV,aA rfl]
 ·rw[aB h,TQ h,l5]
def vW (W:World) (n m:Nat) (f:Value) (a b:Option Addr) (ca cb:Nat) (sizes vars other:List Int) (v:Nat):Prop:=
 ∃(Bf Bt:Nat) (g:Value),f=.func (.func 188) #[] #[.pointer (some ⟨Bf,0,none⟩),.pointer (some ⟨Bt,0,none⟩)]/\n<=Bf/\n<=Bt/\Bf<m/\Bt<m/\m<=W.heap.size/\
  W.cell? ⟨Bf,0,none⟩=some g/\W.cell? ⟨Bt,0,none⟩=some (.int .i64 (cQ (ag sizes) (ag other) v:Nat))/\o7 W n m g a b ca cb sizes vars other
theorem vW.kept {W V:World} {f:Value} {b:Option Addr} {sizes vars:List Int} (h:vW W n m f a b ca cb sizes vars other v) (k:A8 n m W V):vW V n m f a b ca cb sizes vars other v:=by
 obtain⟨c,t,g,l,i,j,d,e,_,o,p,q⟩:=h;exact⟨c,t,g,l,i,j,d,e,k.1,(lu (k.2 c i d)).trans o,(lu (k.2 t j e)).trans p,q.kept k⟩
theorem ael {u:World} {p q:Addr} (b:c8 w u) (a:p.block<w.heap.size) (c:q.block<w.heap.size) (h1:w.cell? p=some x) (h:w.cell? q=some y):(u.cell? p=some x/\u.cell? q=some y)/\Hid (c8 w u):=⟨⟨(b.cell a).trans h1,(b.cell c).trans h⟩,b⟩
theorem ahX (f t:Nat) (lb:Array Value) (K val P s:Nat) (w:World) (a:f<w.heap.size) (h1:w.cell? ⟨f,0,none⟩=some (.func (.func 225) #[] lb)) (v:t<w.heap.size) (b:w.cell? ⟨t,0,none⟩=some (.int .i64 (s:Nat))) (d:∀V,c8 w V ->c6 225 (#[.int .i64 (K:Nat)]++lb) V fun e w'=>e=.returned (.int .i64 (P:Nat))/\c8 V w') (n:P<=65536) (l:val<=4) (k:s<=65536):
  c6 188 #[.int .i64 (K:Nat),.int .i64 (val:Nat),.pointer (some ⟨f,0,none⟩),.pointer (some ⟨t,0,none⟩)] w (da w (.int .i64 (P+val*s:Nat))):=by
 have H:=hid d;have m:val*s<=262144:=aR (iH l k) a6;have c:(val:Int)*(s:Int)=((val*s:Nat):Int):=(jl _ _).symm;have q:IntKind.i64.wrap ((val:Int)*(s:Int))=(val:Int)*(s:Int):=by rw[c,dE];omega
 have r:IntKind.i64.wrap ((P:Int)+(val:Int)*(s:Int))=(P:Int)+(val:Int)*(s:Int):=by rw[c,dE];omega
 have j:Hid ((P:Int)+(val:Int)*(s:Int)=((P+val*s:Nat):Int)):=by show _=_;rw[c];exact(sZ _ _).symm
 have h:c8 w w.drew:=(aw w.heap.size w).drew;clear d c;go_enter Tryz.func188,Tryz.ntmps188;go_upto_region 1 with fail
 go_region_held3 (fun u=>(u.cell? ⟨f,0,none⟩=some (.func (.func 225) #[] lb)/\u.cell? ⟨t,0,none⟩=some (.int .i64 (s:Nat)))/\Hid (c8 w u))
  (first |exact ael g a v h1 b |exact ael h a v h1 b)
  (first
   |(go_at_call 225;refine(H.o _ h).af ?_;rintro e p ⟨rfl,i⟩;have g:=h.trans (i.af h.size)))
 go_wp2;go_ret;exact⟨by rw[j.o];rfl,g⟩
theorem vW.calls {V:World} {lb:Array Value} {b:Option Addr} {sizes vars:List Int} (h:vW V n m (.func (.func 188) #[] lb) a b ca cb sizes vars other v) (s:az V a sizes) (o:az V b vars) (M:eW sizes) (j:Up vars sizes.length) (x:Up other sizes.length) (J:¬v∈ag vars) {val:Nat} (e:K<cnt (ag sizes) (ag vars)) (q:val<=4):
  c6 188 (#[.int .i64 (K:Nat),.int .i64 (val:Nat)]++lb) V (da V (.int .i64 (pos (ag sizes) (aV (aT (ag sizes) (ag vars) K) v val) (ag other):Nat))):=by
 obtain⟨i,t,g,f,_,_,w,y,A,k,l,d⟩:=h;simp only[Value.func.injEq,true_and] at f;rw[f];obtain⟨p,rfl⟩:=d.shape;have r:=x.length;have O:=M.eight;have P:=rq (S:=ag sizes) (aT (ag sizes) (ag vars) K) (fun u=>o6 M.pos (ag vars) K u e) (ag other);have z:=qL M.sz_le (vs:=ag other) (by rw[cV];omega);rw[<- ajv val (Dd J) x.nodup];exact ahX i t p K val _ _ V al k al l (fun V' c=>(d.aa c).calls (s.aa c) (o.aa c) M j x e) al q (TR M.sz_le _ _ (by rw[cV];omega))
theorem wJ {P:Program} {md:Region.Mode} {Q:Exit ->Act ->World ->Prop} {S S':World ->Prop} (c:∀w,S' w ->S w):∀(fuel:Nat) (d:Array Bool) (a:Act) (w:World),wpAnyH P md ops Q S' fuel d a w ->wpAnyH P md ops Q S fuel d a w
 |0,_,_,_,h=>h
 |fuel+1,_,_,_,h=>⟨h.1,fun i f=>wpOp_mono (fun e w' b=>⟨c _ b.1,wJ c fuel _ e w' b.2⟩) (h.2 i f)⟩
theorem afL {u:World} (h:c8 w u) (B j:Nat) (y:Value) (a:w.heap.size<=B):c8 w (u.setCell ⟨B,j,none⟩ y):=h.setCell (p:=⟨B,j,none⟩) a y
theorem bj {W V:World} {B:Nat} {t:TypeId} (h:Boxed W B t x) (b:c8 W V):Boxed V B t x:=(b.block B h.lt).trans h
theorem yu {other:List Nat} (h:v<n):(iL (nB S n other))[v]'(by rw[ba,rh];exact h)=((cQ S other v:Nat):Int):=by simp[iL,nB]
theorem TV (a b c:Option Addr) (ca cb cc:Nat) (sizes vars other:List Int) (v:Nat) (w:World) (hs:az w a sizes) (ho:az w c other) (aM:eW sizes) (xg:Up other sizes.length) (E:v<sizes.length):
  c6 142 #[.slice a sizes.length ca,.slice b vars.length cb,.slice c other.length cc,.int .i64 (v:Nat)] w fun e w'=>∃f,e=.returned f/\vW w' w.heap.size w'.heap.size f a b ca cb sizes vars other v/\c8 w w':=by
 have M:=hid hs;have O:=hid ho;have HA:=hid (fun V h1 h2=>aaS a c ca cc sizes other V h1 h2 aM xg);have HB:=hid (fun V h1 h2=>TU a b c ca cb cc sizes vars other V h1 h2 aM xg);have oO:=aM.eight;have ai:(0:Int)<=(v:Int):=al
 have oK:(v:Int)<(sizes.length:Int):=al
 clear hs ho;go_enter Tryz.func142,Tryz.ntmps142;go_upto_region 1 with fail
 have i:c8 w w.drew:=(aw w.heap.size w).drew;refine iu (S:=fun u=>Hid (c8 w u)) ao i (fun q=>?_);generalize w.drew=H at *;refine au 0 (.slice a sizes.length ca) ?_;refine au 1 (.slice b vars.length cb) ?_;refine au 2 (.slice c other.length cc) ?_;refine au 4 (.slice a sizes.length ca) ?_;refine au 5 (.slice c other.length cc) ?_;refine au 7 (.int .i64 (v:Nat)) ?_;refine aI [3,10,11] (cA ?_ (cA ?_ (cA ?_ aH)))
 focus
  intro l K;go_simp;refine(HB.o _ (M.o.aa i) (O.o.aa i)).af ?_;rintro e u1 ⟨f,rfl,F,d⟩;obtain⟨X,rfl⟩:=F.shape;have T:=i.size;replace i:=i.trans (d.af i.size);clear q;refine K.o _ _ i (fun q=>?_);clear K l;have iP:w.heap.size<=H.heap.size:=T;have U:=F.top;generalize H.heap.size=L at F T iP⊢;generalize hm1:u1.heap.size=D at F U;rw[<- hm1] at U;have k:D<=u1.heap.size:=al
  clear d hm1;refine aI [6,10,11] (cA ?_ (cA ?_ (cA ?_ aH)))
  focus
   intro l K;go_simp;refine(HA.o _ (M.o.aa i) (O.o.aa i)).af ?_;rintro e u2 ⟨g,ct,rfl,J,z,d⟩;replace i:=i.trans (d.af i.size);replace F:=F.aa d;replace k:=aR k d.size;clear q;refine K.o _ _ i (fun q=>?_);clear K l;obtain⟨g3,o3,I,R,m⟩:=z v (by rw[ba,rh];exact E);cases I;rw[yu E,bM] at m;clear d z J q;(try simp only[gE,aP]);refine wJ (S':=fun u=>Hid (c8 w u)/\u.cell? ⟨g,v,none⟩=some (.int .i64 (cQ (ag sizes) (ag other) v:Nat))) (fun _ h=>h.1) _ _ _ _ ?_;have q:Hid (c8 w u2)/\u2.cell? ⟨g,v,none⟩=some (.int .i64 (cQ (ag sizes) (ag other) v:Nat)):=⟨i,m⟩;refine au 8 (.pointer (some ⟨g,v,none⟩)) ?_;refine au 9 (.int .i64 (cQ (ag sizes) (ag other) v:Nat)) ?_;refine aI [10,11] (cA ?_ (cA ?_ aH))
   focus
    intro l K;go_simp;have d:c8 u2 (u2.alloc (.cells #[.nilFunc] 133)):=(aw _ u2).alloc (ar _) _;have s:Boxed (u2.alloc (.cells #[.nilFunc] 133)) u2.heap.size 133 (.nilFunc):=bh u2 _ _;(have n:u2.heap.size<(u2.alloc (.cells #[.nilFunc] 133)).heap.size:=aE);have w9:=i.size;replace i:=i.trans (d.af i.size);replace F:=F.aa d;have P:u2.heap.size<L∨D<=u2.heap.size:=.inr k;replace k:=aR k d.size;(have Y:¬u2.heap.size=g:=al);replace m:=(d.cell (p:=⟨g,v,none⟩) R).trans m;replace R:=aU R d.size;refine K.o _ _ ⟨i,m⟩ (fun q=>?_);clear K l d;generalize (u2.alloc (.cells #[.nilFunc] 133))=j at *;generalize u2.heap.size=x at *;refine aI [11] (cA ?_ aH);intro l K;go_simp;have d:c8 j (j.alloc (.cells #[.int .i64 0] 3)):=(aw _ j).alloc (ar _) _;have t:Boxed (j.alloc (.cells #[.int .i64 0] 3)) j.heap.size 3 (.int .i64 0):=bh j _ _;(have r:j.heap.size<(j.alloc (.cells #[.int .i64 0] 3)).heap.size:=aE);have bQ:=i.size;replace i:=i.trans (d.af i.size);replace s:=bj s d;(have ne:¬x=j.heap.size:=al);replace n:=aU n d.size;replace F:=F.aa d;have Q:j.heap.size<L∨D<=j.heap.size:=.inr k;replace k:=aR k d.size;(have Z:¬j.heap.size=g:=al);replace m:=(d.cell (p:=⟨g,v,none⟩) R).trans m;replace R:=aU R d.size;refine K.o _ _ ⟨i,m⟩ (fun q=>?_);clear K l d;generalize (j.alloc (.cells #[.int .i64 0] 3))=A at *;generalize j.heap.size=y at *
   rotate_left
   focus
    intro l K;go_simp;have d:c8 u2 (u2.alloc (.cells #[.int .i64 0] 3)):=(aw _ u2).alloc (ar _) _;have t:Boxed (u2.alloc (.cells #[.int .i64 0] 3)) u2.heap.size 3 (.int .i64 0):=bh u2 _ _;(have r:u2.heap.size<(u2.alloc (.cells #[.int .i64 0] 3)).heap.size:=aE);have bQ:=i.size;replace i:=i.trans (d.af i.size);replace F:=F.aa d;have Q:u2.heap.size<L∨D<=u2.heap.size:=.inr k;replace k:=aR k d.size;(have Z:¬u2.heap.size=g:=al);replace m:=(d.cell (p:=⟨g,v,none⟩) R).trans m;replace R:=aU R d.size;refine K.o _ _ ⟨i,m⟩ (fun q=>?_);clear K l d;generalize (u2.alloc (.cells #[.int .i64 0] 3))=j at *;generalize u2.heap.size=y at *;refine aI [10] (cA ?_ aH);intro l K;go_simp;have d:c8 j (j.alloc (.cells #[.nilFunc] 133)):=(aw _ j).alloc (ar _) _;have s:Boxed (j.alloc (.cells #[.nilFunc] 133)) j.heap.size 133 (.nilFunc):=bh j _ _;(have n:j.heap.size<(j.alloc (.cells #[.nilFunc] 133)).heap.size:=aE);have w9:=i.size;replace i:=i.trans (d.af i.size);replace t:=bj t d;(have ne:¬y=j.heap.size:=al);replace r:=aU r d.size;replace F:=F.aa d;have P:j.heap.size<L∨D<=j.heap.size:=.inr k;replace k:=aR k d.size;(have Y:¬j.heap.size=g:=al);replace m:=(d.cell (p:=⟨g,v,none⟩) R).trans m;replace R:=aU R d.size;refine K.o _ _ ⟨i,m⟩ (fun q=>?_);clear K l d;generalize (j.alloc (.cells #[.nilFunc] 133))=A at *;generalize j.heap.size=x at *
  rotate_left 2
  focus
   intro l K;go_simp;have d:c8 u1 (u1.alloc (.cells #[.nilFunc] 133)):=(aw _ u1).alloc (ar _) _;have s:Boxed (u1.alloc (.cells #[.nilFunc] 133)) u1.heap.size 133 (.nilFunc):=bh u1 _ _;(have n:u1.heap.size<(u1.alloc (.cells #[.nilFunc] 133)).heap.size:=aE);have w9:=i.size;replace i:=i.trans (d.af i.size);replace F:=F.aa d;have P:u1.heap.size<L∨D<=u1.heap.size:=.inr k;replace k:=aR k d.size;refine K.o _ _ i (fun q=>?_);clear K l d;generalize (u1.alloc (.cells #[.nilFunc] 133))=u2 at *;generalize u1.heap.size=x at *;refine aI [6,11] (cA ?_ (cA ?_ aH))
   focus
    intro l K;go_simp;refine(HA.o _ (M.o.aa i) (O.o.aa i)).af ?_;rintro e j ⟨g,ct,rfl,J,z,d⟩;replace i:=i.trans (d.af i.size);replace F:=F.aa d;replace k:=aR k d.size;clear q;refine K.o _ _ i (fun q=>?_);clear K l;obtain⟨g3,o3,I,R,m⟩:=z v (by rw[ba,rh];exact E);cases I;rw[yu E,bM] at m;replace s:=bj s d;(have Y:¬x=g:=al);replace n:=aU n d.size;clear d z J q;(try simp only[gE,aP]);refine wJ (S':=fun u=>Hid (c8 w u)/\u.cell? ⟨g,v,none⟩=some (.int .i64 (cQ (ag sizes) (ag other) v:Nat))) (fun _ h=>h.1) _ _ _ _ ?_;have q:Hid (c8 w j)/\j.cell? ⟨g,v,none⟩=some (.int .i64 (cQ (ag sizes) (ag other) v:Nat)):=⟨i,m⟩;refine au 8 (.pointer (some ⟨g,v,none⟩)) ?_;refine au 9 (.int .i64 (cQ (ag sizes) (ag other) v:Nat)) ?_;refine aI [11] (cA ?_ aH);intro l K;go_simp;have d:c8 j (j.alloc (.cells #[.int .i64 0] 3)):=(aw _ j).alloc (ar _) _;have t:Boxed (j.alloc (.cells #[.int .i64 0] 3)) j.heap.size 3 (.int .i64 0):=bh j _ _;(have r:j.heap.size<(j.alloc (.cells #[.int .i64 0] 3)).heap.size:=aE);have bQ:=i.size;replace i:=i.trans (d.af i.size);replace s:=bj s d;(have ne:¬x=j.heap.size:=al);replace n:=aU n d.size;replace F:=F.aa d;have Q:j.heap.size<L∨D<=j.heap.size:=.inr k;replace k:=aR k d.size;(have Z:¬j.heap.size=g:=al);replace m:=(d.cell (p:=⟨g,v,none⟩) R).trans m;replace R:=aU R d.size
    refine K.o _ _ ⟨i,m⟩ (fun q=>?_);clear K l d;generalize (j.alloc (.cells #[.int .i64 0] 3))=A at *;generalize j.heap.size=y at *
   rotate_left
   focus
    intro l K;go_simp;have d:c8 u2 (u2.alloc (.cells #[.int .i64 0] 3)):=(aw _ u2).alloc (ar _) _;have t:Boxed (u2.alloc (.cells #[.int .i64 0] 3)) u2.heap.size 3 (.int .i64 0):=bh u2 _ _;(have r:u2.heap.size<(u2.alloc (.cells #[.int .i64 0] 3)).heap.size:=aE);have bQ:=i.size;replace i:=i.trans (d.af i.size);replace s:=bj s d;(have ne:¬x=u2.heap.size:=al);replace n:=aU n d.size;replace F:=F.aa d;have Q:u2.heap.size<L∨D<=u2.heap.size:=.inr k;replace k:=aR k d.size;refine K.o _ _ i (fun q=>?_);clear K l d;generalize (u2.alloc (.cells #[.int .i64 0] 3))=j at *;generalize u2.heap.size=y at *;refine aI [6] (cA ?_ aH);intro l K;go_simp;refine(HA.o _ (M.o.aa i) (O.o.aa i)).af ?_;rintro e A ⟨g,ct,rfl,J,z,d⟩;replace i:=i.trans (d.af i.size);replace F:=F.aa d;replace k:=aR k d.size;clear q;refine K.o _ _ i (fun q=>?_);clear K l;obtain⟨g3,o3,I,R,m⟩:=z v (by rw[ba,rh];exact E);cases I;rw[yu E,bM] at m;replace s:=bj s d;(have Y:¬x=g:=al);replace n:=aU n d.size;replace t:=bj t d;(have Z:¬y=g:=al);replace r:=aU r d.size;clear d z J q;(try simp only[gE,aP]);refine wJ (S':=fun u=>Hid (c8 w u)/\u.cell? ⟨g,v,none⟩=some (.int .i64 (cQ (ag sizes) (ag other) v:Nat))) (fun _ h=>h.1) _ _ _ _ ?_;have q:Hid (c8 w A)/\A.cell? ⟨g,v,none⟩=some (.int .i64 (cQ (ag sizes) (ag other) v:Nat)):=⟨i,m⟩
    refine au 8 (.pointer (some ⟨g,v,none⟩)) ?_;refine au 9 (.int .i64 (cQ (ag sizes) (ag other) v:Nat)) ?_
  rotate_left 2
  focus
   intro l K;go_simp;have d:c8 u1 (u1.alloc (.cells #[.int .i64 0] 3)):=(aw _ u1).alloc (ar _) _;have t:Boxed (u1.alloc (.cells #[.int .i64 0] 3)) u1.heap.size 3 (.int .i64 0):=bh u1 _ _;(have r:u1.heap.size<(u1.alloc (.cells #[.int .i64 0] 3)).heap.size:=aE);have bQ:=i.size;replace i:=i.trans (d.af i.size);replace F:=F.aa d;have Q:u1.heap.size<L∨D<=u1.heap.size:=.inr k;replace k:=aR k d.size;refine K.o _ _ i (fun q=>?_);clear K l d;generalize (u1.alloc (.cells #[.int .i64 0] 3))=u2 at *;generalize u1.heap.size=y at *;refine aI [6,10] (cA ?_ (cA ?_ aH))
   focus
    intro l K;go_simp;refine(HA.o _ (M.o.aa i) (O.o.aa i)).af ?_;rintro e j ⟨g,ct,rfl,J,z,d⟩;replace i:=i.trans (d.af i.size);replace F:=F.aa d;replace k:=aR k d.size;clear q;refine K.o _ _ i (fun q=>?_);clear K l;obtain⟨g3,o3,I,R,m⟩:=z v (by rw[ba,rh];exact E);cases I;rw[yu E,bM] at m;replace t:=bj t d;(have Z:¬y=g:=al);replace r:=aU r d.size;clear d z J q;(try simp only[gE,aP]);refine wJ (S':=fun u=>Hid (c8 w u)/\u.cell? ⟨g,v,none⟩=some (.int .i64 (cQ (ag sizes) (ag other) v:Nat))) (fun _ h=>h.1) _ _ _ _ ?_;have q:Hid (c8 w j)/\j.cell? ⟨g,v,none⟩=some (.int .i64 (cQ (ag sizes) (ag other) v:Nat)):=⟨i,m⟩;refine au 8 (.pointer (some ⟨g,v,none⟩)) ?_;refine au 9 (.int .i64 (cQ (ag sizes) (ag other) v:Nat)) ?_;refine aI [10] (cA ?_ aH);intro l K;go_simp;have d:c8 j (j.alloc (.cells #[.nilFunc] 133)):=(aw _ j).alloc (ar _) _;have s:Boxed (j.alloc (.cells #[.nilFunc] 133)) j.heap.size 133 (.nilFunc):=bh j _ _;(have n:j.heap.size<(j.alloc (.cells #[.nilFunc] 133)).heap.size:=aE);have w9:=i.size;replace i:=i.trans (d.af i.size);replace t:=bj t d;(have ne:¬y=j.heap.size:=al);replace r:=aU r d.size;replace F:=F.aa d;have P:j.heap.size<L∨D<=j.heap.size:=.inr k;replace k:=aR k d.size;(have Y:¬j.heap.size=g:=al);replace m:=(d.cell (p:=⟨g,v,none⟩) R).trans m;replace R:=aU R d.size
    refine K.o _ _ ⟨i,m⟩ (fun q=>?_);clear K l d;generalize (j.alloc (.cells #[.nilFunc] 133))=A at *;generalize j.heap.size=x at *
   rotate_left
   focus
    intro l K;go_simp;have d:c8 u2 (u2.alloc (.cells #[.nilFunc] 133)):=(aw _ u2).alloc (ar _) _;have s:Boxed (u2.alloc (.cells #[.nilFunc] 133)) u2.heap.size 133 (.nilFunc):=bh u2 _ _;(have n:u2.heap.size<(u2.alloc (.cells #[.nilFunc] 133)).heap.size:=aE);have w9:=i.size;replace i:=i.trans (d.af i.size);replace t:=bj t d;(have ne:¬y=u2.heap.size:=al);replace r:=aU r d.size;replace F:=F.aa d;have P:u2.heap.size<L∨D<=u2.heap.size:=.inr k;replace k:=aR k d.size;refine K.o _ _ i (fun q=>?_);clear K l d;generalize (u2.alloc (.cells #[.nilFunc] 133))=j at *;generalize u2.heap.size=x at *;refine aI [6] (cA ?_ aH);intro l K;go_simp;refine(HA.o _ (M.o.aa i) (O.o.aa i)).af ?_;rintro e A ⟨g,ct,rfl,J,z,d⟩;replace i:=i.trans (d.af i.size);replace F:=F.aa d;replace k:=aR k d.size;clear q;refine K.o _ _ i (fun q=>?_);clear K l;obtain⟨g3,o3,I,R,m⟩:=z v (by rw[ba,rh];exact E);cases I;rw[yu E,bM] at m;replace s:=bj s d;(have Y:¬x=g:=al);replace n:=aU n d.size;replace t:=bj t d;(have Z:¬y=g:=al);replace r:=aU r d.size;clear d z J q;(try simp only[gE,aP]);refine wJ (S':=fun u=>Hid (c8 w u)/\u.cell? ⟨g,v,none⟩=some (.int .i64 (cQ (ag sizes) (ag other) v:Nat))) (fun _ h=>h.1) _ _ _ _ ?_;have q:Hid (c8 w A)/\A.cell? ⟨g,v,none⟩=some (.int .i64 (cQ (ag sizes) (ag other) v:Nat)):=⟨i,m⟩
    refine au 8 (.pointer (some ⟨g,v,none⟩)) ?_;refine au 9 (.int .i64 (cQ (ag sizes) (ag other) v:Nat)) ?_
 rotate_left 6
 focus
  intro l K;go_simp;have d:c8 H (H.alloc (.cells #[.nilFunc] 133)):=(aw _ H).alloc (ar _) _;have s:Boxed (H.alloc (.cells #[.nilFunc] 133)) H.heap.size 133 (.nilFunc):=bh H _ _;have n:H.heap.size<(H.alloc (.cells #[.nilFunc] 133)).heap.size:=aE
  have w9:=i.size;replace i:=i.trans (d.af i.size);refine K.o _ _ i (fun q=>?_);clear K l d;generalize (H.alloc (.cells #[.nilFunc] 133))=u1 at *;generalize H.heap.size=x at *;refine aI [3,11] (cA ?_ (cA ?_ aH))
  focus
   intro l K;go_simp;refine(HB.o _ (M.o.aa i) (O.o.aa i)).af ?_;rintro e u2 ⟨f,rfl,F,d⟩;obtain⟨X,rfl⟩:=F.shape;have T:=i.size;replace i:=i.trans (d.af i.size);clear q;refine K.o _ _ i (fun q=>?_);clear K l;replace s:=bj s d;have P:x<u1.heap.size∨u2.heap.size<=x:=.inl n;replace n:=aU n d.size;have iP:w.heap.size<=u1.heap.size:=T;have U:=F.top;generalize u1.heap.size=L at F T iP P⊢;generalize hm1:u2.heap.size=D at F U P;rw[<- hm1] at U;(have k:D<=u2.heap.size:=al);clear d hm1;refine aI [6,11] (cA ?_ (cA ?_ aH))
   focus
    intro l K;go_simp;refine(HA.o _ (M.o.aa i) (O.o.aa i)).af ?_;rintro e j ⟨g,ct,rfl,J,z,d⟩;replace i:=i.trans (d.af i.size);replace F:=F.aa d;replace k:=aR k d.size;clear q;refine K.o _ _ i (fun q=>?_);clear K l;obtain⟨g3,o3,I,R,m⟩:=z v (by rw[ba,rh];exact E);cases I;rw[yu E,bM] at m;replace s:=bj s d;(have Y:¬x=g:=al);replace n:=aU n d.size;clear d z J q;(try simp only[gE,aP]);refine wJ (S':=fun u=>Hid (c8 w u)/\u.cell? ⟨g,v,none⟩=some (.int .i64 (cQ (ag sizes) (ag other) v:Nat))) (fun _ h=>h.1) _ _ _ _ ?_;have q:Hid (c8 w j)/\j.cell? ⟨g,v,none⟩=some (.int .i64 (cQ (ag sizes) (ag other) v:Nat)):=⟨i,m⟩;refine au 8 (.pointer (some ⟨g,v,none⟩)) ?_;refine au 9 (.int .i64 (cQ (ag sizes) (ag other) v:Nat)) ?_;refine aI [11] (cA ?_ aH);intro l K;go_simp;have d:c8 j (j.alloc (.cells #[.int .i64 0] 3)):=(aw _ j).alloc (ar _) _;have t:Boxed (j.alloc (.cells #[.int .i64 0] 3)) j.heap.size 3 (.int .i64 0):=bh j _ _;(have r:j.heap.size<(j.alloc (.cells #[.int .i64 0] 3)).heap.size:=aE);have bQ:=i.size;replace i:=i.trans (d.af i.size);replace s:=bj s d;(have ne:¬x=j.heap.size:=al);replace n:=aU n d.size;replace F:=F.aa d;have Q:j.heap.size<L∨D<=j.heap.size:=.inr k;replace k:=aR k d.size;(have Z:¬j.heap.size=g:=al);replace m:=(d.cell (p:=⟨g,v,none⟩) R).trans m;replace R:=aU R d.size
    refine K.o _ _ ⟨i,m⟩ (fun q=>?_);clear K l d;generalize (j.alloc (.cells #[.int .i64 0] 3))=A at *;generalize j.heap.size=y at *
   rotate_left
   focus
    intro l K;go_simp;have d:c8 u2 (u2.alloc (.cells #[.int .i64 0] 3)):=(aw _ u2).alloc (ar _) _;have t:Boxed (u2.alloc (.cells #[.int .i64 0] 3)) u2.heap.size 3 (.int .i64 0):=bh u2 _ _;(have r:u2.heap.size<(u2.alloc (.cells #[.int .i64 0] 3)).heap.size:=aE);have bQ:=i.size;replace i:=i.trans (d.af i.size);replace s:=bj s d;(have ne:¬x=u2.heap.size:=al);replace n:=aU n d.size;replace F:=F.aa d;have Q:u2.heap.size<L∨D<=u2.heap.size:=.inr k;replace k:=aR k d.size;refine K.o _ _ i (fun q=>?_);clear K l d;generalize (u2.alloc (.cells #[.int .i64 0] 3))=j at *;generalize u2.heap.size=y at *;refine aI [6] (cA ?_ aH);intro l K;go_simp;refine(HA.o _ (M.o.aa i) (O.o.aa i)).af ?_;rintro e A ⟨g,ct,rfl,J,z,d⟩;replace i:=i.trans (d.af i.size);replace F:=F.aa d;replace k:=aR k d.size;clear q;refine K.o _ _ i (fun q=>?_);clear K l;obtain⟨g3,o3,I,R,m⟩:=z v (by rw[ba,rh];exact E);cases I;rw[yu E,bM] at m;replace s:=bj s d;(have Y:¬x=g:=al);replace n:=aU n d.size;replace t:=bj t d;(have Z:¬y=g:=al);replace r:=aU r d.size;clear d z J q;(try simp only[gE,aP]);refine wJ (S':=fun u=>Hid (c8 w u)/\u.cell? ⟨g,v,none⟩=some (.int .i64 (cQ (ag sizes) (ag other) v:Nat))) (fun _ h=>h.1) _ _ _ _ ?_;have q:Hid (c8 w A)/\A.cell? ⟨g,v,none⟩=some (.int .i64 (cQ (ag sizes) (ag other) v:Nat)):=⟨i,m⟩
    refine au 8 (.pointer (some ⟨g,v,none⟩)) ?_;refine au 9 (.int .i64 (cQ (ag sizes) (ag other) v:Nat)) ?_
  rotate_left 2
  focus
   intro l K;go_simp;have d:c8 u1 (u1.alloc (.cells #[.int .i64 0] 3)):=(aw _ u1).alloc (ar _) _;have t:Boxed (u1.alloc (.cells #[.int .i64 0] 3)) u1.heap.size 3 (.int .i64 0):=bh u1 _ _;(have r:u1.heap.size<(u1.alloc (.cells #[.int .i64 0] 3)).heap.size:=aE);have bQ:=i.size;replace i:=i.trans (d.af i.size);replace s:=bj s d;(have ne:¬x=u1.heap.size:=al);replace n:=aU n d.size;refine K.o _ _ i (fun q=>?_);clear K l d;generalize (u1.alloc (.cells #[.int .i64 0] 3))=u2 at *;generalize u1.heap.size=y at *;refine aI [3] (cA ?_ aH);intro l K;go_simp;refine(HB.o _ (M.o.aa i) (O.o.aa i)).af ?_;rintro e j ⟨f,rfl,F,d⟩;obtain⟨X,rfl⟩:=F.shape;have T:=i.size;replace i:=i.trans (d.af i.size);clear q;refine K.o _ _ i (fun q=>?_);clear K l;replace s:=bj s d;have P:x<u2.heap.size∨j.heap.size<=x:=.inl n;replace n:=aU n d.size;replace t:=bj t d;have Q:y<u2.heap.size∨j.heap.size<=y:=.inl r;replace r:=aU r d.size;have iP:w.heap.size<=u2.heap.size:=T;have U:=F.top;generalize u2.heap.size=L at F T iP P Q⊢;generalize hm1:j.heap.size=D at F U P Q;rw[<- hm1] at U;(have k:D<=j.heap.size:=al);clear d hm1;refine aI [6] (cA ?_ aH);intro l K;go_simp;refine(HA.o _ (M.o.aa i) (O.o.aa i)).af ?_;rintro e A ⟨g,ct,rfl,J,z,d⟩;replace i:=i.trans (d.af i.size);replace F:=F.aa d;replace k:=aR k d.size;refine K.o _ _ i (fun ak=>?_)
   clear K l q;have q:=ak;clear ak;obtain⟨g3,o3,I,R,m⟩:=z v (by rw[ba,rh];exact E);cases I;rw[yu E,bM] at m;replace s:=bj s d;(have Y:¬x=g:=al);replace n:=aU n d.size;replace t:=bj t d;(have Z:¬y=g:=al);replace r:=aU r d.size;clear d z J q;(try simp only[gE,aP]);refine wJ (S':=fun u=>Hid (c8 w u)/\u.cell? ⟨g,v,none⟩=some (.int .i64 (cQ (ag sizes) (ag other) v:Nat))) (fun _ h=>h.1) _ _ _ _ ?_;have q:Hid (c8 w A)/\A.cell? ⟨g,v,none⟩=some (.int .i64 (cQ (ag sizes) (ag other) v:Nat)):=⟨i,m⟩;refine au 8 (.pointer (some ⟨g,v,none⟩)) ?_;refine au 9 (.int .i64 (cQ (ag sizes) (ag other) v:Nat)) ?_
 rotate_left 3
 focus
  intro l K;go_simp;have d:c8 H (H.alloc (.cells #[.int .i64 0] 3)):=(aw _ H).alloc (ar _) _;have t:Boxed (H.alloc (.cells #[.int .i64 0] 3)) H.heap.size 3 (.int .i64 0):=bh H _ _;have r:H.heap.size<(H.alloc (.cells #[.int .i64 0] 3)).heap.size:=aE
  have bQ:=i.size;replace i:=i.trans (d.af i.size);refine K.o _ _ i (fun q=>?_);clear K l d;generalize (H.alloc (.cells #[.int .i64 0] 3))=u1 at *;generalize H.heap.size=y at *;refine aI [3,10] (cA ?_ (cA ?_ aH))
  focus
   intro l K;go_simp;refine(HB.o _ (M.o.aa i) (O.o.aa i)).af ?_;rintro e u2 ⟨f,rfl,F,d⟩;obtain⟨X,rfl⟩:=F.shape;have T:=i.size;replace i:=i.trans (d.af i.size);clear q;refine K.o _ _ i (fun q=>?_);clear K l;replace t:=bj t d;have Q:y<u1.heap.size∨u2.heap.size<=y:=.inl r;replace r:=aU r d.size;have iP:w.heap.size<=u1.heap.size:=T;have U:=F.top;generalize u1.heap.size=L at F T iP Q⊢;generalize hm1:u2.heap.size=D at F U Q;rw[<- hm1] at U;(have k:D<=u2.heap.size:=al);clear d hm1;refine aI [6,10] (cA ?_ (cA ?_ aH))
   focus
    intro l K;go_simp;refine(HA.o _ (M.o.aa i) (O.o.aa i)).af ?_;rintro e j ⟨g,ct,rfl,J,z,d⟩;replace i:=i.trans (d.af i.size);replace F:=F.aa d;replace k:=aR k d.size;clear q;refine K.o _ _ i (fun q=>?_);clear K l;obtain⟨g3,o3,I,R,m⟩:=z v (by rw[ba,rh];exact E);cases I;rw[yu E,bM] at m;replace t:=bj t d;(have Z:¬y=g:=al);replace r:=aU r d.size;clear d z J q;(try simp only[gE,aP]);refine wJ (S':=fun u=>Hid (c8 w u)/\u.cell? ⟨g,v,none⟩=some (.int .i64 (cQ (ag sizes) (ag other) v:Nat))) (fun _ h=>h.1) _ _ _ _ ?_;have q:Hid (c8 w j)/\j.cell? ⟨g,v,none⟩=some (.int .i64 (cQ (ag sizes) (ag other) v:Nat)):=⟨i,m⟩;refine au 8 (.pointer (some ⟨g,v,none⟩)) ?_;refine au 9 (.int .i64 (cQ (ag sizes) (ag other) v:Nat)) ?_;refine aI [10] (cA ?_ aH);intro l K;go_simp;have d:c8 j (j.alloc (.cells #[.nilFunc] 133)):=(aw _ j).alloc (ar _) _;have s:Boxed (j.alloc (.cells #[.nilFunc] 133)) j.heap.size 133 (.nilFunc):=bh j _ _;(have n:j.heap.size<(j.alloc (.cells #[.nilFunc] 133)).heap.size:=aE);have w9:=i.size;replace i:=i.trans (d.af i.size);replace t:=bj t d;(have ne:¬y=j.heap.size:=al);replace r:=aU r d.size;replace F:=F.aa d;have P:j.heap.size<L∨D<=j.heap.size:=.inr k;replace k:=aR k d.size;(have Y:¬j.heap.size=g:=al);replace m:=(d.cell (p:=⟨g,v,none⟩) R).trans m;replace R:=aU R d.size
    refine K.o _ _ ⟨i,m⟩ (fun q=>?_);clear K l d;generalize (j.alloc (.cells #[.nilFunc] 133))=A at *;generalize j.heap.size=x at *
   rotate_left
   focus
    intro l K;go_simp;have d:c8 u2 (u2.alloc (.cells #[.nilFunc] 133)):=(aw _ u2).alloc (ar _) _;have s:Boxed (u2.alloc (.cells #[.nilFunc] 133)) u2.heap.size 133 (.nilFunc):=bh u2 _ _;(have n:u2.heap.size<(u2.alloc (.cells #[.nilFunc] 133)).heap.size:=aE);have w9:=i.size;replace i:=i.trans (d.af i.size);replace t:=bj t d;(have ne:¬y=u2.heap.size:=al);replace r:=aU r d.size;replace F:=F.aa d;have P:u2.heap.size<L∨D<=u2.heap.size:=.inr k;replace k:=aR k d.size;refine K.o _ _ i (fun q=>?_);clear K l d;generalize (u2.alloc (.cells #[.nilFunc] 133))=j at *;generalize u2.heap.size=x at *;refine aI [6] (cA ?_ aH);intro l K;go_simp;refine(HA.o _ (M.o.aa i) (O.o.aa i)).af ?_;rintro e A ⟨g,ct,rfl,J,z,d⟩;replace i:=i.trans (d.af i.size);replace F:=F.aa d;replace k:=aR k d.size;clear q;refine K.o _ _ i (fun q=>?_);clear K l;obtain⟨g3,o3,I,R,m⟩:=z v (by rw[ba,rh];exact E);cases I;rw[yu E,bM] at m;replace s:=bj s d;(have Y:¬x=g:=al);replace n:=aU n d.size;replace t:=bj t d;(have Z:¬y=g:=al);replace r:=aU r d.size;clear d z J q;(try simp only[gE,aP]);refine wJ (S':=fun u=>Hid (c8 w u)/\u.cell? ⟨g,v,none⟩=some (.int .i64 (cQ (ag sizes) (ag other) v:Nat))) (fun _ h=>h.1) _ _ _ _ ?_;have q:Hid (c8 w A)/\A.cell? ⟨g,v,none⟩=some (.int .i64 (cQ (ag sizes) (ag other) v:Nat)):=⟨i,m⟩
    refine au 8 (.pointer (some ⟨g,v,none⟩)) ?_;refine au 9 (.int .i64 (cQ (ag sizes) (ag other) v:Nat)) ?_
  rotate_left 2
  focus
   intro l K;go_simp;have d:c8 u1 (u1.alloc (.cells #[.nilFunc] 133)):=(aw _ u1).alloc (ar _) _;have s:Boxed (u1.alloc (.cells #[.nilFunc] 133)) u1.heap.size 133 (.nilFunc):=bh u1 _ _;(have n:u1.heap.size<(u1.alloc (.cells #[.nilFunc] 133)).heap.size:=aE);have w9:=i.size;replace i:=i.trans (d.af i.size);replace t:=bj t d;(have ne:¬y=u1.heap.size:=al);replace r:=aU r d.size;refine K.o _ _ i (fun q=>?_);clear K l d;generalize (u1.alloc (.cells #[.nilFunc] 133))=u2 at *;generalize u1.heap.size=x at *;refine aI [3] (cA ?_ aH);intro l K;go_simp;refine(HB.o _ (M.o.aa i) (O.o.aa i)).af ?_;rintro e j ⟨f,rfl,F,d⟩;obtain⟨X,rfl⟩:=F.shape;have T:=i.size;replace i:=i.trans (d.af i.size);clear q;refine K.o _ _ i (fun q=>?_);clear K l;replace s:=bj s d;have P:x<u2.heap.size∨j.heap.size<=x:=.inl n;replace n:=aU n d.size;replace t:=bj t d;have Q:y<u2.heap.size∨j.heap.size<=y:=.inl r;replace r:=aU r d.size;have iP:w.heap.size<=u2.heap.size:=T;have U:=F.top;generalize u2.heap.size=L at F T iP P Q⊢;generalize hm1:j.heap.size=D at F U P Q;rw[<- hm1] at U;(have k:D<=j.heap.size:=al);clear d hm1;refine aI [6] (cA ?_ aH);intro l K;go_simp;refine(HA.o _ (M.o.aa i) (O.o.aa i)).af ?_;rintro e A ⟨g,ct,rfl,J,z,d⟩;replace i:=i.trans (d.af i.size);replace F:=F.aa d;replace k:=aR k d.size;refine K.o _ _ i (fun ak=>?_);clear K l q
   have q:=ak;clear ak;obtain⟨g3,o3,I,R,m⟩:=z v (by rw[ba,rh];exact E);cases I;rw[yu E,bM] at m;replace s:=bj s d;(have Y:¬x=g:=al);replace n:=aU n d.size;replace t:=bj t d;(have Z:¬y=g:=al);replace r:=aU r d.size;clear d z J q;(try simp only[gE,aP]);refine wJ (S':=fun u=>Hid (c8 w u)/\u.cell? ⟨g,v,none⟩=some (.int .i64 (cQ (ag sizes) (ag other) v:Nat))) (fun _ h=>h.1) _ _ _ _ ?_;have q:Hid (c8 w A)/\A.cell? ⟨g,v,none⟩=some (.int .i64 (cQ (ag sizes) (ag other) v:Nat)):=⟨i,m⟩;refine au 8 (.pointer (some ⟨g,v,none⟩)) ?_;refine au 9 (.int .i64 (cQ (ag sizes) (ag other) v:Nat)) ?_
 all_goals
  refine aI [12] (cA ?_ aH);have c9:=s.cell;have f9:=s.frozen;intro l K;go_simp;have e9:Boxed (A.setCell ⟨x,0,none⟩ (.func (.func 225) #[] X)) x 133 (.func (.func 225) #[] X):=s.set _;have Dc:Boxed (A.setCell ⟨x,0,none⟩ (.func (.func 225) #[] X)) y 3 (.int .i64 0):=fA t x 0 _ al;replace F:=F.kept (A8.set A 0 (.func (.func 225) #[] X) k P);replace i:=afL i x 0 (.func (.func 225) #[] X) w9;replace m:(A.setCell ⟨x,0,none⟩ (.func (.func 225) #[] X)).cell? ⟨g,v,none⟩=_:=(cD _ _ _ _ (fun e=>Y (bU Addr.block e))).trans m;have lz:A.heap.size<=(A.setCell ⟨x,0,none⟩ (.func (.func 225) #[] X)).heap.size:=(jk A _ _).size;replace n:=aU n lz;replace r:=aU r lz;replace k:=aR k lz;refine K.o _ _ ⟨i,m⟩ (fun ak=>?_);clear K l q s t c9 f9 lz;have q:=ak;clear ak;generalize (A.setCell ⟨x,0,none⟩ (.func (.func 225) #[] X))=v1 at *;have ab:=Dc.cell;have ad:=Dc.frozen;refine aI [13] (cA ?_ aH);intro l K;go_simp;have x9:Boxed (v1.setCell ⟨y,0,none⟩ (.int .i64 (cQ (ag sizes) (ag other) v:Nat))) x 133 (.func (.func 225) #[] X):=fA e9 y 0 _ al;have ae:=Dc.set (.int .i64 (cQ (ag sizes) (ag other) v:Nat));replace F:=F.kept (A8.set v1 0 (.int .i64 (cQ (ag sizes) (ag other) v:Nat)) k Q);replace i:=afL i y 0 (.int .i64 (cQ (ag sizes) (ag other) v:Nat)) bQ;replace m:(v1.setCell ⟨y,0,none⟩ (.int .i64 (cQ (ag sizes) (ag other) v:Nat))).cell? ⟨g,v,none⟩=_:=(cD _ _ _ _ (fun e=>Z (bU Addr.block e))).trans m
  have lz:v1.heap.size<=(v1.setCell ⟨y,0,none⟩ (.int .i64 (cQ (ag sizes) (ag other) v:Nat))).heap.size:=(jk v1 _ _).size;replace n:=aU n lz;replace r:=aU r lz;replace k:=aR k lz;refine K.o _ _ ⟨i,m⟩ (fun _=>dC ao ?_ _);clear K l q e9 Dc ab ad lz;generalize (v1.setCell ⟨y,0,none⟩ (.int .i64 (cQ (ag sizes) (ag other) v:Nat)))=v2 at *;go_wp2;go_ret;exact⟨_,rfl,⟨x,y,_,rfl,w9,bQ,n,r,ar _,x9.cell,ae.cell,F.wider iP k (ar _)⟩,i⟩
variable {pv:Value} {V':World}
abbrev dM (f:Fr):Value:=.agg #[.bool f.1,.string f.2.1,.string f.2.2]
structure JF (w V:World) (pv:Value) (B:Nat) (n:Bool) (x y:ByteArray):Prop where
 how:Boxed V w.heap.size 207 pv
 res:aF V (w.heap.size+1) false ⟨#[]⟩ ⟨#[]⟩
 left:aF V B n x y
 aa:c8 w V
 lt:w.heap.size+1<B
theorem JF.step {V:World} {B:Nat} {n:Bool} {x y:ByteArray} (h:JF w V pv B n x y) (b:c8 V V'):JF w V' pv B n x y:=
 ⟨(b.block _ h.how.lt).trans h.how,h.res.aa b h.res.lt,h.left.aa b h.left.lt,h.aa.trans (b.af h.aa.size),h.lt⟩
theorem JF.drew {V:World} {B:Nat} {n:Bool} {x y:ByteArray} (h:JF w V pv B n x y):JF w V.drew pv B n x y:=⟨h.how,h.res,h.left,h.aa.drew,h.lt⟩
theorem JF.put {V:World} {B:Nat} {n:Bool} {x y:ByteArray} (h:JF w V pv B n x y) (n':Bool) (x' a:ByteArray):JF w (((V.setCell ⟨B,0,none⟩ (.bool n')).setCell ⟨B,1,none⟩ (.string x')).setCell ⟨B,2,none⟩ (.string a)) pv B n' x' a:=by
 have b:=h.lt;exact⟨fA (fA (fA h.how B 0 _ al) B 1 _ al) B 2 _ al,((h.res.far al _).far al _).far al _,h.left.put n' x' a,bL h.aa al _ _ _,h.lt⟩
theorem alX (f t:Nat) (j I:Array Value) (ep:∀r w,(callFunc f r).run Tryz.prog w=.ok (.enter f r) w) (et:∀r w,(callFunc t r).run Tryz.prog w=.ok (.enter t r) w) (n:Nat) (T L:Nat ->Fr) (w:World) (h1:1<=n) (hn:n<=65536)
  (X:∀k,k< n ->∀V,c8 w V ->c6 t (#[.int .i64 (k:Nat)]++I) V fun e w'=>e=.returned (dM (T k))/\c8 V w')
  (U:∀k,k+1< n ->∀V,c8 w V ->c6 f (#[dM (L k),dM (T (k+1))]++j) V fun e w'=>e=.returned (dM (L (k+1)))/\c8 V w')
  (h0:L 0=T 0):
  c6 193 #[.agg #[.func (.func f) #[] j],.int .i64 (n:Nat),.func (.func t) #[] I] w (da w (dM (L (n - 1)))):=by
 have D:=hid X;have HP:=hid U;clear X U;go_enter Tryz.func193,Tryz.ntmps193;go_wp2_with fail
 have m:c8 w ((w.alloc (.cells #[.func (.func f) #[] j] 207)).alloc (.cells #[.bool false,.string ⟨#[]⟩,.string ⟨#[]⟩] 53)):=((aw _ w).alloc (ar _) _).alloc aE _;have P:Boxed ((w.alloc (.cells #[.func (.func f) #[] j] 207)).alloc (.cells #[.bool false,.string ⟨#[]⟩,.string ⟨#[]⟩] 53)) w.heap.size 207 (.func (.func f) #[] j):=(bh w _ _).alloc _
 have u:aF ((w.alloc (.cells #[.func (.func f) #[] j] 207)).alloc (.cells #[.bool false,.string ⟨#[]⟩,.string ⟨#[]⟩] 53)) (w.heap.size+1) false ⟨#[]⟩ ⟨#[]⟩:=by
  have h:=aF.new (w.alloc (.cells #[.func (.func f) #[] j] 207)) false ⟨#[]⟩ ⟨#[]⟩;rwa [cU] at h
 have ae:((w.alloc (.cells #[.func (.func f) #[] j] 207)).alloc (.cells #[.bool false,.string ⟨#[]⟩,.string ⟨#[]⟩] 53)).heap.size=w.heap.size+1+1:=aE
 generalize ((w.alloc (.cells #[.func (.func f) #[] j] 207)).alloc (.cells #[.bool false,.string ⟨#[]⟩,.string ⟨#[]⟩] 53))=W at *;have SX:=hid h0;refine(D.o 0 al _ m).af ?_;rcases JL:T 0 with ⟨x,y,z⟩;rintro e l ⟨rfl,g⟩;rw[JL] at h0;have M:=hid h0;clear h0 JL SX;have ad:=g.size;have Q:=(bj P g);have R:=u.aa g u.lt;have v:=m.trans (g.af m.size);go_wp2_with fail
 have O:Hid (JF w (l.alloc (.cells #[.bool x,.string y,.string z] 53)) (.func (.func f) #[] j) l.heap.size x y z):=⟨Q.alloc _,R.alloc _,aF.new l x y z,v.alloc v.size _,al⟩;generalize l.heap.size=B at *;clear P u m ae g ad Q R v;go_loopw [13] (fun iv wr=>∃i:Nat,i+1<=n/\iv=.int .i64 i/\Hid (JF w wr (.func (.func f) #[] j) B (L i).1 (L i).2.1 (L i).2.2)) (fun iv _=>n - (intOf iv).toNat)
 case atStart=>exact⟨0,h1,rfl,by rw[M.o];exact O⟩
 case round=>
  obtain⟨i,hi,rfl,H⟩:=hrel;clear O M;by_cases Y:i+1<n
  ·have s:=D.o (i+1) Y;have d:=HP.o i Y;rw[Int.natCast_succ] at s;rcases hL:L i with ⟨ni,xi,yi⟩;rcases hT:T (i+1) with ⟨nt,xt,yt⟩;rcases Xe:L (i+1) with ⟨nl,xl,yl⟩;rw[hL] at H d;rw[hT] at s d;rw[Xe] at d;have E:=hid s;have sN:=hid d;have nT:=hid Xe;clear s d hL hT Xe;have J:=H.o;simp only at J;obtain⟨k0,k1,k2,f0,f1,f2⟩:=J.left.facts;have b:=J.drew;(have aj:IntKind.i64.wrap ((i:Int)+1)=(i:Int)+1:=by rw[dE];omega);go_upto_region 5 with fail
   refine iu (S:=fun V=>V.cell? ⟨w.heap.size,0,none⟩=some (.func (.func f) #[] j)) ao b.how.cell (fun q=>?_);have d0:=b.left.c0;have d1:=b.left.c1;have d2:=b.left.c2;refine au 0 (.pointer (some ⟨w.heap.size,0,none⟩)) ?_;refine au 1 (.func (.func f) #[] j) ?_;refine au 3 (.func (.func t) #[] I) ?_;refine au 4 (.int .i64 (i:Nat)) ?_;refine au 5 (.int .i64 ((i:Int)+1)) ?_;refine aI [2,6] (cA ?_ (cA ?_ aH))
   focus
    intro a K;go_simp;clear q;refine K.o _ _ b.how.cell (fun q=>?_);clear K a;refine aI [6] (cA ?_ aH);intro a K;go_simp;refine(E.o _ b.aa).af ?_;rintro e w2 ⟨rfl,A⟩;have c:=b.step A;obtain⟨e0,e1,e2,_,_,_⟩:=c.left.facts
   rotate_left
   focus
    intro a K;go_simp;refine(E.o _ b.aa).af ?_;rintro e w2 ⟨rfl,A⟩;have c:=b.step A;obtain⟨e0,e1,e2,_,_,_⟩:=c.left.facts;clear q;refine K.o _ _ c.how.cell (fun q=>?_);clear K a;refine aI [2] (cA ?_ aH);intro a K;go_simp
   all_goals
    clear q;refine K.o _ _ c.how.cell (fun q=>?_);clear K a;refine aI [7] (cA ?_ aH);intro a K;go_simp;refine(sN.o _ c.aa).af ?_;rintro e w3 ⟨rfl,ab⟩;have p:=c.step ab;clear q;refine K.o _ _ p.how.cell (fun q=>?_);clear K a;obtain⟨q0,q1,q2,p0,p1,p2⟩:=p.left.facts;refine aI [8] (cA ?_ aH);intro a K;go_simp;have F:=p.put nl xl yl;refine K.o _ _ F.how.cell (fun _=>dC ao ?_ _);clear K a q;go_wp2;go_roundw
    case rel=>exact⟨i+1,al,by rw[Int.natCast_succ],by rw[nT.o];exact F⟩
    case measure=>simp[intOf];omega
  ·have ai:i+1=n:=al
   (have Z:Hid (L (n - 1)=L i):=by show _=_;rw[show n - 1=i by omega]);have J:=H.o;obtain⟨k0,k1,k2,f0,f1,f2⟩:=J.left.facts;obtain⟨r0,r1,r2,t0,t1,t2⟩:=J.res.facts;go_wp2;refine bD ((J.res.put _ _ _).result rfl _ rfl) rfl ?_;exact⟨by rw[Z.o],bL J.aa al _ _ _⟩
abbrev aW (f:Fr):Rat:=val f.1 f.2.1 f.2.2
def great (f g:Fr):Fr:=if c5 (aW f) (aW g)<0 then g else f
theorem anF (f g:Fr) (w:World) (t:f.2.1.size+f.2.2.size<=100000) (z:g.2.1.size+g.2.2.size<=100000):
  c6 226 #[dM f,dM g] w (da w (dM (great f g))):=by
 obtain⟨n,x,y⟩:=f;obtain⟨m,u,v⟩:=g;have p:=hid (fun V:World=>RD (w:=V) (c5 (val n x y) (val m u v)) rfl rfl rfl t z);have H:Hid (great (n,x,y) (m,u,v)=if c5 (val n x y) (val m u v)<0 then(m,u,v) else(n,x,y)):=rfl;generalize great (n,x,y) (m,u,v)=r at *;generalize c5 (val n x y) (val m u v)=k at *;have a:aF (((w.alloc (FC n x y)).alloc (FC m u v)).alloc (FC false ⟨#[]⟩ ⟨#[]⟩)) w.heap.size n x y:=((aF.new w n x y).alloc _).alloc _;have c:aF (((w.alloc (FC n x y)).alloc (FC m u v)).alloc (FC false ⟨#[]⟩ ⟨#[]⟩)) (w.heap.size+1) m u v:=(aF.at (w:=w.alloc (FC n x y)) aE m u v).alloc _;have d:aF (((w.alloc (FC n x y)).alloc (FC m u v)).alloc (FC false ⟨#[]⟩ ⟨#[]⟩)) (w.heap.size+1+1) false ⟨#[]⟩ ⟨#[]⟩:=aF.at (w:=(w.alloc (FC n x y)).alloc (FC m u v)) aE false ⟨#[]⟩ ⟨#[]⟩;have i:c8 w (((w.alloc (FC n x y)).alloc (FC m u v)).alloc (FC false ⟨#[]⟩ ⟨#[]⟩)):=(((aw _ w).alloc (ar _) _).alloc aE _).alloc (by simp;omega) _;go_enter Tryz.func226,Tryz.ntmps226;go_wp2_with fail
 generalize (((w.alloc (FC n x y)).alloc (FC m u v)).alloc (FC false ⟨#[]⟩ ⟨#[]⟩))=W at a c d i⊢;refine(p.o _).af ?_;rintro e w1 ⟨rfl,b⟩;have q:=a.aa b a.lt;have s:=c.aa b c.lt;have h:=d.aa b d.lt;have j:=i.trans (b.af i.size);obtain⟨T,U,X,A,D,E⟩:=q.facts;obtain⟨P,Q,S,K,L,M⟩:=s.facts;obtain⟨Y,Z,l2,F,I,J⟩:=h.facts;by_cases l:k<0
 ·have R:Hid (r=(m,u,v)):=by show _=_;rw[H.o,aA l]
  clear H;go_wp2;refine bD ((h.put _ _ _).result rfl _ rfl) rfl ?_;exact⟨by rw[R.o],bL j al _ _ _⟩
 ·have R:Hid (r=(n,x,y)):=by show _=_;rw[H.o,aB l]
  have O:0<=k:=al
  clear H;go_wp2;refine bD ((h.put _ _ _).result rfl _ rfl) rfl ?_;exact⟨by rw[R.o],bL j al _ _ _⟩
theorem aaD (w:World):c6 190 #[] w (da w (.agg #[.func (.func 127) #[] #[]])):=by
 go_enter Tryz.func190,Tryz.ntmps190;go_wp2;refine bD (FY rfl _ _ w.heap.size _ _ _ _ rfl (bh w _ _) Tryz.underlying207 rfl ao) rfl ?_;exact⟨rfl,(aw _ w).alloc (ar _) _⟩
theorem anE (w:World):c6 191 #[] w (da w (.agg #[.func (.func 226) #[] #[]])):=by
 go_enter Tryz.func191,Tryz.ntmps191;go_wp2;refine bD (FY rfl _ _ w.heap.size _ _ _ _ rfl (bh w _ _) Tryz.underlying207 rfl ao) rfl ?_;exact⟨rfl,(aw _ w).alloc (ar _) _⟩
structure JI (w V:World) (pv:Value):Prop where
 how:Boxed V w.heap.size 131 pv
 aa:c8 w V
theorem JI.step {V:World} (h:JI w V pv) (b:c8 V V'):JI w V' pv:=⟨(b.block _ h.how.lt).trans h.how,h.aa.trans (b.af h.aa.size)⟩
theorem JI.drew {V:World} (h:JI w V pv):JI w V.drew pv:=⟨h.how,h.aa.drew⟩
theorem JI.of {V:World} (h:JI w V pv):V.cell? ⟨w.heap.size,0,none⟩=some pv/\Hid (JI w V pv):=⟨h.how.cell,h⟩
theorem alW (f t:Nat) (j I:Array Value) (x:∀a w,(callFunc f a).run Tryz.prog w=.ok (.enter f a) w) (z:∀a w,(callFunc t a).run Tryz.prog w=.ok (.enter t a) w) (n:Nat) (T L:Nat ->Nat) (w:World) (h1:1<=n) (D:n<=65536)
  (l:∀k,k< n ->∀V,c8 w V ->c6 t (#[.int .i64 (k:Nat)]++I) V fun e w'=>e=.returned (.int .i64 (T k:Nat))/\c8 V w')
  (p:∀k,k+1< n ->∀V,c8 w V ->c6 f (#[.int .i64 (L k:Nat),.int .i64 (T (k+1):Nat)]++j) V fun e w'=>e=.returned (.int .i64 (L (k+1):Nat))/\c8 V w')
  (h0:L 0=T 0):
  c6 94 #[.agg #[.func (.func f) #[] j],.int .i64 (n:Nat),.func (.func t) #[] I] w (da w (.int .i64 (L (n - 1):Nat))):=by
 have c:=hid l;have P:=hid p;have S:=hid h0;clear l p h0;go_enter Tryz.func94,Tryz.ntmps94;go_wp2_with fail
 have h:JI w (w.alloc (.cells #[.func (.func f) #[] j] 131)) (.func (.func f) #[] j):=⟨bh w _ _,(aw _ w).alloc (ar _) _⟩;generalize (w.alloc (.cells #[.func (.func f) #[] j] 131))=W at h⊢;refine(c.o 0 al _ h.aa).af ?_;rintro e F ⟨rfl,m⟩;have O:=hid (h.step m);clear h m;go_wp2_with fail
 go_loopw [7,13] (fun lv iv wr=>∃i:Nat,i+1<=n/\iv=.int .i64 i/\lv=.int .i64 (L i:Nat)/\Hid (JI w wr (.func (.func f) #[] j))) (fun _ iv _=>n - (intOf iv).toNat)
 case atStart=>exact⟨0,h1,rfl,by rw[S.o],O⟩
 case round=>
  obtain⟨i,A,rfl,rfl,H⟩:=hrel;clear O S;by_cases q:i+1<n
  ·have s:=c.o (i+1) q;have r:=hid (P.o i q);rw[Int.natCast_succ] at s;have y:=hid s;clear s;have b:=H.o.drew;(have Q:IntKind.i64.wrap ((i:Int)+1)=(i:Int)+1:=by rw[dE];omega);go_upto_region 5 with fail
   go_region_held3 (fun V=>V.cell? ⟨w.heap.size,0,none⟩=some (.func (.func f) #[] j)/\Hid (JI w V (.func (.func f) #[] j)))
    (first |exact d.of |exact J.of |exact b.of)
    (first
     |(have g:=J;refine(r.o _ g.aa).af ?_;rintro e M ⟨rfl,v⟩;have d:=g.step v)
     |(refine(y.o _ b.aa).af ?_;rintro e K ⟨rfl,u⟩;have J:=b.step u))
   go_wp2;go_roundw
   case rel=>exact⟨i+1,al,by rw[Int.natCast_succ],rfl,d⟩
   case measure=>simp[intOf];omega
  ·have E:Hid (L (n - 1)=L i):=by show _=_;rw[show n - 1=i by omega]
   go_wp2;go_ret;exact⟨by rw[E.o];rfl,H.o.aa⟩
variable {j:Nat}
theorem apW (k:Int) (w:World):c6 96 #[.int .i64 k] w (da w (.int .i64 k)):=by
 go_enter Tryz.func96,Tryz.ntmps96;go_wp2;go_ret;exact⟨rfl,aw _ _⟩
theorem aek {u:World} {c o:Nat} {n m:Bool} {p q r s:ByteArray} (b:c8 w u) (v:c<w.heap.size) (a:g<w.heap.size) (h:w.cell? ⟨c,0,none⟩=some x)
  (d:w.cell? ⟨g,o+j*3,none⟩=some (.bool n)) (e:w.cell? ⟨g,o+j*3+1,none⟩=some (.string p)) (f:w.cell? ⟨g,o+j*3+2,none⟩=some (.string q)) (i:w.cell? ⟨g,o+k*3,none⟩=some (.bool m)) (l:w.cell? ⟨g,o+k*3+1,none⟩=some (.string r)) (t:w.cell? ⟨g,o+k*3+2,none⟩=some (.string s)):
  (u.cell? ⟨c,0,none⟩=some x/\u.cell? ⟨g,o+j*3,none⟩=some (.bool n)/\u.cell? ⟨g,o+j*3+1,none⟩=some (.string p)/\u.cell? ⟨g,o+j*3+2,none⟩=some (.string q)/\u.cell? ⟨g,o+k*3,none⟩=some (.bool m)/\u.cell? ⟨g,o+k*3+1,none⟩=some (.string r)/\u.cell? ⟨g,o+k*3+2,none⟩=some (.string s))/\Hid (c8 w u):=
 ⟨⟨(b.cell (p:=⟨c,0,none⟩) v).trans h,(b.cell (p:=⟨g,_,none⟩) a).trans d,(b.cell (p:=⟨g,_,none⟩) a).trans e,(b.cell (p:=⟨g,_,none⟩) a).trans f,(b.cell (p:=⟨g,_,none⟩) a).trans i,(b.cell (p:=⟨g,_,none⟩) a).trans l,(b.cell (p:=⟨g,_,none⟩) a).trans t⟩,b⟩
theorem aoq (b:Nat) (a:Option Addr) (ca:Nat) (l:List Fr) (j k:Nat) (Q:j<l.length) (S:k<l.length) (w:World) (O:b<w.heap.size) (M:w.cell? ⟨b,0,none⟩=some (.slice a l.length ca)) (z:cG w a l) (K:l[j].2.1.size+l[j].2.2.size<=100000) (L:l[k].2.1.size+l[k].2.2.size<=100000):
  c6 144 #[.int .i64 (j:Nat),.int .i64 (k:Nat),.pointer (some ⟨b,0,none⟩)] w (da w (.int .i64 (if c5 (aW l[j]) (aW l[k])<0 then(k:Int) else(j:Int)))):=by
 obtain⟨g,o,rfl,J,d,h,i⟩:=z j Q;obtain⟨g',o',e,_,t,v,x⟩:=z k S;cases e;have F:=hid (fun V:World=>RD (w:=V) (c5 (aW l[j]) (aW l[k])) rfl rfl rfl K L);generalize c5 (aW l[j]) (aW l[k])=c at *;clear z K L;obtain⟨R,y⟩:∃R:Int,R=if c<0 then(k:Int) else(j:Int):=⟨_,rfl⟩;rw[<- y];have H:=hid y;clear y;generalize l[j]=f at *;generalize l[k]=P at *;obtain⟨n,p,q⟩:=f;obtain⟨m,r,s⟩:=P;simp only at d h i t v x F;have A:c8 w w.drew:=(aw w.heap.size w).drew;go_enter Tryz.func144,Tryz.ntmps144;go_upto_region 1 with fail
 go_region_held3 (fun u=>(u.cell? ⟨b,0,none⟩=some (.slice (some ⟨g,o,none⟩) l.length ca)/\u.cell? ⟨g,o+j*3,none⟩=some (.bool n)/\u.cell? ⟨g,o+j*3+1,none⟩=some (.string p)/\u.cell? ⟨g,o+j*3+2,none⟩=some (.string q)/\u.cell? ⟨g,o+k*3,none⟩=some (.bool m)/\u.cell? ⟨g,o+k*3+1,none⟩=some (.string r)/\u.cell? ⟨g,o+k*3+2,none⟩=some (.string s))/\Hid (c8 w u))
  (first |exact aek D O J M d h i t v x |exact aek A O J M d h i t v x)
  (first
   |(go_at_call 56;refine(F.o _).af ?_;rintro e U ⟨rfl,T⟩;have D:=A.trans (T.af A.size)))
 by_cases I:c<0
 ·have E:Hid (R=(k:Int)):=by show _=_;rw[H.o,aA I]
  clear H;go_wp2;go_ret;exact⟨by rw[E.o];rfl,D⟩
 ·have X:0<=c:=al
  have E:Hid (R=(j:Int)):=by show _=_;rw[H.o,aB I]
  clear H;go_wp2;go_ret;exact⟨by rw[E.o];rfl,D⟩
theorem aop (a:Option Addr) (l ca:Nat) (w:World):
  c6 95 #[.slice a l ca] w fun e w'=>e=.returned (.agg #[.func (.func 144) #[] #[.pointer (some ⟨w.heap.size,0,none⟩)]])/\w.heap.size<w'.heap.size/\w'.cell? ⟨w.heap.size,0,none⟩=some (.slice a l ca)/\c8 w w':=by
 go_enter Tryz.func95,Tryz.ntmps95;go_wp2
 have x:Boxed ((w.alloc (.cells #[.slice a l ca] 49)).alloc (.cells #[.func (.func 144) #[] #[.pointer (some ⟨w.heap.size,0,none⟩)]] 131)) (w.heap.size+1) 131 (.func (.func 144) #[] #[.pointer (some ⟨w.heap.size,0,none⟩)]):=by
  have h:=bh (w.alloc (.cells #[.slice a l ca] 49)) 131 (.func (.func 144) #[] #[.pointer (some ⟨w.heap.size,0,none⟩)]);rwa [cU] at h
 refine bD (FY rfl _ _ (w.heap.size+1) _ _ _ _ rfl x Tryz.underlying131 rfl ao) rfl ?_;exact⟨rfl,by simp;omega,((bh w 49 (.slice a l ca)).alloc _).cell,((aw _ w).alloc (ar _) _).alloc aE _⟩
def kg:List Fr ->List Value
 |[]=>[]
 |f::l=>.bool f.1::.string f.2.1::.string f.2.2::kg l
theorem M4:∀l:List Fr,(kg l).length=3*l.length
 |[]=>rfl
 |f::l=>by simp only[kg,eA,M4 l];omega
theorem M5:∀(l:List Fr) (k:Nat) (h:k<l.length),(kg l)[k*3]? =some (.bool l[k].1)/\(kg l)[k*3+1]? =some (.string l[k].2.1)/\(kg l)[k*3+2]? =some (.string l[k].2.2)
 |[],_,h=>absurd h aE
 |f::l,0,_=>⟨rfl,rfl,rfl⟩
 |f::l,k+1,h=>by
  have a:k<l.length:=by simpa using h
  obtain⟨b,c,d⟩:=M5 l k a;have e:(k+1)*3=k*3+1+1+1:=al
  refine⟨?_,?_,?_⟩
  ·rw[e];exact b
  ·rw[show (k+1)*3+1=(k*3+1)+1+1+1 by omega];exact c
  ·rw[show (k+1)*3+2=(k*3+2)+1+1+1 by omega];exact d
theorem XF:∀(l:List Fr) (k:Nat) (f:Fr),(((kg l).set (k*3) (.bool f.1)).set (k*3+1) (.string f.2.1)).set (k*3+2) (.string f.2.2)=kg (l.set k f)
 |[],k,f=>by simp[kg]
 |x::l,0,f=>by simp[kg]
 |x::l,k+1,f=>by
  rw[show (k+1)*3=k*3+1+1+1 by omega,show k*3+1+1+1+1=(k*3+1)+1+1+1 by omega,show k*3+1+1+1+2=(k*3+2)+1+1+1 by omega];simp only[kg,List.set_cons_succ,XF l k f]
def kD (w:World) (g:Nat) (l:List Fr):Prop:=w.heap[g]? =some (.cells (kg l).toArray 53 (0,0))
theorem kD.lt {l:List Fr} (h:kD w g l):g<w.heap.size:=(dS.1 h).1
theorem kD.fz {l:List Fr} (h:kD w g l) (j:Nat):w.frozen? ⟨g,j,none⟩=false:=lr w g j _ _ h
theorem kD.aa {b:Nat} {l:List Fr} (h:kD w g l) (a:Below b w w') (c:g<b):kD w' g l:=(a.block g c).trans h
theorem kD.cells {l:List Fr} (h:kD w g l) (k:Nat) (a:k<l.length):w.cell? ⟨g,k*3,none⟩=some (.bool l[k].1)/\w.cell? ⟨g,k*3+1,none⟩=some (.string l[k].2.1)/\w.cell? ⟨g,k*3+2,none⟩=some (.string l[k].2.2):=by
 obtain⟨b,c,d⟩:=M5 l k a;refine⟨?_,?_,?_⟩<;>rw[bZ w g _ _ _ (0,0) h]<;>simpa using b5
theorem kD.fr {l:List Fr} (h:kD w g l):cG w (some ⟨g,0,none⟩) l:=fun k d=>by
 obtain⟨a,b,c⟩:=h.cells k d;refine⟨g,0,rfl,h.lt,?_,?_,?_⟩
 ·rw[bM];exact a
 ·rw[bM];exact b
 ·rw[bM];exact c
theorem kD.put {l:List Fr} (h:kD w g l) (k:Nat) (f:Fr):kD (((w.setCell ⟨g,k*3,none⟩ (.bool f.1)).setCell ⟨g,k*3+1,none⟩ (.string f.2.1)).setCell ⟨g,k*3+2,none⟩ (.string f.2.2)) g (l.set k f):=by
 have a:=kM w g (k*3) _ _ (.bool f.1) h;have b:=kM _ g (k*3+1) _ _ (.string f.2.1) a;have c:=kM _ g (k*3+2) _ _ (.string f.2.2) b;rw[kD,c, <- XF];simp
variable {xs:List Value} {base:Nat}
def AZ:Fr:=(false,⟨#[]⟩,⟨#[]⟩)
def tk (l:List Fr) (i:Nat):List Fr:=l.take i++List.replicate (l.length - i) AZ
theorem acb (l:List Fr):tk l 0=List.replicate l.length AZ:=by simp[tk]
theorem Uu (l:List Fr) (h:i<=l.length):(tk l i).length=l.length:=by simp[tk];omega
theorem ace (l:List Fr):tk l l.length=l:=by simp[tk]
theorem acd (l:List Fr) (h:i<l.length):(tk l i).set i l[i]=tk l (i+1):=by
 rw[tk,tk,F7 _ _ (by simp;omega),fL h];have e:l.length - i=(l.length - (i+1))+1:=al
 rw[e,KT,eX,wE al,rZ,F6,sX];rfl
theorem Tryz.infoFrac:(Tryz.prog.info? 53).map (fun i=>(i.zero,i.size,i.bytes))=some (some (.agg #[.bool false,.string ⟨#[]⟩,.string ⟨#[]⟩]),3,40):=ao
theorem bs.put {u v:Value} (h:bs w g u v) (x y:Value):bs ((w.setCell ⟨g,0,none⟩ x).setCell ⟨g,1,none⟩ y) g x y:=by
 have a:=kM w g 0 _ _ x h;have b:=kM _ g 1 _ _ y a;exact b
theorem kD.off {l:List Fr} (h:kD w g l) (b j:Nat) (y:Value) (e:g≠b):kD (w.setCell ⟨b,j,none⟩ y) g l:=(iJ w ⟨b,j,none⟩ y g e).trans h
theorem afI {t:TypeId} (h:w.ownsRow base t 3 (.slice (some ⟨g,0,none⟩) n n) n xs):w.heap[g]? =some (.cells xs.toArray t (0,0)):=by
 rcases h.2 with ⟨a,_⟩ |⟨g',p,c,a,_,b,E,_,s,m⟩
 ·cases a
 ·cases a;rw[b, <- m,jA (by simp;omega)]
theorem aeX:∀(n j:Nat),j<3*n ->(kg (List.replicate n AZ))[j]? =some (#[Value.bool false,Value.string ⟨#[]⟩,Value.string ⟨#[]⟩][j % 3]!)
 |0,j,h=>al
 |n+1,0,_=>rfl
 |n+1,1,_=>rfl
 |n+1,2,_=>rfl
 |n+1,j+3,h=>by
  rw[show (j+3) % 3=j % 3 by omega,KT];exact aeX n j al
theorem adh (n:Nat):(madeCells (Value.agg #[Value.bool false,Value.string ⟨#[]⟩,Value.string ⟨#[]⟩]).cells (n*3)).toList=kg (List.replicate n AZ):=by
 apply IQ;intro j;by_cases h:j<3*n
 ·rw[aeX n j h,madeCells];have a:j<n*3:=al
  simp[a,Value.cells]
 ·rw[iV (by rw[Ae,size_madeCells];omega),iV (by rw[M4,IM];omega)]
theorem Na (a b:Option Addr) (ca cb:Nat) (sizes vars:List Int) (F:Nat) (lb:Array Value) (eF:∀ae w,(callFunc F ae).run Tryz.prog w=.ok (.enter F ae) w) (l:List Fr) (w:World) (S:az w a sizes) (X:az w b vars) (M:eW sizes) (s:Up vars sizes.length) (Q:l.length=cnt (ag sizes) (ag vars))
  (U:∀k (h:k<l.length),∀V,c8 w V ->c6 F (#[.int .i64 (k:Nat)]++lb) V fun e w'=>e=.returned (dM l[k])/\c8 V w'):
  c6 84 #[.slice a sizes.length ca,.slice b vars.length cb,.func (.func F) #[] lb] w fun e w'=>∃g:Nat,e=.returned (.agg #[.slice b vars.length cb,.slice (some ⟨g,0,none⟩) l.length l.length])/\w.heap.size<=g/\kD w' g l/\c8 w w':=by
 obtain⟨i0,b6,av,ax,ay⟩:=dW Tryz.infoFrac;have HS:=hid S;have HV:=hid X;have HT:=hid U;have D:=hid (fun V h1 h2=>afs a b ca cb sizes vars V h1 h2 M s);have oO:=M.eight;have i6:=s.length;have aq:cnt (ag sizes) (ag vars)<=65536:=qL M.sz_le (by rw[cV];omega);rw[<- Q] at aq D;clear S X U Q M s;go_enter Tryz.func84,Tryz.ntmps84;go_wp2_with fail
 have t:(w.alloc (.cells #[.slice none 0 0,.slice none 0 0] 58)).heap[w.heap.size]? =some (.cells #[.slice none 0 0,.slice none 0 0] 58 (0,0)):=jg _ _;have d:c8 w (w.alloc (.cells #[.slice none 0 0,.slice none 0 0] 58)):=(aw _ w).alloc (ar _) _;have ad:(w.alloc (.cells #[.slice none 0 0,.slice none 0 0] 58)).heap.size=w.heap.size+1:=aE
 generalize (w.alloc (.cells #[.slice none 0 0,.slice none 0 0] 58))=W at t d ad⊢;refine(D.o _ (HS.o.aa d) (HV.o.aa d)).af ?_;rintro e c ⟨rfl,q⟩;have an:=q.size;have J:c.heap[w.heap.size]? =some (.cells #[.slice none 0 0,.slice none 0 0] 58 (0,0)):=(q.block _ al).trans t;have u:=d.trans (q.af d.size)
 go_wp2_with (first
  |(at_make;refine nY _ rfl _ _ 49 rfl c.heap.size 53 i0 (.agg #[.bool false,.string ⟨#[]⟩,.string ⟨#[]⟩]) 3 Tryz.underlying49 b6 av ax .i64 .i64 _ _ l.length rfl rfl bd bd (by rw[ay];omega) (by unfold maxLen;omega) (ar _) ?_;intro n ai aj))
 have A:=afI ai;rw[adh] at A;have O:Hid (kD n c.heap.size (List.replicate l.length AZ)):=A;have v:c8 c n:=(aw _ c).grown aj (ar _) (fun k e=>by cases e);have K:n.heap[w.heap.size]? =some (.cells #[.slice none 0 0,.slice none 0 0] 58 (0,0)):=(v.block _ al).trans J;have I:=hid (u.trans (v.af u.size));have Md:w.heap.size+1<=c.heap.size:=al
 generalize c.heap.size=G at *;clear ai aj A v J t d q u an ad;have Y:Hid (bs n w.heap.size (.slice none 0 0) (.slice none 0 0)):=K;clear K;go_wp2_with fail
 go_loopw [15] (fun iv wr=>∃i:Nat,i<=l.length/\iv=.int .i64 i/\Hid (kD wr G (tk l i))/\Hid (bs wr w.heap.size (.slice none 0 0) (.slice none 0 0))/\Hid (c8 w wr)) (fun iv _=>l.length - (intOf iv).toNat)
 case atStart=>exact⟨0,aS _,rfl,by rw[acb];exact O,Y,I⟩
 case round=>
  obtain⟨i,hi,rfl,R,H,m⟩:=hrel;clear O Y I;by_cases ab:i<l.length
  ·have ak:=hid (acd l ab);have E:=hid (HT.o i ab);have aG:=Uu l hi;generalize l[i]=f at *;obtain⟨fn,x,y⟩:=f;go_wp2_with fail
   refine(E.o _ m.o).af ?_;rintro e w3 ⟨rfl,r⟩;have j:=R.o.aa r R.o.lt;have Z:bs w3 w.heap.size (.slice none 0 0) (.slice none 0 0):=(r.block _ (dS.1 H.o).1).trans H.o;have L:=m.o.trans (r.af m.o.size);obtain⟨k0,k1,k2⟩:=j.cells i al;have f0:=j.fz (i*3);have f1:=j.fz (i*3+1);have f2:=j.fz (i*3+2);generalize (tk l i)[i]=z at *;obtain⟨zn,zx,zy⟩:=z;simp only at k0 k1 k2;have P:=hid (j.put i (fn,x,y));rw[ak.o] at P;have Sg:Hid (bs (((w3.setCell ⟨G,i*3,none⟩ (.bool fn)).setCell ⟨G,i*3+1,none⟩ (.string x)).setCell ⟨G,i*3+2,none⟩ (.string y)) w.heap.size (.slice none 0 0) (.slice none 0 0)):=(iJ _ ⟨G,i*3+2,none⟩ _ w.heap.size (by show w.heap.size≠G;omega)).trans ((iJ _ ⟨G,i*3+1,none⟩ _ w.heap.size (by show w.heap.size≠G;omega)).trans ((iJ _ ⟨G,i*3,none⟩ _ w.heap.size (by show w.heap.size≠G;omega)).trans Z));have sS:=hid (((L.setCell (p:=⟨G,i*3,none⟩) (by show w.heap.size<=G;omega) (.bool fn)).setCell (p:=⟨G,i*3+1,none⟩) (by show w.heap.size<=G;omega) (.string x)).setCell (p:=⟨G,i*3+2,none⟩) (by show w.heap.size<=G;omega) (.string y));clear j Z L r E;go_wp2;go_roundw
   case rel=>exact⟨i+1,al,bd,P,Sg,sS⟩
   case measure=>simp[intOf];omega
  ·obtain rfl:i=l.length:=al
   have T:=R.o;rw[ace] at T;obtain⟨t0,t1⟩:wr.cell? ⟨w.heap.size,0,none⟩=some (.slice none 0 0)/\wr.cell? ⟨w.heap.size,1,none⟩=some (.slice none 0 0):=⟨H.o.c0,H.o.c1⟩;have g0:wr.frozen? ⟨w.heap.size,0,none⟩=false:=lr wr w.heap.size 0 _ _ H.o;have g1:wr.frozen? ⟨w.heap.size,1,none⟩=false:=lr wr w.heap.size 1 _ _ H.o;go_wp2;refine bD (FY rfl _ _ w.heap.size _ _ _ _ rfl (H.o.put _ _) Tryz.underlying58 rfl ao) rfl ?_;exact⟨G,rfl,al,(T.off _ 0 _ al).off _ 1 _ al,(m.o.setCell (p:=⟨w.heap.size,0,none⟩) (ar _) _).setCell (p:=⟨w.heap.size,1,none⟩) (ar _) _⟩
variable {vs:List Nat}
theorem J6:∀ {vs:List Nat} {k i:Nat},vs.Nodup ->(h:i<vs.length) ->(bX S vs k)[i]? =some (aT S vs k vs[i])
 |[],_,_,_,h=>absurd h aE
 |u::vs,k,0,_,_=>by simp[bX,aT]
 |u::vs,k,i+1,hn,h=>by
  rw[q7] at hn;have a:i<vs.length:=by simpa using h
  have e:¬vs[i]=u:=fun e=>hn.1 (by rw[<- e];exact bB a);rw[bX,List.getElem?_cons_succ,J6 hn.2 a,List.getElem_cons_succ,aT,aB e]
def rk (n:Nat) (f:Nat ->Nat):List Nat:=(List.range n).map f
theorem Gg (n:Nat) (f:Nat ->Nat):(rk n f).length=n:=by simp[rk]
theorem TW (h:v<n):(rk n f)[v]? =some (f v):=by simp[rk,h]
theorem ah1 {g:Nat ->Nat} (h:∀v,v< n ->f v=g v):rk n f=rk n g:=wG fun v a=>h v (bJ.1 a)
theorem ah0 (v x:Nat):(rk n f).set v x=rk n (aV f v x):=by
 apply IQ;intro u;rw[List.getElem?_set];by_cases a:u<n
 ·rw[TW a,TW a,aV,Gg];by_cases e:v=u
  ·subst e;rw[aA rfl,aA a,aA rfl]
  ·rw[aB e,aB (fun h=>e h.symm)]
 ·rw[iV (by rw[Gg];omega),iV (by rw[Gg];omega),Gg];by_cases e:v=u
  ·rw[aA e,aB al]
  ·rw[aB e]
theorem Ur (S:List Nat) (f:Nat ->Nat) (h:i<vs.length):pos S f (vs.take (i+1))=pos S f (vs.take i)*sz S vs[i]+f vs[i]:=by
 rw[fL h,ajw]
theorem ag1 {x:Nat} (h:∀u,f u<sz S u) (a:x<sz S v) (u:Nat):aV f v x u<sz S u:=by
 rw[aV];by_cases e:u=v
 ·rw[aA e,e];exact a
 ·rw[aB e];exact h u
theorem aiL (n:Nat):(List.range n).Pairwise (·<·):=List.pairwise_lt_range
def qF (q:Rat):Fr:=(aJ q,nu q,de q)
theorem M3 (q:Rat):dM (qF q)=.agg #[.bool (aJ q),.string (nu q),.string (de q)]:=rfl
theorem qJ (q:Rat):aW (qF q)=q:=gg q
def bG (l:List Fr) (k:Nat):Fr:=l[k]?.getD AZ
theorem qM {l:List Fr} (h:k<l.length):bG l k=l[k]:=by rw[bG,List.getElem?_eq_getElem h];rfl
theorem apK {l:List Fr} (h:k<l.length):(bG l k).2.1.size+(bG l k).2.2.size+2<=fw l:=by rw[qM h];exact Rw (bB h)
def ig (l:List Fr):Nat ->Nat
 |0=>0
 |k+1=>if c5 (aW (bG l (ig l k))) (aW (bG l (k+1)))<0 then k+1 else ig l k
theorem J5 (l:List Fr):∀k,ig l k<=k
 |0=>ar _
 |k+1=>by
  have:=J5 l k;rw[ig];by_cases h:c5 (aW (bG l (ig l k))) (aW (bG l (k+1)))<0
  ·rw[aA h];omega
  ·rw[aB h];omega
def iZ (l:List Fr):List Fr:=l.map fun f=>qF (aW f*(1/aX l))
def y5 (S vars rest:List Nat) (v x:Nat) (l:List Fr):List Fr:=(List.range (cnt S rest)).map fun K=>qF (aW (bG l (pos S (aV (aT S rest K) v x) vars)))
def mn (most:Bool) (T:Nat ->Fr):Nat ->Fr
 |0=>T 0
 |k+1=>if most then great (mn most T k) (T (k+1)) else qF (aW (mn most T k)+aW (T (k+1)))
def sk (S vars rest:List Nat) (v:Nat) (most:Bool) (l:List Fr):List Fr:=(List.range (cnt S rest)).map fun K=>qF (aW (mn most (fun x=>bG l (pos S (aV (aT S rest K) v x) vars)) (sz S v - 1)))
def wL (S va vb U:List Nat) (la lb:List Fr):List Fr:=(List.range (cnt S U)).map fun K=>qF (aW (bG la (pos S (aT S U K) va))*aW (bG lb (pos S (aT S U K) vb)))
def bC (l:List Int) (v:Int):List Int:=l.filter fun u=>!(u==v)
def Cw (m:Nat) (l:List Fr):Prop:=∀k,k<l.length ->(bG l k).2.1.size+(bG l k).2.2.size+2<=m
theorem Cw.up {l:List Fr} (h:Cw m l) (b:m<=n):Cw n l:=fun k a=>aR (h k a) b
def sw:List Fr ->Nat
 |[]=>0
 |f::l=>f.2.1.size+f.2.2.size+sw l
theorem ahH (l:List Fr) (f:Fr):sw (l++[f])=sw l+(f.2.1.size+f.2.2.size):=by
 induction l with
 |nil=>simp[sw]
 |cons g l ih=>simp only[fM,sw,ih];omega
theorem ahG {l:List Fr} (h:k<l.length):sw (l.take (k+1))=sw (l.take k)+(l[k].2.1.size+l[k].2.2.size):=by
 rw[fL h,ahH]
theorem aeR (l:List Fr):fw l=sw l+2*l.length:=by
 induction l with
 |nil=>rfl
 |cons f l ih=>simp only[fw,sw,eA,ih];omega
theorem aoh (a:Option Addr) (cap:Nat) (l:List Fr) (w:World) (h:cG w a l) (v:l.length<=140737488355328) (s:∀f∈l,f.2.1.size<=140737488355328/\f.2.2.size<=140737488355328):
  c6 34 #[.slice a l.length cap] w fun e w'=>(∃r:Nat,e=.returned (.int .i64 r)/\r<=1000000000000000/\(r<=4096 ->r=l.length+sw l))/\c8 w w':=by
 have F:=aD h;have S:=aD s;clear h s;have u:Hid (sw (l.take l.length)=sw l):=by show _=_;rw[fD]
 go_enter Tryz.func34,Tryz.ntmps34;go_wp2_with fail
 go_loopw [3,4] (fun nv iv wr=>∃(k n:Nat),k<=l.length/\iv=.int .i64 k/\nv=.int .i64 n/\n<=1000000000000000/\Hid (n=l.length+sw (l.take k))/\c8 w wr) (fun _ iv _=>l.length - (intOf iv).toNat)
 case atStart=>exact⟨0,l.length,aS _,rfl,rfl,al,(show _=_ by simp[sw]),aw _ _⟩
 case round=>
  obtain⟨k,n,q,rfl,rfl,c,H,b⟩:=hrel;by_cases t:k<l.length
  ·by_cases m:n<=4096
   ·obtain⟨g,o,rfl,p,d,i,j⟩:=(F.o.aa b) k t;obtain⟨z,A⟩:=S.o l[k] (bB t);(have Q:Hid (n+l[k].2.1.size+l[k].2.2.size=l.length+sw (l.take (k+1))):=by show _=_;rw[H.o,ahG t];omega);clear H;generalize l[k].1=fn at *;generalize l[k].2.1=x at *;generalize l[k].2.2=y at *;go_wp2_with fail
    go_quiet (fail)
    go_wp2;go_roundw
    case rel=>exact⟨k+1,n+x.size+y.size,al,bd,bd,al,Q.o,below_drewN b _⟩
    case measure=>simp[intOf];omega
   ·go_wp2;go_ret;exact⟨⟨n,rfl,c,fun h=>absurd h m⟩,b⟩
  ·obtain rfl:k=l.length:=al
   go_wp2
   all_goals
    go_ret;exact⟨⟨n,rfl,c,fun _=>by rw[H.o,u.o]⟩,b⟩
variable {neg:Bool} {den num:ByteArray} {fn:Func}
theorem Gh (h:aF w g neg num den) {t p u:Tmp} (r:fn.results= #[.tmp t,.cell p 53,.tmp u]) (m:Array Value) (a:m.getD p undef=.pointer (some ⟨g,0,none⟩)):
  (results fn m).run Tryz.prog w=.ok (.tuple #[m.getD t undef,.agg #[.bool neg,.string num,.string den],m.getD u undef]) w:=by
 have b:m[p]?.getD undef=.pointer (some ⟨g,0,none⟩):=by simpa using a
 simp[results,r,b,asAddr,run_loadVar_row w g _ 53 _ _ _ h Tryz.underlying53 rfl ao]
theorem az.far3 {V:World} {c:Option Addr} {n:Bool} {x y:ByteArray} (h:az V c l) (b:aF V g n x y) (j:Nat) (u:Value):az (V.setCell ⟨g,j,none⟩ u) c l:=fun k d=>by
 obtain⟨g',o,rfl,t,a⟩:=h k d
 have f:¬g'=g:=fun e=>by
  subst e;rw[bZ V g' (o+k) _ _ (0,0) b] at a;match hm:o+k with
  |0=>rw[hm] at a;simp at a
  |1=>rw[hm] at a;simp at a
  |2=>rw[hm] at a;simp at a
  |m+3=>rw[hm] at a;simp at a
 exact⟨g',o,rfl,aU t (jk V _ _).size,(cD _ _ _ _ (fun e=>f (bU Addr.block e).symm)).trans a⟩
theorem az.put3 {V:World} {c:Option Addr} {n:Bool} {x y:ByteArray} (h:az V c l) (b:aF V g n x y) (n':Bool) (x' e:ByteArray):az (((V.setCell ⟨g,0,none⟩ (.bool n')).setCell ⟨g,1,none⟩ (.string x')).setCell ⟨g,2,none⟩ (.string e)) c l:=by
 have a:aF (V.setCell ⟨g,0,none⟩ (.bool n')) g n' x y:=kM V g 0 _ _ (.bool n') b;have d:aF ((V.setCell ⟨g,0,none⟩ (.bool n')).setCell ⟨g,1,none⟩ (.string x')) g n' x' y:=kM _ g 1 _ _ (.string x') a;exact((h.far3 b 0 _).far3 a 1 _).far3 d 2 _
def BH (w V:World) (u v:Value):Prop:=bs V w.heap.size u v/\aF V (w.heap.size+1) false ⟨#[]⟩ ⟨#[]⟩/\c8 w V
theorem BH.step {V:World} {u v:Value} (h:BH w V u v) (b:c8 V V'):BH w V' u v:=⟨h.1.aa b h.1.lt,h.2.1.aa b h.2.1.lt,h.2.2.trans (b.af h.2.2.size)⟩
theorem BH.drew {V:World} {u v:Value} (h:BH w V u v):BH w V.drew u v:=⟨h.1,h.2.1.drew,h.2.2.drew⟩
theorem BH.of {V:World} {u v:Value} (h:BH w V u v):(V.cell? ⟨w.heap.size,0,none⟩=some u/\V.cell? ⟨w.heap.size,1,none⟩=some v)/\Hid (BH w V u v):=⟨⟨h.1.c0,h.1.c1⟩,h⟩
theorem BH.ofF {V:World} {u v:Value} (h:BH w V u v) {n:Bool} {x y:ByteArray} (a:g<w.heap.size) (b:w.cell? ⟨g,i,none⟩=some (.bool n)) (c:w.cell? ⟨g,i+1,none⟩=some (.string x)) (d:w.cell? ⟨g,i+2,none⟩=some (.string y)):(V.cell? ⟨w.heap.size,0,none⟩=some u/\V.cell? ⟨w.heap.size,1,none⟩=some v/\V.cell? ⟨g,i,none⟩=some (.bool n)/\V.cell? ⟨g,i+1,none⟩=some (.string x)/\V.cell? ⟨g,i+2,none⟩=some (.string y))/\Hid (BH w V u v):=
 ⟨⟨h.1.c0,h.1.c1,(h.2.2.cell (p:=⟨g,i,none⟩) a).trans b,(h.2.2.cell (p:=⟨g,i+1,none⟩) a).trans c,(h.2.2.cell (p:=⟨g,i+2,none⟩) a).trans d⟩,h⟩
theorem apV (c:Option Addr) (cc:Nat) (l:List Fr) (w:World) (B:Nat) (f:B<w.heap.size) (x:w.cell? ⟨B,0,none⟩=some (.slice c l.length cc)) (i:cG w c l) (j:1<=l.length) (g:Cw 100000 l) (n:l.length<=10000):
  c6 94 #[.agg #[.func (.func 144) #[] #[.pointer (some ⟨B,0,none⟩)]],.int .i64 (l.length:Nat),.func (.func 96) #[] #[]] w (da w (.int .i64 (ig l (l.length - 1):Nat))):=by
 refine alW 144 96 _ _ (enters_of Tryz.func144 ao rfl) (enters_of Tryz.func96 ao rfl) l.length (fun k=>k) (ig l) w j al ?_ ?_ rfl
 ·intro k _ V _;exact apW (k:Int) V
 ·intro k r V b;have u:=J5 l k;have o:=g (ig l k) al;have q:=g (k+1) al;have a:=qM (l:=l) (k:=ig l k) al;have d:=qM (l:=l) (k:=k+1) al;refine(aoq B c cc l (ig l k) (k+1) al al V (aU f b.size) ((b.cell (p:=⟨B,0,none⟩) f).trans x) (i.aa b) (by rw[<- a];omega) (by rw[<- d];omega)).af ?_;rintro e w' ⟨rfl,m⟩;refine⟨?_,m⟩;rw[ig, <- a, <- d];by_cases h:c5 (aW (bG l (ig l k))) (aW (bG l (k+1)))<0
  ·rw[aA h,aA h]
  ·rw[aB h,aB h]
theorem bs.off {u v:Value} (h:bs w g u v) (b j:Nat) (y:Value) (e:g≠b):bs (w.setCell ⟨b,j,none⟩ y) g u v:=(iJ w ⟨b,j,none⟩ y g e).trans h
theorem y9 {sizes vars:List Int} (h:jZ sizes vars m=0):eW sizes/\Up vars sizes.length/\m=cnt (ag sizes) (ag vars):=by
 rw[jZ] at h;by_cases a:countB sizes vars=true
 ·rw[aA a] at h;by_cases b:m=cnt (ag sizes) (ag vars)
  ·exact⟨(RJ a).1,(RJ a).2,b⟩
  ·rw[aB b] at h;omega
 ·rw[aB a] at h;omega
theorem apv {sizes vars:List Int} (h:jZ sizes vars m=0):1<=m:=by
 obtain⟨a,c,b⟩:=y9 h;rw[b];exact A3 a.pos _
open Go.Sort Go.Lib
def eV (B:Nat) (b:Option Addr) (cb:Nat):Prop:=(b=none ->cb=0)/\∀g o,b=some ⟨g,o,none⟩ ->B<=g
theorem eV.up {B C:Nat} {b:Option Addr} (h:eV B b cb) (a:C<=B):eV C b cb:=⟨h.1,fun g o e=>aR a (h.2 g o e)⟩
theorem eV.nil (B:Nat):eV B Option.none 0:=⟨fun _=>rfl,fun g o e=>by cases e⟩
theorem eV.at {B G:Nat} (h:B<=G):eV B (Option.some ⟨G,0,Option.none⟩) cb:=⟨(fun e=>by cases e),fun g o e=>by cases e;exact h⟩
def bA (w:World) (B:Nat) (v:Value) (l:List Int):Prop:=w.ownsRow B 3 1 v l.length (l.map (Value.int .i64))
theorem bA.cases {B:Nat} {v:Value} (h:bA w B v l):(v=.slice none 0 0/\l=[])∨∃g cap,v=.slice (some ⟨g,0,none⟩) l.length cap/\B<=g/\g<w.heap.size/\l.length<=cap/\cap<=maxLen/\Holds (Value.int .i64) w g 0 l.toArray:=by
 rcases h.2 with ⟨a,b⟩ |⟨g,cap,r,a,b,c,f,i,n,k⟩
 ·exact .inl ⟨a,D8.1 b⟩
 ·refine .inr ⟨g,cap,a,b,(dS.1 c).1,f,i,fun j m=>?_⟩;have d:j<l.length:=by simpa using m
  refine⟨?_,lr w g _ _ _ c⟩;rw[bM,bZ w g j _ _ (0,0) c]
  have e:r[j]? =(r.toList.take (l.length*1))[j]?:=by
   rw[r7,aA al,vr]
  rw[e,k,pL,List.getElem?_eq_getElem d];simp[d]
theorem EB {d:Array Int} (h:Holds (Value.int .i64) w g 0 d) (b:g<w.heap.size) (f:∀j (i:j<l.length),∃a:j<d.size,d[j]=l[j]):az w (some ⟨g,0,none⟩) l:=fun k c=>by
 obtain⟨a,e⟩:=f k c;refine⟨g,0,rfl,b,?_⟩;have:=(h k a).1;rw[KM d k a,e] at this;exact this
theorem bA.ints {B:Nat} {v:Value} (h:bA w B v l):∃d cd,v=.slice d l.length cd/\az w d l:=by
 rcases h.cases with ⟨rfl,rfl⟩ |⟨g,cap,rfl,_,a,_,_,b⟩
 ·exact⟨none,0,rfl,fun k e=>absurd e aE⟩
 ·exact⟨_,_,rfl,EB b a fun j c=>⟨by simpa using c,aE⟩⟩
theorem adz {b o:Nat} (h:az w (some ⟨b,o,none⟩) l):∀j,j<l.length ->w.cell? ⟨b,o+j,none⟩=some (.int .i64 (l.getD j 0)):=fun j a=>by
 obtain⟨g,o',e,_,c⟩:=h j a;cases e;rw[c,List.getD_eq_getElem?_getD,List.getElem?_eq_getElem a];rfl
theorem PB (b:Option Addr) (cb:Nat) (l:List Int) (w:World) (h:az w b l) (n:l.length<=1000000):
  c6 70 #[.slice b l.length cb] w fun e w'=>∃v,e=.returned v/\bA w' w.heap.size v l/\c8 w w':=by
 cases b with
 |none=>
  have d:l=[]:=by
   cases l with
   |nil=>rfl
   |cons x l=>obtain⟨g,o,e,_⟩:=h 0 aE;cases e
  subst d;refine(Tryz.slices_Clone_int_nil 0 cb w).af ?_;rintro e w' ⟨rfl,rfl⟩;exact⟨_,rfl,⟨rfl,.inl ⟨rfl,rfl⟩⟩,aw _ _⟩
 |some a=>
  cases l with
  |nil=>
   refine(Tryz.slices_Clone_int_zero a cb w).af ?_;rintro e w' ⟨v,rfl,r,_,c⟩;exact⟨v,rfl,r,c⟩
  |cons x l=>
   obtain⟨g,o,e,_⟩:=h 0 aE;cases e;refine(Tryz.slices_Clone_int g o (x::l).length cb (x::l) w (ar _) al (adz h)).af ?_;rintro e w' ⟨v,rfl,r,_,c⟩;rw[fD] at r;exact⟨v,rfl,r,c⟩
theorem I8 (b:Option Addr) (cb:Nat) (l:List Int) (x:Int) (w:World) (h:az w b l) (n:l.length<=140737488355328):
  c6 53 #[.slice b l.length cb,.int .i64 x] w (da w (.bool (l.contains x))):=by
 cases l with
 |nil=>
  refine(Tryz.slices_Contains_int_empty b cb x w).af ?_;rintro e w' ⟨rfl,rfl⟩;exact⟨rfl,aw _ _⟩
 |cons y l=>
  obtain⟨g,o,rfl,_⟩:=h 0 aE;refine(Tryz.slices_Contains_int g o (y::l).length cb (y::l) x w (ar _) al (adz h)).af ?_;rintro e w' ⟨rfl,rfl⟩;rw[fD];exact⟨rfl,aw _ _⟩
theorem aaa (u v:Int) (B:Nat) (W:World) (c:W.cell? ⟨B,0,none⟩=some (.int .i64 v)):
  FnGives Tryz.prog 185 #[.pointer (some ⟨B,0,none⟩)] #[.int .i64 u] (.bool (u==v)) W:=by
 show c6 185 #[.int .i64 u,.pointer (some ⟨B,0,none⟩)] W _;go_enter Tryz.func185,Tryz.ntmps185;go_wp2
 all_goals (go_ret;exact⟨by simp_all,0,rfl⟩)
theorem ag0 (v:Int) (B:Nat) (w:World) (h:B<w.heap.size) (c:w.cell? ⟨B,0,none⟩=some (.int .i64 v)):
  PredAt Tryz.prog 185 #[.pointer (some ⟨B,0,none⟩)] (Value.int .i64) (fun u=>u==v) w:=
 fun W x b=>aaa x v B W ((b.cell (p:=⟨B,0,none⟩) h).trans c)
theorem agZ (v:Int) (B b f i:Nat) (w:World) (h:B<w.heap.size) (e:B≠b) (c:w.cell? ⟨B,0,none⟩=some (.int .i64 v)):
  PredOver Tryz.prog 185 #[.pointer (some ⟨B,0,none⟩)] (Value.int .i64) (fun u=>u==v) b f i w:=
 fun n o d x _=>aaa x v B _ (by
  unfold sortWorld;rw[cell?_grow _ _ _ (by show B<(putRow _ _ _ _ _).heap.size;rw[size_putRow];exact h),cell?_putRow_other _ _ b f _ _ (Or.inl e)];exact c)
theorem aa1 (f:Value) (w:World):c6 138 #[.slice none 0 0,f] w (da w (.slice none 0 0)):=by
 go_enter Tryz.func138,Tryz.ntmps138;go_wp2_with fail
 refine(Tryz.slices_IndexFunc_empty (α:=Int) none 0 f w).af ?_;rintro e a ⟨rfl,rfl⟩;go_wp2;go_ret;exact⟨rfl,aw _ _⟩
theorem Yb {B:Nat} {a:World} {os:Array Obj} (d:Array Int) (h:Below B a w) (c:B<=w.heap.size) (b:B<=g):Below B a (grow (putRow (Value.int .i64) (Sort.ahead w n) g 0 d) os):=
 h.grown (OU d) c fun k e=>by cases e;exact b
theorem Yc {B:Nat} {a:World} (d:Array Int) (h:Below B a w) (c:B<=w.heap.size) (b:B<=g):Below B a (putRow (Value.int .i64) (Sort.ahead w n) g 0 d):=by
 have:=Yb (n:=n) (os:= #[]) d h c b;rwa [grow_empty] at this
theorem Tu (b:Option Addr) (cb:Nat) (vars:List Int) (v:Int) (w:World) (p:az w b vars) (M:vars.length<=1000000):
  c6 141 #[.slice b vars.length cb,.int .i64 v] w fun e w'=>∃(d:Option Addr) (cd:Nat),e=.returned (.slice d (bC vars v).length cd)/\az w' d (bC vars v)/\eV w.heap.size d cd/\c8 w w':=by
 have V:=hid p;obtain⟨L,f⟩:∃L,L=bC vars v:=⟨_,rfl⟩;rw[<- f];have H:=hid f;clear p f;go_enter Tryz.func141,Tryz.ntmps141;go_wp2_with fail
 have h:c8 w (w.alloc (.cells #[.int .i64 v] 3)):=(aw _ w).alloc (ar _) _;have l:=bh w 3 (.int .i64 v);generalize (w.alloc (.cells #[.int .i64 v] 3))=W at h l⊢;refine(PB b cb vars _ (V.o.aa h) M).af ?_;rintro e t ⟨x,rfl,r,y⟩;have c:=bj l y;have a:=h.trans (y.af h.size);have T:=l.lt;have U:=h.size;rcases r.cases with ⟨rfl,rfl⟩ |⟨g,cap,rfl,S,F,z,R,i⟩
 ·go_wp2_with fail
  refine(aa1 _ _).af ?_;rintro e P ⟨rfl,Q⟩;go_wp2;go_ret;have K:L=[]:=H.o;subst K;exact⟨none,0,rfl,fun k J=>absurd J aE,eV.nil _,a.trans (Q.af a.size)⟩
 ·have n:=Tryz.slices_DeleteFunc (Value.int .i64) (fun _=>rfl) (fun u=>u==v) 185 #[.pointer (some ⟨w.heap.size,0,none⟩)] (enters_of Tryz.func185 ao rfl) 0 Tryz.zeroValue3 g 0 cap vars.toArray t (ag0 v _ _ c.lt c.cell) (agZ v _ g 0 _ _ c.lt al c.cell) i (by simp;omega) (by simpa using z);have A:vars.toArray.size=vars.length:=aE
  rw[A] at n;have s:vars.toArray.toList.filter (fun x=>!(x==v))=bC vars v:=by simp[bC]
  rw[s, <- H.o] at n;have m:L.length<=vars.length:=by rw[H.o];exact pJ _ _
  have O:=hid n;have E:=hid i;have X:=hid m;clear n i r A s z R m;go_wp2_with fail
  refine O.o.af ?_;rintro e P ⟨rfl,q,rfl⟩;go_wp2;go_ret
  have D:(L++List.replicate (vars.length - L.length) 0).toArray.size=vars.toArray.size:=by
   have:=X.o;simp;omega
  refine⟨some ⟨g,0,none⟩,cap,rfl,EB (holds_putRow (Value.int .i64) (Sort.ahead t q) g 0 vars.toArray _ E.o D) (by rw[size_putRow];exact F) (fun j I=>⟨by simp;omega,by simp[r6,I]⟩),eV.at al,Yc _ a a.size al⟩
variable {cc:Nat} {x':Value}
def sI (vars:List Int) (l:List Fr) (k:Int) (e:Ending) (w':World):Prop:=∃(b c:Option Addr) (cb cc:Nat),e=.returned (.tuple #[.agg #[.slice b vars.length cb,.slice c l.length cc],.int .i64 k])/\az w' b vars/\cG w' c l
def vV (B:Nat) (vars:List Int) (l:List Fr) (k:Int) (e:Ending) (w':World):Prop:=∃(b c:Option Addr) (cb cc:Nat),e=.returned (.tuple #[.agg #[.slice b vars.length cb,.slice c l.length cc],.int .i64 k])/\az w' b vars/\cG w' c l/\eV B b cb/\eV B c cc
theorem sI.empty (k:Int) (w:World):sI [] [] k (.returned (.tuple #[.agg #[.slice none 0 0,.slice none 0 0],.int .i64 k])) w:=⟨none,none,0,0,rfl,fun k h=>absurd h aE,fun k h=>absurd h aE⟩
theorem bs.result2 (h:bs w g x y) {p u:Tmp} (r:fn.results= #[.cell p 58,.tmp u]) (m:Array Value) (a:m.getD p undef=.pointer (some ⟨g,0,none⟩)):
  (results fn m).run Tryz.prog w=.ok (.tuple #[.agg #[x,y],m.getD u undef]) w:=by
 rw[results_cell_tmp r,a];simp only[asAddr,F2,BV];rw[run_loadVar_row w g _ 58 _ _ _ h Tryz.underlying58 rfl ao];simp only[BV]
def cP (v:Value):Prop:=∃a n c,v=Value.slice a n c
theorem az.farT {V:World} {c:Option Addr} (h:az V c l) (b:bs V g x y) (f:cP x) (i:cP y) (j:Nat) (u:Value):az (V.setCell ⟨g,j,none⟩ u) c l:=fun k d=>by
 obtain⟨g',o,rfl,t,a⟩:=h k d;obtain⟨p,v,r,rfl⟩:=f;obtain⟨q,w,s,rfl⟩:=i
 have n:¬g'=g:=fun e=>by
  subst e;rw[bZ V g' (o+k) _ _ (0,0) b] at a;match hm:o+k with
  |0=>rw[hm] at a;simp at a
  |1=>rw[hm] at a;simp at a
  |m+2=>rw[hm] at a;simp at a
 exact⟨g',o,rfl,aU t (jk V _ _).size,(cD _ _ _ _ (fun e=>n (bU Addr.block e).symm)).trans a⟩
theorem az.putT {V:World} {c:Option Addr} (h:az V c l) (b:bs V g x y) (e:cP x) (a:cP y) (i:cP x') (f:Value):az ((V.setCell ⟨g,0,none⟩ x').setCell ⟨g,1,none⟩ f) c l:=by
 have d:bs (V.setCell ⟨g,0,none⟩ x') g x' y:=kM V g 0 _ _ x' b;exact(h.farT b e a 0 _).farT d i a 1 _
theorem slv (a:Option Addr) (n c:Nat):cP (.slice a n c):=⟨a,n,c,rfl⟩
theorem bs.facts (h:bs w g x y):w.cell? ⟨g,0,none⟩=some x/\w.cell? ⟨g,1,none⟩=some y/\w.frozen? ⟨g,0,none⟩=false/\w.frozen? ⟨g,1,none⟩=false:=⟨h.c0,h.c1,lr w g 0 _ _ h,lr w g 1 _ _ h⟩
theorem nN {B:Nat} {a:World} (h:Below B a w) (b:B<=g) (u v:Value):Below B a ((w.setCell ⟨g,0,none⟩ u).setCell ⟨g,1,none⟩ v):=(h.setCell b u).setCell b v
def NH (w V:World) (u v:Value):Prop:=bs V w.heap.size u v/\bs V (w.heap.size+1) (.slice none 0 0) (.slice none 0 0)/\c8 w V
theorem NH.step {V:World} {u v:Value} (h:NH w V u v) (b:c8 V V'):NH w V' u v:=⟨h.1.aa b h.1.lt,h.2.1.aa b h.2.1.lt,h.2.2.trans (b.af h.2.2.size)⟩
theorem NH.drew {V:World} {u v:Value} (h:NH w V u v):NH w V.drew u v:=⟨h.1,h.2.1,h.2.2.drew⟩
theorem NH.new (w:World) (u v:Value):NH w ((w.alloc (TC u v)).alloc (TC (.slice none 0 0) (.slice none 0 0))) u v:=⟨(bs.at (w:=w) rfl _ _).alloc _,bs.at (w:=w.alloc (TC u v)) aE _ _,((aw _ w).alloc (ar _) _).alloc aE _⟩
theorem NH.off {V:World} {u v:Value} (h:NH w V u v) (B j:Nat) (y:Value) (a:w.heap.size+1<B):NH w (V.setCell ⟨B,j,none⟩ y) u v:=⟨h.1.off B j y al,h.2.1.off B j y al,h.2.2.setCell (p:=⟨B,j,none⟩) (by show w.heap.size<=B;omega) y⟩
theorem NH.lt {V:World} {u v:Value} (h:NH w V u v):w.heap.size+1<V.heap.size:=h.2.1.lt
theorem NH.fin {V:World} {u v:Value} (h:NH w V u v) {vars:List Int} {b:Option Addr} {l:List Fr} {G:Nat} (i:az V b vars) (r:kD V G l) (d:w.heap.size+1<G) (x y:Value) (a:x=.slice b vars.length cb) (c:y=.slice (some ⟨G,0,none⟩) l.length cc):
  bs ((V.setCell ⟨w.heap.size+1,0,none⟩ x).setCell ⟨w.heap.size+1,1,none⟩ y) (w.heap.size+1) x y/\sI vars l 0 (.returned (.tuple #[.agg #[x,y],.int .i64 0])) ((V.setCell ⟨w.heap.size+1,0,none⟩ x).setCell ⟨w.heap.size+1,1,none⟩ y)/\c8 w ((V.setCell ⟨w.heap.size+1,0,none⟩ x).setCell ⟨w.heap.size+1,1,none⟩ y):=by
 subst a c;exact⟨h.2.1.put _ _,⟨b,some ⟨G,0,none⟩,cb,cc,rfl,i.putT h.2.1 (slv _ _ _) (slv _ _ _) (slv _ _ _) _,((r.off _ 0 _ al).off _ 1 _ al).fr⟩,nN h.2.2 al _ _⟩
variable {la:List Int} {rest:List Oper}
theorem ah5 (n:Nat) (g:n<=100000) (w:World):
  c6 243 #[.slice none 0 0,.int .i64 (n:Nat)] w fun e w'=>∃v,e=.returned v/\bA w' w.heap.size v []/\c8 w w':=by
 obtain⟨i,c,f,j,z⟩:=dW Tryz.infoInt;by_cases h:n=0
 ·subst h;go_enter Tryz.func243,Tryz.ntmps243;go_wp2;go_ret;exact⟨_,rfl,⟨rfl,.inl ⟨rfl,rfl⟩⟩,aw _ _⟩
 ·have d:(Builtin.firstCells i.size 0 (.slice none 0 0)).run Tryz.prog w.drew=.ok ([]:List Value).toArray w.drew:=run_firstCells_none w.drew i.size 0 0 0
  have Q:∀t,(Builtin.append_ #[22,3] t #[.slice none 0 0,.int .i64 (n:Int)]).run Tryz.prog w=.ok (.slice (some ⟨w.heap.size,0,none⟩) (0+n) (grownCap w (0+n) 0 3)) (w.drew.alloc (.cells (([]:List Value).toArray++Builtin.zeroCells (Value.int .i64 0).cells n++Builtin.zeroCells (Value.int .i64 0).cells (grownCap w (0+n) 0 3 - (0+n))) 3)):=fun t=>
   Lib.run_append_grow_zeros w 22 3 t 3 i (.int .i64 0) .i64 .i64 Tryz.underlying22 Tryz.underlying3 c f none 0 0 [] d n al al al al (by rw[z];omega) (OS al (by rw[z];omega))
  have b:0+n<=grownCap w (0+n) 0 3:=grownCap_ge w _ _ _;have M:=grownCap_le_maxLen w (0+n) 0 3 (by unfold maxLen;omega);rw[bM] at Q b M;obtain⟨G,a⟩:∃G,G=grownCap w n 0 3:=⟨_,rfl⟩;rw[<- a] at Q b M;have H:=hid M;have r:G<=9223372036854775807:=by unfold maxLen at M;omega
  have P:(0:Int)<(n:Int):=al
  clear d a M;go_enter Tryz.func243,Tryz.ntmps243;go_wp2_with (at_builtin;refine Lib.wpList_append_run _ rfl _ _ _ _ rfl _ _ rfl rfl _ _ (Q _) ?_)
  go_ret;refine⟨_,rfl,⟨rfl,.inr ⟨w.heap.size,G,_,rfl,ar _,jg w.drew _,aS _,H.o,?_,aE⟩⟩,((aw _ w).drew).alloc (ar _) _⟩;simp[size_zeroCells];omega
theorem wI {o:Oper} {a:Act} {Q:Exit ->Act ->World ->Prop} (y:o.guard=none) (s x:Operand)
  (m:o.op=.call {callee:=.builtin .append,args:= #[s,x],argTypes:= #[22,22]}) (base:Nat) (v:Value) (xs la:List Int) (q:a.eval s=v) (n:bA w base v xs) (p:Option Addr) (ca:Nat) (r:a.eval x=.slice p la.length ca) (k:az w p la) (F:p=none ->ca=0) (O:xs.length+la.length<=100000) (M:base<=w.heap.size)
  (h:∀v' w',bA w' base v' (xs++la) ->w.grownBy w' v.ownBlock ->wpList Tryz.prog ops Q rest (a.put o.dst v') w'):wpList Tryz.prog ops Q (o::rest) a w:=by
 obtain⟨t,f,I,K,L⟩:=dW Tryz.infoInt;cases p with
 |none=>
  have D:la=[]:=by
   cases la with
   |nil=>rfl
   |cons x l=>obtain⟨g,o,e,_⟩:=k 0 aE;cases e
  subst D;have c:=F rfl;subst c;have d:=h v w (by rw[F9];exact n) ⟨rfl,rfl,rfl,ar _,fun _ _ _=>rfl⟩;exact wpList_append_own_none y s x 22 m base 3 t 1 Tryz.underlying22 f v xs.length _ q n r d
 |some ad=>
  refine FX _ y s x 22 m base 3 t (.int .i64 0) 1 8 Tryz.underlying22 f I K L rfl a6 v xs.length _ q n ad la.length ca (la.map (Value.int .i64)) r aE ?_ ?_ (by unfold maxLen;omega) al M ?_
  ·intro j u b;rw[pL] at b;cases hq:la[j]? with
   |none=>rw[hq] at b;cases b
   |some z=>
    rw[hq] at b;cases b;obtain⟨E,J⟩:=mZ.1 hq;obtain⟨g,o',e,_,i⟩:=k j E;cases e;rw[<- J];rw[Addr.add];by_cases c:j=0
    ·subst c;simpa using i
    ·simpa [c] using i
  ·intro u H;obtain⟨z,_,rfl⟩:=bc.1 H;rfl
  ·intro v' w' d A _;refine h v' w' ?_ A;rw[bA,dm,fg];exact d
def A0 (la lb:List Int) (i:Nat):List Int:=if i=0 then[] else if i=1 then la else la++lb
theorem bA.own {B:Nat} {v:Value} (h:bA w B v l):∀k,v.ownBlock=some k ->B<=k:=by
 intro k a;rcases h.2 with ⟨rfl,_⟩ |⟨g,cap,c,rfl,b,_⟩
 ·cases a
 ·cases a;exact b
theorem aoo {lb:List Int} (m:la.length<=1000) (j:lb.length<=1000) (i:Nat):(A0 la lb i).length<=2000:=by
 rw[A0];by_cases h:i=0
 ·rw[aA h];simp
 ·rw[aB h];by_cases a:i=1
  ·rw[aA a];omega
  ·rw[aB a,dm];omega
theorem ah7 (R:Nat) (a b:Option Addr) (ca cb:Nat) (la lb:List Int) (w:World) (u:R<w.heap.size) (J:w.cell? ⟨R,0,none⟩=some (.slice a la.length ca)) (L:w.cell? ⟨R,1,none⟩=some (.slice b lb.length cb)) (x:az w a la) (k:az w b lb) (M:a=none ->ca=0) (P:b=none ->cb=0) (D:la.length<=1000) (n:lb.length<=1000):
  c6 227 #[.slice (some ⟨R,0,none⟩) 2 2] w fun e w'=>∃v,e=.returned v/\bA w' w.heap.size v (la++lb)/\c8 w w':=by
 have V:∀i,i< 2 ->∃(p:Option Addr) (c:Nat) (l:List Int),w.cell? ⟨R,i,none⟩=some (.slice p l.length c)/\az w p l/\(p=none ->c=0)/\l.length<=1000/\A0 la lb (i+1)=A0 la lb i++l:=by
  intro i y;by_cases h:i=0
  ·subst h;exact⟨a,ca,la,J,x,M,D,by simp[A0]⟩
  ·obtain rfl:i=1:=al
   exact⟨b,cb,lb,L,k,P,n,by simp[A0]⟩
 have O:=hid V;have q:=hid (fun i=>aoo D n i);have j:A0 la lb 2=la++lb:=by simp[A0]
 rw[<- j];have z:A0 la lb 0=[]:=rfl;clear V J L x k M P j D n;generalize A0 la lb=F at *;go_enter Tryz.func227,Tryz.ntmps227;go_wp2_with fail
 go_loopw [3,11] (fun sv iv wr=>∃i:Nat,i<=2/\iv=.int .i64 i/\sv=.int .i64 ((F i).length:Nat)/\Hid (c8 w wr)) (fun _ iv _=>2 - (intOf iv).toNat)
 case atStart=>exact⟨0,al,rfl,by rw[z];rfl,aw _ _⟩
 case round=>
  obtain⟨i,y,rfl,rfl,H⟩:=hrel;by_cases t:i<2
  ·obtain⟨p,c,l,d,I,m,hl,f⟩:=O.o i t;have ad:=(H.o.cell (p:=⟨R,i,none⟩) u).trans d;have A:=q.o i;(have ae:IntKind.i64.wrap (((F i).length:Int)+(l.length:Int))=((F i).length:Int)+(l.length:Int):=by rw[dE];omega);(have E:Hid (((F (i+1)).length:Int)=((F i).length:Int)+(l.length:Int)):=by show _=_;rw[f,dm];exact sZ _ _);(have oM:(0:Int)<=((F i).length:Int)+(l.length:Int):=al);clear f d m I;go_wp2;go_roundw
   case rel=>exact⟨i+1,al,bd,by rw[E.o],H⟩
   case measure=>simp[intOf];omega
  ·obtain rfl:i=2:=al
   have A:=q.o 2;go_wp2_with fail
   refine(ah5 (F 2).length al _).af ?_;rintro e w1 ⟨v1,rfl,s,Q⟩;have dN:=hid (H.o.trans (Q.af H.o.size));have S:Hid (∀b,b<=wr.heap.size ->bA w1 b v1 []):=fun b k=>⟨s.1,s.2.imp id (fun ⟨g,cap,ab,h1,j,h3⟩=>⟨g,cap,ab,h1,aR k j,h3⟩)⟩;have Z:=hid (S.o w.heap.size H.o.size);clear s Q S;go_wp2_with fail
   go_loopw [6,27] (fun sv iv wr=>∃i:Nat,i<=2/\iv=.int .i64 i/\Hid (bA wr w.heap.size sv (F i))/\Hid (c8 w wr)) (fun _ iv _=>2 - (intOf iv).toNat)
   case atStart=>exact⟨0,al,rfl,by rw[z];exact Z,dN⟩
   case round=>
    obtain⟨i,y,rfl,r,K⟩:=hrel;by_cases t:i<2
    ·obtain⟨p,c,l,d,I,m,hl,f⟩:=O.o i t;have ad:=(K.o.cell (p:=⟨R,i,none⟩) u).trans d;have A:=q.o i;have X:=hid (I.aa K.o);have Y:=hid m;have E:=hid f;have nS:=hid r.o.own;clear f d m I;go_wp2_with (at_builtin;refine wI rfl _ _ rfl w.heap.size _ (F i) l rfl r.o p c rfl X.o Y.o al K.o.size ?_;intro v' w2 U T)
     have fK:=hid U;have a7:=hid (K.o.grown T K.o.size nS.o);clear U T;go_roundw
     case rel=>exact⟨i+1,al,bd,by rw[E.o];exact fK,a7⟩
     case measure=>simp[intOf];omega
    ·obtain rfl:i=2:=al
     go_wp2;go_ret;exact⟨_,rfl,r.o,K.o⟩
theorem Cv (w:World) (u:Int):az (w.alloc (.cells #[.int .i64 u] 3)) (some ⟨w.heap.size,0,none⟩) [u]:=fun k h=>by
 obtain rfl:k=0:=by simp at h;omega
 exact⟨w.heap.size,0,rfl,aE,(bh w _ _).cell⟩
theorem bA.under {B:Nat} {v:Value} (h:bA w B v l) (e:c8 w w'):bA w' B v l:=by
 refine⟨h.1,h.2.imp id ?_⟩;rintro⟨g,cap,r,b,c,a,d⟩;exact⟨g,cap,r,b,c,(e.block g (dS.1 a).1).trans a,d⟩
theorem aod {P:List (List Nat)} {o:List Nat} (h:v∈o):gz P o v=false:=by simp[gz,h]
theorem aoc {P:List (List Nat)} {o p:List Nat} (a:P.getD v []=p) (h:¬∀u∈p,u∈o):gz P o v=false:=by rw[gz,a,cK h,Pg]
theorem aob {P:List (List Nat)} {o p:List Nat} (b:P.getD v []=p) (h:¬v∈o) (a:∀u∈p,u∈o):gz P o v=true:=by rw[gz,b,cY a,cK h];rfl
theorem akm (G c:Nat) (P:List (List Nat)) (w:World) (r:cS w G (P.map aC)) (hn:P.length<=8) (q:∀p∈P,∀u∈p,u<8):
  c6 174 #[.slice (some ⟨G,0,none⟩) P.length c] w fun e w'=>∃x,e=.returned x/\bA w' w.heap.size x (iL (aZ P P.length))/\c8 w w':=by
 obtain⟨i0,b6,an,ao,aq⟩:=dW Tryz.infoInt;have U:=hid r
 have HP:Hid (∀i,i<P.length ->(∀u∈P.getD i [],u<8)/\∃h:i<(P.map aC).length,(P.map aC)[i]=aC (P.getD i [])):=fun i g=>by
  have e:P.getD i []=P[i]:=by rw[List.getD_eq_getElem?_getD,List.getElem?_eq_getElem g];rfl
  rw[e];exact⟨q _ (bB g),by simpa using g,aE⟩
 have D:Hid (∀k,∀u∈aZ P k,u<8):=fun k u s=>aU (Gi P k u s) hn;have ai:=hid (Em P);have X:Hid (∀k v,v<P.length ->gz P (aZ P k) v=true ->(∀u,u< v ->gz P (aZ P k) u=false) ->aZ P (k+1)=aZ P k++[v]):=fun k v f a h3=>LI (akJ f a h3);have aj:Hid (∀k,k<=P.length ->(∀u,u<P.length ->gz P (aZ P k) u=false) ->aZ P P.length=aZ P k):=fun k f a=>acx (akK a) f;have O:Hid (aZ P 0=[]):=rfl;generalize hF:aZ P=F at *;clear r q hF;go_enter Tryz.func174,Tryz.ntmps174;go_wp2_with fail
 go_step3
 go_wp2_with (first
  |(at_make;refine wpList_make_own _ rfl _ _ 22 rfl w.heap.size 3 i0 (.int .i64 0) 1 Tryz.underlying22 b6 an ao .i64 .i64 _ P.length rfl rfl bd (by rw[aq];omega) (by unfold maxLen;omega) (ar _) ?_;intro J Q V))
 have I:Hid (bA J w.heap.size (.slice (some ⟨w.heap.size,0,none⟩) 0 P.length) []):=Q;have l:Hid (c8 w J):=(aw _ w).grown V (ar _) (fun k e=>by cases e);clear Q V;go_wp2_with fail
 go_step3
 go_wp2_with fail
 go_loopw [3,4,12] (fun sv lv iv wr=>∃k:Nat,k<=P.length/\iv=.int .i64 k/\sv=.int .u32 (aC (F k):Nat)/\Hid (bA wr w.heap.size lv (iL (F k)))/\Hid (c8 w wr)) (fun _ _ iv _=>P.length - (intOf iv).toNat)
 case atStart=>exact⟨0,aS _,rfl,by rw[O.o];rfl,by rw[O.o];exact I,l⟩
 case round=>
  obtain⟨k,hk,rfl,rfl,R,H⟩:=hrel;clear I l;by_cases av:k<P.length
  ·have ak:=hid (U.o.aa H.o U.o.lt);go_wp2_with fail
   go_loopw [3,4,16] (fun sv lv jv wq=>∃v:Nat,v<=P.length/\jv=.int .i64 v/\sv=.int .u32 (aC (F k):Nat)/\lv=u4/\Hid (∀u,u< v ->gz P (F k) u=false)/\wq=wr) (fun _ _ jv _=>P.length - (intOf jv).toNat)
   case atStart=>exact⟨0,aS _,rfl,rfl,rfl,fun u h=>absurd h al,rfl⟩
   case round=>
    obtain⟨v,hv,rfl,rfl,rfl,d,rfl⟩:=hrel;by_cases t:v<P.length
    ·obtain⟨M,L,m⟩:=HP.o v t;have c0:=ak.o.cell v L;rw[m] at c0;have iF:=hid M;have ab:Hid (v∈F k ->gz P (F k) v=false):=aod;have ad:Hid (¬(∀u∈P.getD v [],u∈F k) ->gz P (F k) v=false):=aoc rfl;have ae:Hid (¬v∈F k ->(∀u∈P.getD v [],u∈F k) ->gz P (F k) v=true):=aob rfl
     have y:Hid (gz P (F k) v=false ->∀u,u<v+1 ->gz P (F k) u=false):=fun h u s=>by
      rcases cF u v with a |a
      ·exact d.o u a
      ·obtain rfl:u=v:=al
       exact h
     clear M L m;generalize P.getD v []=p at *;go_wp2_with fail
     refine(T1 (F k) v _ (D.o k) al).af ?_;rintro e w3 ⟨rfl,rfl⟩;by_cases n:v∈F k
     ·rw[cY n];have E:=hid (y.o (ab.o n));clear n;go_wp2;go_roundw
      case rel=>exact⟨v+1,al,bd,rfl,rfl,E,trivial⟩
      case measure=>simp[intOf];omega
     ·rw[cK n];have Y:=hid n;clear n;go_wp2_with fail
      refine(aiw (F k) p _ (D.o k) iF.o).af ?_;rintro e j ⟨rfl,rfl⟩;by_cases b:∀u∈p,u∈F k
      ·rw[cY b];have S:=X.o k v t (ae.o Y.o b) d.o;(have Z:Hid (aC (v::F k)=aC (F (k+1))):=UY fun z=>by rw[S,dR,dh,dX];exact or_comm);(have Zh:Hid (iL (F (k+1))=iL (F k)++[(v:Int)]):=by show _=_;rw[S,QD];rfl)
       have zG:Hid ((iL (F k)).length<=8):=by
        have:=ai.o k;show (iL (F k)).length<=8;rw[ba];omega
       clear b S;have nS:=hid R.o.own;have ir:Hid (bA (j.alloc (.cells #[.int .i64 (v:Nat)] 3)) w.heap.size _ (iL (F k))):=F0 R.o _;have T:=hid (H.o.alloc H.o.size (.cells #[.int .i64 (v:Nat)] 3));have lS:=hid (Cv j (v:Nat));go_wp2_with (at_builtin;refine wI rfl _ _ rfl w.heap.size _ (iL (F k)) [((v:Nat):Int)] rfl ir.o (some ⟨j.heap.size,0,none⟩) 1 rfl lS.o (fun e=>by cases e) (by have:=zG.o;simp;omega) T.o.size ?_;intro v' w5 A K)
       have uL:=hid A;have eE:=hid (T.o.grown K T.o.size nS.o);clear A K;refine(Jb (F k) v _ (D.o k) al).af ?_;rintro e w6 ⟨rfl,rfl⟩;rw[Z.o];go_wp2;go_roundw
       case rel=>exact⟨k+1,al,bd,rfl,by rw[Zh.o];exact uL,eE⟩
       case measure=>simp[intOf];omega
      ·rw[cK b];have E:=hid (y.o (ad.o b));clear b;go_wp2;go_roundw
       case rel=>exact⟨v+1,al,bd,rfl,rfl,E,trivial⟩
       case measure=>simp[intOf];omega
    ·obtain rfl:v=P.length:=al
     have E:=hid (aj.o k hk d.o);go_wp2;(try rw[Exit.noGoto_ret]);go_ret;exact⟨_,rfl,by rw[E.o];exact R.o,H.o⟩
  ·obtain rfl:k=P.length:=al
   go_wp2;(try rw[Exit.noGoto_ret]);go_ret;exact⟨_,rfl,R.o,H.o⟩
section
attribute [local go_sem] Oper.semAt_some
theorem abm (s:List Nat) (w:World) (a:∀u∈s,u<8):
  c6 175 #[.int .u32 (aC s:Nat)] w fun e w'=>e=.returned (.int .i64 ((gi s 8).length:Nat))/\∃k,w'=w.drewN k:=by
 have h:=wT a;have H:=hid (fun U=>aku (aC s) U h);rw[ajy] at H;generalize (gi s 8).length=c at *;generalize aC s=m at *;go_enter Tryz.func175,Tryz.ntmps175;go_wp2_with fail
 refine(H.o _).af ?_;rintro e b ⟨rfl,k,rfl⟩;go_wp2;go_ret;exact⟨rfl,k,rfl⟩
theorem ald (s:List Nat) (v:Nat) (b:∀u∈s,u<8) (c:v<8):aC s&&&(4294967295 - 2^v)=aC (s.filter fun u=>decide (u≠v)):=by
 have f:2^v<2^8:=S5 a6 c;have e:4294967295 - 2^v=2^32 - (2^v+1):=al
 have d:2^v<2^32:=al
 apply O0;intro i;rw[e,Nat.testBit_and,S3 d,tu,tu,Nat.testBit_two_pow];by_cases h:i∈s
 ·have g:=b i h;have X:i<32:=al
  by_cases q:v=i
  ·subst q;simp[h]
  ·have a:¬i=v:=fun e=>q e.symm;simp[h,X,q,a]
 ·simp[h]
theorem Ln (s:List Nat) (v:Nat) (w:World) (h:∀u∈s,u<8) (a:v<8):
  c6 131 #[.int .u32 (aC s:Nat),.int .i64 (v:Nat)] w fun e w'=>e=.returned (.int .u32 (aC (s.filter fun u=>decide (u≠v)):Nat))/\w'=w:=by
 have d:=wT h;have c:2^v<256:=show 2^v<2^8 from S5 a6 a
 have E:Hid (bits BinOp.andNot IntKind.u32 (aC s:Nat) (2^v % 4294967296)=((aC (s.filter fun u=>decide (u≠v)):Nat):Int)):=by
  show _=_
  have e:((2:Int)^v % 4294967296)=((2^v:Nat):Int):=by
   (have b:((2:Int)^v)=((2^v:Nat):Int):=by rw[Int.natCast_pow];rfl);rw[b];generalize (2^v:Nat)=q at *;omega
  rw[e,u32_andNot_nat _ _ al al,ald s v h a]
 generalize aC (s.filter fun u=>decide (u≠v))=r at *;generalize aC s=m at *;go_enter Tryz.func131,Tryz.ntmps131;go_wp2;go_ret;exact⟨by rw[E.o];rfl,rfl⟩
theorem amd (l:List Nat):(iL l).map (Value.int .i64)=l.map iv:=by simp[iL,iv]
theorem ado (s:List Nat) (w:World) (j:∀u∈s,u<8):
  c6 121 #[.int .u32 (aC s:Nat)] w fun e w'=>∃v,e=.returned v/\bA w' w.heap.size v (iL (gi s 8))/\c8 w w':=by
 refine(iG (n:=6)).1 ?_;obtain⟨p,i,z,x,y⟩:=dW Tryz.infoInt;have T:=U6 s 8;have H:=hid (fun U=>abm s U j);obtain⟨c,t⟩:∃c,c=(gi s 8).length:=⟨_,rfl⟩;rw[<- t] at H T;clear t;refine uY Tryz.func121 rfl trivial ?_ rfl;simp only[Tryz.ntmps121,od,eA,mg,Nat.reduceAdd,Nat.reduceSub,oz,ow,oh,ng,iI,fM]
 gi_wp2_with (first
  |(refine⟨trivial,?_⟩;gi_at_call 175;refine(iG.2 (H.o _)).af ?_;rintro e w0 ⟨rfl,g⟩)
  |(gi_at_make;refine wpListIn_make_own _ rfl _ _ 22 rfl w.heap.size 3 p (.int .i64 0) 1 Tryz.underlying22 i z x .i64 .i64 _ c rfl rfl al (by rw[y];omega) (by unfold maxLen;omega) (by obtain⟨k,rfl⟩:=g;exact ar _) ?_;intro a ad M))
 have R:c8 w w0:=by obtain⟨k,rfl⟩:=g;exact below_drewN (aw _ w) k
 have Z:w0.heap.size=w.heap.size:=by obtain⟨k,rfl⟩:=g;rfl
 clear g;have J:=M.size;have P:c8 w a:=R.grown M al (fun k e=>by cases e);have O:=bh a 22 (.slice (some ⟨w0.heap.size,0,none⟩) 0 c);have Q:c8 w (a.alloc (.cells #[.slice (some ⟨w0.heap.size,0,none⟩) 0 c] 22)):=P.alloc al _;have L:w.heap.size<=a.heap.size:=al
 clear Z J
 refine Gc al s j rfl rfl
  (fun k V=>(∃v,Boxed V a.heap.size 22 v/\V.ownsRow w.heap.size 3 1 v (gi s k).length ((gi s k).map iv)/\True)/\c8 w V)
  (eZ (fY (holdsRow_own w.heap.size a.heap.size 22 3 1 (fun k:Nat=>(gi s k).length) (fun k=>(gi s k).map iv) (fun _ _=>True)) _) (zV (ar _) (by simp;omega)))
  ⟨⟨_,O,ad.alloc _,trivial⟩,Q⟩
  (fun k=> {tmps:= #[.int .u32 (aC s:Nat),undef,.slice none 0 0,.pointer (some ⟨a.heap.size,0,none⟩),.int .i64 (k:Nat),.int .u32 (aC s:Nat),.int .i64 (c:Nat),.slice (some ⟨w0.heap.size,0,none⟩) 0 c,.int .u32 (aC s:Nat),.func (.func 130) #[.int .u32 (aC s:Nat)] #[],.int .i64 (k:Nat),undef,undef,undef,undef,undef],defers:=[]}) ?assign ?body ?skip ?done
 case assign=>
  intro l k W K d;gi_wp2
  exact d
 case body=>
  rintro l k V I m ⟨⟨v,f,r,_⟩,b⟩;have F:=f.cell;have oO:=U6 s k;gi_wp2_with (gi_at_builtin;refine wpListIn_append_own _ rfl _ _ 22 rfl w.heap.size 3 p (.int .i64 0) 1 8 Tryz.underlying22 i z x y rfl a6 _ _ _ rfl (r.alloc _) ⟨V.heap.size,0,none⟩ 1 1 [.int .i64 (k:Nat)] rfl rfl (cell_one_new _ _ _) (by simp[Value.oneCell']) (by unfold maxLen;omega) al (by have:=b.size;simp;omega) ?_;intro v' w3 A ab _;obtain⟨g',ai,rfl⟩:=ownsRow_succ A;obtain⟨q,aa,Y,X,S⟩:=f.appended a6 r b.size L A ab;have ae:=q.cell;have CW:=q.frozen)
  exact⟨X.from _,⟨⟨_,aa,by rw[U5 m];simpa [iv] using Y,trivial⟩,b.trans S⟩⟩
 case skip=>
  rintro k V I m h;rwa [Qw m]
 case done=>
  rintro D V E ⟨⟨v,f,r,_⟩,b⟩ d;have F:=f.cell;gi_wp2
  refine⟨aE,.inl ⟨_,_,rfl,BQ d,?_⟩⟩;refine⟨_,BR rfl _ _ _,v,rfl,?_,b.trans (uZ (w:=w) (ar _) V D _ _ (by simp at E;omega) d rfl rfl)⟩;rw[bA,amd,ba];exact ownsRow_putObj r _ d rfl
end
theorem ale (a b:List Nat):aC a |||aC b=aC (a++b):=by
 apply O0;intro i;rw[Nat.testBit_or,tu,tu,tu];by_cases h:i∈a<;>by_cases c:i∈b<;>simp[h,c]
theorem alf (a b:List Nat) (d:∀u∈a,u<8) (f:∀u∈b,u<8):aC a&&&(4294967295 - aC b)=aC (a.filter fun x=>decide (¬x∈b)):=by
 have j:=wT f;have e:4294967295 - aC b=2^32 - (aC b+1):=al
 have g:aC b<2^32:=al
 apply O0;intro i;rw[e,Nat.testBit_and,S3 g,tu,tu,tu];by_cases h:i∈a
 ·have k:=d i h;have s:i<32:=al
  by_cases c:i∈b<;>simp[h,c,s]
 ·simp[h]
theorem Ya (a b:List Nat) (h:∀u∈a,u<8) (c:∀u∈b,u<8):bits BinOp.or IntKind.u32 (aC a:Nat) (aC b:Nat)=((aC (a++b):Nat):Int):=by
 have d:=wT h;have e:=wT c;rw[u32_or_nat _ _ al al,ale]
theorem apQ (a b:List Nat) (h:∀u∈a,u<8) (c:∀u∈b,u<8):bits BinOp.andNot IntKind.u32 (aC a:Nat) (aC b:Nat)=((aC (a.filter fun x=>decide (¬x∈b)):Nat):Int):=by
 have d:=wT h;have e:=wT c;rw[u32_andNot_nat _ _ al al,alf a b h c]
theorem Nb (h:∀u∈s,u<8) (p:Nat ->Bool):∀u∈s.filter p,u<8:=fun u a=>h u (dB.1 a).1
theorem afU {a b:List Nat} (h:∀u∈a,u<8) (c:∀u∈b,u<8):∀u∈a++b,u<8:=fun u d=>(dh.1 d).elim (h u) (c u)
theorem E5 {P:List (List Nat)} (a:∀p∈P,∀u∈p,u<8) (v:Nat):∀u∈P.getD v [],u<8:=by
 by_cases h:v<P.length
 ·rw[List.getD_eq_getElem?_getD,List.getElem?_eq_getElem h];exact a _ (bB h)
 ·rw[List.getD_eq_getElem?_getD,iV al];intro u b;simp at b
theorem Gr {P:List (List Nat)} (h:v<P.length):(P.map aC)[v]'(by rw[dD];exact h)=aC (P.getD v []):=by rw[om,List.getD_eq_getElem?_getD,List.getElem?_eq_getElem h];rfl
def LS (B:List (List Nat)) (v u:Nat):Nat:=(gi (((B.getD v []).filter fun x=>decide (¬x∈B.getD u [])).filter fun x=>decide (x≠u)) 8).length
def sH (B:List (List Nat)) (v k:Nat):Nat:=((gi (B.getD v []) k).map (LS B v)).sum
theorem afe {B:List (List Nat)} (h:k∈B.getD v []):sH B v (k+1)=sH B v k+LS B v k:=by rw[sH,U5 h,fg,List.sum_append,sH];simp
theorem aff {B:List (List Nat)} (h:¬k∈B.getD v []):sH B v (k+1)=sH B v k:=by rw[sH,Qw h,sH]
theorem adt (B:List (List Nat)) (v u:Nat):LS B v u<=8:=U6 _ _
theorem RF (B:List (List Nat)) (v:Nat):∀k,sH B v k<=8*k
 |0=>by simp[sH,gi]
 |k+1=>by
  have a:=RF B v k;have b:=adt B v k;by_cases h:k∈B.getD v []
  ·rw[afe h];omega
  ·rw[aff h];omega
def rB (B:List (List Nat)) (v:Nat):Nat:=sH B v 8/2
section
attribute [local go_sem] Oper.semAt_some
variable {U W':World}
theorem kh {W:World} {B:Nat} {t:TypeId} {v:Value} (h:Boxed W B t v) (b j:Nat) (y:Value) (e:B≠b):Boxed (W.setCell ⟨b,j,none⟩ y) B t v:=(iJ W ⟨b,j,none⟩ y B e).trans h
theorem zb {W:World} {B b:Nat} {t:TypeId} {v:Value} (h:Boxed W B t v) (c:Below b W W') (a:B<b):Boxed W' B t v:=(c.block B a).trans h
theorem Vh {V:World} (h:c8 V V'):KeepsOthers V V':=⟨h.size,fun k _ a _=>(h.block k (dS.1 a).1).trans a⟩
theorem Vi {V:World} (h:KeepsOthers V U) (k:Nat):KeepsOthers V (U.drewN k):=⟨h.1,h.2⟩
theorem alT (G n c v:Nat) (P:List (List Nat)) (w:World) (hn:P.length=n) (h8:n<=8) (hU:cS w G (P.map aC)) (hP:∀p∈P,∀u∈p,u<n) (hv:v<n):
  c6 224 #[.slice (some ⟨G,0,none⟩) n c,.int .i64 (v:Nat)] w (da w (.int .i64 (rB P v:Nat))):=by
 refine(iG (n:=6)).1 ?_;have vN:∀p∈P,∀u∈p,u<8:=fun p hp u hu=>by have:=hP p hp u hu;omega
 have hs:=E5 vN v;have G8:=hU.lt;have kv:=hU.cell v (by rw[dD];omega);rw[Gr al] at kv;have SB:=hid kv
 have wD:Hid (∀u,u< n ->w.cell? ⟨G,u,none⟩=some (.int .u32 (aC (P.getD u []):Nat))):=fun u hu=>by
  have:=hU.cell u (by rw[dD];omega);rwa [Gr al] at this
 have Og:Hid (∀k,k∈P.getD v [] ->k<n):=fun k R=>by
  rw[List.getD_eq_getElem?_getD,List.getElem?_eq_getElem al] at R;exact hP _ (bB _) k R
 have ay:=hid (fun u=>E5 vN u);have ai:=hid (fun k h=>afe (B:=P) (v:=v) (k:=k) h);have ae:=hid (fun k h=>aff (B:=P) (v:=v) (k:=k) h);have Zr:=hid (fun k=>RF P v k);have tR:=hid (fun u=>adt P v u);have ll:=hid (fun (u:Nat) (hu:u<8) (U:World)=>Ln ((P.getD v []).filter fun x=>decide (¬x∈P.getD u [])) u U (Nb hs _) hu);have SS:=hid (fun (u:Nat) (U:World)=>abm (((P.getD v []).filter fun x=>decide (¬x∈P.getD u [])).filter fun x=>decide (x≠u)) U (Nb (Nb hs _) _));have ZH:=hid (fun (u:Nat)=>apQ (P.getD v []) (P.getD u []) hs (E5 vN u));have an:Hid (∀u,(gi (((P.getD v []).filter fun x=>decide (¬x∈P.getD u [])).filter fun x=>decide (x≠u)) 8).length=LS P v u):=fun u=>rfl
 have av:Hid ((sH P v 8:Int).tdiv 2=(rB P v:Nat)):=by
  show _=_;rw[rB];exact(vp _ _).symm▸rfl
 have ab:G<w.heap.size:=G8;have aG:=RF P v 8;generalize rB P v=aQ at *;generalize EJ:P.getD v []=bv at *;clear hU hP vN kv EJ;refine uY Tryz.func224 rfl trivial ?_ rfl;simp only[Tryz.ntmps224,od,eA,mg,Nat.reduceAdd,Nat.reduceSub,oz,ow,oh,ng,iI,fM];obtain⟨J,M⟩:∃J,J=((w.alloc (.cells #[.slice (some ⟨G,0,none⟩) n c] 149)).alloc (.cells #[.int .i64 (v:Nat)] 3)).alloc (.cells #[.int .i64 0] 3):=⟨_,rfl⟩;have b0:Boxed J w.heap.size 149 (.slice (some ⟨G,0,none⟩) n c):=by rw[M];exact((bh w _ _).alloc _).alloc _
 have b1:Boxed J (w.heap.size+1) 3 (.int .i64 (v:Nat)):=by
  have h:=(bh (w.alloc (.cells #[.slice (some ⟨G,0,none⟩) n c] 149)) 3 (.int .i64 (v:Nat))).alloc (.cells #[.int .i64 0] 3);rw[cU] at h;rw[M];exact h
 have b2:Boxed J (w.heap.size+1+1) 3 (.int .i64 (sH P v 0:Nat)):=by
  have h:=bh ((w.alloc (.cells #[.slice (some ⟨G,0,none⟩) n c] 149)).alloc (.cells #[.int .i64 (v:Nat)] 3)) 3 (.int .i64 0);rw[cU,cU] at h;rw[M];exact h
 have aa:c8 w J:=by
  rw[M];exact(((aw _ w).alloc (ar _) _).alloc aE _).alloc (by simp;omega) _
 have S:=b0.cell;have T:=b1.cell;have X:=(aa.cell (p:=⟨G,v,none⟩) ab).trans SB.o;rw[M] at S T X;gi_wp2
 rw[<- M];clear S T X M;have xo:w.heap.size+1+1<J.heap.size:=b2.lt
 refine Gc al bv hs rfl rfl
  (fun k V=>Boxed V w.heap.size 149 (.slice (some ⟨G,0,none⟩) n c)/\Boxed V (w.heap.size+1) 3 (.int .i64 (v:Nat))/\Boxed V (w.heap.size+1+1) 3 (.int .i64 (sH P v k:Nat))/\c8 w V)
  (eZ (fY (jh _ _ (fun _=>_)) _) (eZ (fY (jh _ _ (fun _=>_)) _) (eZ (fY (jh _ _ (fun k:Nat=>.int .i64 (sH P v k:Nat))) _) (zV (ar _) al))))
  ⟨b0,b1,b2,aa⟩
  (fun k=> {tmps:= #[.slice (some ⟨G,0,none⟩) n c,.int .i64 (v:Nat),.pointer (some ⟨w.heap.size,0,none⟩),.pointer (some ⟨w.heap.size+1,0,none⟩),.int .i64 0,.pointer (some ⟨w.heap.size+1+1,0,none⟩),.int .i64 (k:Nat),.slice (some ⟨G,0,none⟩) n c,.int .i64 (v:Nat),.pointer (some ⟨G,v,none⟩),.int .u32 (aC bv:Nat),.func (.func 130) #[.int .u32 (aC bv:Nat)] #[],.int .i64 (k:Nat),undef,undef,undef,undef,undef,undef,undef,undef,undef,undef,undef,undef,undef,undef,undef,undef],defers:=[]}) ?assign ?body ?skip ?done
 case assign=>
  intro l k W K hK;gi_wp2
  exact hK
 case body=>
  rintro l k V R hm ⟨Z,h1,O,Q⟩;have ax:=Og.o k hm;have S:=Z.cell;have T:=h1.cell;have y:=O.cell;have X:=(Q.cell (p:=⟨G,v,none⟩) ab).trans SB.o;have kU:=(Q.cell (p:=⟨G,k,none⟩) ab).trans (wD.o k ax);have aM:=ZH.o k;have uI:=hid (ll.o k R);have Y:=hid (SS.o k);rw[an.o k] at Y;have aN:=Zr.o k;have aO:=tR.o k;have aj:=hid (ai.o k hm);generalize aC (bv.filter fun x=>decide (¬x∈P.getD k []))=m1 at *;generalize aC ((bv.filter fun x=>decide (¬x∈P.getD k [])).filter fun x=>decide (x≠k))=m2 at *;generalize aC (P.getD k [])=mu at *;generalize LS P v k=le at *;generalize sH P v k=L at *;generalize aC bv=mv at *;have Vx:IntKind.i64.wrap ((L:Int)+(le:Int))=((L+le:Nat):Int):=by rw[dE];omega
  have f2:=O.frozen;gi_wp2_with fail
  refine wK (fun u=>u.cell? ⟨w.heap.size,0,none⟩=some (.slice (some ⟨G,0,none⟩) n c)/\u.cell? ⟨w.heap.size+1,0,none⟩=some (.int .i64 (v:Nat))/\u.cell? ⟨G,v,none⟩=some (.int .u32 (mv:Nat))/\u.cell? ⟨G,k,none⟩=some (.int .u32 (mu:Nat))) ao ao (fun ⟨_,_,h⟩=>h) ⟨S,T,X,kU⟩ ?_;intro q;have j:KeepsOthers V V.drew:=yg V;have m:Boxed V.drew w.heap.size 149 (.slice (some ⟨G,0,none⟩) n c):=Z;have r:Boxed V.drew (w.heap.size+1) 3 (.int .i64 (v:Nat)):=h1;have i:Boxed V.drew (w.heap.size+1+1) 3 (.int .i64 (L:Nat)):=O;have s:=Q.drew;have ad:=i.cell;clear S T y X kU f2 Z h1 O Q b0 b1 b2 aa;have y:=ad;clear ad;generalize V.drew=t at *;refine au 1 (.slice (some ⟨G,0,none⟩) n c) ?_;refine au 2 (.int .i64 (v:Nat)) ?_;refine au 3 (.pointer (some ⟨G,v,none⟩)) ?_;refine au 4 (.int .u32 (mv:Nat)) ?_;refine au 5 (.slice (some ⟨G,0,none⟩) n c) ?_;refine au 6 (.int .i64 (k:Nat)) ?_;refine au 7 (.pointer (some ⟨G,k,none⟩)) ?_;refine au 8 (.int .u32 (mu:Nat)) ?_;refine au 9 (.int .u32 (m1:Nat)) ?_;refine au 10 (.int .i64 (k:Nat)) ?_;refine aI [0,11] (cA ?_ (cA ?_ aH))
  focus
   intro f a;go_simp;clear y;refine a.o _ _ q (fun d=>?_);clear a f d;refine aI [11] (cA ?_ aH);intro f a;go_simp;refine(uI.o _).af ?_;rintro e b ⟨rfl,g⟩;subst g;refine a.o _ _ q (fun d=>?_);clear a f d;generalize b=t at *;refine aI [12] (cA ?_ aH);intro f a;go_simp;refine(Y.o _).af ?_;rintro e b ⟨rfl,z,g⟩;(have A:Boxed b w.heap.size 149 (.slice (some ⟨G,0,none⟩) n c):=by rw[g];exact m);(have E:Boxed b (w.heap.size+1) 3 (.int .i64 (v:Nat)):=by rw[g];exact r);(have F:Boxed b (w.heap.size+1+1) 3 (.int .i64 (L:Nat)):=by rw[g];exact i);(have H:c8 w b:=by rw[g];exact below_drewN s z);(have I:KeepsOthers V b:=by rw[g];exact Vi j z);refine a.o _ _ (by rw[g];exact q) (fun d=>?_);clear a f g m r i s j q;have q:=d;have m:=A;have r:=E;have i:=F;have s:=H;have j:=I;clear d A E F H I t;generalize b=t at *
  rotate_left
  focus
   intro f a;go_simp;refine(uI.o _).af ?_;rintro e b ⟨rfl,g⟩;subst g;refine a.o _ _ q (fun d=>?_);clear a f d;generalize b=t at *;refine aI [0,12] (cA ?_ (cA ?_ aH))
   focus
    intro f a;go_simp;clear y;refine a.o _ _ q (fun d=>?_);clear a f d;refine aI [12] (cA ?_ aH);intro f a;go_simp;refine(Y.o _).af ?_;rintro e b ⟨rfl,z,g⟩;(have A:Boxed b w.heap.size 149 (.slice (some ⟨G,0,none⟩) n c):=by rw[g];exact m);(have E:Boxed b (w.heap.size+1) 3 (.int .i64 (v:Nat)):=by rw[g];exact r);(have F:Boxed b (w.heap.size+1+1) 3 (.int .i64 (L:Nat)):=by rw[g];exact i);(have H:c8 w b:=by rw[g];exact below_drewN s z);(have I:KeepsOthers V b:=by rw[g];exact Vi j z);refine a.o _ _ (by rw[g];exact q) (fun d=>?_);clear a f g m r i s j q;have q:=d;have m:=A;have r:=E;have i:=F;have s:=H;have j:=I;clear d A E F H I t;generalize b=t at *
   rotate_left
   focus
    intro f a;go_simp;refine(Y.o _).af ?_;rintro e b ⟨rfl,z,g⟩;(have A:Boxed b w.heap.size 149 (.slice (some ⟨G,0,none⟩) n c):=by rw[g];exact m);(have E:Boxed b (w.heap.size+1) 3 (.int .i64 (v:Nat)):=by rw[g];exact r);(have F:Boxed b (w.heap.size+1+1) 3 (.int .i64 (L:Nat)):=by rw[g];exact i);(have H:c8 w b:=by rw[g];exact below_drewN s z);(have I:KeepsOthers V b:=by rw[g];exact Vi j z);refine a.o _ _ (by rw[g];exact q) (fun d=>?_);clear a f g m r i s j q;have q:=d;have m:=A;have r:=E;have i:=F;have s:=H;have j:=I;clear d A E F H I y;have y:=i.cell;clear t;generalize b=t at *;refine aI [0] (cA ?_ aH);intro f a;go_simp;clear y;refine a.o _ _ q (fun d=>?_);clear a f d
  all_goals
   have f2:=i.frozen;have y:=i.cell;refine au 13 (.int .i64 ((L+le:Nat):Int)) ?_;refine aI [14] (cA ?_ aH);intro f a;go_simp;refine a.o _ _ ⟨(kh m (w.heap.size+1+1) 0 _ al).cell,(kh r (w.heap.size+1+1) 0 _ al).cell,(cD _ _ _ _ (fun e=>(show ¬w.heap.size+1+1=G by omega) (bU Addr.block e))).trans q.2.2.1,(cD _ _ _ _ (fun e=>(show ¬w.heap.size+1+1=G by omega) (bU Addr.block e))).trans q.2.2.2⟩ (fun _=>dC ao ?_ _);clear a f q;gi_wp2
   exact⟨(j.trans (jk t _ _)).from _,kh m _ 0 _ al,kh r _ 0 _ al,by rw[aj.o];exact i.set _,s.setCell (p:=⟨w.heap.size+1+1,0,none⟩) (by show w.heap.size<=w.heap.size+1+1;omega) _⟩
 case skip=>
  rintro k V R hm h;rw[ae.o k hm];exact h
 case done=>
  rintro D V j ⟨Z,h1,O,Q⟩ hK;have hc:=O.cell;gi_wp2
  refine⟨aE,.inl ⟨_,_,rfl,BQ hK,?_⟩⟩;refine⟨_,BR rfl _ _ _,?_,Q.trans (uZ (w:=w) (ar _) V D _ _ al hK rfl rfl)⟩;rw[<- av.o];rfl
end
section
attribute [local go_sem] Oper.semAt_some
variable {u:Nat}
def Ao (P:List (List Nat)) (v u:Nat):List Nat:=((P.getD u []++P.getD v []).filter fun x=>decide (x≠u)).filter fun x=>decide (x≠v)
def iK (P:List (List Nat)) (v k:Nat):List (List Nat):=(List.range P.length).map fun u=>if u<k/\u∈P.getD v [] then Ao P v u else P.getD u []
theorem I2 (P:List (List Nat)) (v k:Nat):(iK P v k).length=P.length:=by simp[iK]
theorem ahf (P:List (List Nat)) (v:Nat):iK P v 0=P:=by
 apply qh (by simp[iK]);intro i a h;simp[iK,List.getD_eq_getElem?_getD,h]
theorem ahg {P:List (List Nat)} (m:k∈P.getD v []):iK P v (k+1)=(iK P v k).set k (Ao P v k):=by
 apply qh (by simp[iK]);intro i c d;rw[KW];simp only[iK,om,r5];by_cases h:k=i
 ·subst h;rw[aA ⟨al,m⟩,aA rfl]
 ·rw[aB h];have e:(i<k+1/\i∈P.getD v [])↔(i<k/\i∈P.getD v []):=⟨fun ⟨a,b⟩=>⟨al,b⟩,fun ⟨a,b⟩=>⟨al,b⟩⟩;simp only[e]
theorem ahh {P:List (List Nat)} (m:¬k∈P.getD v []):iK P v (k+1)=iK P v k:=by
 apply wG;intro i c;have e:(i<k+1/\i∈P.getD v [])↔(i<k/\i∈P.getD v []):=⟨fun ⟨a,b⟩=>⟨by rcases cF i k with h |h;exact h;exact absurd (show i=k by omega) (fun e=>m (e▸b)),b⟩,fun ⟨a,b⟩=>⟨al,b⟩⟩;simp only[e]
theorem ahi {P:List (List Nat)} (b:u<P.length) (h:¬(u<k/\u∈P.getD v [])):(iK P v k).getD u []=P.getD u []:=by
 have a:u<(iK P v k).length:=by rw[I2];exact b
 have e:(iK P v k).getD u []=(iK P v k)[u]:=by rw[List.getD_eq_getElem?_getD,List.getElem?_eq_getElem a];rfl
 rw[e];simp only[iK,om,r5];rw[aB h]
def ub (P:List (List Nat)) (v:Nat):List (List Nat):=iK P v 8
theorem PJ {β:Type} (g:Nat) (f:β ->List Nat):Own (fun s W=>cS W g (f s)):=fun s X Y w h b r=>by
 refine(b.block g h.lt (fun e=>?_)).trans h;obtain⟨o,a,c⟩:=r g e.symm;rw[h] at a;cases a;cases c
theorem acm {β:Type} {G B:Nat} (b:w.heap.size<=B):OwnFrom B (fun (_:β) W=>w.grownBy W (some G)):=fun _ W W' o h g r=>
 ⟨g.os.trans h.os,g.tape.trans h.tape,g.output.trans h.output,aR h.size g.size,fun k a n=>(g.block k (aU a h.size) (fun e=>by
  have:=(r k e.symm).1;omega)).trans (h.block k a n)⟩
theorem anD (h:c8 w w') (G:Nat):w.grownBy w' (some G):=⟨h.os,h.tape,h.output,h.size,fun k a _=>h.block k a⟩
theorem aeJ {a b c:World} {G:Nat} (h:a.grownBy b (some G)) (k:b.grownBy c (some G)):a.grownBy c (some G):=
 ⟨k.os.trans h.os,k.tape.trans h.tape,k.output.trans h.output,aR h.size k.size,fun i d e=>(k.block i (aU d h.size) e).trans (h.block i d e)⟩
theorem anC (w:World) (G j:Nat) (y:Value):w.grownBy (w.setCell ⟨G,j,none⟩ y) (some G):=⟨rfl,rfl,rfl,aE,fun k _ h=>iJ w ⟨G,j,none⟩ y k (fun e=>h (bU some e))⟩
theorem aeK {a b:World} {G:Nat} (h:a.grownBy b (some G)):a.grownBy b.drew (some G):=⟨h.os,h.tape,h.output,h.size,h.block⟩
theorem ahr (G n c v:Nat) (P:List (List Nat)) (w:World) (hn:P.length=n) (h8:n<=8) (z:cS w G (P.map aC)) (hP:∀p∈P,∀u∈p,u<n) (hv:v<n) (Jv:¬v∈P.getD v []):
  c6 184 #[.slice (some ⟨G,0,none⟩) n c,.int .i64 (v:Nat)] w fun e w'=>(∃r,e=.returned r)/\cS w' G ((ub P v).map aC)/\w.grownBy w' (some G):=by
 refine(iG (n:=6)).1 ?_;have H:∀p∈P,∀u∈p,u<8:=fun p hp u O=>by have:=hP p hp u O;omega
 have M:=E5 H v;have ab:=z.lt
 have Og:Hid (∀k,k∈P.getD v [] ->k<n):=fun k A=>by
  rw[List.getD_eq_getElem?_getD,List.getElem?_eq_getElem al] at A;exact hP _ (bB _) k A
 have S:Hid (∀(V:World) (k u:Nat),u< n ->¬(u<k/\u∈P.getD v []) ->cS V G ((iK P v k).map aC) ->V.cell? ⟨G,u,none⟩=some (.int .u32 (aC (P.getD u []):Nat))/\V.frozen? ⟨G,u,none⟩=false):=fun V k u O an R=>by
  have d:u<(iK P v k).length:=by rw[I2];omega
  have:=R.cell u (by rw[dD];exact d);rw[Gr d,ahi al an] at this;exact⟨this,R.fz u⟩
 have lR:Hid (∀(V:World) (k:Nat),k∈P.getD v [] ->cS V G ((iK P v k).map aC) ->cS (V.setCell ⟨G,k,none⟩ (.int .u32 (aC (Ao P v k):Nat))) G ((iK P v (k+1)).map aC)):=fun V k m R=>by
  have:=R.set k (aC (Ao P v k));rwa [ahg m,F8]
 have fC:Hid (∀k,¬k∈P.getD v [] ->iK P v (k+1)=iK P v k):=fun k h=>ahh h;have wu:Hid (∀k,¬(v<k/\v∈P.getD v [])):=fun k h=>Jv h.2;have N9:=hid (fun u=>Ya (P.getD u []) (P.getD v []) (E5 H u) M);have Bg:=hid (fun (u:Nat) (O:u<8) (U:World)=>Ln (P.getD u []++P.getD v []) u U (afU (E5 H u) M) O);have Fm:Hid (∀(u:Nat) (U:World),c6 131 #[.int .u32 (aC ((P.getD u []++P.getD v []).filter fun x=>decide (x≠u)):Nat),.int .i64 (v:Nat)] U fun e w'=>e=.returned (.int .u32 (aC (Ao P v u):Nat))/\w'=U):=fun u U=>Ln _ v U (Nb (afU (E5 H u) M) _) al;have jb:cS w G ((iK P v 0).map aC):=by rw[ahf];exact z
 have pU:ub P v=iK P v 8:=rfl;rw[pU];have SB:=hid (S.o w 0 v hv (wu.o 0) jb);generalize EJ:P.getD v []=bv at *;have jz:=hid EJ;clear z hP H pU Jv EJ;refine uY Tryz.func184 rfl trivial ?_ rfl;simp only[Tryz.ntmps184,od,eA,mg,Nat.reduceAdd,Nat.reduceSub,oz,ow,oh,ng,iI,fM];obtain⟨f,j⟩:∃f,f=(w.alloc (.cells #[.slice (some ⟨G,0,none⟩) n c] 149)).alloc (.cells #[.int .i64 (v:Nat)] 3):=⟨_,rfl⟩;have Y:Boxed f w.heap.size 149 (.slice (some ⟨G,0,none⟩) n c):=by rw[j];exact(bh w _ _).alloc _
 have I:Boxed f (w.heap.size+1) 3 (.int .i64 (v:Nat)):=by
  have h:=bh (w.alloc (.cells #[.slice (some ⟨G,0,none⟩) n c] 149)) 3 (.int .i64 (v:Nat));rw[cU] at h;rw[j];exact h
 have Q:c8 w f:=by
  rw[j];exact((aw _ w).alloc (ar _) _).alloc aE _
 have E:=Y.cell;have F:=I.cell;have i:=(Q.cell (p:=⟨G,v,none⟩) ab).trans SB.o.1;rw[j] at E F i;gi_wp2
 rw[<- j];clear E F i j;have xo:w.heap.size+1<f.heap.size:=I.lt
 refine Gc al bv M rfl rfl
  (fun k V=>Boxed V w.heap.size 149 (.slice (some ⟨G,0,none⟩) n c)/\Boxed V (w.heap.size+1) 3 (.int .i64 (v:Nat))/\cS V G ((iK P v k).map aC)/\w.grownBy V (some G))
  (eZ (fY (jh _ _ (fun _=>_)) _) (eZ (fY (jh _ _ (fun _=>_)) _) (eZ (fY (PJ _ (fun k:Nat=>(iK P v k).map aC)) _) (acm al))))
  ⟨Y,I,jb.aa Q ab,anD Q G⟩
  (fun k=> {tmps:= #[.slice (some ⟨G,0,none⟩) n c,.int .i64 (v:Nat),.pointer (some ⟨w.heap.size,0,none⟩),.pointer (some ⟨w.heap.size+1,0,none⟩),.int .i64 (k:Nat),.slice (some ⟨G,0,none⟩) n c,.int .i64 (v:Nat),.pointer (some ⟨G,v,none⟩),.int .u32 (aC bv:Nat),.func (.func 130) #[.int .u32 (aC bv:Nat)] #[],.int .i64 (k:Nat),undef,undef,undef,undef,undef,undef,undef,undef,undef,undef,undef,undef,undef,undef,undef,undef],defers:=[]}) ?assign ?body ?skip ?done
 case assign=>
  intro l k W K y;gi_wp2
  exact y
 case body=>
  rintro l k V A m ⟨J,d,g,L⟩;have ai:=Og.o k m;have aj:k≠v:=fun e=>wu.o (k+1) ⟨al,e▸m⟩;have E:=J.cell;have F:=d.cell;have i:=(S.o V k v hv (wu.o k) g).1;rw[jz.o] at i;have T:=S.o V k k ai al g;have av:=N9.o k;have ae:=hid (Bg.o k A);have ad:=hid (Fm.o k);have xT:=hid (fun U z=>lR.o U k m z);generalize aC ((P.getD k []++bv).filter fun x=>decide (x≠k))=m2 at *;generalize aC (P.getD k []++bv)=m1 at *;generalize aC (P.getD k [])=mu at *;generalize aC (Ao P v k)=m3 at *;generalize aC bv=mv at *;gi_wp2_with fail
  refine wK (fun u=>u.cell? ⟨w.heap.size,0,none⟩=some (.slice (some ⟨G,0,none⟩) n c)/\u.cell? ⟨w.heap.size+1,0,none⟩=some (.int .i64 (v:Nat))/\u.cell? ⟨G,v,none⟩=some (.int .u32 (mv:Nat))) ao ao (fun ⟨_,_,h⟩=>h) ⟨E,F,i⟩ ?_;intro t;have hD:KeepsOthers V V.drew:=yg V;have q0:Boxed V.drew w.heap.size 149 (.slice (some ⟨G,0,none⟩) n c):=J;have q1:Boxed V.drew (w.heap.size+1) 3 (.int .i64 (v:Nat)):=d;have q2:cS V.drew G ((iK P v k).map aC):=g;have qB:=aeK L;have kU:V.drew.cell? ⟨G,k,none⟩=some (.int .u32 (mu:Nat)):=T.1;have fU:V.drew.frozen? ⟨G,k,none⟩=false:=T.2;clear E F i T J d g L Y I Q;generalize V.drew=q at *;refine au 0 (.slice (some ⟨G,0,none⟩) n c) ?_;refine au 1 (.int .i64 (k:Nat)) ?_;refine au 2 (.slice (some ⟨G,0,none⟩) n c) ?_;refine au 3 (.int .i64 (k:Nat)) ?_;refine au 4 (.pointer (some ⟨G,k,none⟩)) ?_;refine au 6 (.slice (some ⟨G,0,none⟩) n c) ?_;refine au 7 (.int .i64 (v:Nat)) ?_;refine au 8 (.pointer (some ⟨G,v,none⟩)) ?_;refine au 9 (.int .u32 (mv:Nat)) ?_;refine au 11 (.int .i64 (k:Nat)) ?_;refine au 13 (.int .i64 (v:Nat)) ?_;refine aI [5] (cA ?_ aH);intro b a;go_simp;refine a.o _ _ t (fun s=>?_);clear a b s;refine au 10 (.int .u32 (m1:Nat)) ?_;refine aI [12] (cA ?_ aH);intro b a;go_simp;refine(ae.o _).af ?_;rintro e X ⟨rfl,Z⟩;subst Z;refine a.o _ _ t (fun s=>?_);clear a b s;generalize X=q at *;refine aI [14] (cA ?_ aH);intro b a;go_simp;refine(ad.o _).af ?_;rintro e X ⟨rfl,Z⟩
  subst Z;refine a.o _ _ t (fun s=>?_);clear a b s;generalize X=q at *;refine au 15 (.pointer (some ⟨G,k,none⟩)) ?_;refine aI [16] (cA ?_ aH);intro b a;go_simp;refine a.o _ _ ⟨(kh q0 G k _ al).cell,(kh q1 G k _ al).cell,(cD _ _ _ _ (fun e=>aj (bU Addr.off e))).trans t.2.2⟩ (fun _=>dC ao ?_ _);clear a b t;gi_wp2
  exact⟨(hD.trans (jk q _ _)).from _,kh q0 G k _ al,kh q1 G k _ al,xT.o q q2,aeJ qB (anC q G k _)⟩
 case skip=>
  rintro k V A m h;rw[fC.o k m];exact h
 case done=>
  rintro D V hD ⟨J,d,g,L⟩ y;gi_wp2
  refine⟨aE,.inl ⟨_,_,rfl,BQ y,?_⟩⟩;refine⟨_,results_none rfl _ _ _,⟨_,rfl⟩,PJ G (fun (_:Unit)=>(iK P v 8).map aC) () V _ (some D) g (OV V D _) (fun r e=>by cases e;exact⟨_,y,rfl⟩),?_⟩;exact acm (β:=Unit) (ar _) () V _ (some D) L (OV V D _) (fun r e=>by cases e;exact⟨al,_,y,rfl⟩)
end
section
attribute [local go_sem] Oper.semAt_some
def kf (f:Nat ->Nat) (s:List Nat):Nat ->Option (Nat×Nat)
 |0=>none
 |k+1=>if k∈s then(match kf f s k with |none=>some (k,f k) |some (b,m)=>if f k<m then some (k,f k) else some (b,m)) else kf f s k
def M0:Option (Nat×Nat) ->Nat
 |none=>0
 |some (b,_)=>b
def XE:Option (Nat×Nat) ->Int
 |none=> -1
 |some (_,m)=>(m:Int)
theorem anY (h:¬k∈s):kf f s (k+1)=kf f s k:=by rw[kf,aB h]
theorem an1 (h:k∈s) (e:kf f s k=none):kf f s (k+1)=some (k,f k):=by rw[kf,aA h,e]
theorem an0 {b:Nat} (h:k∈s) (e:kf f s k=some (b,m)) (l:f k<m):kf f s (k+1)=some (k,f k):=by rw[kf,aA h,e];exact aA l
theorem anZ {b:Nat} (h:k∈s) (e:kf f s k=some (b,m)) (l:¬f k<m):kf f s (k+1)=some (b,m):=by rw[kf,aA h,e];exact aB l
def kz (P:List (List Nat)) (s:List Nat):Nat:=M0 (kf (rB P) s 8)
theorem alU (P:List (List Nat)) (v:Nat):rB P v<=32:=by
 have:=RF P v 8;rw[rB];omega
theorem aot (G n c:Nat) (P:List (List Nat)) (s:List Nat) (w:World) (hn:P.length=n) (h8:n<=8) (U:cS w G (P.map aC)) (hP:∀p∈P,∀u∈p,u<n) (R:∀u∈s,u<n):
  c6 183 #[.slice (some ⟨G,0,none⟩) n c,.int .u32 (aC s:Nat)] w (da w (.int .i64 (kz P s:Nat))):=by
 refine(iG (n:=6)).1 ?_;have Ex:∀u∈s,u<8:=fun u hu=>by have:=R u hu;omega
 have an:=U.lt;have HL:=hid (fun (V:World) (t:c8 w V) (k:Nat) (O:k<n)=>alT G n c k P V hn h8 (U.aa t an) hP O);have HN:=hid (fun k (h:¬k∈s)=>anY (f:=rB P) h);have HF:=hid (fun k (h:k∈s) e=>an1 (f:=rB P) h e);have HS:=hid (fun k b m (h:k∈s) e Q=>an0 (f:=rB P) (b:=b) (m:=m) h e Q);have HM:=hid (fun k b m (h:k∈s) e Q=>anZ (f:=rB P) (b:=b) (m:=m) h e Q);have Dm:=hid R;have gm:kz P s=M0 (kf (rB P) s 8):=rfl;rw[gm];have ad:kf (rB P) s 0=none:=rfl;have qX:=hid (fun k=>alU P k);generalize kf (rB P) s=fw at *;generalize rB P=lk at *;clear U hP R gm;refine uY Tryz.func183 rfl trivial ?_ rfl;simp only[Tryz.ntmps183,od,eA,mg,Nat.reduceAdd,Nat.reduceSub,oz,ow,oh,ng,iI,fM];obtain⟨r,x⟩:∃r,r=((w.alloc (.cells #[.slice (some ⟨G,0,none⟩) n c] 149)).alloc (.cells #[.int .i64 0] 3)).alloc (.cells #[.int .i64 (-1)] 3):=⟨_,rfl⟩;have X:Boxed r w.heap.size 149 (.slice (some ⟨G,0,none⟩) n c):=by rw[x];exact((bh w _ _).alloc _).alloc _
 have Z:Boxed r (w.heap.size+1) 3 (.int .i64 (M0 (fw 0):Nat)):=by
  have h:=(bh (w.alloc (.cells #[.slice (some ⟨G,0,none⟩) n c] 149)) 3 (.int .i64 0)).alloc (.cells #[.int .i64 (-1)] 3);rw[cU] at h;rw[x,ad];exact h
 have M:Boxed r (w.heap.size+1+1) 3 (.int .i64 (XE (fw 0))):=by
  have h:=bh ((w.alloc (.cells #[.slice (some ⟨G,0,none⟩) n c] 149)).alloc (.cells #[.int .i64 0] 3)) 3 (.int .i64 (-1));rw[cU,cU] at h;rw[x,ad];exact h
 have ab:c8 w r:=by
  rw[x];exact(((aw _ w).alloc (ar _) _).alloc aE _).alloc (by simp;omega) _
 gi_wp2
 rw[<- x];clear x;have xo:w.heap.size+1+1<r.heap.size:=M.lt
 refine Gc al s Ex rfl rfl
  (fun k V=>Boxed V w.heap.size 149 (.slice (some ⟨G,0,none⟩) n c)/\Boxed V (w.heap.size+1) 3 (.int .i64 (M0 (fw k):Nat))/\Boxed V (w.heap.size+1+1) 3 (.int .i64 (XE (fw k)))/\c8 w V)
  (eZ (fY (jh _ _ (fun _=>_)) _) (eZ (fY (jh _ _ (fun k:Nat=>.int .i64 (M0 (fw k):Nat))) _) (eZ (fY (jh _ _ (fun k:Nat=>.int .i64 (XE (fw k)))) _) (zV (ar _) al))))
  ⟨X,Z,M,ab⟩
  (fun k=> {tmps:= #[.slice (some ⟨G,0,none⟩) n c,.int .u32 (aC s:Nat),.pointer (some ⟨w.heap.size,0,none⟩),undef,.int .i64 0,.pointer (some ⟨w.heap.size+1,0,none⟩),.pointer (some ⟨w.heap.size+1+1,0,none⟩),.int .i64 (k:Nat),undef,.int .u32 (aC s:Nat),.func (.func 130) #[.int .u32 (aC s:Nat)] #[],.int .i64 (k:Nat),undef,undef,undef,undef,undef,undef,undef,undef,undef,undef,undef,undef,undef],defers:=[]}) ?assign ?body ?skip ?done
 case assign=>
  intro l k W K J;gi_wp2
  exact J
 case body=>
  rintro l k V O v ⟨A,F,I,t⟩;have Y:=hid (HL.o V t k (Dm.o k v));have ao:=qX.o k;have ai:=hid (HF.o k v);have Sp:=hid (fun b m=>HS.o k b m v);have aj:=hid (fun b m=>HM.o k b m v);have k0:=A.cell;have z:=hid t;have H:=hid (And.intro A (And.intro F I));have T:=I.lt;clear A F I t X Z M ab;generalize fw k=st at *;generalize lk k=L at *;have aq:¬(L:Int)<0:=al
  cases st with
  |none=>
   have g:=ai.o rfl;have E:=hid g;clear g;gi_wp2_with (refine⟨trivial,?_⟩;gi_at_call 224;refine(Pd l (iG.2 Y.o)).af ?_;rintro e i ⟨rfl,a⟩;have y:=zb H.o.1 a al;have d:=zb H.o.2.1 a al;have q:=zb H.o.2.2 a T;have j1:=d.cell;have j:=q.cell;have g1:=d.frozen;have g2:=q.frozen;have ae:i.cell? ⟨w.heap.size+1+1,0,none⟩=some (.int .i64 (-1)):=j;clear j)
   refine⟨((Vh a).trans ((jk i _ _).trans (jk _ _ _))).from _,kh (kh y _ 0 _ al) _ 0 _ al,?_,?_,?_⟩
   ·rw[E.o];exact kh (d.set _) _ 0 _ al
   ·rw[E.o];exact(kh q _ 0 _ al).set _
   ·exact((z.o.trans (a.af z.o.size)).setCell (p:=⟨w.heap.size+1,0,none⟩) aE _).setCell (p:=⟨w.heap.size+1+1,0,none⟩) (by show w.heap.size<=w.heap.size+1+1;omega) _
  |some bm=>
   obtain⟨b,m⟩:=bm;(have av:¬(m:Int)<0:=al);by_cases S:L<m
   ·have g:=Sp.o b m rfl S;have E:=hid g;(have ak:(L:Int)<(m:Int):=al);clear g;gi_wp2_with (refine⟨trivial,?_⟩;gi_at_call 224;refine(Pd l (iG.2 Y.o)).af ?_;rintro e i ⟨rfl,a⟩;have y:=zb H.o.1 a al;have d:=zb H.o.2.1 a al;have q:=zb H.o.2.2 a T;have j1:=d.cell;have j:=q.cell;have g1:=d.frozen;have g2:=q.frozen;have ae:i.cell? ⟨w.heap.size+1+1,0,none⟩=some (.int .i64 (m:Nat)):=j;clear j)
    refine⟨((Vh a).trans ((jk i _ _).trans (jk _ _ _))).from _,kh (kh y _ 0 _ al) _ 0 _ al,?_,?_,?_⟩
    ·rw[E.o];exact kh (d.set _) _ 0 _ al
    ·rw[E.o];exact(kh q _ 0 _ al).set _
    ·exact((z.o.trans (a.af z.o.size)).setCell (p:=⟨w.heap.size+1,0,none⟩) aE _).setCell (p:=⟨w.heap.size+1+1,0,none⟩) (by show w.heap.size<=w.heap.size+1+1;omega) _
   ·have g:=aj.o b m rfl S;have E:=hid g;(have ak:¬(L:Int)<(m:Int):=al);clear g S;gi_wp2_with (refine⟨trivial,?_⟩;gi_at_call 224;refine(Pd l (iG.2 Y.o)).af ?_;rintro e i ⟨rfl,a⟩;have y:=zb H.o.1 a al;have d:=zb H.o.2.1 a al;have q:=zb H.o.2.2 a T;have j:=q.cell;have ae:i.cell? ⟨w.heap.size+1+1,0,none⟩=some (.int .i64 (m:Nat)):=j;clear j)
    exact⟨(Vh a).from _,y,by rw[E.o];exact d,by rw[E.o];exact q,z.o.trans (a.af z.o.size)⟩
 case skip=>
  rintro k V O v h;rw[HN.o k v];exact h
 case done=>
  rintro D V hD ⟨A,F,I,t⟩ J;have hc:=F.cell;gi_wp2
  refine⟨aE,.inl ⟨_,_,rfl,BQ J,?_⟩⟩;exact⟨_,BR rfl _ _ _,rfl,t.trans (uZ (w:=w) (ar _) V D _ _ al J rfl rfl)⟩
end
def sJ (w:World) (g:Nat) (l:List Value):Prop:=w.heap[g]? =some (.cells l.toArray 22 (0,0))
theorem sJ.cell {l:List Value} (h:sJ w g l) (j:Nat) (a:j<l.length):w.cell? ⟨g,j,none⟩=some l[j]:=by
 rw[bZ w g j _ _ (0,0) h];simp[a]
theorem sJ.fz {l:List Value} (h:sJ w g l) (j:Nat):w.frozen? ⟨g,j,none⟩=false:=lr w g j _ _ h
theorem sJ.lt {l:List Value} (h:sJ w g l):g<w.heap.size:=(dS.1 h).1
theorem sJ.aa {b:Nat} {l:List Value} (h:sJ w g l) (a:Below b w w') (c:g<b):sJ w' g l:=(a.block g c).trans h
theorem sJ.set {l:List Value} (h:sJ w g l) (j:Nat) (y:Value):sJ (w.setCell ⟨g,j,none⟩ y) g (l.set j y):=by
 have a:=kM w g j _ _ y h;rw[sJ,a];simp
theorem Tryz.infoInts1:(Tryz.prog.info? 22).map (fun i=>(i.zero,i.size,i.bytes))=some (some (.slice none 0 0),1,24):=ao
theorem alF (n:Nat):(madeCells (Value.slice none 0 0).cells (n*1)).toList=List.replicate n (Value.slice none 0 0):=by
 rw[show (Value.slice none 0 0).cells= #[Value.slice none 0 0] from rfl,KL,pI]
def im (s:List Nat):List Int:=iL (gi s 8)
def Nz (w:World) (P:List (List Nat)) (l:List Value) (i:Nat):Prop:=l.length=P.length/\∀j (hj:j<P.length),j< i ->∃d cd,l[j]? =some (.slice d (im P[j]).length cd)/\az w d (im P[j])
theorem Nz.aa {P:List (List Nat)} {l:List Value} (h:Nz w P l i) (c:c8 w w'):Nz w' P l i:=⟨h.1,fun j f e=>by
 obtain⟨d,cd,a,b⟩:=h.2 j f e;exact⟨d,cd,a,b.aa c⟩⟩
theorem az.off {d:Option Addr} (h:az w d l) (i:∀g' o',d=some ⟨g',o',none⟩ ->l≠[] ->g'≠g):az (w.setCell ⟨g,j,none⟩ y) d l:=fun k a=>by
 obtain⟨g',o',b,c,f⟩:=h k a;have n:=i g' o' b (fun e=>by rw[e] at a;simp at a);refine⟨g',o',b,by simpa using c,?_⟩;rw[<- f];have e:=iJ w ⟨g,j,none⟩ y g' (by show g'≠g;exact n);exact lu e
theorem adx {d:Option Addr} {vs:List Value} (h:az w d l) (j:sJ w g vs) (m:∀v∈vs,∃a n c,v=.slice a n c):∀g' o',d=some ⟨g',o',none⟩ ->l≠[] ->g'≠g:=fun g' o' i k e=>by
 subst e;have p:0<l.length:=List.length_pos_iff.2 k;obtain⟨o,r,f,q,b⟩:=h 0 p;rw[i] at f;cases f;rw[bZ w g' _ _ _ (0,0) j] at b;rw[List.getElem?_toArray] at b;obtain⟨a,n,c,e⟩:=m _ (Td b);cases e
def Slv (l:List Value):Prop:=∀v∈l,∃a n c,v=Value.slice a n c
theorem adn (a:Option Addr) (ca:Nat) (P:List (List Nat)) (w:World) (A:∀p∈P,∀u∈p,u<8) (hn:P.length<=5000) (S:∀k (h:k<P.length),∃g o,a=some ⟨g,o,none⟩/\g<w.heap.size/\w.cell? ⟨g,o+k,none⟩=some (.int .u32 (aC P[k]:Nat))):
  c6 132 #[.slice a P.length ca] w fun e w'=>∃G,e=.returned (.slice (some ⟨G,0,none⟩) P.length P.length)/\w.heap.size<=G/\fN w' (some ⟨G,0,none⟩) (P.map im)/\c8 w w':=by
 obtain⟨i0,V,aj,ak,an⟩:=dW Tryz.infoInts1;have T:=hid S;have Q:=hid A;have zH:=hid (fun (s:List Nat) (hs:∀u∈s,u<8) (U:World)=>ado s U hs);clear S A;go_enter Tryz.func132,Tryz.ntmps132
 go_wp2_with (first
  |(at_make;refine nY _ rfl _ _ 26 rfl w.heap.size 22 i0 (.slice none 0 0) 1 Tryz.underlying26 V aj ak .i64 .i64 _ _ P.length rfl rfl bd bd (by rw[an];omega) (by unfold maxLen;omega) (ar _) ?_;intro D J K))
 have q:=qP J;rw[alF] at q;have t:Hid (c8 w D):=(aw _ w).grown K (ar _) (fun k e=>by cases e);have r:Hid (sJ D w.heap.size (List.replicate P.length (.slice none 0 0))):=q;clear J K q;go_wp2_with fail
 go_loopw [11] (fun iv wr=>∃(i:Nat) (vs:List Value),i<=P.length/\iv=.int .i64 i/\Hid (sJ wr w.heap.size vs)/\Hid (Nz wr P vs i)/\Hid (Slv vs)/\Hid (c8 w wr)) (fun iv _=>P.length - (intOf iv).toNat)
 case atStart=>exact⟨0,_,aS _,rfl,r,⟨aE,fun j _ h=>absurd h al⟩,fun v c=>⟨none,0,0,(List.mem_replicate.1 c).2⟩,t⟩
 case round=>
  obtain⟨i,vs,hi,rfl,R,Y,M,H⟩:=hrel;clear r t;by_cases F:i<P.length
  ·obtain⟨g,o,rfl,hg,y⟩:=T.o i F;have Z:=(H.o.cell (p:=⟨g,o+i,none⟩) hg).trans y;have O:=hid (zH.o P[i] (Q.o _ (bB F)));have ai:=Y.o.1;clear y;go_wp2_with fail
   refine(O.o _).af ?_;rintro e w3 ⟨v,rfl,c,f⟩;obtain⟨d,cd,rfl,I⟩:=c.ints;have m:=R.o.aa f R.o.lt;have E:=Y.o.aa f;have k3:=m.cell i al;have f3:=m.fz i;have L:=hid ((H.o.trans (f.af H.o.size)).setCell (p:=⟨w.heap.size,i,none⟩) (ar _) (.slice d (im P[i]).length cd));have iE:=hid (m.set i (.slice d (im P[i]).length cd))
   have ab:Hid (Slv (vs.set i (.slice d (im P[i]).length cd))):=fun x hx=>by
    rcases ZP hx with h |h
    ·exact M.o x h
    ·exact⟨_,_,_,h⟩
   have ad:Hid (Nz (w3.setCell ⟨w.heap.size,i,none⟩ (.slice d (im P[i]).length cd)) P (vs.set i (.slice d (im P[i]).length cd)) (i+1)):=by
    refine⟨by rw[sW];exact ai,fun j hj nH=>?_⟩;by_cases e:j=i
    ·subst e;exact⟨d,cd,by rw[List.getElem?_set_self al],az.off I (adx I m M.o)⟩
    ·obtain⟨d',ae,l,b⟩:=E.2 j hj al;exact⟨d',ae,by rw[Tg (fun e'=>e e'.symm)];exact l,az.off b (adx b m M.o)⟩
   rw[show iL (gi P[i] 8)=im P[i] from rfl];generalize (im P[i]).length=ln at *;generalize vs[i]'al=z at *;clear m E f I c Z;go_wp2;go_roundw
   case rel=>exact⟨i+1,_,al,bd,iE,ad,ab,L⟩
   case measure=>simp[intOf];omega
  ·obtain rfl:i=P.length:=al
   have X:Hid (fN wr (some ⟨w.heap.size,0,none⟩) (P.map im)):=fun k n=>by
    rw[dD] at n;obtain⟨d,cd,l,b⟩:=Y.o.2 k n n;obtain⟨h3,h4⟩:=mZ.1 l;refine⟨w.heap.size,0,d,cd,rfl,R.o.lt,?_,by rw[om];exact b⟩;rw[bM,R.o.cell k h3,h4,om]
   go_wp2;go_ret;exact⟨w.heap.size,rfl,ar _,X.o,H.o⟩
variable {u:Nat} {nv v':Value} {w9 wr wr':World}
def zi (w:World) (B:Nat) (v:Value) (l:List Nat):Prop:=w.ownsRow B 153 1 v l.length (l.map uv)
theorem zi.own {B:Nat} {v:Value} {l:List Nat} (h:zi w B v l):∀k,v.ownBlock=some k ->B<=k:=by
 intro k a;rcases h.2 with ⟨rfl,_⟩ |⟨g,cap,c,rfl,b,_⟩
 ·cases a
 ·cases a;exact b
theorem zi.slv {B:Nat} {v:Value} {l:List Nat} (h:zi w B v l):∃d n c,v=.slice d n c:=by
 rcases h.2 with ⟨rfl,_⟩ |⟨g,cap,r,rfl,a,_⟩
 ·exact⟨_,_,_,rfl⟩
 ·exact⟨_,_,_,rfl⟩
theorem acj {W:World} {d f:Nat} {a b:TypeId} {c v:Value} {n m:Nat} {x o:List Value} (h1:W.ownsRow d a 1 c n x) (j:W.ownsRow f b 1 v m o) (k:a≠b):v.ownBlock=none∨v.ownBlock≠c.ownBlock:=by
 rcases j.2 with ⟨rfl,_⟩ |⟨g,cap,r,rfl,_,l,_⟩
 ·exact .inl rfl
 ·refine .inr fun e=>?_;rcases h1.2 with ⟨rfl,_⟩ |⟨g',p,u,rfl,_,i,_⟩
  ·cases e
  ·have h:g=g':=mW e;subst h;rw[l] at i;injection i with h3;injection h3 with _ h4 _;exact k h4.symm
theorem ack {W:World} {B G:Nat} {e:TypeId} {v:Value} {x:List Value} (h:W.ownsRow B e 1 v n x) (c:G<B):v.ownBlock=none∨v.ownBlock≠some G:=by
 rcases h.2 with ⟨rfl,_⟩ |⟨g,cap,r,rfl,b,_⟩
 ·exact .inl rfl
 ·exact .inr fun e=>by
   have a:g=G:=mW e;omega
theorem Xt {V:World} {G:Nat} {row:Option Nat} (h:w.grownBy V (some G)) (g:V.grownBy V' row) (b:∀r,row=some r ->w.heap.size<=r):w.grownBy V' (some G):=
 ⟨g.os.trans h.os,g.tape.trans h.tape,g.output.trans h.output,aR h.size g.size,fun k a n=>(g.block k (aU a h.size) (fun e=>by
  have:=b k e.symm;omega)).trans (h.block k a n)⟩
theorem Tryz.infoSet2:(Tryz.prog.info? 153).map (fun i=>(i.zero,i.size,i.bytes))=some (some (.int .u32 0),1,4):=ao
theorem agK {o:Oper} {a:Act} {K:Act ->World ->Prop} {Q:Exit ->Act ->World ->Prop} (s x:Operand)
  (m:o.op=.call {callee:=.builtin .append,args:= #[s,x],argTypes:= #[149,149]}) (base:Nat) (v:Value) (l:List Nat) (f:Nat) (n:a.eval s=v) (y:zi w base v l) (g:Nat) (p:a.eval x=.slice (some ⟨g,0,none⟩) 1 1) (k:w.cell? ⟨g,0,none⟩=some (uv f)) (D:l.length+1<=100000) (A:base<=w.heap.size)
  (h:∀v' w',zi w' base v' (l++[f]) ->w.grownBy w' v.ownBlock ->K (a.put o.dst v') w'):o.wp Tryz.prog a w K Q:=by
 obtain⟨q,d,z,r,t⟩:=dW Tryz.infoSet2;refine wp_append_own _ s x 149 m base 153 q (.int .u32 0) 1 4 Tryz.underlying149 d z r t rfl a6 v l.length _ n y ⟨g,0,none⟩ 1 1 [uv f] p rfl ?_ ?_ (by unfold maxLen;omega) al A ?_
 ·intro j u b;match j,b with
  |0,b=>cases b;exact k
  |j+1,b=>simp at b
 ·intro u c;simp only[dR,l8,ye] at c;subst c;rfl
 ·intro v' w' e i _;refine h v' w' ?_ i;rw[zi,dm,fg];exact e
theorem agM {o:Oper} {a:Act} {K:Act ->World ->Prop} {Q:Exit ->Act ->World ->Prop} (s x:Operand)
  (m:o.op=.call {callee:=.builtin .append,args:= #[s,x],argTypes:= #[22,22]}) (base:Nat) (v:Value) (l:List Int) (f:Int) (n:a.eval s=v) (y:bA w base v l) (g:Nat) (p:a.eval x=.slice (some ⟨g,0,none⟩) 1 1) (k:w.cell? ⟨g,0,none⟩=some (.int .i64 f)) (D:l.length+1<=100000) (A:base<=w.heap.size)
  (h:∀v' w',bA w' base v' (l++[f]) ->w.grownBy w' v.ownBlock ->K (a.put o.dst v') w'):o.wp Tryz.prog a w K Q:=by
 obtain⟨q,d,z,r,t⟩:=dW Tryz.infoInt;refine wp_append_own _ s x 22 m base 3 q (.int .i64 0) 1 8 Tryz.underlying22 d z r t rfl a6 v l.length _ n y ⟨g,0,none⟩ 1 1 [.int .i64 f] p rfl ?_ ?_ (by unfold maxLen;omega) al A ?_
 ·intro j u b;match j,b with
  |0,b=>cases b;exact k
  |j+1,b=>simp at b
 ·intro u c;simp only[dR,l8,ye] at c;subst c;rfl
 ·intro v' w' e i _;refine h v' w' ?_ i;rw[bA,dm,fg];exact e
def yj:Nat ->List Nat
 |0=>[]
 |i+1=>i::yj i
theorem Ck {x:Nat}:x∈yj i↔x<i:=by
 induction i with
 |zero=>simp[yj]
 |succ i ih=>rw[yj,dR,ih];omega
structure FlS where
 ord:List Nat
 bag:List (List Nat)
 lft:List Nat
 nei:List (List Nat)
def bF (P:List (List Nat)) (n:Nat):Nat ->FlS
 |0=>⟨[],[],yj n,P⟩
 |k+1=>⟨(bF P n k).ord++[kz (bF P n k).nei (bF P n k).lft],(bF P n k).bag++[kz (bF P n k).nei (bF P n k).lft::(bF P n k).nei.getD (kz (bF P n k).nei (bF P n k).lft) []],(bF P n k).lft.filter (fun u=>decide (u≠kz (bF P n k).nei (bF P n k).lft)),ub (bF P n k).nei (kz (bF P n k).nei (bF P n k).lft)⟩
structure uH (n:Nat) (P:List (List Nat)):Prop where
 len:P.length=n
 lt:∀p∈P,∀u∈p,u<n
 self:∀u,¬u∈P.getD u []
theorem uH.at {P:List (List Nat)} (h:uH n P) (v:Nat):∀u∈P.getD v [],u<n:=by
 by_cases a:v<P.length
 ·rw[List.getD_eq_getElem?_getD,List.getElem?_eq_getElem a];exact h.lt _ (bB a)
 ·rw[List.getD_eq_getElem?_getD,iV al];intro u b;simp at b
theorem UT {P:List (List Nat)} {x:Nat}:x∈Ao P v u↔(x∈P.getD u []∨x∈P.getD v [])/\x≠u/\x≠v:=by
 simp only[Ao,dB,dh,S1];exact⟨fun ⟨⟨a,b⟩,c⟩=>⟨a,b,c⟩,fun ⟨a,b,c⟩=>⟨⟨a,b⟩,c⟩⟩
theorem uH.take {P:List (List Nat)} (h:uH n P) (v:Nat):uH n (ub P v):=by
 refine⟨by rw[ub,I2];exact h.len,fun p b u a=>?_,fun u a=>?_⟩
 ·obtain⟨i,d,rfl⟩:=bc.1 b;by_cases c:i<8/\i∈P.getD v []
  ·rw[aA c,UT] at a;exact a.1.elim (h.at i u) (h.at v u)
  ·rw[aB c] at a;exact h.at i u a
 ·by_cases l:u<P.length
  ·have e:(ub P v).getD u []=if u<8/\u∈P.getD v [] then Ao P v u else P.getD u []:=by
    rw[List.getD_eq_getElem?_getD,List.getElem?_eq_getElem (by rw[ub,I2];exact l)];simp[ub,iK]
   rw[e] at a;by_cases c:u<8/\u∈P.getD v []
   ·rw[aA c,UT] at a;exact a.2.1 rfl
   ·rw[aB c] at a;exact h.self u a
  ·rw[List.getD_eq_getElem?_getD,iV (by rw[ub,I2];omega)] at a;simp at a
theorem Rx:∀ {k b m:Nat},kf f s k=some (b,m) ->b∈s
 |0,_,_,h=>by cases h
 |k+1,b,m,h=>by
  by_cases a:k∈s
  ·rw[kf,aA a] at h;cases hf:kf f s k with
   |none=>rw[hf] at h;cases h;exact a
   |some x=>
    obtain⟨d,c⟩:=x;rw[hf] at h;simp only at h;by_cases l:f k<c
    ·rw[aA l] at h;cases h;exact a
    ·rw[aB l] at h;cases h;exact Rx hf
  ·rw[kf,aB a] at h;exact Rx h
theorem ae6 {P:List (List Nat)} (h1:1<=n) (a:∀u∈s,u<n):kz P s<n:=by
 rw[kz];cases h:kf (rB P) s 8 with
 |none=>exact h1
 |some x=>
  obtain⟨b,m⟩:=x;exact a b (Rx h)
theorem RA {P:List (List Nat)} (h:uH n P):∀k,uH n (bF P n k).nei/\(∀u∈(bF P n k).lft,u<n)/\(bF P n k).ord.length=k/\(bF P n k).bag.length=k
 |0=>⟨h,fun u a=>Ck.1 a,rfl,rfl⟩
 |k+1=>by
  obtain⟨b,c,d,e⟩:=RA h k;exact⟨b.take _,fun u a=>c u (dB.1 a).1,by simp[bF,d],by simp[bF,e]⟩
structure pE (w wr:World) (G:Nat) (nv bv:Value) (o:List Int) (b Q:List Nat):Prop where
 row:cS wr G Q
 grow:w.grownBy wr (some G)
 nd:bA wr w.heap.size nv o
 bg:zi wr w.heap.size bv b
theorem pE.aa {G:Nat} {bv:Value} {o:List Int} {b Q:List Nat} (h:pE w wr G nv bv o b Q) (a:c8 wr wr'):pE w wr' G nv bv o b Q:=
 ⟨h.row.aa a h.row.lt,Xt h.grow (row:=none) ⟨a.os,a.tape,a.output,a.size,fun k c _=>a.block k c⟩ (fun r e=>by cases e),h.nd.under a,Qh h.bg a (ar _)⟩
theorem pE.nodes {G:Nat} {bv:Value} {o o':List Int} {b Q:List Nat} (h:pE w wr G nv bv o b Q) (c:G<w.heap.size) (a:bA w9 w.heap.size v' o') (g:wr.grownBy w9 nv.ownBlock):pE w w9 G v' bv o' b Q:=
 ⟨(g.block G h.row.lt (fun e=>by have:=h.nd.own G e.symm;omega)).trans h.row,Xt h.grow g (fun r e=>h.nd.own r e),a,S2 h.bg g (acj h.nd h.bg a6)⟩
theorem pE.bags {G:Nat} {bv:Value} {o:List Int} {b a Q:List Nat} (h:pE w wr G nv bv o b Q) (d:G<w.heap.size) (c:zi w9 w.heap.size v' a) (g:wr.grownBy w9 bv.ownBlock):pE w w9 G nv v' o a Q:=
 ⟨(g.block G h.row.lt (fun e=>by have:=h.bg.own G e.symm;omega)).trans h.row,Xt h.grow g (fun r e=>h.bg.own r e),S2 h.nd g (acj h.bg h.nd a6),c⟩
theorem pE.o {G:Nat} {bv:Value} {o:List Int} {b Q a:List Nat} (h:pE w wr G nv bv o b Q) (c:G<w.heap.size) (r:cS w9 G a) (g:wr.grownBy w9 (some G)):pE w w9 G nv bv o b a:=
 ⟨r,aeJ h.grow g,S2 h.nd g (ack h.nd c),S2 h.bg g (ack h.bg c)⟩
theorem pE.drew {G:Nat} {bv:Value} {o:List Int} {b Q:List Nat} (h:pE w wr G nv bv o b Q):pE w wr.drew G nv bv o b Q:=⟨h.row,aeK h.grow,h.nd,h.bg⟩
theorem anJ (G n c:Nat) (P:List (List Nat)) (w:World) (h1:1<=n) (h8:n<=8) (j:cS w G (P.map aC)) (hP:uH n P):
  c6 134 #[.slice (some ⟨G,0,none⟩) n c] w fun e w'=>∃nv bv,e=.returned (.tuple #[nv,bv])/\pE w w' G nv bv (iL (bF P n n).ord) ((bF P n n).bag.map aC) ((bF P n n).nei.map aC):=by
 have L:=j.lt;have BC:=hid (fun k=>RA hP k);have X:Hid (pE w w G (.slice none 0 0) (.slice none 0 0) (iL (bF P n 0).ord) ((bF P n 0).bag.map aC) ((bF P n 0).nei.map aC)):=⟨j,⟨rfl,rfl,rfl,ar _,fun _ _ _=>rfl⟩,⟨rfl,.inl ⟨rfl,rfl⟩⟩,⟨rfl,.inl ⟨rfl,rfl⟩⟩⟩;have Z:=hid (fun (i:Nat) (M:i<8) (U:World)=>Jb (yj i) i U (fun u x=>by have:=Ck.1 x;omega) M);have ab:Hid (∀i,aC (i::yj i)=aC (yj (i+1))):=fun i=>rfl;have ai:Hid (∀k,bF P n (k+1)=⟨(bF P n k).ord++[kz (bF P n k).nei (bF P n k).lft],(bF P n k).bag++[kz (bF P n k).nei (bF P n k).lft::(bF P n k).nei.getD (kz (bF P n k).nei (bF P n k).lft) []],(bF P n k).lft.filter (fun u=>decide (u≠kz (bF P n k).nei (bF P n k).lft)),ub (bF P n k).nei (kz (bF P n k).nei (bF P n k).lft)⟩):=fun k=>rfl;have SA:Hid ((bF P n 0).lft=yj n):=rfl;generalize bF P n=t at *;clear j hP;go_enter Tryz.func134,Tryz.ntmps134;go_wp2_with fail
 go_loopw [4,9] (fun sv iv wr=>∃i:Nat,i<=n/\sv=.int .u32 (aC (yj i):Nat)/\iv=.int .i64 i/\wr=w) (fun _ iv _=>n - (intOf iv).toNat)
 case atStart=>exact⟨0,aS _,rfl,rfl,rfl⟩
 case round=>
  obtain⟨i,M,rfl,rfl,T⟩:=hrel;replace T:=T.symm;subst T;by_cases ad:i<n
  ·have Y:=hid (Z.o i al);rw[ab.o i] at Y;generalize aC (yj i)=Q at *;go_wp2_with fail
   refine(Y.o _).af ?_;rintro e w1 ⟨rfl,an⟩;subst an;go_wp2;go_roundw
   case rel=>exact⟨i+1,al,rfl,bd,trivial⟩
   case measure=>simp[intOf];omega
  ·obtain rfl:i=n:=al
   rw[<- SA.o];clear M ad Z ab;go_wp2_with fail
   go_loopw [2,3,4,18] (fun nv bv sv iv wr'=>∃k:Nat,k<=i/\iv=.int .i64 k/\sv=.int .u32 (aC (t k).lft:Nat)/\Hid (pE w wr' G nv bv (iL (t k).ord) ((t k).bag.map aC) ((t k).nei.map aC))) (fun _ _ _ iv _=>i - (intOf iv).toNat)
   case atStart=>exact⟨0,aS _,rfl,rfl,X⟩
   case round=>
    obtain⟨k,hk,rfl,rfl,H⟩:=hrel;clear X;by_cases ad:k<i
    ·obtain⟨g,y,ay,ax⟩:=BC.o k;have Sp:=hid (ai.o k);(obtain⟨d2,n2,e2,rfl⟩:∃d n c,u2=Value.slice d n c:=by obtain⟨d,cd,e, -⟩:=H.o.nd.ints;exact⟨_,_,_,e⟩);obtain⟨d3,n3,e3,rfl⟩:=H.o.bg.slv;generalize t k=S at *;have aj:=ae6 (P:=S.nei) h1 y;have ae:=hid (fun (U:World) (j:cS U G (S.nei.map aC))=>aot G i c S.nei S.lft U g.len h8 j g.lt y);have zq:=hid (fun (U:World) (j:cS U G (S.nei.map aC))=>ahr G i c (kz S.nei S.lft) S.nei U g.len h8 j g.lt aj (g.self _));have Hs:=hid (fun (U:World)=>Jb (S.nei.getD (kz S.nei S.lft) []) (kz S.nei S.lft) U (fun u x=>by have:=g.at _ u x;omega) al);have ll:=hid (fun (U:World)=>Ln S.lft (kz S.nei S.lft) U (fun u x=>by have:=y u x;omega) al)
     have BI:Hid (∀U:World,cS U G (S.nei.map aC) ->U.cell? ⟨G,kz S.nei S.lft,none⟩=some (.int .u32 (aC (S.nei.getD (kz S.nei S.lft) []):Nat))):=fun U hR=>by
      have hl:=g.len;have:=hR.cell (kz S.nei S.lft) (by rw[dD];omega);rwa [Gr al] at this
     generalize Jv:kz S.nei S.lft=v at *;clear Jv g y;generalize hm4:aC (S.lft.filter fun u=>decide (u≠v))=m4 at *;have uQ:=hid hm4;clear hm4;go_wp2_with fail
     refine(ae.o _ H.o.row).af ?_;rintro e w1 ⟨rfl,hb⟩;have J:=H.o.aa hb;clear hb H;have kc:=BI.o _ J.row;have V:Hid (aC (v::S.nei.getD v [])=aC (v::S.nei.getD v [])):=rfl;generalize hm1:aC (v::S.nei.getD v [])=r at *;replace V:Hid (aC (v::S.nei.getD v [])=r):=hm1;clear hm1;generalize aC (S.nei.getD v [])=Q at *;go_upto_region 10 with fail
     refine iu (S:=fun u=>u.cell? ⟨G,v,none⟩=some (.int .u32 (Q:Nat))) ao kc (fun a=>?_);have A:=J.drew;(have aE:(iL S.ord).length<=8:=by rw[ba];omega);(have jF:(S.bag.map aC).length<=8:=by rw[dD];omega);clear kc J;generalize w1.drew=f at *;refine au 0 (.slice d2 n2 e2) ?_;refine au 1 (.int .i64 (v:Nat)) ?_;refine au 4 (.slice d3 n3 e3) ?_;refine au 5 (.slice (some ⟨G,0,none⟩) i c) ?_;refine au 6 (.int .i64 (v:Nat)) ?_;refine au 7 (.pointer (some ⟨G,v,none⟩)) ?_;(try simp only[gE,aP]);refine cM 8 (.int .u32 (Q:Nat)) ?_ ?_
     ·intro u' aO;have s0:=aO;go_simp
     refine au 9 (.int .i64 (v:Nat)) ?_;refine aI [2] (cA ?_ aH);intro K h;go_simp;have m:=(aw _ f).alloc (ar _) (.cells #[.int .i64 (v:Nat)] 3);have q:=A.aa m;have s:=(bh f 3 (.int .i64 (v:Nat))).cell;refine h.o _ _ ((m.cell (p:=⟨G,v,none⟩) A.row.lt).trans a) (fun b=>?_);clear h K a A m;have a:=b;clear b;generalize (f.alloc (.cells #[.int .i64 (v:Nat)] 3))=U1 at *;generalize f.heap.size=F at *;refine aI [3] (cA ?_ aH);intro K h;rw[aA (by rfl)];refine agM _ _ rfl w.heap.size _ (iL S.ord) (v:Nat) rfl q.nd F rfl s al q.grow.size ?_;intro v' w9 O l;(obtain⟨z,D,R,rfl⟩:∃d n c,v'=Value.slice d n c:=by obtain⟨d,cd,e, -⟩:=O.ints;exact⟨_,_,_,e⟩);have E:=q.nodes L O l;refine h.o _ _ ((lu (l.block G q.row.lt (fun e=>by have:=q.nd.own G e.symm;omega))).trans a) (fun b=>?_);clear h K a q O l s;have a:=b;clear b;have GW:True:=trivial;clear GW;generalize hd:z=dn at *;generalize oN:D=nn at *;generalize hc9:R=cn at *;clear hd oN hc9 z D R;refine aI [10] (cA ?_ aH);intro K h;go_simp;refine(Hs.o _).af ?_;rintro e U2 ⟨rfl,MC⟩;subst MC;refine h.o _ _ a (fun b=>?_);clear h K b;have A:=E;clear E;generalize U2=f at *;refine aI [11] (cA ?_ aH);intro K h;go_simp;have m:=(aw _ f).alloc (ar _) (.cells #[.int .u32 (r:Nat)] 153);have q:=A.aa m;have s:=(bh f 153 (.int .u32 (r:Nat))).cell;refine h.o _ _ ((m.cell (p:=⟨G,v,none⟩) A.row.lt).trans a) (fun b=>?_);clear h K a A m;have a:=b
     clear b;generalize (f.alloc (.cells #[.int .u32 (r:Nat)] 153))=U1 at *;generalize f.heap.size=F at *;refine aI [12] (cA ?_ aH);intro K h;rw[aA (by rfl)];refine agK _ _ rfl w.heap.size _ (S.bag.map aC) r rfl q.bg F rfl s al q.grow.size ?_;intro v' w9 O l;obtain⟨z,D,R,rfl⟩:∃d n c,v'=Value.slice d n c:=O.slv;have E:=q.bags L O l;refine h.o _ _ ((lu (l.block G q.row.lt (fun e=>by have:=q.bg.own G e.symm;omega))).trans a) (fun b=>?_);clear h K a q O l s;have a:=b;clear b;refine au 13 (.slice dn nn cn) ?_;refine au 14 (.slice z D R) ?_;(try simp only[gE,aP]);refine dC ao ?_ _;clear a;have I:=E;clear E;generalize w9=w3 at *;go_wp2_with fail
     refine(ll.o _).af ?_;rintro e w4 ⟨rfl,av⟩;subst av;go_wp2_with fail
     refine(zq.o _ I.row).af ?_;rintro e w5 ⟨⟨rr,rfl⟩,pS,yK⟩;have rP:=hid (I.o L pS yK);clear pS yK I;go_wp2;go_roundw
     case rel=>exact⟨k+1,al,bd,by rw[Sp.o];show _=Value.int .u32 (aC (S.lft.filter fun u=>decide (u≠v)):Nat);rw[uQ.o],by rw[Sp.o];show pE _ _ _ _ _ (iL (S.ord++[v])) ((S.bag++[v::S.nei.getD v []]).map aC) _;rw[QD,fg,show [v::S.nei.getD v []].map aC=[r] from by rw[<- V.o];rfl];exact rP⟩
     case measure=>simp[intOf];omega
    ·obtain rfl:k=i:=al
     (obtain⟨d2,n2,e2,rfl⟩:∃d n c,u2=Value.slice d n c:=by obtain⟨d,cd,e, -⟩:=H.o.nd.ints;exact⟨_,_,_,e⟩);obtain⟨d3,n3,e3,rfl⟩:=H.o.bg.slv;go_wp2;go_ret2;exact⟨_,_,rfl,H.o⟩
variable {ds:List Deferred} {B' lo:Nat} {W':World}
def Shut (lo:Nat):Nat ->List Deferred ->World ->Prop
 |_,[],_=>True
 |B,d::ds,W=>∃r,lo<=r/\r<B/\d= {target:=.collected r,args:= #[]}/\W.heap[r]? =some (.deferred (some []))/\Shut lo r ds W
theorem Shut.af {B:Nat} {W:World} (h:Shut lo B ds W) (e:B<=B'):Shut lo B' ds W:=by
 cases ds with
 |nil=>trivial
 |cons d ds=>
  obtain⟨r,a,c,b⟩:=h;exact⟨r,a,al,b⟩
theorem Shut.keep:∀ {ds:List Deferred} {B:Nat} {W W':World},Shut lo B ds W ->(∀r,r< B ->W'.heap[r]? =W.heap[r]?) ->Shut lo B ds W'
 |[],_,_,_,_,_=>trivial
 |d::ds,B,W,W',h,hk=>by
  obtain⟨r,b,a,c,e,f⟩:=h;exact⟨r,b,a,c,(hk r a).trans e,f.keep fun k l=>hk k al⟩
theorem Shut.aa {B:Nat} {W:World} (h:Shut lo B ds W) (b:Below B W W'):Shut lo B ds W':=h.keep fun r a=>b.block r a
theorem Gs {F:Fence} {P:Program} {m:Array Value} {R:Ending ->World ->Prop} {K:World ->Prop}
  (b:∀W r,K W ->lo<=r ->W.heap[r]? =some (.deferred (some [])) ->K (W.putObj r (.deferred none))) (e:∀W,K W ->LeavesInM F n P fn m R [] .returning W):
  ∀(ds:List Deferred) (B:Nat) (W:World),Shut lo B ds W ->K W ->LeavesInM F n P fn m R ds .returning W
 |[],_,W,_,hW=>e W hW
 |d::ds,B,W,h,hW=>by
  obtain⟨r,c,g,rfl,a,f⟩:=h;refine⟨aE,.inl ⟨r,_,rfl,BQ a,Gs b e ds r _ ?_ (b W r hW c a)⟩⟩;exact f.keep fun k i=>zW al
section
attribute [local go_sem] Oper.semAt_some
variable {c:Nat}
def oZ (U:List (List Nat)) (u:Nat):Nat ->List Nat
 |0=>[]
 |v+1=>if u∈U.getD v [] then v::oZ U u v else oZ U u v
theorem Nl {U:List (List Nat)}:∀ {v x:Nat},x∈oZ U u v↔x<v/\u∈U.getD x []
 |0,x=>by simp[oZ]
 |v+1,x=>by
  rw[oZ];by_cases h:u∈U.getD v []
  ·rw[aA h,dR,Nl];constructor
   ·rintro(rfl |⟨b,a⟩)
    ·exact⟨al,h⟩
    ·exact⟨al,a⟩
   ·rintro⟨b,a⟩;by_cases e:x=v
    ·exact .inl e
    ·exact .inr ⟨al,a⟩
  ·rw[aB h,Nl];constructor
   ·rintro⟨b,a⟩;exact⟨al,a⟩
   ·rintro⟨b,a⟩;exact⟨by rcases cF x v with c |c;exact c;exact absurd (show x=v by omega) (fun e=>h (e▸a)),a⟩
def mH (U:List (List Nat)) (n v k:Nat):List (List Nat):=(List.range n).map fun u=>if u<k/\u∈U.getD v [] then v::oZ U u v else oZ U u v
def mI (U:List (List Nat)) (n v:Nat):List (List Nat):=(List.range n).map fun u=>oZ U u v
theorem apz (U:List (List Nat)) (n v:Nat):mH U n v 0=mI U n v:=by simp[mH,mI]
theorem apE {U:List (List Nat)} (h:n<=8):mH U n v 8=mI U n (v+1):=by
 apply wG;intro u b;have:=bJ.1 b;rw[oZ];by_cases a:u∈U.getD v []
 ·rw[aA ⟨al,a⟩,aA a]
 ·rw[aB (fun e=>a e.2),aB a]
theorem apA {U:List (List Nat)} (m:k∈U.getD v []):mH U n v (k+1)=(mH U n v k).set k (v::oZ U k v):=by
 apply qh (by simp[mH]);intro i c d;rw[KW];simp only[mH,om,r5];by_cases h:k=i
 ·subst h;rw[aA ⟨al,m⟩,aA rfl]
 ·rw[aB h];have e:(i<k+1/\i∈U.getD v [])↔(i<k/\i∈U.getD v []):=⟨fun ⟨a,b⟩=>⟨al,b⟩,fun ⟨a,b⟩=>⟨al,b⟩⟩;simp only[e]
theorem apB {U:List (List Nat)} (m:¬k∈U.getD v []):mH U n v (k+1)=mH U n v k:=by
 apply wG;intro i c;have e:(i<k+1/\i∈U.getD v [])↔(i<k/\i∈U.getD v []):=⟨fun ⟨a,b⟩=>⟨by rcases cF i k with h |h;exact h;exact absurd (show i=k by omega) (fun e=>m (e▸b)),b⟩,fun ⟨a,b⟩=>⟨al,b⟩⟩;simp only[e]
theorem apD {U:List (List Nat)} (a:u<n) (h:¬u<k):(mH U n v k)[u]? =some (oZ U u v):=by
 simp[mH,a,h]
theorem apC (U:List (List Nat)) (n v k:Nat):(mH U n v k).length=n:=by simp[mH]
theorem afB (U:List (List Nat)) (n v:Nat):(mI U n v).length=n:=by simp[mI]
theorem Shut.putAt {B:Nat} {W:World} (h:Shut lo B ds W) (i:g<lo) (v:Value):Shut lo B ds (W.setCell ⟨g,j,none⟩ v):=by
 induction ds generalizing B with
 |nil=>trivial
 |cons d ds ih=>
  obtain⟨r,a,b,c,e,f⟩:=h;exact⟨r,a,b,c,(iJ W ⟨g,j,none⟩ v r (by show r≠g;omega)).trans e,ih f⟩
theorem TX {β:Type} {B:Nat}:OwnFrom B (fun (_:β) W=>B<=W.heap.size/\Shut lo B ds W):=fun _ W W' o h g r=>
 ⟨aR h.1 g.size,h.2.keep fun k a=>g.block k al (fun e=>by have:=(r k e.symm).1;omega)⟩
def tU (w:World) (n c:Nat) (l:List Nat) (W:World):Prop:=cS W w.heap.size l/\Boxed W (w.heap.size+1) 149 (.slice (some ⟨w.heap.size,0,none⟩) n c)/\c8 w W
theorem tU.shut {l:List Nat} (o:w.heap.size+1<lo) (W:World) (r:Nat) (h:tU w n c l W) (a:lo<=r) (d:W.heap[r]? =some (.deferred (some []))):tU w n c l (W.putObj r (.deferred none)):=
 ⟨(zW al).trans h.1,(zW al).trans h.2.1,h.2.2.trans (uZ (w:=w) (ar _) W r _ _ al d rfl rfl)⟩
theorem tU.own {β:Type} {B:Nat} (f:β ->List Nat) (h:w.heap.size<=B):OwnFrom B (fun (s:β) W=>tU w n c (f s) W):=
 eZ (fY (PJ _ f) _) (eZ (fY (jh _ _ (fun _=>_)) _) (zV (ar _) h))
theorem tU.aa {W:World} {l:List Nat} (h:tU w n c l W) (b:c8 W W'):tU w n c l W':=⟨h.1.aa b h.1.lt,zb h.2.1 b h.2.1.lt,h.2.2.trans (b.af h.2.2.size)⟩
theorem aps (G n c:Nat) (U:List (List Nat)) (w:World) (hn:U.length=n) (h8:n<=8) (T:cS w G (U.map aC)) (S:∀p∈U,∀u∈p,u<n):
  c6 182 #[.slice (some ⟨G,0,none⟩) n c] w fun e w'=>e=.returned (.slice (some ⟨w.heap.size,0,none⟩) n n)/\cS w' w.heap.size ((mI U n n).map aC)/\c8 w w':=by
 refine(iG (n:=6)).1 ?_;obtain⟨i0,b6,a1,a6,a7⟩:=dW Tryz.infoSet;have hG:=T.lt;have vN:∀p∈U,∀u∈p,u<8:=fun p hp u E=>by have:=S p hp u E;omega
 have wD:Hid (∀(V:World) (v:Nat),c8 w V ->v< n ->V.cell? ⟨G,v,none⟩=some (.int .u32 (aC (U.getD v []):Nat))):=fun V v hB X=>by
  have:=(T.aa hB hG).cell v (by rw[dD];omega);rwa [Gr al] at this
 have ai:=hid (fun v=>E5 vN v)
 have Og:Hid (∀v k,v< n ->k∈U.getD v [] ->k<n):=fun v k X j=>by
  rw[List.getD_eq_getElem?_getD,List.getElem?_eq_getElem al] at j;exact S _ (bB _) k j
 have Sj:=hid (fun (u v:Nat) (X:v<n) (V:World)=>Jb (oZ U u v) v V (fun x hx=>by have:=(Nl.1 hx).1;omega) al)
 have Iy:Hid (∀(V:World) (g v k u:Nat),u< n ->¬u< k ->cS V g ((mH U n v k).map aC) ->V.cell? ⟨g,u,none⟩=some (.int .u32 (aC (oZ U u v):Nat))/\V.frozen? ⟨g,u,none⟩=false):=fun V g v k u E ay R=>by
  have h1:u<(mH U n v k).length:=by rw[apC];exact E
  have O:=R.cell u (by rw[dD];exact h1);obtain⟨h3,f⟩:=mZ.1 (apD (U:=U) (v:=v) E ay);rw[om,f] at O;exact⟨O,R.fz u⟩
 have lR:Hid (∀(V:World) (g v k:Nat),k∈U.getD v [] ->cS V g ((mH U n v k).map aC) ->cS (V.setCell ⟨g,k,none⟩ (.int .u32 (aC (v::oZ U k v):Nat))) g ((mH U n v (k+1)).map aC)):=fun V g v k m R=>by
  have:=R.set k (aC (v::oZ U k v));rwa [apA m,F8]
 have fC:Hid (∀v k,¬k∈U.getD v [] ->mH U n v (k+1)=mH U n v k):=fun v k h=>apB h;have HZ:=hid (fun v=>apz U n v);have HA:=hid (fun v=>apE (U:=U) (v:=v) h8)
 have hz:(mI U n 0).map aC=List.replicate n 0:=by
  apply qh (by simp[mI]);intro i h1 O;simp[mI,oZ,aC]
 clear T S vN;refine uY Tryz.func182 rfl trivial ?_ rfl;simp only[Tryz.ntmps182,od,eA,mg,Nat.reduceAdd,Nat.reduceSub,oz,ow,oh,ng,iI,fM];have ax:=fun V=>OQ (P:=Tryz.prog) 149 153 (.int .u32 0) 4 Tryz.underlying149 Tryz.infoSet rfl .i64 .i64 n al al V;gi_wp2
 clear ax;obtain⟨z,I⟩:∃z,z=(w.alloc (.cells (madeCells #[.int .u32 0] n) 153)).alloc (.cells #[.slice (some ⟨w.heap.size,0,none⟩) n n] 149):=⟨_,rfl⟩
 have ae:tU w n n ((mI U n 0).map aC) z:=by
  rw[I,hz];refine⟨?_,?_,((aw _ w).alloc (ar _) _).alloc aE _⟩
  ·have h:=jg w (.cells (madeCells #[.int .u32 0] n) 153)
   have e:(madeCells #[.int .u32 0] n).toList=(List.replicate n (0:Nat)).map uv:=by
    have:=U8 n;rwa [pI] at this
   (have e2:madeCells #[Value.int .u32 0] n=((List.replicate n (0:Nat)).map uv).toArray:=by rw[<- e]);rw[cS,r8 _ _ _ aE,h,e2]
  ·have h:=bh (w.alloc (.cells (madeCells #[.int .u32 0] n) 153)) 149 (.slice (some ⟨w.heap.size,0,none⟩) n n);rwa [cU] at h
 rw[<- I];have aO:z.heap.size=w.heap.size+2:=by rw[I];simp
 have sP:=hid ae;clear I ae hz;refine wpIn_loop (fun A w'=>∃(v:Nat) (ds:List Deferred) (u4 u5 u13 u14 u15 u16 Le Ld Cl:Value),A= {tmps:= #[.slice (some ⟨G,0,none⟩) n c,undef,.slice none 0 0,.pointer (some ⟨w.heap.size+1,0,none⟩),u4,u5,undef,.slice (some ⟨G,0,none⟩) n c,.int .i64 (n:Nat),.slice (some ⟨w.heap.size,0,none⟩) n n,.slice (some ⟨G,0,none⟩) n c,.int .i64 (n:Nat),.int .i64 (v:Nat),u13,u14,u15,u16,Le,Ld,undef,undef,undef,undef,undef,undef,undef,undef,undef,undef,Cl,undef],defers:=ds}/\v<=n/\Hid (tU w n n ((mI U n v).map aC) w')/\Hid (Shut (w.heap.size+2) w'.heap.size ds w')) (fun A _=>n - (intOf (A.tmps.getD 12 undef)).toNat) ?_ ?_
 ·exact⟨0,[],_,_,_,_,_,_,_,_,_,rfl,aS _,sP,trivial⟩
 intro A wr aG;obtain⟨v,ds,u4,u5,u13,u14,u15,u16,Le,Ld,Cl,rfl,X,q,F⟩:=aG;clear sP;by_cases ad:v<n
 ·have kv:=wD.o wr v q.o.2.2 ad;have hs:=ai.o v;have aj:=hid (fun k j=>Og.o v k ad j);have an:=hid (fun u=>Sj.o u v ad);have Zx:=hid (fun V g k u=>Iy.o V g v k u);have YL:=hid (fun V g k=>lR.o V g v k);have Y1:=hid (fun k=>fC.o v k);have WJ:=HZ.o v;have Xp:=HA.o v;generalize U.getD v []=bv at *;have dA:w.heap.size+1<wr.heap.size:=q.o.2.1.lt;gi_wp2
  obtain⟨a,y⟩:∃a,a=wr.alloc (.cells #[.int .i64 (v:Nat)] 3):=⟨_,rfl⟩;have b4:Boxed a wr.heap.size 3 (.int .i64 (v:Nat)):=by rw[y];exact bh wr _ _
  have ab:c8 wr a:=by rw[y];exact(aw _ wr).alloc (ar _) _
  have aQ:a.heap.size=wr.heap.size+1:=by rw[y];simp
  rw[<- y];clear y kv;have Z:=q.o.aa ab;have ME:=(F.o.aa ab).af (show wr.heap.size<=a.heap.size by omega);have zw:=hid (F.o);clear q F zw;rw[<- WJ] at Z
  refine Gc al bv hs rfl rfl
   (fun k V=>tU w n n ((mH U n v k).map aC) V/\Boxed V wr.heap.size 3 (.int .i64 (v:Nat))/\(a.heap.size<=V.heap.size/\Shut (w.heap.size+2) a.heap.size ds V))
   (eZ (tU.own (fun k:Nat=>(mH U n v k).map aC) al) (eZ (fY (jh _ _ (fun _=>_)) _) TX))
   ⟨Z,b4,ar _,ME⟩
   (fun k=> {tmps:= #[.slice (some ⟨G,0,none⟩) n c,undef,.slice none 0 0,.pointer (some ⟨w.heap.size+1,0,none⟩),.pointer (some ⟨wr.heap.size,0,none⟩),.int .u32 (aC bv:Nat),.int .i64 (k:Nat),.slice (some ⟨G,0,none⟩) n c,.int .i64 (n:Nat),.slice (some ⟨w.heap.size,0,none⟩) n n,.slice (some ⟨G,0,none⟩) n c,.int .i64 (n:Nat),.int .i64 (v:Nat),.bool true,.int .i64 (v:Nat),.pointer (some ⟨G,v,none⟩),.int .u32 (aC bv:Nat),.int .u32 (aC bv:Nat),.func (.func 130) #[.int .u32 (aC bv:Nat)] #[],.int .i64 (k:Nat),undef,undef,undef,undef,undef,undef,undef,undef,undef,Cl,undef],defers:=[]}) ?assign ?body ?skip ?done
  case assign=>
   intro l k W K s;gi_wp2
   exact s
  case body=>
   rintro l k V j m ⟨b,f,Y,t⟩;have av:=aj.o k m;have k1:=b.2.1.cell;have k4:=f.cell;obtain⟨kU,fU⟩:=Zx.o V w.heap.size k k av al b.1;have uI:=hid (an.o k);have xT:=hid (fun W hW=>YL.o W w.heap.size k m hW);generalize aC (v::oZ U k v)=m1 at *;generalize aC (oZ U k v)=m0 at *;generalize aC bv=mv at *;gi_wp2_with fail
   refine wK (fun u=>u.cell? ⟨w.heap.size+1,0,none⟩=some (.slice (some ⟨w.heap.size,0,none⟩) n n)/\u.cell? ⟨wr.heap.size,0,none⟩=some (.int .i64 (v:Nat))) ao ao (fun ⟨_,_,h⟩=>h) ⟨k1,k4⟩ ?_;intro M;have Q:KeepsOthers V V.drew:=yg V;have H:tU w n n ((mH U n v k).map aC) V.drew:=⟨b.1,b.2.1,b.2.2.drew⟩;have q4:Boxed V.drew wr.heap.size 3 (.int .i64 (v:Nat)):=f;have qS:Shut (w.heap.size+2) a.heap.size ds V.drew:=t.keep fun _ _=>rfl;have qz:a.heap.size<=V.drew.heap.size:=Y;have a8:V.drew.cell? ⟨w.heap.size,k,none⟩=some (.int .u32 (m0:Nat)):=kU;have aN:V.drew.frozen? ⟨w.heap.size,k,none⟩=false:=fU;clear k1 k4 kU fU b f t Y b4 ab Z ME;generalize V.drew=J at *;refine au 0 (.slice (some ⟨w.heap.size,0,none⟩) n n) ?_;refine au 1 (.int .i64 (k:Nat)) ?_;refine au 2 (.slice (some ⟨w.heap.size,0,none⟩) n n) ?_;refine au 3 (.int .i64 (k:Nat)) ?_;refine au 4 (.pointer (some ⟨w.heap.size,k,none⟩)) ?_;refine au 6 (.int .i64 (v:Nat)) ?_;refine aI [5] (cA ?_ aH);intro r d;go_simp;refine d.o _ _ M (fun L=>?_);clear d r L;refine aI [7] (cA ?_ aH);intro r d;go_simp;refine(uI.o _).af ?_;rintro e U1 ⟨rfl,gw⟩;subst gw;refine d.o _ _ M (fun L=>?_);clear d r L;generalize U1=J at *;refine au 8 (.pointer (some ⟨w.heap.size,k,none⟩)) ?_;refine aI [9] (cA ?_ aH);intro r d;go_simp;refine d.o _ _ ⟨(kh H.2.1 w.heap.size k _ al).cell,(kh q4 w.heap.size k _ al).cell⟩ (fun _=>dC ao ?_ _);clear d r M;gi_wp2
   exact⟨(Q.trans (jk J _ _)).from _,⟨xT.o J H.1,kh H.2.1 w.heap.size k _ al,H.2.2.setCell (p:=⟨w.heap.size,k,none⟩) (ar _) _⟩,kh q4 w.heap.size k _ al,by simpa using qz,qS.putAt al _⟩
  case skip=>
   rintro k V j m h;rw[Y1.o k m];exact h
  case done=>
   rintro D V Q ⟨b,f,Y,t⟩ s;rw[Xp] at b;have C7:D<V.heap.size:=(dS.1 s).1;have Hz:Hid (Shut (w.heap.size+2) V.heap.size ({target:=.collected D,args:= #[]}::ds) V):=⟨D,al,C7,rfl,s,t.af Q⟩;have Ij:=hid b;clear b f t s;gi_wp2
   refine⟨⟨v+1,_,_,_,_,_,_,_,_,_,_,rfl,al,Ij,Hz⟩,?_⟩;simp[intOf];omega
 ·obtain rfl:v=n:=al
  have kc:=q.o.2.1.cell;gi_wp2
  refine Gs (lo:=w.heap.size+2) (K:=tU w v v ((mI U v v).map aC)) (tU.shut al) (fun aM hZ=>⟨_,BR rfl _ _ _,rfl,hZ.1,hZ.2.2⟩) _ wr.heap.size wr F.o q.o
end
end Go.Proofs.YtfhdoommfenijaaGreatDoor
