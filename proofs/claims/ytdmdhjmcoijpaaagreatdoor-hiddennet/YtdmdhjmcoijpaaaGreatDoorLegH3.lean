/- Part3: part 3. -/
import Derived.Test.YtdmdhjmcoijpaaaGreatDoorLegH2
set_option maxRecDepth 100000
set_option maxHeartbeats 400000000
set_option linter.unusedSimpArgs false
set_option linter.unusedVariables false
namespace Go.Proofs.YtdmdhjmcoijpaaaGreatDoor
open Go.RowKit Go.Shelf
variable {k:Nat} {q:Rat}
theorem ZI (l:List Fr):(vk l).length=l.length:=by simp[vk]
theorem ahL (l:List Fr) (h:k<(vk l).length):(vk l)[k]=qF (aQ (l[k]'(by rw[ZI] at h;exact h))*(1/fsum l)):=by simp[vk]
theorem ago (h:q≠0):qw (1/q)<=qw q+1:=by
 have e:val (bw q) (nu q) (de q)≠0:=by rw[ji];exact h
 have a:=fun h=>e (Jb.2 h);have b:1/q=val (bw q) (de q) (nu q):=by rw[QY _ _ _ (fun h=>a (.inl h)) (fun h=>a (.inr h)),ji,rC,sF]
 rw[b];refine aR (F6 _ _ _) ?_;show (B q.den).size+(B q.num.natAbs).size+1<=qw q+1;rw[qw];omega
theorem aeV (a b c:Option Addr) (ca cb cc:Nat) (sizes vars:List Int) (l:List Fr) (w:World) (hs:aJ w a sizes) (hv:aJ w b vars) (Y:aW w c l) (hn:sizes.length<=140737488355328) (Z:vars.length<=140737488355328) (L:j7 sizes vars l.length=0) (hw:∀k (h:k<l.length),l[k].2.1.size+l[k].2.2.size<=40000) (M:∀k,k<=l.length ->qw (fsum (l.take k))<=40000) (dD:l.length<=10000) (hz:fsum l=0):
  du 31 #[.slice a sizes.length ca,.agg #[.slice b vars.length cb,.slice c l.length cc]] w fun e w'=>rZ [] [] 3 e w'/\ef w w':=by
 obtain⟨aS,bJ,ad⟩:=AO L;have hq:=M l.length (aq _);rw[jR] at hq;have E:=fun V h1 h2=>DR a b c ca cb cc l.length sizes vars V h1 h2 hn Z;rw[L] at E;have E:=hid E;have X:=hid (fun V h=>Ho c cc l V h hw M dD);have O:=hid (fun V:World=>xI (k:=1) (w:=V) 1 1 rfl bd (by rfl));have HS:=hid hs;have HV:=hid hv;have J:=hid Y;have D:=hid (fun V:World=>ace (n:=bw 1) (x:=nu 1) (y:=de 1) (w:=V) ((ji (fsum l)).trans hz));clear hs hv Y hn Z L hw M ad bJ aS hz;obtain⟨p,td⟩:∃d,false=d:=⟨_,rfl⟩;obtain⟨q,Q⟩:∃d:ByteArray,⟨#[]⟩=d:=⟨_,rfl⟩;obtain⟨r,P⟩:∃d:ByteArray,⟨#[]⟩=d:=⟨_,rfl⟩
 have R:Hid (∀V:World,du 25 #[.agg #[.bool (bw 1),.string (nu 1),.string (de 1)],.agg #[.bool (bw (fsum l)),.string (nu (fsum l)),.string (de (fsum l))]] V fun e w'=>e=.returned (.tuple #[.agg #[.bool p,.string q,.string r],.int .i64 3])/\ef V w'):=by
  rw[<- td, <- Q, <- P];exact D
 clear D td Q P;have D:=R;clear R;obtain⟨s,I⟩:∃d:Int,3=d:=⟨_,rfl⟩;rw[I] at D;have Kj:(s==0)=false:=by rw[<- I];rfl
 have mX:¬s=0:=al
 have H:=NH.new w (.slice b vars.length cb) (.slice c l.length cc);have c0:=H.1.c0;have c1:=H.1.c1;go_enter Tryz.func31,Tryz.ntmps31;go_wp2_with fail
 generalize ((w.alloc (TC (.slice b vars.length cb) (.slice c l.length cc))).alloc (TC (.slice none 0 0) (.slice none 0 0)))=W at *;refine(E.o _ (HS.o.aa H.2.2) (HV.o.aa H.2.2)).af ?_;rintro e w1 ⟨rfl,ab⟩;replace H:=H.step ab;clear c0 c1 ab E;go_upto_region 4 with fail
 replace H:=H.drew;refine gI (S:=fun u=>u.cell? ⟨w.heap.size,1,none⟩=some (.slice c l.length cc)) ao H.1.c1 (fun i=>?_);generalize w1.drew=z at *;refine ar 1 (.pointer (some ⟨w.heap.size,1,none⟩)) ?_;refine ar 2 (.slice c l.length cc) ?_;refine aG [0,8] (cA ?_ (cA ?_ aF))
 focus
  intro j K;go_simp;refine(O.o _).af ?_;rintro e u1 ⟨rfl,f⟩;replace H:=H.step f;refine K.o _ _ H.1.c1 (fun g=>?_);clear K j i;have i:=g;clear g f;refine aG [3,8] (cA ?_ (cA ?_ aF))
  focus
   intro j K;go_simp;refine(X.o _ (J.o.aa H.2.2)).af ?_;rintro e u2 ⟨rfl,f⟩;replace H:=H.step f;refine K.o _ _ H.1.c1 (fun g=>?_);clear K j i;have i:=g;clear g f;refine aG [4,8] (cA ?_ (cA ?_ aF))
   focus
    intro j K;go_simp;refine(D.o _).af ?_;rintro e t ⟨rfl,f⟩;replace H:=H.step f;refine K.o _ _ H.1.c1 (fun g=>?_);clear K j i;have i:=g;clear g f;refine ar 5 (.tuple #[.agg #[.bool p,.string q,.string r],.int .i64 s]) ?_;refine ar 6 (.agg #[.bool p,.string q,.string r]) ?_;refine ar 7 (.int .i64 s) ?_;refine aG [8] (cA ?_ aF);intro j K;go_simp;have f:ef t (t.alloc (FC false ⟨#[]⟩ ⟨#[]⟩)):=(au _ t).alloc (aq _) _;have m:aI (t.alloc (FC false ⟨#[]⟩ ⟨#[]⟩)) t.heap.size false ⟨#[]⟩ ⟨#[]⟩:=aI.new t _ _ _;have A:=H.lt;replace H:=H.step f;refine K.o _ _ H.1.c1 (fun g=>?_);clear K j i;have i:=g;clear g f;generalize (t.alloc (FC false ⟨#[]⟩ ⟨#[]⟩))=F at *;generalize t.heap.size=v at *
   rotate_left
   focus
    intro j K;go_simp;have f:ef u2 (u2.alloc (FC false ⟨#[]⟩ ⟨#[]⟩)):=(au _ u2).alloc (aq _) _;have m:aI (u2.alloc (FC false ⟨#[]⟩ ⟨#[]⟩)) u2.heap.size false ⟨#[]⟩ ⟨#[]⟩:=aI.new u2 _ _ _;have A:=H.lt;replace H:=H.step f;refine K.o _ _ H.1.c1 (fun g=>?_);clear K j i;have i:=g;clear g f;generalize (u2.alloc (FC false ⟨#[]⟩ ⟨#[]⟩))=t at *;generalize u2.heap.size=v at *;refine aG [4] (cA ?_ aF);intro j K;go_simp;refine(D.o _).af ?_;rintro e F ⟨rfl,f⟩;replace H:=H.step f;replace m:=m.aa f m.lt;refine K.o _ _ H.1.c1 (fun g=>?_);clear K j i;have i:=g;clear g f;refine ar 5 (.tuple #[.agg #[.bool p,.string q,.string r],.int .i64 s]) ?_;refine ar 6 (.agg #[.bool p,.string q,.string r]) ?_;refine ar 7 (.int .i64 s) ?_
  rotate_left 2
  focus
   intro j K;go_simp;have f:ef u1 (u1.alloc (FC false ⟨#[]⟩ ⟨#[]⟩)):=(au _ u1).alloc (aq _) _;have m:aI (u1.alloc (FC false ⟨#[]⟩ ⟨#[]⟩)) u1.heap.size false ⟨#[]⟩ ⟨#[]⟩:=aI.new u1 _ _ _;have A:=H.lt;replace H:=H.step f;refine K.o _ _ H.1.c1 (fun g=>?_);clear K j i;have i:=g;clear g f;generalize (u1.alloc (FC false ⟨#[]⟩ ⟨#[]⟩))=u2 at *;generalize u1.heap.size=v at *;refine aG [3] (cA ?_ aF);intro j K;go_simp;refine(X.o _ (J.o.aa H.2.2)).af ?_;rintro e t ⟨rfl,f⟩;replace H:=H.step f;replace m:=m.aa f m.lt;refine K.o _ _ H.1.c1 (fun g=>?_);clear K j i;have i:=g;clear g f;refine aG [4] (cA ?_ aF);intro j K;go_simp;refine(D.o _).af ?_;rintro e F ⟨rfl,f⟩;replace H:=H.step f;replace m:=m.aa f m.lt;refine K.o _ _ H.1.c1 (fun g=>?_);clear K j i;have i:=g;clear g f;refine ar 5 (.tuple #[.agg #[.bool p,.string q,.string r],.int .i64 s]) ?_;refine ar 6 (.agg #[.bool p,.string q,.string r]) ?_;refine ar 7 (.int .i64 s) ?_
 rotate_left 3
 focus
  intro j K;go_simp;have f:ef z (z.alloc (FC false ⟨#[]⟩ ⟨#[]⟩)):=(au _ z).alloc (aq _) _;have m:aI (z.alloc (FC false ⟨#[]⟩ ⟨#[]⟩)) z.heap.size false ⟨#[]⟩ ⟨#[]⟩:=aI.new z _ _ _;have A:=H.lt;replace H:=H.step f;refine K.o _ _ H.1.c1 (fun g=>?_);clear K j i;have i:=g;clear g f;generalize (z.alloc (FC false ⟨#[]⟩ ⟨#[]⟩))=u1 at *;generalize z.heap.size=v at *;refine aG [0] (cA ?_ aF);intro j K;go_simp;refine(O.o _).af ?_;rintro e u2 ⟨rfl,f⟩;replace H:=H.step f;replace m:=m.aa f m.lt;refine K.o _ _ H.1.c1 (fun g=>?_);clear K j i;have i:=g;clear g f;refine aG [3] (cA ?_ aF);intro j K;go_simp;refine(X.o _ (J.o.aa H.2.2)).af ?_;rintro e t ⟨rfl,f⟩;replace H:=H.step f;replace m:=m.aa f m.lt;refine K.o _ _ H.1.c1 (fun g=>?_);clear K j i;have i:=g;clear g f;refine aG [4] (cA ?_ aF);intro j K;go_simp;refine(D.o _).af ?_;rintro e F ⟨rfl,f⟩;replace H:=H.step f;replace m:=m.aa f m.lt;refine K.o _ _ H.1.c1 (fun g=>?_);clear K j i;have i:=g;clear g f;refine ar 5 (.tuple #[.agg #[.bool p,.string q,.string r],.int .i64 s]) ?_;refine ar 6 (.agg #[.bool p,.string q,.string r]) ?_;refine ar 7 (.int .i64 s) ?_
 all_goals
  try simp only[gE,aP]
  obtain⟨k0,k1,k2,T,U,f2⟩:=m.facts;refine aG [9] (cA ?_ aF);intro j K;go_simp;have h8:=m.put p q r;replace H:=((H.off v 0 (.bool p) A).off v 1 (.string q) A).off v 2 (.string r) A;clear k0 k1 k2 T U f2 m;generalize (((F.setCell ⟨v,0,none⟩ (.bool p)).setCell ⟨v,1,none⟩ (.string q)).setCell ⟨v,2,none⟩ (.string r))=v9 at *;refine K.o _ _ H.1.c1 (fun g=>?_);clear K j i;have i:=g;clear g;refine ar 10 (.int .i64 s) ?_;try simp only[gE,aP]
  refine dS ao ?_ _;obtain⟨k0,k1,T,U⟩:=H.2.1.facts;go_wp2;refine cj ((H.2.1.put _ _).result2 rfl _ rfl) rfl ?_;exact⟨by rw[<- I];exact rZ.empty 3 _,o9 H.2.2 al _ _⟩
theorem aeW (a b c:Option Addr) (ca cb cc:Nat) (sizes vars:List Int) (l:List Fr) (w:World) (hs:aJ w a sizes) (hv:aJ w b vars) (hf:aW w c l) (hn:sizes.length<=140737488355328) (hm:vars.length<=140737488355328) (D:j7 sizes vars l.length=0) (hw:∀k (h:k<l.length),l[k].2.1.size+l[k].2.2.size<=40000) (rM:∀k,k<=l.length ->qw (fsum (l.take k))<=40000) (dD:l.length<=10000) (hz:fsum l≠0):
  du 31 #[.slice a sizes.length ca,.agg #[.slice b vars.length cb,.slice c l.length cc]] w fun e w'=>rZ vars (vk l) 0 e w'/\ef w w':=by
 obtain⟨R,T,ai⟩:=AO D;have hq:=rM l.length (aq _);rw[jR] at hq;have J:=fun V Y Z=>DR a b c ca cb cc l.length sizes vars V Y Z hn hm;rw[D] at J;have J:=hid J;have kX:=hid (fun V h=>Ho c cc l V h hw rM dD);have HO:=hid (fun V:World=>xI (k:=1) (w:=V) 1 1 rfl bd (by rfl));have HS:=hid hs;have HV:=hid hv;have M:=hid hf;have HN:=hid (fun V Bs (k:Nat) (D:k<l.length) (Y:w.heap.size<V.heap.size) (Z:V.cell? ⟨w.heap.size,1,none⟩=some (.slice c l.length cc)) (h3:aI V Bs (bw (1/fsum l)) (nu (1/fsum l)) (de (1/fsum l))) (h4:aW V c l)=>ahM w.heap.size Bs c cc l (1/fsum l) k D V Y Z h3 h4 (aR (hw k D) bd) (by have:=ago hz;show qw (1/fsum l)<=100000;omega));have F:=hid (fun V:World=>acf (n:=bw 1) (x:=nu 1) (y:=de 1) (w:=V) (1/fsum l) (ji 1) (ji (fsum l)) hz rfl (show qw 1<=100000 by have:=F6 false (B 1) (B 1);exact aR (by decide+kernel) (aq 100000)) (show qw (fsum l)<=100000 by omega));have PT:Hid (∀(k:Nat) (h:k<(vk l).length) (h':k<l.length),(vk l)[k]=qF (aQ l[k]*(1/fsum l))):=fun k h _=>ahL l h;have an:=ZI l;clear hs hv hf hn hm D hw rM hz hq;have cS:=hid R;have lQ:=hid T;have ax:=hid ai;have SI:=T.length;have rR:=R.eight;clear ai T R;generalize vk l=NL at *;generalize 1/fsum l=r at *;obtain⟨s,td⟩:∃d,bw r=d:=⟨_,rfl⟩;obtain⟨t,Ki⟩:∃d:ByteArray,nu r=d:=⟨_,rfl⟩;obtain⟨v,Kh⟩:∃d:ByteArray,de r=d:=⟨_,rfl⟩;rw[td,Ki,Kh] at F HN;clear td Ki Kh;obtain⟨A,Q⟩:∃d:Int,0=d:=⟨_,rfl⟩;rw[Q] at F;have Kj:(A==0)=true:=by rw[<- Q];rfl
 clear Q;have H:=NH.new w (.slice b vars.length cb) (.slice c l.length cc);have U:=H.1.c0;have c1:=H.1.c1;go_enter Tryz.func31,Tryz.ntmps31;go_wp2_with fail
 generalize ((w.alloc (TC (.slice b vars.length cb) (.slice c l.length cc))).alloc (TC (.slice none 0 0) (.slice none 0 0)))=W at *;refine(J.o _ (HS.o.aa H.2.2) (HV.o.aa H.2.2)).af ?_;rintro e w1 ⟨rfl,ad⟩;replace H:=H.step ad;clear U c1 ad J;go_upto_region 4 with fail
 replace H:=H.drew;refine gI (S:=fun u=>u.cell? ⟨w.heap.size,1,none⟩=some (.slice c l.length cc)) ao H.1.c1 (fun i=>?_);generalize w1.drew=E at *;refine ar 1 (.pointer (some ⟨w.heap.size,1,none⟩)) ?_;refine ar 2 (.slice c l.length cc) ?_;refine aG [0,8] (cA ?_ (cA ?_ aF))
 focus
  intro j K;go_simp;refine(HO.o _).af ?_;rintro e u1 ⟨rfl,f⟩;replace H:=H.step f;refine K.o _ _ H.1.c1 (fun g=>?_);clear K j i;have i:=g;clear g f;refine aG [3,8] (cA ?_ (cA ?_ aF))
  focus
   intro j K;go_simp;refine(kX.o _ (M.o.aa H.2.2)).af ?_;rintro e u2 ⟨rfl,f⟩;replace H:=H.step f;refine K.o _ _ H.1.c1 (fun g=>?_);clear K j i;have i:=g;clear g f;refine aG [4,8] (cA ?_ (cA ?_ aF))
   focus
    intro j K;go_simp;refine(F.o _).af ?_;rintro e z ⟨rfl,f⟩;replace H:=H.step f;refine K.o _ _ H.1.c1 (fun g=>?_);clear K j i;have i:=g;clear g f;refine ar 5 (.tuple #[.agg #[.bool s,.string t,.string v],.int .i64 A]) ?_;refine ar 6 (.agg #[.bool s,.string t,.string v]) ?_;refine ar 7 (.int .i64 A) ?_;refine aG [8] (cA ?_ aF);intro j K;go_simp;have f:ef z (z.alloc (FC false ⟨#[]⟩ ⟨#[]⟩)):=(au _ z).alloc (aq _) _;have m:aI (z.alloc (FC false ⟨#[]⟩ ⟨#[]⟩)) z.heap.size false ⟨#[]⟩ ⟨#[]⟩:=aI.new z _ _ _;have I:=H.lt;replace H:=H.step f;refine K.o _ _ H.1.c1 (fun g=>?_);clear K j i;have i:=g;clear g f;generalize (z.alloc (FC false ⟨#[]⟩ ⟨#[]⟩))=O at *;generalize z.heap.size=q at *
   rotate_left
   focus
    intro j K;go_simp;have f:ef u2 (u2.alloc (FC false ⟨#[]⟩ ⟨#[]⟩)):=(au _ u2).alloc (aq _) _;have m:aI (u2.alloc (FC false ⟨#[]⟩ ⟨#[]⟩)) u2.heap.size false ⟨#[]⟩ ⟨#[]⟩:=aI.new u2 _ _ _;have I:=H.lt;replace H:=H.step f;refine K.o _ _ H.1.c1 (fun g=>?_);clear K j i;have i:=g;clear g f;generalize (u2.alloc (FC false ⟨#[]⟩ ⟨#[]⟩))=z at *;generalize u2.heap.size=q at *;refine aG [4] (cA ?_ aF);intro j K;go_simp;refine(F.o _).af ?_;rintro e O ⟨rfl,f⟩;replace H:=H.step f;replace m:=m.aa f m.lt;refine K.o _ _ H.1.c1 (fun g=>?_);clear K j i;have i:=g;clear g f;refine ar 5 (.tuple #[.agg #[.bool s,.string t,.string v],.int .i64 A]) ?_;refine ar 6 (.agg #[.bool s,.string t,.string v]) ?_;refine ar 7 (.int .i64 A) ?_
  rotate_left 2
  focus
   intro j K;go_simp;have f:ef u1 (u1.alloc (FC false ⟨#[]⟩ ⟨#[]⟩)):=(au _ u1).alloc (aq _) _;have m:aI (u1.alloc (FC false ⟨#[]⟩ ⟨#[]⟩)) u1.heap.size false ⟨#[]⟩ ⟨#[]⟩:=aI.new u1 _ _ _;have I:=H.lt;replace H:=H.step f;refine K.o _ _ H.1.c1 (fun g=>?_);clear K j i;have i:=g;clear g f;generalize (u1.alloc (FC false ⟨#[]⟩ ⟨#[]⟩))=u2 at *;generalize u1.heap.size=q at *;refine aG [3] (cA ?_ aF);intro j K;go_simp;refine(kX.o _ (M.o.aa H.2.2)).af ?_;rintro e z ⟨rfl,f⟩;replace H:=H.step f;replace m:=m.aa f m.lt;refine K.o _ _ H.1.c1 (fun g=>?_);clear K j i;have i:=g;clear g f;refine aG [4] (cA ?_ aF);intro j K;go_simp;refine(F.o _).af ?_;rintro e O ⟨rfl,f⟩;replace H:=H.step f;replace m:=m.aa f m.lt;refine K.o _ _ H.1.c1 (fun g=>?_);clear K j i;have i:=g;clear g f;refine ar 5 (.tuple #[.agg #[.bool s,.string t,.string v],.int .i64 A]) ?_;refine ar 6 (.agg #[.bool s,.string t,.string v]) ?_;refine ar 7 (.int .i64 A) ?_
 rotate_left 3
 focus
  intro j K;go_simp;have f:ef E (E.alloc (FC false ⟨#[]⟩ ⟨#[]⟩)):=(au _ E).alloc (aq _) _;have m:aI (E.alloc (FC false ⟨#[]⟩ ⟨#[]⟩)) E.heap.size false ⟨#[]⟩ ⟨#[]⟩:=aI.new E _ _ _;have I:=H.lt;replace H:=H.step f;refine K.o _ _ H.1.c1 (fun g=>?_);clear K j i;have i:=g;clear g f;generalize (E.alloc (FC false ⟨#[]⟩ ⟨#[]⟩))=u1 at *;generalize E.heap.size=q at *;refine aG [0] (cA ?_ aF);intro j K;go_simp;refine(HO.o _).af ?_;rintro e u2 ⟨rfl,f⟩;replace H:=H.step f;replace m:=m.aa f m.lt;refine K.o _ _ H.1.c1 (fun g=>?_);clear K j i;have i:=g;clear g f;refine aG [3] (cA ?_ aF);intro j K;go_simp;refine(kX.o _ (M.o.aa H.2.2)).af ?_;rintro e z ⟨rfl,f⟩;replace H:=H.step f;replace m:=m.aa f m.lt;refine K.o _ _ H.1.c1 (fun g=>?_);clear K j i;have i:=g;clear g f;refine aG [4] (cA ?_ aF);intro j K;go_simp;refine(F.o _).af ?_;rintro e O ⟨rfl,f⟩;replace H:=H.step f;replace m:=m.aa f m.lt;refine K.o _ _ H.1.c1 (fun g=>?_);clear K j i;have i:=g;clear g f;refine ar 5 (.tuple #[.agg #[.bool s,.string t,.string v],.int .i64 A]) ?_;refine ar 6 (.agg #[.bool s,.string t,.string v]) ?_;refine ar 7 (.int .i64 A) ?_
 all_goals
  try simp only[gE,aP]
  obtain⟨k0,k1,k2,f0,f1,f2⟩:=m.facts;refine aG [9] (cA ?_ aF);intro j K;go_simp;have L:=m.put s t v;replace H:=((H.off q 0 (.bool s) I).off q 1 (.string t) I).off q 2 (.string v) I;clear k0 k1 k2 f0 f1 f2 m;generalize (((O.setCell ⟨q,0,none⟩ (.bool s)).setCell ⟨q,1,none⟩ (.string t)).setCell ⟨q,2,none⟩ (.string v))=v9 at *;refine K.o _ _ H.1.c1 (fun g=>?_);clear K j i;have i:=g;clear g;refine ar 10 (.int .i64 A) ?_;try simp only[gE,aP]
  refine dS ao ?_ _;have U:=H.1.c0;go_wp2_with fail
  refine(M6 b cb vars _ (HV.o.aa H.2.2) al).af ?_;rintro e w2 ⟨x,rfl,av,ab⟩;obtain⟨d,X,rfl,P⟩:=av.ints;clear U av;replace H:=H.step ab;replace L:=L.aa ab L.lt;clear ab;have aj:=H.1.lt;have sZ:=KT a d ca X sizes vars 67 #[.pointer (some ⟨w.heap.size,0,none⟩),.pointer (some ⟨q,0,none⟩)] (enters_of Tryz.func67 ao rfl) NL w2 (HS.o.aa H.2.2) P cS.o lQ.o (by rw[an];exact ax.o) (fun k D V f=>by rw[PT.o k D al];exact HN.o V q k al (aU aj f.size) ((f.cell (p:=⟨w.heap.size,1,none⟩) aj).trans H.1.c1) (L.aa f L.lt) (M.o.aa (H.2.2.trans (f.af H.2.2.size))));have Bp:=hid sZ;clear sZ;go_wp2_with fail
  refine Bp.o.af ?_;rintro e w3 ⟨G,rfl,hG,ay,ae⟩;have az:=H.lt;replace H:=H.step ae;replace P:=P.aa ae;obtain⟨k0,k1,f0,f1⟩:=H.2.1.facts;obtain⟨e1,e2,e3⟩:=H.fin (cb:=X) (cc:=l.length) P ay al (.slice d vars.length X) (.slice (some ⟨G,0,none⟩) l.length l.length) rfl (by rw[an]);go_wp2;refine cj (e1.result2 rfl _ rfl) rfl ?_;exact⟨e2,e3⟩
variable {w w':World}
theorem bP.aa {B:Nat} {v:Value} {l:List Int} (h:bP w B v l) (e:ef w w'):bP w' B v l:=by
 refine⟨h.1,h.2.imp id ?_⟩;rintro⟨g,cap,r,b,c,a,d⟩;exact⟨g,cap,r,b,c,(e.block g (cJ.1 a).1).trans a,d⟩
variable {n:Nat}
def Ae (c:Int) (n:Nat):Nat:=(if c<0 then(-(c+1)).toNat else c.toNat) % n
theorem JB (c:Int) (h:1<=n):Ae c n<n:=jQ _ h
theorem agb (c:Int) (n:Nat) (w:World) (h1: -9223372036854775808<=c) (f:c<=9223372036854775807) (b:1<=n) (i:n<=1000):
  du 4 #[.int .i64 c,.int .i64 (n:Nat)] w fun e w'=>e=.returned (.int .i64 (Ae c n:Nat))/\w'=w:=by
 have H:Hid (Ae c n=(if c<0 then(-(c+1)).toNat else c.toNat) % n):=rfl;have l:=JB c b;generalize Ae c n=P at *;by_cases h:c<0
 ·rw[aA h] at H;obtain⟨d,a⟩:∃d:Nat,c= -((d:Int)+1):=⟨(-(c+1)).toNat,al⟩;subst a
  have E:Hid ((d:Int) % (n:Int)=(P:Int)):=by
   show _=_;rw[H.o,show (-(-((d:Int)+1)+1)).toNat=d by omega,yz]
  have g:IntKind.i64.wrap (-((d:Int)+1)+1)= -(d:Int):=by rw[fj];omega
  have j:IntKind.i64.wrap (- -(d:Int))=(d:Int):=by rw[fj];omega
  go_enter Tryz.func4,Tryz.ntmps4;go_wp2;go_ret;exact⟨by rw[E.o];rfl,rfl⟩
 ·rw[aD h] at H;obtain⟨d,rfl⟩:∃d:Nat,c=d:=⟨c.toNat,al⟩
  have E:Hid ((d:Int) % (n:Int)=(P:Int)):=by
   show _=_;rw[H.o,rD,yz]
  go_enter Tryz.func4,Tryz.ntmps4;go_wp2;go_ret;exact⟨by rw[E.o];rfl,rfl⟩
theorem Nh (c:Int) (n:Nat) (w:World) (h1: -9223372036854775808<=c) (a:c<=9223372036854775807) (b:1<=n) (d:n<=1000):
  du 4 #[.int .i64 c,.int .i64 (n:Nat)] w (eS w (.int .i64 (Ae c n:Nat))):=by
 refine(agb c n w h1 a b d).af ?_;rintro e w' ⟨h,rfl⟩;exact⟨h,au _ _⟩
variable {v:Nat} {x y z:Value} {V V':World}
def gU (L:List (List Int)) (v:Nat):List Int:=kr (L.getD v []) [(v:Int)]
def gL (V:List Vr) (L:List (List Int)) (R:List (List Fr)) (v:Nat):List Fr:=(List.range (cnt (aw V) (ag (gU L v)))).map fun K=>qF (aQ (fg V L R (aY (aw V) (ag (gU L v)) K) v))
theorem QZ (h:v<n):Up [(v:Int)] n:=rG.2 ⟨fun x a=>by have:=dT.1 a;omega,List.pairwise_singleton _ _⟩
def GK (w V:World) (x y z:Value):Prop:=NK w V x y z/\bE V (w.heap.size+1) (.slice none 0 0) (.slice none 0 0)
theorem GK.new (w:World) (x y z:Value):GK w ((w.alloc (NC x y z)).alloc (TC (.slice none 0 0) (.slice none 0 0))) x y z:=⟨(NK.new w x y z).step ((au _ _).alloc (aq _) _),bE.at aE _ _⟩
theorem GK.step (h:GK w V x y z) (b:ef V V'):GK w V' x y z:=⟨h.1.step b,h.2.aa b h.2.lt⟩
variable {R:List (List Fr)} {L:List (List Int)} {S vs:List Nat} {i:Nat} {f:Nat ->Nat}
theorem alZ {a b:List Nat} (h:a.Perm b):cnt S a=cnt S b:=by
 induction h with
 |nil=>rfl
 |cons x _ ih=>simp only[cnt,ih]
 |swap x y l=>simp only[cnt];rw[zR]
 |trans _ _ h1 h2=>exact h1.trans h2
theorem ZJ {V:List Vr} (h:bH V L R=0) (d:v<L.length):¬v∈ag L[v]:=by
 rw[bH] at h;by_cases c:L.length=V.length/\R.length=V.length
 ·rw[aA c] at h;by_cases a:bZ L=0
  ·rw[bZ] at a;by_cases b:gB L=true
   ·rw[gB,kj,kj,Ag,iQ] at b;have:=b.2 v (cI.2 d);rw[bY,bj d] at this;simpa using this
   ·rw[aD b] at a;cases a
  ·rw[aD a] at h;exact absurd h a
 ·rw[aD c] at h;cases h
theorem Yd (p:v<L.length) (J:Up L[v] n) (s:¬v∈ag L[v]):(([(v:Int)]++L[v]).mergeSort fun x y=>decide (x<=y))=gU L v:=by
 have K:L.getD v []=L[v]:=by rw[bY,bj p];rfl
 obtain⟨d,e⟩:=Jl L[v] [(v:Int)];rw[gU,K];have r:¬(v:Int)∈L[v]:=fun h=>s (by rw[ag];exact ba.2 ⟨_,h,rD v⟩);have m:(([(v:Int)]++L[v]).mergeSort fun x y=>decide (x<=y)).Pairwise (fun x y=>decide (x<=y)=true):=List.pairwise_mergeSort (fun a b c d e=>by simp at d e⊢;omega) (fun a b=>by simp;omega) _
 have o:([(v:Int)]++L[v]).Nodup:=by
  rw[List.singleton_append,pG];exact⟨r,(rG.1 J).2.imp fun h=>al⟩
 have k:(([(v:Int)]++L[v]).mergeSort fun x y=>decide (x<=y)).Nodup:=(QJ _ _).nodup_iff.2 o;refine YA ?_ d fun x=>?_
 ·rw[zU];intro i j f g l;have q:=zU.1 m i j f g l;have t:=zU.1 k i j f g l;have u:=tW q;omega
 ·rw[List.mem_mergeSort,e,ck];exact Or.comm
theorem al0 (S:List Nat) (f:v<L.length) (b:Up L[v] n) (o:¬v∈ag L[v]):cnt S (ag (gU L v))=cnt S (ag L[v])*sz S v:=by
 rw[<- Yd f b o];have h:(([(v:Int)]++L[v]).mergeSort fun x y=>decide (x<=y)).Perm ([(v:Int)]++L[v]):=QJ _ _;have a:=alZ (S:=S) (h.map Int.toNat);rw[ag,a,eP,iy,nM,List.singleton_append,cnt,rD,dK];rfl
def yU (A f:Nat ->Nat) (vs:List Nat) (i:Nat):Nat ->Nat:=fun u=>if u∈vs.take i then f u else A u
theorem aiC (A f:Nat ->Nat) (vs:List Nat):yU A f vs 0=A:=by funext u;simp[yU]
theorem aiD (A f:Nat ->Nat) (n:Nat) (h:i<vs.length):(pO n (yU A f vs i)).set vs[i] (f vs[i])=pO n (yU A f vs (i+1)):=by
 rw[aff];refine afg fun u _=>?_;rw[aM,yU,yU,iF h];by_cases e:u=vs[i]
 ·rw[aA e,aA (ck.2 (.inr (dT.2 e))),e]
 ·rw[aD e];by_cases b:u∈vs.take i
  ·rw[aA b,aA (ck.2 (.inl b))]
  ·rw[aD b,aD (fun a=>by rcases ck.1 a with a |a;exact b a;exact e (dT.1 a))]
theorem aiE {A:Nat ->Nat} (h:∀u,¬u∈vs ->A u=0) (a:∀u,¬u∈vs ->f u=0):yU A f vs vs.length=f:=by
 funext u
 rw[yU,jR];by_cases e:u∈vs
 ·rw[aA e]
 ·rw[aD e,h u e,a u e]
variable {u:Nat}
def bq (g:Nat ->Rat):Nat ->Rat
 |0=>0
 |n+1=>bq g n+g n
theorem gN {g h:Nat ->Rat}:∀ {n:Nat},(∀x,x< n ->g x=h x) ->bq g n=bq h n
 |0,_=>rfl
 |n+1,e=>by rw[bq,bq,gN fun x a=>e x al,e n al]
theorem Rg:∀n,bq (fun _=>0) n=0
 |0=>rfl
 |n+1=>by rw[bq,Rg n,IM]
theorem XU (g h:Nat ->Rat):∀n,bq (fun x=>g x+h x) n=bq g n+bq h n
 |0=>by simp[bq,IM]
 |n+1=>by
  rw[bq,bq,bq,XU g h n];rw[IP,IP, <- IP (bq h n),Rat.add_comm (bq h n) (g n),IP]
theorem yI (c:Rat) (g:Nat ->Rat):∀n,bq (fun x=>c*g x) n=c*bq g n
 |0=>by simp[bq,Rat.mul_zero]
 |n+1=>by rw[bq,bq,yI c g n,Rat.mul_add]
theorem M5 (g:Nat ->Nat ->Rat) (m:Nat):∀n,bq (fun x=>bq (fun y=>g x y) m) n=bq (fun y=>bq (fun x=>g x y) n) m
 |0=>by simp only[bq];rw[Rg]
 |n+1=>by
  rw[bq,M5 g m n, <- XU];rfl
theorem XS (g:Nat ->Rat) (m:Nat):∀n,bq g (m+n)=bq g m+bq (fun y=>g (m+y)) n
 |0=>by simp[bq,IM]
 |n+1=>by rw[<- zT,bq,XS g m n,bq,IP]
theorem XT (g:Nat ->Rat) (b:Nat):∀a,bq g (a*b)=bq (fun x=>bq (fun y=>g (x*b+y)) b) a
 |0=>by rw[jO];rfl
 |a+1=>by rw[fF,jP,XS,XT g b a,bq]
def eB (S:List Nat):List Nat ->((Nat ->Nat) ->Rat) ->(Nat ->Nat) ->Rat
 |[],F,f=>F f
 |v::vs,F,f=>bq (fun x=>eB S vs F (aM f v x)) (sz S v)
def over (vs:List Nat) (f g:Nat ->Nat):Nat ->Nat:=fun u=>if u∈vs then g u else f u
theorem ahe (f g:Nat ->Nat):over [] f g=f:=by funext u;simp[over]
theorem R9 (F:(Nat ->Nat) ->Rat):∀(vs:List Nat) (f:Nat ->Nat),vs.Nodup ->bq (fun k=>F (over vs f (aY S vs k))) (cnt S vs)=eB S vs F f
 |[],f,_=>by
  show 0+F (over [] f _)=F f;rw[ahe,IJ]
 |v::vs,f,hn=>by
  rw[pG] at hn;rw[cnt,XT,eB];refine gN fun x g=>?_;rw[<- R9 F vs (aM f v x) hn.2];refine gN fun y b=>?_;congr 1
  funext u
  have c:(x*cnt S vs+y)/cnt S vs=x:=by rw[dK,Nat.mul_add_div al,yr b,gK]
  have d:(x*cnt S vs+y) % cnt S vs=y:=by rw[dK,Nat.mul_add_mod,kI b]
  simp only[over,aY,c,d,aM,dU];by_cases e:u=v
  ·subst e;rw[aA (.inl rfl),aA rfl,aD hn.1,aA rfl]
  ·rw[aD e];by_cases a:u∈vs
   ·rw[aA (.inr a),aA a]
   ·rw[aD (fun h=>h.elim e a),aD a,aD e]
theorem B3 {F G:(Nat ->Nat) ->Rat} (h:∀g,(∀u,g u<sz S u) ->F g=G g):∀(vs:List Nat) (f:Nat ->Nat),(∀u,f u<sz S u) ->eB S vs F f=eB S vs G f
 |[],f,hf=>h f hf
 |v::vs,f,hf=>by
  rw[eB,eB];refine gN fun x a=>B3 h vs _ fun u=>?_;rw[aM];by_cases e:u=v
  ·rw[aA e,e];exact a
  ·rw[aD e];exact hf u
theorem DX (F:(Nat ->Nat) ->Rat) (v:Nat):∀(vs:List Nat) (f:Nat ->Nat),eB S (vs++[v]) F f=eB S vs (fun g=>bq (fun x=>F (aM g v x)) (sz S v)) f
 |[],f=>rfl
 |u::vs,f=>by
  rw[fG,eB,eB];exact gN fun x _=>DX F v vs _
theorem JH (F:(Nat ->Nat) ->Rat) {a b:List Nat} (h:a.Perm b):a.Nodup ->∀f,eB S a F f=eB S b F f:=by
 induction h with
 |nil=>intro _ f;rfl
 |cons x _ ih=>
  intro n f;rw[pG] at n;rw[eB,eB];exact gN fun y _=>ih n.2 _
 |swap x y l=>
  intro n f
  have c:y≠x:=by
   rw[pG] at n;exact fun e=>n.1 (by rw[e];exact dp)
  simp only[eB];rw[M5];refine gN fun p _=>gN fun q _=>?_;rw[MT f q p (Ne.symm c)]
 |trans h1 _ ih1 SB=>
  intro n f;rw[ih1 n f,SB (h1.nodup_iff.1 n) f]
def eI (V:List Vr) (L:List (List Int)) (R:List (List Fr)) (f:Nat ->Nat):List Nat ->Rat
 |[]=>1
 |v::vs=>aQ (fg V L R f v)*eI V L R f vs
theorem F7 (V:List Vr) (L:List (List Int)) (R:List (List Fr)) (f:Nat ->Nat) (b:List Nat):∀a,eI V L R f (a++b)=eI V L R f a*eI V L R f b
 |[]=>by rw[jy,eI,sF]
 |v::a=>by rw[fG,eI,eI,F7 V L R f b a,jx]
theorem RD (V:List Vr) (L:List (List Int)) (R:List (List Fr)) (f:Nat ->Nat):∀n,gO V L R f n=eI V L R f (List.range n)
 |0=>rfl
 |n+1=>by rw[gO,RD V L R f n,qC,F7,eI,eI,rB]
theorem YT {V:List Vr} {a b:List Nat} (h:a.Perm b):eI V L R f a=eI V L R f b:=by
 induction h with
 |nil=>rfl
 |cons x _ ih=>rw[eI,eI,ih]
 |swap x y l=>simp only[eI];rw[<- jx, <- jx,zQ (aQ (fg V L R f y))]
 |trans _ _ h1 h2=>exact h1.trans h2
theorem aae {V:List Vr} {x:Nat} (h1:u≠v) (h:¬v∈ag (L.getD u [])):fg V L R (aM f v x) u=fg V L R f u:=by
 rw[fg,fg,qL,qL]
 have e:pos (aw V) (aM f v x) (ag (L.getD u []))=pos (aw V) f (ag (L.getD u [])):=yN _ fun z a=>by
  rw[aM,aD];intro e;exact h (e▸a)
 rw[e,aM,aD h1]
theorem Jz {V:List Vr} {x:Nat}:∀ {o:List Nat},(∀u∈o,u≠v/\¬v∈ag (L.getD u [])) ->eI V L R (aM f v x) o=eI V L R f o
 |[],_=>rfl
 |u::o,h=>by
  obtain⟨a,b⟩:=h u dp;rw[eI,eI,aae a b,Jz fun z c=>h z (dF _ c)]
theorem akY:∀(l:List Fr),fsum l=bq (fun x=>aQ (bD l x)) l.length:=by
 intro l
 have e:∀n,n<=l.length ->fsum (l.take n)=bq (fun x=>aQ (bD l x)) n:=by
  intro n;induction n with
  |zero=>intro _;rfl
  |succ n ih=>
   intro h;rw[iF al,Hl,ih al,bq,kS al];rfl
 have:=e l.length (aq _);rwa [jR] at this
theorem row_one {V:List Vr} (h0:bH V L R=0) (c:v<V.length) (j:∀u,f u<sz (aw V) u):bq (fun x=>aQ (fg V L R (aM f v x) v)) (sz (aw V) v)=1:=by
 have T:=kN h0;have p:v<L.length:=by rw[T.len];exact c
 have q:v<R.length:=by rw[T.lenR];exact c
 have n:=ZJ h0 p;have l:=T.rows v p q;have d:=sL f j (ag L[v])
 have o:dt (gH R[v] (sz (aw V) v) (pos (aw V) f (ag L[v])))=true:=by
  have b:jr (lp (aw V) L R) V.length=0:=by
   rw[bH] at h0;by_cases b:L.length=V.length/\R.length=V.length
   ·rw[aA b] at h0;by_cases h:bZ L=0
    ·rw[aA h] at h0;by_cases a:oQ V=0
     ·rwa [aA a] at h0
     ·rw[aD a] at h0;exact absurd h0 a
    ·rw[aD h] at h0;exact absurd h0 h
   ·rw[aD b] at h0;exact absurd h0 bd
  have h:=KR b v c;rw[lp,bY,bj q,bY,bj p] at h;simp only[mE] at h;rw[aA l] at h;by_cases a:((List.range (cnt (aw V) (ag L[v]))).all fun i=>dt (gH R[v] (sz (aw V) v) i))=true
  ·rw[iQ] at a;exact a _ (cI.2 d)
  ·rw[aD a] at h;exact absurd h bd
 rw[dt,kj] at o;have s:fsum (gH R[v] (sz (aw V) v) (pos (aw V) f (ag L[v])))=1:=tW o.2;have w:(pos (aw V) f (ag L[v])+1)*sz (aw V) v<=R[v].length:=by rw[l];exact lS _ d
 have r:(pos (aw V) f (ag L[v])+1)*sz (aw V) v=pos (aw V) f (ag L[v])*sz (aw V) v+sz (aw V) v:=by rw[fF,jP]
 have m:(gH R[v] (sz (aw V) v) (pos (aw V) f (ag L[v]))).length=sz (aw V) v:=by
  rw[gH,eE,nN];omega
 rw[akY,m] at s;rw[<- s];refine gN fun x t=>?_;rw[NP p q,qL]
 have g:pos (aw V) (aM f v x) (ag L[v])=pos (aw V) f (ag L[v]):=yN _ fun z k=>by
  rw[aM,aD];intro e;exact n (e▸k)
 rw[g,aM,aA rfl,kS al,kS al];simp only[gH,zV,List.getElem_drop]
theorem Nw (P:List (List Nat)):∀k,∀u∈aZ P k,∀z∈P.getD u [],z∈aZ P k
 |0,u,hu=>by cases hu
 |k+1,u,hu=>by
  rw[aZ] at hu⊢;cases e:sO P (aZ P k) with
  |none=>
   rw[e] at hu;exact Nw P k u hu
  |some v=>
   rw[e] at hu;intro z a;refine ck.2 (.inl ?_);rcases ck.1 hu with h |h
   ·exact Nw P k u h z a
   ·obtain rfl:=dT.1 h;have x:jI P (aZ P k) u=true:=List.find?_some e;rw[jI,kj] at x;exact tW x.2 z a
theorem ZE {V:List Vr} (h0:bH V L R=0):∀k,(aZ (aN L) k).length=k ->k<=L.length ->(aZ (aN L) k).Nodup/\∀f,(∀u,f u<sz (aw V) u) ->eB (aw V) (aZ (aN L) k) (fun g=>eI V L R g (aZ (aN L) k)) f=1
 |0,_,_=>⟨List.nodup_nil,fun _ _=>rfl⟩
 |k+1,hl,hk=>by
  have T:=kN h0;have J:=Gf (aN L) k;cases e:sO (aN L) (aZ (aN L) k) with
  |none=>
   rw[aZ,e] at hl;exact absurd hl (by show (aZ (aN L) k).length≠_;omega)
  |some v=>
   have j:=RT e;rw[j] at hl⊢;rw[bK,IZ] at hl;obtain⟨o,s⟩:=ZE h0 k al al;have i:jI (aN L) (aZ (aN L) k) v=true:=List.find?_some e;rw[jI,kj] at i;(have y:¬v∈aZ (aN L) k:=by simpa using i.1);(have Y:v<L.length:=by have:=cI.1 (WO e);rwa [l5] at this);refine⟨?_,fun f d=>?_⟩
   ·rw[IX];refine⟨o,aE,fun a l b m=>?_⟩;rw[dT.1 m];exact fun e=>y (e▸l)
   ·rw[DX, <- s f d];refine B3 (fun g n=>?_) _ f d;rw[gN (h:=fun x=>eI V L R g (aZ (aN L) k)*aQ (fg V L R (aM g v x) v))]
    ·rw[yI,row_one h0 (by rw[<- T.len];exact Y) n,rB]
    ·intro x _;rw[F7,eI,eI,rB,Jz];intro u c;refine⟨fun e=>y (e▸c),fun p=>?_⟩
     exact y (Nw (aN L) k u c v (by
      have E:=DV (aN L) k u c;rw[l5] at E;rw[RG E];rw[bY,bj E] at p;exact p))
theorem Sc:∀(n:Nat) (l:List Nat),l.Nodup ->(∀x∈l,x<n) ->l.length<=n
 |0,l,_,h=>by
  cases l with
  |nil=>exact aq _
  |cons a l=>exact absurd (h a dp) al
 |n+1,l,hn,h=>by
  by_cases m:n∈l
  ·have g:=WQ m
   have c:=Sc n (l.erase n) (hn.erase n) (fun x b=>by
    have d:=h x (List.mem_of_mem_erase b);(have f:x≠n:=fun e=>by subst e;exact hn.not_mem_erase b);omega)
   have i:=List.length_pos_of_mem m;omega
  ·have c:=Sc n l hn (fun x b=>by
    have d:=h x b;have f:x≠n:=fun e=>m (e▸b);omega)
   omega
theorem Y1:∀(n:Nat) (l:List Nat),l.Nodup ->(∀x∈l,x<n) ->l.length=n ->l.Perm (List.range n)
 |0,l,_,_,h=>by
  have:=I0.1 h;subst this;exact List.Perm.refl _
 |n+1,l,hn,h,hl=>by
  have m:n∈l:=I6 fun m=>by
   have:=Sc n l hn (fun x a=>by
    have c:=h x a;have d:x≠n:=fun e=>m (e▸a);omega)
   omega
  have f:=WQ m
  have b:=Y1 n (l.erase n) (hn.erase n) (fun x a=>by
   have c:=h x (List.mem_of_mem_erase a);(have d:x≠n:=fun e=>by subst e;exact hn.not_mem_erase a);omega) al
  rw[qC];exact(List.perm_cons_erase m).trans ((b.cons n).trans (List.perm_append_singleton n (List.range n)).symm)
theorem RX {V:List Vr} (h:bH V L R=0):(aZ (aN L) L.length).length=L.length:=by
 rw[bH] at h;by_cases b:L.length=V.length/\R.length=V.length
 ·rw[aA b] at h;by_cases a:bZ L=0
  ·rw[bZ] at a;by_cases c:gB L=true
   ·rw[aA c] at a;by_cases d:(aZ (aN L) L.length).length<L.length
    ·rw[aA d] at a;cases a
    ·have:=Gf (aN L) L.length;omega
   ·rw[aD c] at a;cases a
  ·rw[aD a] at h;exact absurd h a
 ·rw[aD b] at h;cases h
theorem ahf (k:Nat):over vs (fun _=>0) (aY S vs k)=aY S vs k:=by
 funext u
 rw[over];by_cases e:u∈vs
 ·rw[aA e]
 ·rw[aD e,EO e]
theorem Zh (g:Nat ->Rat):∀m,jT false g m=bq g (m+1)
 |0=>by show g 0=0+g 0;rw[IJ]
 |m+1=>by
  rw[jT,Zh g m];rfl
theorem aaf {V:List Vr} {g:Nat ->Nat} (h:∀u,u=v∨u∈ag (L.getD v []) ->f u=g u):fg V L R f v=fg V L R g v:=by
 rw[fg,fg,qL,qL,yN (aw V) (f:=f) (g:=g) fun u a=>h u (.inr a),h v (.inl rfl)]
def xO (A:Nat ->Prop) (G:(Nat ->Nat) ->Rat):Prop:=∀v,¬A v ->∀g x,G (aM g v x)=G g
def tS (L:List (List Int)) (A:Nat ->Prop):Prop:=∀v,A v ->∀u∈ag (L.getD v []),A u
theorem aiO {V:List Vr} {A:Nat ->Prop} (c:tS L A) (a:A v):xO A (fun g=>aQ (fg V L R g v)):=fun u h g x=>by
 show aQ (fg V L R (aM g u x) v)=aQ (fg V L R g v);have b:v≠u:=fun e=>h (by rw[<- e];exact a);rw[aae b (fun m=>h (c v a u m))]
theorem aeg (f:Nat ->Nat) (v x y:Nat):aM (aM f v x) v y=aM f v y:=by
 funext u
 simp only[aM];by_cases e:u=v
 ·rw[aA e,aA e]
 ·rw[aD e,aD e,aD e]
theorem xO.sum {A:Nat ->Prop} {G:(Nat ->Nat) ->Rat} (a:xO A G) (v n:Nat):xO A (fun g=>bq (fun x=>G (aM g v x)) n):=fun u b g y=>by
 refine gN fun x _=>?_;by_cases e:u=v
 ·subst e;rw[aeg]
 ·rw[MT g y x (fun h=>e h.symm)];exact a u b _ _
theorem xO.mul {A:Nat ->Prop} {G H:(Nat ->Nat) ->Rat} (a:xO A G) (b:xO A H):xO A (fun g=>G g*H g):=fun u h g x=>by
 show G (aM g u x)*H (aM g u x)=G g*H g;rw[a u h,b u h]
theorem U5 {V:List Vr} (h0:bH V L R=0) {b:Nat ->Bool} (A:tS L fun v=>b v=true):∀k,(aZ (aN L) k).length=k ->k<=L.length ->∀(G:(Nat ->Nat) ->Rat),xO (fun v=>b v=true) G ->∀f,(∀u,f u<sz (aw V) u) ->
  eB (aw V) (aZ (aN L) k) (fun g=>G g*eI V L R g (aZ (aN L) k)) f=eB (aw V) ((aZ (aN L) k).filter b) (fun g=>G g*eI V L R g ((aZ (aN L) k).filter b)) f
 |0,_,_,_,_,_,_=>rfl
 |k+1,hl,hk,G,hG,f,hf=>by
  have T:=kN h0;have J:=Gf (aN L) k;cases e:sO (aN L) (aZ (aN L) k) with
  |none=>
   rw[aZ,e] at hl;exact absurd hl (by show (aZ (aN L) k).length≠_;omega)
  |some v=>
   have j:=RT e;rw[j] at hl⊢;rw[bK,IZ] at hl;have d:jI (aN L) (aZ (aN L) k) v=true:=List.find?_some e;rw[jI,kj] at d;(have y:¬v∈aZ (aN L) k:=by simpa using d.1);(have o:v<L.length:=by have:=cI.1 (WO e);rwa [l5] at this)
   have r:∀u∈aZ (aN L) k,u≠v/\¬v∈ag (L.getD u []):=fun u a=>by
    refine⟨fun e=>y (e▸a),fun p=>?_⟩
    exact y (Nw (aN L) k u a v (by
     have E:=DV (aN L) k u a;rw[l5] at E;rw[RG E];rw[bY,bj E] at p;exact p))
   rw[DX,BL];by_cases c:b v=true
   ·have i:=U5 h0 A k al al (fun g=>bq (fun x=>G (aM g v x)*aQ (fg V L R (aM g v x) v)) (sz (aw V) v)) ((hG.mul (aiO A c)).sum v _) f hf;rw[show ([v].filter b)=[v] by simp[c],DX];rw[B3 (F:=fun g=>bq (fun x=>G (aM g v x)*eI V L R (aM g v x) (aZ (aN L) k++[v])) (sz (aw V) v)) (G:=fun g=>bq (fun x=>G (aM g v x)*aQ (fg V L R (aM g v x) v)) (sz (aw V) v)*eI V L R g (aZ (aN L) k)) ?_ _ f hf,i]
    ·refine B3 ?_ _ f hf;intro g _;rw[zQ, <- yI];refine gN fun x _=>?_;rw[F7,eI,eI,rB,Jz fun u a=>r u (eL.1 a).1];grind
    ·intro g _;rw[zQ, <- yI];refine gN fun x _=>?_;rw[F7,eI,eI,rB,Jz r];grind
   ·have i:=U5 h0 A k al al G hG f hf;rw[show ([v].filter b)=[] by simp[c],BP, <- i];refine B3 ?_ _ f hf;intro g l;rw[gN (h:=fun x=>(G g*eI V L R g (aZ (aN L) k))*aQ (fg V L R (aM g v x) v))]
    ·rw[yI,row_one h0 (by rw[<- T.len];exact o) l,rB]
    ·intro x _;rw[F7,eI,eI,rB,Jz r,hG v c];grind
def Fit (S:List Nat) (f:Nat ->Nat):Prop:=∀u,f u<sz S u
theorem Fit.with (h:Fit S f) {x:Nat} (a:x<sz S v):Fit S (aM f v x):=fun u=>by
 rw[aM];by_cases e:u=v
 ·rw[aA e,e];exact a
 ·rw[aD e];exact h u
def tQ (S:List Nat) (t:List Nat×List Fr) (f:Nat ->Nat):Rat:=aQ (bD t.2 (pos S f t.1))
theorem aeR {t:List Nat×List Fr} {x:Nat} (h:¬v∈t.1):tQ S t (aM f v x)=tQ S t f:=by
 rw[tQ,tQ,yN S (f:=aM f v x) (g:=f)];intro u a;rw[aM,aD];intro e;exact h (e▸a)
theorem aeQ {a b U:List Nat} (p:Pos S) (r:U.Nodup) (q:∀u∈a,u∈U) (j:∀u∈b,u∈U) (la lb:List Fr) (h:Fit S f):tQ S (U,uZ S a b U la lb) f=tQ S (a,la) f*tQ S (b,lb) f:=agt p r q j la lb h
theorem XE {vars rest:List Nat} (p:Pos S) (r:rest.Nodup) (b:∀u∈vars,u=v∨u∈rest) (l:List Fr) (a:Fit S f):tQ S (rest,qJ S vars rest v false l) f=bq (fun x=>tQ S (vars,l) (aM f v x)) (sz S v):=by
 have h:=Zg p r b false l a;rw[Zh,show sz S v - 1+1=sz S v by have:=nT p v;omega] at h;exact h
theorem XF {vars rest:List Nat} (p:Pos S) (r:rest.Nodup) (a:∀u∈vars,u=v∨u∈rest) (l:List Fr) (h:Fit S f):tQ S (rest,qJ S vars rest v true l) f=jT true (fun x=>tQ S (vars,l) (aM f v x)) (sz S v - 1):=Zg p r a true l h
theorem Q9 {vars rest:List Nat} (p:Pos S) (r:rest.Nodup) {x:Nat} (b:∀u∈vars,u=v∨u∈rest) (l:List Fr) (h:Fit S f):tQ S (rest,xH S vars rest v x l) f=tQ S (vars,l) (aM f v x):=by
 rw[tQ,tQ,xH,Pg _ (sL f h rest),mZ];rw[yN S (f:=aM (aY S rest (pos S f rest)) v x) (g:=aM f v x)];intro u a;simp only[aM];by_cases e:u=v
 ·rw[aA e,aA e]
 ·rw[aD e,aD e];exact EN p h r u ((b u a).resolve_left e)
theorem Q8 {V:List Vr} (h0:bH V L R=0) (d:v<V.length) (c:Fit (aw V) f):tQ (aw V) (ag (gU L v),gL V L R v) f=aQ (fg V L R f v):=by
 have a:=kN h0;have p:v<L.length:=by rw[a.len];exact d
 have e:Pos (aw V):=by have:=a.fine.pos;rwa [jC] at this
 have K:L.getD v []=L[v]:=by rw[bY,bj p];rfl
 have J:Up (gU L v) V.length:=by rw[gU,K];exact FZ (a.up v p) (QZ d)
 have m:∀u,u=v∨u∈ag (L.getD v []) ->u∈ag (gU L v):=fun u h=>by
  obtain⟨_,b⟩:=Jl (L.getD v []) [(v:Int)];rcases h with rfl |h
  ·exact ba.2 ⟨(u:Int),(b _).2 (.inr (dT.2 rfl)),rD u⟩
  ·obtain⟨z,g,rfl⟩:=ba.1 h;exact ba.2 ⟨z,(b _).2 (.inl g),rfl⟩
 rw[tQ,gL,Pg _ (sL f c _),mZ];congr 1
 exact aaf fun u h=>EN e c J.nodup u (m u h)
def pQ (S:List Nat) (f:Nat ->Nat):List (List Nat×List Fr) ->Rat
 |[]=>1
 |t::P=>tQ S t f*pQ S f P
theorem RL (S:List Nat) (f:Nat ->Nat) (Q:List (List Nat×List Fr)):∀P,pQ S f (P++Q)=pQ S f P*pQ S f Q
 |[]=>by rw[jy,pQ,sF]
 |t::P=>by rw[fG,pQ,pQ,RL S f Q P,jx]
theorem RJ {x:Nat}:∀ {P:List (List Nat×List Fr)},(∀t∈P,¬v∈t.1) ->pQ S (aM f v x) P=pQ S f P
 |[],_=>rfl
 |t::P,h=>by rw[pQ,pQ,aeR (h t dp),RJ fun s a=>h s (dF _ a)]
theorem RI (S:List Nat) (f:Nat ->Nat) (p:List Nat×List Fr ->Bool):∀P:List (List Nat×List Fr),pQ S f P=pQ S f (P.filter fun t=>!p t)*pQ S f (P.filter p)
 |[]=>by simp[pQ]
 |t::P=>by
  rw[pQ,RI S f p P];cases h:p t
  ·rw[BI (by simp[h]),BK (by simp[h]),pQ,jx]
  ·rw[BK (by simp[h]),BI h,pQ, <- jx, <- jx,zQ (tQ S t f)]
theorem ag9 {P:List (List Nat×List Fr)} {q r:List Nat×List Fr} (a:∀g,Fit S g ->tQ S q g=pQ S g (P.filter fun t=>decide (v∈t.1))) (b:∀g,Fit S g ->tQ S r g=bq (fun x=>tQ S q (aM g v x)) (sz S v)) (h:Fit S f):
  pQ S f ((P.filter fun t=>!decide (v∈t.1))++[r])=bq (fun x=>pQ S (aM f v x) P) (sz S v):=by
 rw[RL,pQ,pQ,rB,b f h, <- yI];refine gN fun x d=>?_;have U:=RJ (S:=S) (f:=f) (v:=v) (x:=x) (P:=P.filter fun t=>!decide (v∈t.1)) (fun t c=>by simpa using (eL.1 c).2);rw[RI S (aM f v x) (fun t=>decide (v∈t.1)) P,a _ (h.with d),U]
variable {ws:List Nat}
def Hp (S:List Nat):List Nat ->((Nat ->Nat) ->Rat) ->(Nat ->Nat) ->Rat
 |[],F=>F
 |v::vs,F=>Hp S vs fun f=>bq (fun x=>F (aM f v x)) (sz S v)
theorem acj (S:List Nat):∀(vs:List Nat) (F:(Nat ->Nat) ->Rat) (f:Nat ->Nat),Hp S vs F f=eB S vs.reverse F f
 |[],F,f=>rfl
 |v::vs,F,f=>by rw[Hp,acj S vs,List.reverse_cons,DX]
theorem alw (h:vs.Perm ws) (n:vs.Nodup) (F:(Nat ->Nat) ->Rat) (f:Nat ->Nat):Hp S vs F f=eB S ws F f:=by
 rw[acj];exact JH F ((List.reverse_perm vs).trans h) ((List.reverse_perm vs).nodup_iff.2 n) f
def oX (v x:Nat) (g:Nat ->Nat):Rat:=if g v=x then 1 else 0
theorem ZF {x y:Nat} (F:(Nat ->Nat) ->Rat):∀(vs:List Nat) (f:Nat ->Nat),¬v∈vs ->f v=y ->eB S vs (fun g=>oX v x g*F g) f=(if y=x then 1 else 0)*eB S vs F f
 |[],f,_,hf=>by
  show oX v x f*F f=_;rw[oX,hf];rfl
 |u::vs,f,hv,hf=>by
  rw[eB,eB, <- yI];refine gN fun z _=>?_;refine ZF F vs _ (fun h=>hv (dF _ h)) ?_;rw[aM,aD (fun e=>hv (by rw[e];exact dp)),hf]
theorem R7 {x:Nat} (F:(Nat ->Nat) ->Rat):∀(vs:List Nat) (f:Nat ->Nat),¬v∈vs ->eB S vs F (aM f v x)=eB S vs (fun g=>F (aM g v x)) f
 |[],f,_=>rfl
 |u::vs,f,hv=>by
  rw[eB,eB];refine gN fun z _=>?_;have n:v≠u:=fun e=>hv (by rw[e];exact dp);rw[MT f x z (fun e=>n e.symm),R7 F vs _ fun h=>hv (dF _ h)]
theorem Jq {g:Nat ->Rat} {x:Nat}:∀ {n:Nat},x< n ->bq (fun y=>(if y=x then 1 else 0)*g y) n=g x
 |0,h=>al
 |n+1,h=>by
  rw[bq];rcases cT x n with a |a
  ·rw[Jq a,aD al,II,IM]
  ·obtain rfl:x=n:=al
   rw[aA rfl,sF,gN (h:=fun _=>0) fun y b=>by rw[aD al,II],Rg,IJ]
theorem ahK {x:Nat} (F:(Nat ->Nat) ->Rat) (h:vs.Perm (v::ws)) (n:vs.Nodup) (a:x<sz S v) (f:Nat ->Nat):eB S vs (fun g=>oX v x g*F g) f=eB S ws (fun g=>F (aM g v x)) f:=by
 have j:=h.nodup_iff.1 n;rw[pG] at j;rw[JH _ h n f,eB, <- R7 F ws f j.1];rw[gN (h:=fun y=>(if y=x then 1 else 0)*eB S ws F (aM f v y)) fun y _=>ZF F ws _ j.1 (by rw[aM,aA rfl])];exact Jq a
def eh:List (Nat×Nat) ->(Nat ->Nat) ->Rat
 |[],_=>1
 |p::l,g=>oX p.1 p.2 g*eh l g
def jl:List (Nat×Nat) ->(Nat ->Nat) ->Nat ->Nat
 |[],g=>g
 |p::l,g=>jl l (aM g p.1 p.2)
theorem Pm {x:Nat}:∀ {l:List (Nat×Nat)},(∀p∈l,p.1≠v) ->∀g,eh l (aM g v x)=eh l g
 |[],_,_=>rfl
 |p::l,h,g=>by
  rw[eh,eh,Pm (fun q a=>h q (dF _ a)),oX,oX,aM,aD (h p dp)]
theorem RA {x:Nat}:∀ {l:List (Nat×Nat)},(∀p∈l,p.1≠v) ->∀g,jl l (aM g v x)=aM (jl l g) v x
 |[],_,_=>rfl
 |p::l,h,g=>by
  rw[jl,jl,MT g x p.2 (h p dp),RA fun q a=>h q (dF _ a)]
theorem ZG:∀(l:List (Nat×Nat)) (F:(Nat ->Nat) ->Rat) {vs ws:List Nat},vs.Perm (l.map (·.1)++ws) ->vs.Nodup ->(∀p∈l,p.2<sz S p.1) ->∀f,eB S vs (fun g=>eh l g*F g) f=eB S ws (fun g=>F (jl l g)) f
 |[],F,vs,ws,h,hn,_,f=>by
  rw[JH _ h hn f];show eB S ws (fun g=>1*F g) f=_;simp only[sF,jl]
 |p::l,F,vs,ws,h,hn,hx,f=>by
  have j:=h.nodup_iff.1 hn;rw[iy,fG] at j h;rw[pG] at j;have r:∀q∈l,q.1≠p.1:=fun q a e=>j.1 (ck.2 (.inl (by rw[<- e];exact ba.2 ⟨q,a,rfl⟩)))
  have b:(fun g=>eh (p::l) g*F g)=fun g=>oX p.1 p.2 g*(eh l g*F g):=by
   funext g
   rw[eh,jx]
  rw[b,ahK (fun g=>eh l g*F g) h hn (hx p dp) f]
  have c:(fun g=>eh l (aM g p.1 p.2)*F (aM g p.1 p.2))=fun g=>eh l g*F (aM g p.1 p.2):=by
   funext g
   rw[Pm r]
  rw[c,ZG l (fun g=>F (aM g p.1 p.2)) (List.Perm.refl _) j.2 (fun q a=>hx q (dF _ a)) f];congr 1
  funext g
  rw[show jl (p::l) g=jl l (aM g p.1 p.2) from rfl];congr 1
  exact(RA r g).symm
theorem Zs (p q:Rat):p<=DW true p q/\q<=DW true p q:=by
 simp only[DW,zN];by_cases h:p<q
 ·rw[aA h];exact⟨Rat.le_of_lt h,Dx⟩
 ·rw[aD h];exact⟨Dx,Rat.not_lt.1 h⟩
theorem RP (g:Nat ->Rat):∀ {k x:Nat},x<=k ->g x<=jT true g k
 |0,x,h=>by rw[Nat.le_zero.1 h];exact Dx
 |k+1,x,h=>by
  rw[jT];rcases cT k x with a |a
  ·rw[show x=k+1 from by omega];exact(Zs _ _).2
  ·exact ym (RP g a) (Zs _ _).1
theorem JE (g:Nat ->Rat):∀k,∃x,x<=k/\jT true g k=g x
 |0=>⟨0,aq _,rfl⟩
 |k+1=>by
  obtain⟨x,a,e⟩:=JE g k;rw[jT];simp only[DW,zN];by_cases h:jT true g k<g (k+1)
  ·rw[aA h];exact⟨k+1,aq _,rfl⟩
  ·rw[aD h];exact⟨x,al,e⟩
theorem ahk {A:Rat} (a:0<=A) (g:Nat ->Rat) (k:Nat):jT true (fun x=>A*g x) k=A*jT true g k:=by
 refine Rat.le_antisymm ?_ ?_
 ·obtain⟨x,h,e⟩:=JE (fun x=>A*g x) k;rw[e];exact WI (RP g h) a
 ·obtain⟨x,h,e⟩:=JE g k;rw[e];exact RP (fun x=>A*g x) h
theorem aeh (f:Nat ->Nat) (v:Nat):aM f v (f v)=f:=by
 funext u;rw[aM];by_cases h:u=v
 ·rw[aA h,h]
 ·rw[aD h]
theorem aek (f:Nat ->Nat) (v x:Nat):aM f v x v=x:=by rw[aM,aA rfl]
theorem aei (f:Nat ->Nat) (x:Nat) (h:u≠v):aM f v x u=f u:=by rw[aM,aD h]
def elimM (S:List Nat):List Nat ->((Nat ->Nat) ->Rat) ->(Nat ->Nat) ->Rat
 |[],F=>F
 |v::vs,F=>elimM S vs fun f=>jT true (fun x=>F (aM f v x)) (sz S v - 1)
theorem aha {P:List (List Nat×List Fr)} {q r:List Nat×List Fr} (p:Pos S) (c:∀g,Fit S g ->tQ S q g=pQ S g (P.filter fun t=>decide (v∈t.1))) (d:∀g,Fit S g ->tQ S r g=jT true (fun x=>tQ S q (aM g v x)) (sz S v - 1)) (n:∀g,Fit S g ->∀t∈P,0<=tQ S t g) (a:Fit S f):
  pQ S f ((P.filter fun t=>!decide (v∈t.1))++[r])=jT true (fun x=>pQ S (aM f v x) P) (sz S v - 1):=by
 have z:=nT p v
 have Z:∀Q:List (List Nat×List Fr),(∀t∈Q,t∈P) ->0<=pQ S f Q:=fun Q=>by
  induction Q with
  |nil=>intro _;rw[pQ];decide
  |cons t Q ih=>intro h;rw[pQ];exact IK (n f a t (h t dp)) (ih fun s e=>h s (dF _ e))
 rw[RL,pQ,pQ,rB,d f a, <- ahk (Z _ fun t b=>(eL.1 b).1)];refine Nv true fun x i=>?_;have U:=RJ (S:=S) (f:=f) (v:=v) (x:=x) (P:=P.filter fun t=>!decide (v∈t.1)) (fun t b=>by simpa using (eL.1 b).2);rw[RI S (aM f v x) (fun t=>decide (v∈t.1)) P,c _ (a.with al),U]
theorem ahl {g:Nat ->Rat} (h:∀x,x<=k ->0<=g x):0<=jT true g k:=by
 obtain⟨x,a,e⟩:=JE g k;rw[e];exact h x a
theorem RF (p:Pos S):∀ {vs:List Nat} {k:Nat},vs.Nodup ->k<cnt S vs ->pos S (aY S vs k) vs=k
 |[],k,_,h=>by
  have:k<1:=h;rw[show k=0 from by omega];rfl
 |u::vs,k,hn,h=>by
  rw[pG] at hn;have c:0<cnt S vs:=Mx (aV _) (sL (S:=S) (fun _=>0) (fun u=>nT p u) vs)
  have e:pos S (aY S (u::vs) k) vs=pos S (aY S vs (k % cnt S vs)) vs:=yN S fun v a=>by
   rw[aY,aD];exact fun e=>hn.1 (e▸a)
  rw[YW,e,RF p hn.2 (jQ _ c),aY,aA rfl,dK];exact Nat.div_add_mod _ _
theorem Su {V:List Vr} (h0:bH V L R=0) (c:v<V.length) (d:Fit (aw V) f):0<=aQ (fg V L R f v):=by
 have T:=kN h0;have p:v<L.length:=by rw[T.len];exact c
 have q:v<R.length:=by rw[T.lenR];exact c
 have g:=T.rows v p q;have e:=sL f d (ag L[v])
 have o:dt (gH R[v] (sz (aw V) v) (pos (aw V) f (ag L[v])))=true:=by
  have b:jr (lp (aw V) L R) V.length=0:=by
   rw[bH] at h0;by_cases b:L.length=V.length/\R.length=V.length
   ·rw[aA b] at h0;by_cases h:bZ L=0
    ·rw[aA h] at h0;by_cases a:oQ V=0
     ·rwa [aA a] at h0
     ·rw[aD a] at h0;exact absurd h0 a
    ·rw[aD h] at h0;exact absurd h0 h
   ·rw[aD b] at h0;exact absurd h0 bd
  have h:=KR b v c;rw[lp,bY,bj q,bY,bj p] at h;simp only[mE] at h;rw[aA g] at h;by_cases a:((List.range (cnt (aw V) (ag L[v]))).all fun i=>dt (gH R[v] (sz (aw V) v) i))=true
  ·rw[iQ] at a;exact a _ (cI.2 e)
  ·rw[aD a] at h;exact absurd h bd
 rw[dt,kj,iQ] at o;have u:(pos (aw V) f (ag L[v])+1)*sz (aw V) v<=R[v].length:=by rw[g];exact lS _ e
 have j:(pos (aw V) f (ag L[v])+1)*sz (aw V) v=pos (aw V) f (ag L[v])*sz (aw V) v+sz (aw V) v:=by rw[fF,jP]
 have k:(gH R[v] (sz (aw V) v) (pos (aw V) f (ag L[v]))).length=sz (aw V) v:=by
  rw[gH,eE,nN];omega
 have r:=d v;have m:=o.1 _ (bF (l:=gH R[v] (sz (aw V) v) (pos (aw V) f (ag L[v]))) (n:=f v) al);rw[NP p q,qL,kS al];have:=Rat.not_lt.1 (tW m);simpa only[gH,zV,List.getElem_drop] using this
theorem akA {V:List Vr} (h0:bH V L R=0) (a:v<V.length) (h:Fit (aw V) f):0<=tQ (aw V) (ag (gU L v),gL V L R v) f:=by
 rw[Q8 h0 a h];exact Su h0 a h
def Hc (l:List (Nat×Nat)) (g:Nat ->Nat):Bool:=l.all fun p=>g p.1==p.2
theorem TH:∀(l:List (Nat×Nat)) (g:Nat ->Nat),eh l g=if Hc l g then 1 else 0
 |[],_=>rfl
 |p::l,g=>by
  rw[eh,TH l g,oX,Hc,Hc,List.all_cons];by_cases h:g p.1=p.2
  ·rw[aA h,sF,uO.2 h,I7]
  ·rw[aD h,II,FP.2 h,Bool.false_and];rfl
theorem Rz:∀ {l:List (Nat×Nat)},¬u∈l.map (·.1) ->∀g,jl l g u=g u
 |[],_,_=>rfl
 |p::l,h,g=>by
  rw[iy,dU,not_or] at h;rw[jl,Rz h.2,aei g _ h.1]
theorem YQ {p:Nat×Nat}:∀ {l:List (Nat×Nat)},(l.map (·.1)).Nodup ->p∈l ->∀g,jl l g p.1=p.2
 |q::l,hn,h,g=>by
  rw[iy,pG] at hn;rcases dU.1 h with rfl |h
  ·rw[jl,Rz hn.1,aek]
  ·exact YQ hn.2 h _
theorem amP {A:Nat ->Prop}:∀ {l:List (Nat×Nat)},(∀p∈l,A p.1) ->xO A (eh l)
 |[],_=>fun _ _ _ _=>rfl
 |p::l,h=>fun v b g x=>by
  have n:∀q∈p::l,q.1≠v:=fun q a e=>b (e▸h q a);exact Pm n g
theorem amR {V:List Vr} (h0:bH V L R=0) {s:List Nat} (n:s.Nodup) (t:∀v∈s,v<V.length) (i:tS L (·∈s)) {G:(Nat ->Nat) ->Rat} (c:xO (·∈s) G):
  bq (fun k=>G (aY (aw V) (List.range V.length) k)*gO V L R (aY (aw V) (List.range V.length) k) V.length) (cnt (aw V) (List.range V.length))=eB (aw V) s (fun g=>G g*eI V L R g s) (fun _=>0):=by
 have T:=kN h0;have d:Pos (aw V):=by have:=T.fine.pos;rwa [jC] at this
 obtain⟨O,_⟩:=ZE h0 L.length (RX h0) (aq _)
 have p:(aZ (aN L) L.length).Perm (List.range V.length):=by
  rw[<- T.len];refine Y1 L.length _ O (fun x l=>?_) (RX h0);have:=DV (aN L) L.length x l;rwa [l5] at this
 have z:Fit (aw V) (fun _:Nat=>0):=fun u=>nT d u;have e:=R9 (S:=aw V) (fun g=>G g*gO V L R g V.length) (List.range V.length) (fun _=>0) BD;rw[gN (h:=fun k=>G (aY (aw V) (List.range V.length) k)*gO V L R (aY (aw V) (List.range V.length) k) V.length) fun k _=>by rw[ahf]] at e
 have f:((aZ (aN L) L.length).filter fun v=>decide (v∈s)).Perm s:=by
  refine(MA (O.filter _) n).2 fun v=>?_;rw[eL,gY];refine⟨fun h=>h.2,fun h=>⟨p.mem_iff.2 (cI.2 (t v h)),h⟩⟩
 rw[e, <- JH _ p O,B3 (G:=fun g=>G g*eI V L R g (aZ (aN L) L.length)) (fun g _=>by rw[RD,YT p]) _ _ z,U5 (b:=fun v=>decide (v∈s)) h0 (fun v a u j=>eD (i v (tW a) u j)) L.length (RX h0) (aq _) G (fun v a g x=>c v (fun h=>a (eD h)) g x) _ z,JH _ f (O.filter _)];refine B3 (fun g _=>?_) _ _ z;rw[YT f]
theorem agw {V:List Vr} (h0:bH V L R=0) {s:List Nat} {l:List (Nat×Nat)} (n:s.Nodup) (t:∀v∈s,v<V.length) (c:tS L (·∈s)) (h:s.Perm (l.map (·.1)++ws)) (x:∀p∈l,p.2<sz (aw V) p.1):
  bq (fun k=>eh l (aY (aw V) (List.range V.length) k)*gO V L R (aY (aw V) (List.range V.length) k) V.length) (cnt (aw V) (List.range V.length))=eB (aw V) ws (fun g=>eI V L R (jl l g) s) (fun _=>0):=by
 rw[amR h0 n t c (amP fun p a=>h.mem_iff.2 (ck.2 (.inl (ba.2 ⟨p,a,rfl⟩))))];exact ZG l (fun g=>eI V L R g s) h n x _
variable {free:List Nat}
abbrev Tb:=List Int×List Fr
def tN (t:Tb):List Nat×List Fr:=(ag t.1,t.2)
structure dP (S:List Nat) (n:Nat) (t:Tb):Prop where
 up:Up t.1 n
 len:t.2.length=cnt S (ag t.1)
def yS (S:List Nat) (a t:Tb):Tb:=(kr a.1 t.1,uZ S (ag a.1) (ag t.1) (ag (kr a.1 t.1)) a.2 t.2)
def BZ:Tb:=([],[qF 1])
def allT (S:List Nat) (P:List Tb):Tb:=P.foldl (yS S) BZ
def outT (S:List Nat) (v:Nat) (most:Bool) (t:Tb):Tb:=(bS t.1 v,qJ S (ag t.1) (ag (bS t.1 (v:Int))) v most t.2)
def kR (S:List Nat) (v x:Nat) (t:Tb):Tb:=(bS t.1 v,xH S (ag t.1) (ag (bS t.1 (v:Int))) v x t.2)
theorem MW {a b:List Int}:∀u,u∈ag (kr a b)↔u∈ag a∨u∈ag b:=fun u=>by
 obtain⟨_,h⟩:=Jl a b;simp only[ag,ba];constructor
 ·rintro⟨x,c,e⟩;rcases (h x).1 c with h |h
  ·exact .inl ⟨x,h,e⟩
  ·exact .inr ⟨x,h,e⟩
 ·rintro(⟨x,c,e⟩ |⟨x,c,e⟩)
  ·exact⟨x,(h x).2 (.inl c),e⟩
  ·exact⟨x,(h x).2 (.inr c),e⟩
theorem Sv {a:List Int} (h:Up a n):∀u,u∈ag (bS a (v:Int))↔u∈ag a/\u≠v:=fun u=>by
 constructor
 ·intro b;refine⟨?_,fun e=>NS h (e▸b)⟩;obtain⟨x,c,e⟩:=ba.1 b;exact ba.2 ⟨x,(eL.1 c).1,e⟩
 ·rintro⟨b,d⟩;rcases B6 h v u b with rfl |h
  ·exact absurd rfl d
  ·exact h
theorem dP.mul {a t:Tb} (h:dP S n a) (b:dP S n t):dP S n (yS S a t):=⟨FZ h.up b.up,YU ..⟩
theorem dP.one (S:List Nat) (n:Nat):dP S n BZ:=⟨rG.2 ⟨fun _ h=>absurd h nL,List.Pairwise.nil⟩,rfl⟩
theorem dP.o {t:Tb} (h:dP S n t) (v:Nat) (m:Bool):dP S n (outT S v m t):=⟨uh h.up _,RR ..⟩
theorem dP.fix {t:Tb} (h:dP S n t) (v x:Nat):dP S n (kR S v x t):=⟨uh h.up _,ab1 ..⟩
theorem aii {a t:Tb} (p:Pos S) (b:dP S n a) (d:dP S n t) (c:Fit S f):tQ S (tN (yS S a t)) f=tQ S (tN a) f*tQ S (tN t) f:=
 aeQ p (FZ b.up d.up).nodup (fun u h=>(MW u).2 (.inl h)) (fun u h=>(MW u).2 (.inr h)) _ _ c
theorem abW (p:Pos S):∀ {P:List Tb} {a:Tb},dP S n a ->(∀t∈P,dP S n t) ->dP S n (P.foldl (yS S) a)/\(∀u,u∈ag (P.foldl (yS S) a).1↔u∈ag a.1∨∃t∈P,u∈ag t.1)/\∀f,Fit S f ->tQ S (tN (P.foldl (yS S) a)) f=tQ S (tN a) f*pQ S f (P.map tN)
 |[],a,ha,_=>⟨ha,fun u=>⟨.inl,fun h=>h.elim id fun ⟨_,c,_⟩=>absurd c nL⟩,fun f _=>by rw[nM,pQ,rB];rfl⟩
 |t::P,a,ha,h=>by
  have c:=h t dp;obtain⟨g,i,j⟩:=abW p (ha.mul c) (fun s b=>h s (dF _ b)) (P:=P);refine⟨g,fun u=>?_,fun f d=>?_⟩
  ·rw[BH,i u];show u∈ag (kr a.1 t.1)∨_↔_;rw[MW,or_assoc];refine or_congr Iff.rfl ⟨?_,?_⟩
   ·rintro(h |⟨s,b,h⟩)
    ·exact⟨t,dp,h⟩
    ·exact⟨s,dF _ b,h⟩
   ·rintro⟨s,b,e⟩;rcases dU.1 b with rfl |b
    ·exact .inl e
    ·exact .inr ⟨s,b,e⟩
  ·rw[BH,j f d,aii p ha c d,iy,pQ,jx]
theorem zl (p:Pos S) {P:List Tb} (h:∀t∈P,dP S n t):dP S n (allT S P)/\(∀u,u∈ag (allT S P).1↔∃t∈P,u∈ag t.1)/\∀f,Fit S f ->tQ S (tN (allT S P)) f=pQ S f (P.map tN):=by
 obtain⟨a,b,c⟩:=abW p (dP.one S n) h;refine⟨a,fun u=>(b u).trans ⟨fun h=>h.elim (fun h=>absurd h nL) id,.inr⟩,fun f d=>?_⟩;rw[allT,c f d];have:tQ S (tN BZ) f=1:=mZ 1;rw[this,sF]
def lq (S:List Nat) (v:Nat) (most:Bool) (P:List Tb):List Tb:=(P.filter fun t=>!decide (v∈ag t.1))++[outT S v most (allT S (P.filter fun t=>decide (v∈ag t.1)))]
structure PI (S:List Nat) (n:Nat) (free:List Nat) (P:List Tb) (F:(Nat ->Nat) ->Rat):Prop where
 ok:∀t∈P,dP S n t
 sub:∀t∈P,∀u∈ag t.1,u∈free
 sup:∀u∈free,∃t∈P,u∈ag t.1
 val:∀g,Fit S g ->pQ S g (P.map tN)=F g
def NN (S:List Nat) (P:List Tb):Prop:=∀t∈P,∀g,Fit S g ->0<=tQ S (tN t) g
theorem Y8 {g:Nat ->Nat} (a:Fit S g):∀ {P:List Tb},NN S P ->0<=pQ S g (P.map tN)
 |[],_=>by rw[nM,pQ];decide
 |t::P,h=>by rw[iy,pQ];exact IK (h t dp g a) (Y8 a fun s b=>h s (dF _ b))
theorem PI.parts {P:List Tb} {F:(Nat ->Nat) ->Rat} (p:Pos S) (h:PI S n free P F) (v:Nat) (m:Bool):
  (∀t∈lq S v m P,dP S n t)/\(∀t∈lq S v m P,∀u∈ag t.1,u∈free.filter fun u=>!(u==v))/\∀u∈free.filter (fun u=>!(u==v)),∃t∈lq S v m P,u∈ag t.1:=by
 obtain⟨f,g,_⟩:=zl p (P:=P.filter fun t=>decide (v∈ag t.1)) (n:=n) fun t a=>h.ok t (eL.1 a).1;have i:∀u,u∈free.filter (fun u=>!(u==v))↔u∈free/\u≠v:=fun u=>by simp[eL]
 have r:=Sv (v:=v) f.up;refine⟨fun t a=>?_,fun t a u b=>?_,fun u b=>?_⟩
 ·rcases ck.1 a with a |a
  ·exact h.ok t (eL.1 a).1
  ·rw[dT.1 a];exact f.o v m
 ·rw[i];rcases ck.1 a with a |a
  ·obtain⟨a,c⟩:=eL.1 a;exact⟨h.sub t a u b,fun e=>by simp[<- e,b] at c⟩
  ·rw[dT.1 a] at b;obtain⟨b,d⟩:=(r u).1 b;obtain⟨s,j,b⟩:=(g u).1 b;exact⟨h.sub s (eL.1 j).1 u b,d⟩
 ·obtain⟨b,d⟩:=(i u).1 b;obtain⟨t,a,X⟩:=h.sup u b;by_cases c:v∈ag t.1
  ·exact⟨_,ck.2 (.inr (dT.2 rfl)),(r u).2 ⟨(g u).2 ⟨t,eL.2 ⟨a,eD c⟩,X⟩,d⟩⟩
  ·exact⟨t,ck.2 (.inl (eL.2 ⟨a,by simp[c]⟩)),X⟩
theorem PI.o {P:List Tb} {F:(Nat ->Nat) ->Rat} (p:Pos S) (h:PI S n free P F) (v:Nat):
  PI S n (free.filter fun u=>!(u==v)) (lq S v false P) (fun g=>bq (fun x=>F (aM g v x)) (sz S v)):=by
 obtain⟨a,b,c⟩:=h.parts p v false;obtain⟨e,w,m⟩:=zl p (P:=P.filter fun t=>decide (v∈ag t.1)) (n:=n) fun t o=>h.ok t (eL.1 o).1;refine⟨a,b,c,fun g i=>?_⟩;have j:(P.map tN).filter (fun t=>!decide (v∈t.1))=(P.filter fun t=>!decide (v∈ag t.1)).map tN:=by rw[MJ];rfl
 have l:(P.map tN).filter (fun t=>decide (v∈t.1))=(P.filter fun t=>decide (v∈ag t.1)).map tN:=by rw[MJ];rfl
 have y:=ag9 (S:=S) (f:=g) (v:=v) (P:=P.map tN) (q:=tN (allT S (P.filter fun t=>decide (v∈ag t.1)))) (r:=tN (outT S v false (allT S (P.filter fun t=>decide (v∈ag t.1))))) (fun k d=>by rw[l];exact m k d) (fun k d=>XE p (uh e.up _).nodup (B6 e.up v) _ d) i;rw[j] at y;rw[lq,eP,List.map_singleton,y];exact gN fun x s=>h.val _ (i.with s)
theorem PI.most {P:List Tb} {F:(Nat ->Nat) ->Rat} (p:Pos S) (h:PI S n free P F) (j:NN S P) (v:Nat):
  PI S n (free.filter fun u=>!(u==v)) (lq S v true P) (fun g=>jT true (fun x=>F (aM g v x)) (sz S v - 1))/\NN S (lq S v true P):=by
 obtain⟨a,b,c⟩:=h.parts p v true;obtain⟨o,E,w⟩:=zl p (P:=P.filter fun t=>decide (v∈ag t.1)) (n:=n) fun t d=>h.ok t (eL.1 d).1;have H:=nT p v;have z:(P.map tN).filter (fun t=>!decide (v∈t.1))=(P.filter fun t=>!decide (v∈ag t.1)).map tN:=by rw[MJ];rfl
 have A:(P.map tN).filter (fun t=>decide (v∈t.1))=(P.filter fun t=>decide (v∈ag t.1)).map tN:=by rw[MJ];rfl
 have m:∀k,Fit S k ->tQ S (tN (outT S v true (allT S (P.filter fun t=>decide (v∈ag t.1))))) k=jT true (fun x=>tQ S (tN (allT S (P.filter fun t=>decide (v∈ag t.1)))) (aM k v x)) (sz S v - 1):=fun k i=>XF p (uh o.up _).nodup (B6 o.up v) _ i;refine⟨⟨a,b,c,fun g e=>?_⟩,fun t d g e=>?_⟩
 ·have y:=aha (S:=S) (f:=g) (v:=v) (P:=P.map tN) (q:=tN (allT S (P.filter fun t=>decide (v∈ag t.1)))) (r:=tN (outT S v true (allT S (P.filter fun t=>decide (v∈ag t.1))))) p (fun k i=>by rw[A];exact w k i) m (fun k i t d=>by
   obtain⟨s,l,rfl⟩:=ba.1 d;exact j s l k i) e
  rw[z] at y;rw[lq,eP,List.map_singleton,y];exact Nv true fun x D=>h.val _ (e.with al)
 ·rcases ck.1 d with d |d
  ·exact j t (eL.1 d).1 g e
  ·rw[dT.1 d,m g e];refine ahl fun x D=>?_;rw[w _ (e.with al)];exact Y8 (e.with al) fun s l=>j s (eL.1 l).1
theorem PI.fix {P:List Tb} {F:(Nat ->Nat) ->Rat} (p:Pos S) (h:PI S n free P F) {x:Nat} (j:x<sz S v):
  PI S n (free.filter fun u=>!(u==v)) (P.map (kR S v x)) (fun g=>F (aM g v x)):=by
 have f:∀u,u∈free.filter (fun u=>!(u==v))↔u∈free/\u≠v:=fun u=>by simp[eL]
 refine⟨fun t c=>?_,fun t c u a=>?_,fun u a=>?_,fun g i=>?_⟩
 ·obtain⟨s,b,rfl⟩:=ba.1 c;exact(h.ok s b).fix v x
 ·obtain⟨s,b,rfl⟩:=ba.1 c;obtain⟨a,e⟩:=(Sv (h.ok s b).up u).1 a;exact(f u).2 ⟨h.sub s b u a,e⟩
 ·obtain⟨a,e⟩:=(f u).1 a;obtain⟨t,c,X⟩:=h.sup u a;exact⟨_,ba.2 ⟨t,c,rfl⟩,(Sv (h.ok t c).up u).2 ⟨X,e⟩⟩
 ·rw[<- h.val _ (i.with j)]
  have:∀ {Q:List Tb},(∀t∈Q,dP S n t) ->pQ S g ((Q.map (kR S v x)).map tN)=pQ S (aM g v x) (Q.map tN):=fun {Q}=>by
   induction Q with
   |nil=>intro _;rfl
   |cons t Q ih=>
    intro d;rw[iy,iy,iy,pQ,pQ,ih fun s b=>d s (dF _ b)];congr 1
    exact Q9 p (uh (d t dp).up _).nodup (B6 (d t dp).up v) _ i
  exact this h.ok
theorem NN.fix {P:List Tb} (p:Pos S) (o:∀t∈P,dP S n t) (h:NN S P) {x:Nat} (d:x<sz S v):NN S (P.map (kR S v x)):=fun t c g b=>by
 obtain⟨s,a,rfl⟩:=ba.1 c;have e:tQ S (tN (kR S v x s)) g=tQ S (tN s) (aM g v x):=Q9 p (uh (o s a).up _).nodup (B6 (o s a).up v) _ b;rw[e];exact h s a _ (b.with d)
def ow (S:List Nat):List (Nat×Nat) ->List Tb ->List Tb
 |[],P=>P
 |p::l,P=>ow S l (P.map (kR S p.1 p.2))
def kO (free:List Nat):List (Nat×Nat) ->List Nat
 |[]=>free
 |p::l=>kO (free.filter fun u=>!(u==p.1)) l
theorem NT:∀ {l:List (Nat×Nat)} {free:List Nat},u∈kO free l↔u∈free/\¬u∈l.map (·.1)
 |[],free=>⟨fun h=>⟨h,nL⟩,fun h=>h.1⟩
 |p::l,free=>by
  rw[kO,NT,iy,dU,not_or,eL,and_assoc];refine and_congr Iff.rfl (and_congr ?_ Iff.rfl);simp
theorem Sw:∀ {l:List (Nat×Nat)} {free:List Nat},free.Nodup ->(kO free l).Nodup
 |[],_,h=>h
 |p::l,free,h=>by rw[kO];exact Sw (h.filter _)
theorem PI.fixes (b:Pos S):∀ {l:List (Nat×Nat)} {free:List Nat} {P:List Tb} {F:(Nat ->Nat) ->Rat},(l.map (·.1)).Nodup ->(∀p∈l,p.2<sz S p.1) ->PI S n free P F ->PI S n (kO free l) (ow S l P) (fun g=>F (jl l g))
 |[],_,_,_,_,_,h=>h
 |p::l,free,P,F,hn,hx,h=>by
  rw[iy,pG] at hn;have r:∀q∈l,q.1≠p.1:=fun q a e=>hn.1 (by rw[<- e];exact ba.2 ⟨q,a,rfl⟩);have:=PI.fixes b hn.2 (fun q a=>hx q (dF _ a)) (h.fix b (hx p dp));refine⟨this.ok,this.sub,this.sup,fun g c=>?_⟩;rw[ow,this.val g c];show F (aM (jl l g) p.1 p.2)=F (jl l (aM g p.1 p.2));rw[RA r]
theorem NN.fixes (a:Pos S):∀ {l:List (Nat×Nat)} {P:List Tb},(∀p∈l,p.2<sz S p.1) ->(∀t∈P,dP S n t) ->NN S P ->NN S (ow S l P)
 |[],_,_,_,h=>h
 |p::l,P,hx,ho,h=>by
  rw[ow]
  exact NN.fixes a (fun q b=>hx q (dF _ b)) (fun t d=>by
   obtain⟨s,c,rfl⟩:=ba.1 d;exact(ho s c).fix _ _) (h.fix a ho (hx p dp))
def jS (S:List Nat) (most:Bool) (keep:Nat ->Bool):List Nat ->List Tb ->List Tb
 |[],P=>P
 |v::vs,P=>jS S most keep vs (if keep v then P else lq S v most P)
theorem Zf:u∈free.filter (fun u=>!(u==v))↔u∈free/\u≠v:=by simp[eL]
theorem PI.outs (p:Pos S) (k:Nat ->Bool):∀(vs:List Nat) {free:List Nat} {P:List Tb} {F:(Nat ->Nat) ->Rat},PI S n free P F ->∃f,(∀u,u∈f↔u∈free/\(u∈vs ->k u=true))/\PI S n f (jS S false k vs P) (Hp S (vs.filter fun v=>!k v) F)
 |[],free,P,F,h=>⟨free,fun u=>⟨fun h=>⟨h,fun e=>absurd e nL⟩,fun h=>h.1⟩,h⟩
 |v::vs,free,P,F,h=>by
  cases hk:k v with
  |true=>
   obtain⟨f,b,c⟩:=PI.outs p k vs h;refine⟨f,fun u=>(b u).trans (and_congr Iff.rfl ⟨fun h a=>?_,fun h a=>h (dF _ a)⟩),?_⟩
   ·rcases dU.1 a with rfl |a
    ·exact hk
    ·exact h a
   ·rw[jS,aA hk,BK (by simp[hk])];exact c
  |false=>
   obtain⟨f,b,c⟩:=PI.outs p k vs (h.o p v);refine⟨f,fun u=>(b u).trans ?_,?_⟩
   ·rw[Zf,and_assoc];refine and_congr Iff.rfl ⟨fun h a=>?_,fun h=>⟨fun e=>?_,fun a=>h (dF _ a)⟩⟩
    ·rcases dU.1 a with e |a
     ·exact absurd e h.1
     ·exact h.2 a
    ·have:=h (by rw[e];exact dp);rw[e,hk] at this;exact absurd this bd
   ·rw[jS,aD (by simp[hk]),BI (by simp[hk])];exact c
theorem PI.mosts (p:Pos S) (k:Nat ->Bool):∀(vs:List Nat) {free:List Nat} {P:List Tb} {F:(Nat ->Nat) ->Rat},PI S n free P F ->NN S P ->∃f,(∀u,u∈f↔u∈free/\(u∈vs ->k u=true))/\PI S n f (jS S true k vs P) (elimM S (vs.filter fun v=>!k v) F)/\NN S (jS S true k vs P)
 |[],free,P,F,h,hn=>⟨free,fun u=>⟨fun h=>⟨h,fun e=>absurd e nL⟩,fun h=>h.1⟩,h,hn⟩
 |v::vs,free,P,F,h,hn=>by
  cases hk:k v with
  |true=>
   obtain⟨f,b,c⟩:=PI.mosts p k vs h hn;refine⟨f,fun u=>(b u).trans (and_congr Iff.rfl ⟨fun h a=>?_,fun h a=>h (dF _ a)⟩),?_⟩
   ·rcases dU.1 a with rfl |a
    ·exact hk
    ·exact h a
   ·rw[jS,aA hk,BK (by simp[hk])];exact c
  |false=>
   obtain⟨f,b,c⟩:=PI.mosts p k vs (h.most p hn v).1 (h.most p hn v).2;refine⟨f,fun u=>(b u).trans ?_,?_⟩
   ·rw[Zf,and_assoc];refine and_congr Iff.rfl ⟨fun h a=>?_,fun h=>⟨fun e=>?_,fun a=>h (dF _ a)⟩⟩
    ·rcases dU.1 a with e |a
     ·exact absurd e h.1
     ·exact h.2 a
    ·have:=h (by rw[e];exact dp);rw[e,hk] at this;exact absurd this bd
   ·rw[jS,aD (by simp[hk]),BI (by simp[hk])];exact c
def Low (l:List Fr):Prop:=∀f∈l,f=qF (aQ f)
theorem acY (S:List Nat) (P:List Tb):Low (allT S P).2:=by
 have:∀(P:List Tb) (a:Tb),Low a.2 ->Low (P.foldl (yS S) a).2:=fun P=>by
  induction P with
  |nil=>exact fun _ h=>h
  |cons t P ih=>
   intro a _;refine ih _ fun f b=>?_;obtain⟨K,_,rfl⟩:=ba.1 b;rw[mZ]
 exact this P BZ fun f b=>by rw[dT.1 b,mZ]
theorem XB (p:Pos S) {t:Tb} (a:dP S n t) (l:Low t.2):t.2=(List.range (cnt S (ag t.1))).map fun K=>qF (tQ S (tN t) (aY S (ag t.1) K)):=by
 refine sI (by rw[a.len];simp) fun K h c=>?_;have b:K<cnt S (ag t.1):=by rw[<- a.len];exact h
 have e:tQ S (tN t) (aY S (ag t.1) K)=aQ (bD t.2 (pos S (aY S (ag t.1) K) (ag t.1))):=rfl;rw[nO,DF,e,RF p a.up.nodup b,kS h];exact l _ (bF h)
theorem PI.net {V:List Vr} (h0:bH V L R=0) (l:∀v∈ws,v<V.length) (d:tS L (·∈ws)):PI (aw V) V.length ws (ws.map fun v=>(gU L v,gL V L R v)) (fun g=>eI V L R g ws):=by
 have T:=kN h0
 have J:∀v,v<V.length ->Up (gU L v) V.length:=fun v a=>by
  have f:v<L.length:=by rw[T.len];exact a
  have K:L.getD v []=L[v]:=by rw[bY,bj f];rfl
  rw[gU,K];exact FZ (T.up v f) (QZ a)
 have i:∀v u,u∈ag (gU L v)↔u∈ag (L.getD v [])∨u=v:=fun v u=>by
  rw[gU,MW];refine or_congr Iff.rfl ?_;simp[ag]
 refine⟨fun t c=>?_,fun t c u b=>?_,fun u b=>?_,fun g e=>?_⟩
 ·obtain⟨v,a,rfl⟩:=ba.1 c;exact⟨J v (l v a),by simp[gL]⟩
 ·obtain⟨v,a,rfl⟩:=ba.1 c;rcases (i v u).1 b with h |rfl
  ·exact d v a u h
  ·exact a
 ·exact⟨_,ba.2 ⟨u,b,rfl⟩,(i u u).2 (.inr rfl)⟩
 ·have:∀ {vs:List Nat},(∀v∈vs,v<V.length) ->pQ (aw V) g ((vs.map fun v=>((gU L v,gL V L R v):Tb)).map tN)=eI V L R g vs:=fun {vs}=>by
   induction vs with
   |nil=>intro _;rfl
   |cons v vs ih=>
    intro h;rw[iy,iy,pQ,eI,ih fun u b=>h u (dF _ b)];congr 1
    exact Q8 h0 (h v dp) e
  exact this l
theorem NN.net {V:List Vr} (h0:bH V L R=0) (l:∀v∈ws,v<V.length):NN (aw V) (ws.map fun v=>(gU L v,gL V L R v)):=fun t a g h=>by
 obtain⟨v,b,rfl⟩:=ba.1 a;exact akA h0 (l v b) h
theorem ZC:∀(l:List (Nat×Nat)) (F:(Nat ->Nat) ->Rat) (f:Nat ->Nat),(∀p∈l,¬p.1∈ws) ->eB S ws F (jl l f)=eB S ws (fun g=>F (jl l g)) f
 |[],_,_,_=>rfl
 |p::l,F,f,h=>by
  rw[jl,ZC l F _ fun q a=>h q (dF _ a),R7 _ ws f (h p dp)];rfl
theorem U3:∀(a b:List (Nat×Nat)) (g:Nat ->Nat),eh (a++b) g=eh a g*eh b g
 |[],b,g=>by rw[jy,eh,sF]
 |p::a,b,g=>by rw[fG,eh,eh,U3 a b g,jx]
theorem YR:∀(a b:List (Nat×Nat)) (g:Nat ->Nat),jl (a++b) g=jl b (jl a g)
 |[],_,_=>rfl
 |p::a,b,g=>by rw[fG,jl,YR a b];rfl
def qV (S q:List Nat) (K:Nat):List (Nat×Nat):=q.map fun v=>(v,aY S q K v)
theorem Ry (S q:List Nat) (K:Nat):(qV S q K).map (·.1)=q:=by
 rw[qV,yw];exact List.map_id' q
theorem agq {q:List Nat} (n:q.Nodup) (K:Nat):jl (qV S q K) (fun _=>0)=aY S q K:=funext fun u=>by
 by_cases h:u∈q
 ·exact YQ (p:=(u,aY S q K u)) ((Ry S q K).symm▸n) (ba.2 ⟨u,h,rfl⟩) _
 ·rw[Rz (by rw[Ry];exact h),EO h]
theorem agr {q:List Nat} (b:Pos S) (n:q.Nodup) {K:Nat} (c:K<cnt S q) {g:Nat ->Nat} (d:Fit S g):Hc (qV S q K) g=decide (pos S g q=K):=by
 rw[wE,gY,Hc,iQ];constructor
 ·intro h;rw[<- RF b n c];refine yN S fun u a=>?_;exact eq_of_beq (h (u,aY S q K u) (ba.2 ⟨u,a,rfl⟩))
 ·rintro rfl p m;obtain⟨u,a,rfl⟩:=ba.1 m;exact uO.2 (EN b d n u a).symm
theorem aiM {V:List Vr} (h0:bH V L R=0) {q:List Nat} {l:List (Nat×Nat)} (n:ws.Nodup) (A:∀v∈ws,v<V.length) (w:tS L (·∈ws)) (x:(l.map (·.1)).Nodup) (J:∀p∈l,p.1∈ws) (z:∀p∈l,p.2<sz (aw V) p.1) (o:q.Nodup) (m:∀v∈q,v∈ws/\¬v∈l.map (·.1)) {K:Nat} (t:K<cnt (aw V) q):
  Hp (aw V) ((kO ws l).filter fun v=>!q.contains v) (fun g=>eI V L R (jl l g) ws) (aY (aw V) q K)=bq (fun k=>eh (qV (aw V) q K++l) (aY (aw V) (List.range V.length) k)*gO V L R (aY (aw V) (List.range V.length) k) V.length) (cnt (aw V) (List.range V.length)):=by
 have s:Pos (aw V):=by have:=(kN h0).fine.pos;rwa [jC] at this
 have S:∀u,u∈(kO ws l).filter (fun v=>!q.contains v)↔(u∈ws/\¬u∈l.map (·.1))/\¬u∈q:=fun u=>by
  rw[eL,NT,Bool.not_eq_true', <- Bool.not_eq_true,BO]
 have r:((kO ws l).filter fun v=>!q.contains v).Nodup:=(Sw n).filter _
 have D:ws.Perm ((qV (aw V) q K++l).map (·.1)++(kO ws l).filter fun v=>!q.contains v):=by
  rw[eP,Ry];refine(MA n ?_).2 fun u=>?_
  ·refine IX.2 ⟨IX.2 ⟨o,x,fun a d b j e=>(m a d).2 (e▸j)⟩,r,fun a d b j e=>?_⟩;obtain⟨⟨_,f⟩,i⟩:=(S b).1 j;rcases ck.1 d with d |d
   ·exact i (e▸d)
   ·exact f (e▸d)
  ·rw[ck,ck,S];constructor
   ·intro h;by_cases f:u∈q
    ·exact .inl (.inl f)
    ·by_cases i:u∈l.map (·.1)
     ·exact .inl (.inr i)
     ·exact .inr ⟨⟨h,i⟩,f⟩
   ·rintro((h |h) |h)
    ·exact(m u h).1
    ·obtain⟨p,c,rfl⟩:=ba.1 h;exact J p c
    ·exact h.1.1
 rw[agw h0 n A w D (fun p c=>by
  rcases ck.1 c with c |c
  ·obtain⟨u,_,rfl⟩:=ba.1 c;exact vK s q K u t
  ·exact z p c),alw (List.Perm.refl _) r, <- agq o K,ZC _ _ _ fun p c=>?_]
 ·simp only[YR]
 ·obtain⟨u,y,rfl⟩:=ba.1 c;exact fun h=>((S u).1 h).2 y
def mQ (V:List Vr) (L:List (List Int)) (R:List (List Fr)) (l:List (Nat×Nat)):Rat:=bq (fun k=>eh l (aY (aw V) (List.range V.length) k)*gO V L R (aY (aw V) (List.range V.length) k) V.length) (cnt (aw V) (List.range V.length))
theorem aiN {V:List Vr} (h0:bH V L R=0) {q:List Nat} (f:q.Nodup) (l:List (Nat×Nat)):bq (fun K=>mQ V L R (qV (aw V) q K++l)) (cnt (aw V) q)=mQ V L R l:=by
 have d:Pos (aw V):=by have:=(kN h0).fine.pos;rwa [jC] at this
 simp only[mQ];rw[M5];refine gN fun k c=>?_;have a:Fit (aw V) (aY (aw V) (List.range V.length) k):=fun u=>vK d _ _ u c;generalize aY (aw V) (List.range V.length) k=g at *;have i:=sL g a q;rw[<- Jq (g:=fun _=>eh l g*gO V L R g V.length) i];refine gN fun K b=>?_;rw[U3,jx,TH,agr d f b a];congr 1
 by_cases h:pos (aw V) g q=K
 ·simp[h]
 ·simp[h];exact fun e=>h e.symm
theorem ai7 (a:Option Addr) (ca f:Nat) (lb:Array Value) (F:List Fr) (p:Fr ->Bool) (w:World) (h:aW w a F) (S:F.length<=10000) (K:∀v w,(callFunc f v).run Tryz.prog w=.ok (.enter f v) w)
  (s:∀q∈F,∀U:World,ef w U ->du f (#[.agg #[.bool q.1,.string q.2.1,.string q.2.2]]++lb) U fun e w'=>e=.returned (.bool (p q))/\ef U w'):
  du 116 #[.slice a F.length ca,.func (.func f) #[] lb] w fun e w'=>∃j:Int,e=.returned (.int .i64 j)/\decide (0<=j)=F.any p/\ef w w':=by
 have x:=hid h;have P:=hid s
 have D:Hid ((∀i (c:i<F.length),p F[i]=false) ->F.any p=false):=fun l=>I4.2 fun q z=>by
  obtain⟨i,c,rfl⟩:=jz z;rw[l i c];decide
 have y:Hid (∀i (c:i<F.length),p F[i]=true ->F.any p=true):=fun i c l=>uT.2 ⟨_,bF c,l⟩;clear h s;generalize F.any p=R at *;go_enter Tryz.func116,Tryz.ntmps116;go_wp2_with fail
 go_loopw [8] (fun iv wr=>∃i:Nat,i<=F.length/\iv=.int .i64 i/\Hid (∀j (b:j<F.length),j< i ->p F[j]=false)/\Hid (ef w wr)) (fun iv _=>F.length - (intOf iv).toNat)
 case atStart=>exact⟨0,aV _,rfl,(fun j _ b=>absurd b al),au _ _⟩
 case round=>
  obtain⟨i,c,rfl,m,H⟩:=hrel;by_cases t:i<F.length
  ·obtain⟨g,o,rfl,k,n,r,d⟩:=x.o i t;have T:=(H.o.cell (p:=⟨g,_,none⟩) k).trans n;have V:=(H.o.cell (p:=⟨g,_,none⟩) k).trans r;have X:=(H.o.cell (p:=⟨g,_,none⟩) k).trans d;have HC:=hid (P.o F[i] (bF t) wr H.o);have L:=hid (y.o i t)
   have I:Hid (p F[i]=false ->∀j (b:j<F.length),j<i+1 ->p F[j]=false):=fun e j b J=>by
    rcases cT j i with d |d
    ·exact m.o j b d
    ·obtain rfl:j=i:=al
     exact e
   clear n r d;generalize p F[i]=q at *;generalize F[i].1=M at *;generalize F[i].2.1=O at *;generalize F[i].2.2=Q at *;go_wp2_with fail
   refine HC.o.af ?_;rintro e Y ⟨rfl,u⟩;have A:=hid (H.o.trans (u.af H.o.size));clear u HC;cases q with
   |true=>
    have E:=hid (L.o rfl);go_wp2;go_ret;exact⟨(i:Nat),rfl,by rw[E.o];simp,A.o⟩
   |false=>
    have E:=hid (I.o rfl);go_wp2;go_roundw
    case rel=>exact⟨i+1,al,b5,E,A⟩
    case measure=>simp[intOf];omega
  ·obtain rfl:i=F.length:=al
   have E:=hid (D.o fun j b=>m.o j b b);go_wp2;go_ret;exact⟨-1,rfl,by rw[E.o];rfl,H.o⟩
theorem acz (a:Option Addr) (ca f:Nat) (lb:Array Value) (F:List Fr) (p:Fr ->Bool) (w:World) (h:aW w a F) (n:F.length<=10000) (i:∀g w,(callFunc f g).run Tryz.prog w=.ok (.enter f g) w)
  (c:∀q∈F,∀U:World,ef w U ->du f (#[.agg #[.bool q.1,.string q.2.1,.string q.2.2]]++lb) U fun e w'=>e=.returned (.bool (p q))/\ef U w'):
  du 78 #[.slice a F.length ca,.func (.func f) #[] lb] w (eS w (.bool (F.any p))):=by
 have I:=hid (ai7 a ca f lb F p w h n i c);clear h c;generalize F.any p=R at *;go_enter Tryz.func78,Tryz.ntmps78;go_wp2_with fail
 refine I.o.af ?_;rintro e k ⟨j,rfl,b,d⟩;have H:=hid d;have J:=hid b;clear d b;go_wp2;go_ret;exact⟨by rw[<- J.o];rfl,H.o⟩
theorem Yz (l:List Fr):(!(l.any fun f=>decide (aQ f<0))&&decide (fsum l=1))=dt l:=by
 have h:∀l:List Fr,(!(l.any fun f=>decide (aQ f<0)))=l.all fun f=>decide (¬aQ f<0):=fun l=>by
  induction l with
  |nil=>rfl
  |cons f l ih=>rw[List.any_cons,List.all_cons,Bool.not_or,ih,decide_not]
 rw[dt,h]
theorem amr (n d:Bool) (x y z a:ByteArray) (B:Nat) (w:World) (b:aI w B d z a) (g:val d z a=0) (s:z.size+a.size<=100000) (q:x.size+y.size<=10000):
  du 185 #[.agg #[.bool n,.string x,.string y],.pointer (some ⟨B,0,none⟩)] w (eS w (.bool (decide (val n x y<0)))):=by
 have D:Hid (decide (gz (val n x y) 0<0)=decide (val n x y<0)):=by show _=_;rw[zO];exact Pe
 generalize decide (val n x y<0)=R at *;have h:=(au w.heap.size w).alloc (aq _) (FC n x y);obtain⟨k,i,j, -⟩:=(aI.new w n x y).facts;obtain⟨l,m,p, -⟩:=(b.aa h b.lt).facts;go_enter Tryz.func185,Tryz.ntmps185;go_wp2_with fail
 generalize (w.alloc (FC n x y))=W at *;refine(EJ (w:=W) (gz (val n x y) 0) rfl g rfl al s).af ?_;rintro e r ⟨rfl,f⟩;have H:=hid (h.trans (f.af h.size));clear h f k i j l m p;generalize gz (val n x y) 0=c at *;go_wp2;go_ret;exact⟨by rw[<- D.o];rfl,H.o⟩
theorem amo (a:Option Addr) (ca:Nat) (l:List Fr) (w:World) (h:aW w a l) (m:fw l<=10000) (j:l.length<=10000):
  du 129 #[.slice a l.length ca] w (eS w (.bool (dt l))):=by
 have F:=hid h;have S:=hid (fun (V:World) (d:aW V a l)=>UD a ca l V d m j);have v:=hid (fun V:World=>xI (k:=0) (w:=V) 0 0 rfl bd (by rfl));have K:=hid (fun V:World=>xI (k:=1) (w:=V) 1 1 rfl bd (by rfl))
 have Q:Hid (val (bw (fsum l)) (nu (fsum l)) (de (fsum l))=fsum l/\(nu (fsum l)).size+(de (fsum l)).size<=100000):=⟨ji _,by
  have A:=EI (O2 l);rw[mM];omega⟩
 have H:Hid (val (bw 1) (nu 1) (de 1)=1/\(nu 1).size+(de 1).size<=100000):=⟨ji _,by
  have A:qw 1<=2:=Rx;rw[mM];omega⟩
 have HC:=hid (fun (B:Nat) (V:World) (d:aW V a l) (r:aI V B (bw 0) (nu 0) (de 0))=>acz a ca 185 #[.pointer (some ⟨B,0,none⟩)] l (fun f=>decide (aQ f<0)) V d j (enters_of Tryz.func185 ao rfl) (fun q J U E=>amr q.1 (bw 0) q.2.1 q.2.2 (nu 0) (de 0) B U (r.aa E r.lt) (ji _) (by have:=Nk;rw[mM];omega) (by have:=Hk J;omega)));have R:=hid (Yz l);have M:=hid (UK (p:=fsum l));generalize dt l=rb at *;generalize (l.any fun f=>decide (aQ f<0))=z at *;clear h m;simp only[C] at S;generalize bw 0=n at *;generalize nu 0=x at *;generalize de 0=y at *;go_enter Tryz.func129,Tryz.ntmps129;go_wp2_with fail
 refine(v.o _).af ?_;rintro e w0 ⟨rfl,g⟩;have s:=hid (g.alloc g.size (FC n x y));have X:=hid (aI.new w0 n x y);clear g;go_wp2_with fail
 generalize (w0.alloc (FC n x y))=wa at *;generalize w0.heap.size=B at *;refine(HC.o B _ (F.o.aa s.o) X.o).af ?_;rintro e P ⟨rfl,t⟩;have b:=hid (s.o.trans (t.af s.o.size));clear t;cases z with
 |true=>
  go_wp2;go_ret;exact⟨by rw[<- R.o];rfl,b.o⟩
 |false=>
  go_wp2_with fail
  refine(S.o _ (F.o.aa b.o)).af ?_;rintro e Y ⟨rfl,u⟩;have I:=hid (b.o.trans (u.af b.o.size));clear u;go_wp2_with fail
  refine(K.o _).af ?_;rintro e O ⟨rfl,T⟩;have D:=hid (I.o.trans (T.af I.o.size));clear T;go_wp2_with fail
  refine(EJ (w:=O) (gz (fsum l) 1) Q.o.1 H.o.1 rfl Q.o.2 H.o.2).af ?_;rintro e Z ⟨rfl,i⟩;have L:=hid (D.o.trans (i.af D.o.size));clear i;generalize gz (fsum l) 1=c at *;go_wp2;go_ret;exact⟨by rw[<- R.o, <- M.o];rfl,L.o⟩
theorem ajT (n d:Bool) (x y z a:ByteArray) (B:Nat) (w:World) (b:aI w B d z a) (g:val d z a=0) (s:z.size+a.size<=100000) (q:x.size+y.size<=10000):
  du 76 #[.agg #[.bool n,.string x,.string y],.pointer (some ⟨B,0,none⟩)] w (eS w (.bool (decide (val n x y<0)))):=by
 have D:Hid (decide (gz (val n x y) 0<0)=decide (val n x y<0)):=by show _=_;rw[zO];exact Pe
 generalize decide (val n x y<0)=R at *;have h:=(au w.heap.size w).alloc (aq _) (FC n x y);obtain⟨k,i,j, -⟩:=(aI.new w n x y).facts;obtain⟨l,m,p, -⟩:=(b.aa h b.lt).facts;go_enter Tryz.func76,Tryz.ntmps76;go_wp2_with fail
 generalize (w.alloc (FC n x y))=W at *;refine(EJ (w:=W) (gz (val n x y) 0) rfl g rfl al s).af ?_;rintro e r ⟨rfl,f⟩;have H:=hid (h.trans (f.af h.size));clear h f k i j l m p;generalize gz (val n x y) 0=c at *;go_wp2;go_ret;exact⟨by rw[<- D.o];rfl,H.o⟩
theorem aa8 (a:Option Addr) (ca:Nat) (l:List Fr) (w:World) (h:aW w a l) (m:fw l<=10000) (j:l.length<=10000):
  du 38 #[.slice a l.length ca] w (eS w (.bool (dt l))):=by
 have F:=hid h;have S:=hid (fun (V:World) (d:aW V a l)=>UD a ca l V d m j);have v:=hid (fun V:World=>xI (k:=0) (w:=V) 0 0 rfl bd (by rfl));have K:=hid (fun V:World=>xI (k:=1) (w:=V) 1 1 rfl bd (by rfl))
 have Q:Hid (val (bw (fsum l)) (nu (fsum l)) (de (fsum l))=fsum l/\(nu (fsum l)).size+(de (fsum l)).size<=100000):=⟨ji _,by
  have A:=EI (O2 l);rw[mM];omega⟩
 have H:Hid (val (bw 1) (nu 1) (de 1)=1/\(nu 1).size+(de 1).size<=100000):=⟨ji _,by
  have A:qw 1<=2:=Rx;rw[mM];omega⟩
 have HC:=hid (fun (B:Nat) (V:World) (d:aW V a l) (r:aI V B (bw 0) (nu 0) (de 0))=>acz a ca 76 #[.pointer (some ⟨B,0,none⟩)] l (fun f=>decide (aQ f<0)) V d j (enters_of Tryz.func76 ao rfl) (fun q J U E=>ajT q.1 (bw 0) q.2.1 q.2.2 (nu 0) (de 0) B U (r.aa E r.lt) (ji _) (by have:=Nk;rw[mM];omega) (by have:=Hk J;omega)));have R:=hid (Yz l);have M:=hid (UK (p:=fsum l));generalize dt l=rb at *;generalize (l.any fun f=>decide (aQ f<0))=z at *;clear h m;simp only[C] at S;generalize bw 0=n at *;generalize nu 0=x at *;generalize de 0=y at *;go_enter Tryz.func38,Tryz.ntmps38;go_wp2_with fail
 refine(v.o _).af ?_;rintro e w0 ⟨rfl,g⟩;have s:=hid (g.alloc g.size (FC n x y));have X:=hid (aI.new w0 n x y);clear g;go_wp2_with fail
 generalize (w0.alloc (FC n x y))=wa at *;generalize w0.heap.size=B at *;refine(HC.o B _ (F.o.aa s.o) X.o).af ?_;rintro e P ⟨rfl,t⟩;have b:=hid (s.o.trans (t.af s.o.size));clear t;cases z with
 |true=>
  go_wp2;go_ret;exact⟨by rw[<- R.o];rfl,b.o⟩
 |false=>
  go_wp2_with fail
  refine(S.o _ (F.o.aa b.o)).af ?_;rintro e Y ⟨rfl,u⟩;have I:=hid (b.o.trans (u.af b.o.size));clear u;go_wp2_with fail
  refine(K.o _).af ?_;rintro e O ⟨rfl,T⟩;have D:=hid (I.o.trans (T.af I.o.size));clear T;go_wp2_with fail
  refine(EJ (w:=O) (gz (fsum l) 1) Q.o.1 H.o.1 rfl Q.o.2 H.o.2).af ?_;rintro e Z ⟨rfl,i⟩;have L:=hid (D.o.trans (i.af D.o.size));clear i;generalize gz (fsum l) 1=c at *;go_wp2;go_ret;exact⟨by rw[<- R.o, <- M.o];rfl,L.o⟩
theorem ai3 (b:Option Addr) (n c m B:Nat) (w:World) (a:w.cell? ⟨B,0,none⟩=some (.int .i64 (m:Nat))) (h:n=m) (d:m<=100000):
  du 74 #[.slice b n c,.pointer (some ⟨B,0,none⟩)] w fun e w'=>e=.returned (.bool false)/\w'=w:=by
 subst h;go_enter Tryz.func74,Tryz.ntmps74;go_wp2;go_ret;exact⟨aE,rfl⟩
theorem ai5 (a:Option Addr) (ca m B:Nat) (R:List (List Fr)) (w:World) (h:gD w a R) (v:B<w.heap.size) (f:w.cell? ⟨B,0,none⟩=some (.int .i64 (m:Nat))) (j:m<=100000) (l:∀k (h:k<R.length),R[k].length=m) (d:R.length<=1000):
  du 114 #[.slice a R.length ca,.func (.func 74) #[] #[.pointer (some ⟨B,0,none⟩)]] w fun e w'=>e=.returned (.int .i64 (-1))/\w'=w:=by
 have F:=hid h;have H:=hid l;have q:=enters_of Tryz.func74 (P:=Tryz.prog) ao rfl;have HC:=hid (fun (b:Option Addr) (n c:Nat) (d:n=m)=>ai3 b n c m B w f d j);clear h l;go_enter Tryz.func114,Tryz.ntmps114;go_wp2_with fail
 go_loopw [8] (fun iv wr=>∃i:Nat,i<=R.length/\iv=.int .i64 i/\w=wr) (fun iv _=>R.length - (intOf iv).toNat)
 case atStart=>exact⟨0,aV _,rfl,rfl⟩
 case round=>
  obtain⟨i,y,rfl,rfl⟩:=hrel;by_cases t:i<R.length
  ·obtain⟨g,o,b,c,rfl,x,s,r,p⟩:=F.o i t;have u:=hid (HC.o b R[i].length c (H.o i t));clear r p;generalize R[i].length=n at *;go_wp2_with fail
   refine u.o.af ?_;rintro e z ⟨rfl,rfl⟩;go_wp2;go_roundw
   case rel=>exact⟨i+1,al,b5,trivial⟩
   case measure=>simp[intOf];omega
  ·obtain rfl:i=R.length:=al
   go_wp2;go_ret;exact⟨rfl,rfl⟩
theorem aao (a:Option Addr) (ca n m:Nat) (R:List (List Fr)) (w:World) (h:gD w a R) (f:R.length=n) (c:R.length<=1000) (d:m<=100000) (l:∀k (h:k<R.length),R[k].length=m):
  du 35 #[.slice a R.length ca,.int .i64 (n:Nat),.int .i64 (m:Nat)] w (eS w (.bool true)):=by
 subst f;have A:=(au w.heap.size w).alloc (aq _) (.cells #[.int .i64 (m:Nat)] 3);have x:=a8 w 3 (.int .i64 (m:Nat));have H:=hid (ai5 a ca m w.heap.size R _ (h.aa A) x.lt x.cell d l c)
 have O:Hid (du 73 #[.slice a R.length ca,.func (.func 74) #[] #[.pointer (some ⟨w.heap.size,0,none⟩)]] (w.alloc (.cells #[.int .i64 (m:Nat)] 3)) fun e w'=>e=.returned (.bool false)/\w'=(w.alloc (.cells #[.int .i64 (m:Nat)] 3))):=by
  show Calls _ _ _ _ _;go_enter Tryz.func73,Tryz.ntmps73;go_wp2_with fail
  refine H.o.af ?_;rintro e g ⟨rfl,rfl⟩;go_wp2;go_ret;exact⟨rfl,rfl⟩
 have b:=hid A;clear h A x l H;go_enter Tryz.func35,Tryz.ntmps35;go_wp2_with fail
 refine O.o.af ?_;rintro e g ⟨rfl,rfl⟩;go_wp2;go_ret;exact⟨aE,b.o⟩
theorem NW (n:Nat) (w:World) (h1:1<=n) (h:n<=4):
  du 34 #[.int .i64 (n:Nat)] w fun e w'=>e=.returned (.bool true)/\w'=w:=by
 go_enter Tryz.func34,Tryz.ntmps34;go_wp2;go_ret;exact⟨by simp;omega,rfl⟩
def eA (f:Nat ->Rat):Nat ->Rat
 |0=>0
 |n+1=>eA f n+f n
theorem Rf {f:Nat ->Rat}:∀ {n:Nat},(∀i,i< n ->0<=f i) ->0<=eA f n
 |0,_=>Dx
 |n+1,h=>Rat.add_nonneg (Rf fun i a=>h i al) (h n al)
theorem XP {f:Nat ->Rat}:∀ {n:Nat},(∀i,i< n ->0<=f i) ->∀i,i< n ->f i<=eA f n
 |0,_,i,b=>absurd b al
 |n+1,h,i,b=>by
  rw[eA];have e:=Rf (n:=n) fun i b=>h i al;have j:=h n al;rcases cT i n with d |d
  ·have g:=XP (n:=n) (fun i b=>h i al) i d;have a:=(QC (c:=eA f n)).2 j;rw[IM] at a;exact ym g a
  ·obtain rfl:i=n:=al
   have a:=(QB (c:=f i)).2 e;rwa [IJ] at a
structure HC where
 s:Nat
 L:Nat
 st:Nat ->Rat
 mv:Nat ->Nat ->Rat
 sh:Nat ->Nat ->Rat
def HC.alp (h:HC):Nat ->Nat ->Rat
 |0,i=>h.st i*h.sh 0 i
 |t+1,j=>eA (fun i=>h.alp t i*h.mv i j) h.s*h.sh (t+1) j
def HC.bet (h:HC):Nat ->Nat ->Rat
 |0,_=>1
 |k+1,i=>eA (fun j=>h.mv i j*h.sh (h.L - 1 - k) j*h.bet k j) h.s
variable {h : HC}
def HC.all (h:HC):Rat:=eA (h.alp (h.L - 1)) h.s
variable {D j m:Nat} {p:Rat}
structure Sm (D k:Nat) (q:Rat):Prop where
 low:0<=q
 high:q<=((4^k:Nat):Rat)
 whole:∃a:Nat,q*((D^k:Nat):Rat)=(a:Rat)
theorem Sm.one:Sm D 0 1:=⟨bd,bd,1,by rw[sF];rfl⟩
theorem Sm.mul (h:Sm D k p) (c:Sm D j q):Sm D (k+j) (p*q):=by
 refine⟨IK h.low c.low,?_,?_⟩
 ·rw[wC,zP];exact ym (WI c.high h.low) (WH h.high Mw)
 ·obtain⟨a,d⟩:=h.whole;obtain⟨b,e⟩:=c.whole;refine⟨a*b,?_⟩;rw[wC,zP,zP, <- d, <- e];rw[jx,jx, <- jx q,zQ q,jx]
theorem Sm.up1 (h:Sm D k q):Sm D (k+1) q:=by
 refine⟨h.low,ym h.high ?_,?_⟩
 ·have:4^k<=4^(k+1):=kE bd al;exact_mod_cast this
 ·obtain⟨a,b⟩:=h.whole;exact⟨a*D,by rw[gJ,zP,zP, <- jx,b]⟩
theorem Sm.up (h:Sm D k q) (a:k<=j):Sm D j q:=by
 obtain⟨d,rfl⟩:=Nat.exists_eq_add_of_le a;clear a;induction d with
 |zero=>exact h
 |succ d ih=>exact ih.up1
theorem XO {f:Nat ->Rat}:∀ {n:Nat},(∀i,i< n ->∃a:Nat,f i*(D:Rat)=(a:Rat)) ->∃a:Nat,eA f n*(D:Rat)=(a:Rat)
 |0,_=>⟨0,by rw[eA,II];rfl⟩
 |n+1,h=>by
  obtain⟨a,c⟩:=XO (n:=n) fun i e=>h i al;obtain⟨b,d⟩:=h n al;exact⟨a+b,by rw[eA,Rat.add_mul,c,d,Rat.natCast_add]⟩
theorem XQ {f:Nat ->Rat}:∀ {n:Nat},(∀i,i< n ->f i<=(m:Rat)) ->eA f n<=((n*m:Nat):Rat)
 |0,_=>by rw[eA,jO];exact Dx
 |n+1,h=>by
  rw[eA,fF,jP,Rat.natCast_add];exact ym ((QB (c:=f n)).2 (XQ fun i a=>h i al)) ((QC (c:=((n*m:Nat):Rat))).2 (h n al))
theorem Sm.sum {f:Nat ->Rat} (d:n<=4) (h:∀i,i< n ->Sm D k (f i)):Sm D (k+1) (eA f n):=by
 refine⟨Rf fun i b=>(h i b).low,ym (XQ fun i b=>(h i b).high) ?_,?_⟩
 ·have:n*4^k<=4^(k+1):=by rw[gJ,dK];exact jg _ d
  exact_mod_cast this
 ·obtain⟨a,c⟩:=XO fun i b=>(h i b).whole;exact⟨a*D,by rw[gJ,zP,zP, <- jx,c]⟩
theorem Sm.fits (h:Sm D k q) (h0:0<D):Fits (((B D).size+1)*k+1) q:=by
 obtain⟨a,c⟩:=h.whole;have n:0<D^k:=nI h0
 have r:((D^k:Nat):Rat)≠0:=fun e=>by
  have l:D^k=0:=by exact_mod_cast e
  omega
 have j:q=mkRat (a:Int) (D^k):=by
  rw[IL];show q=(a:Rat)/_;rw[<- c,rC,jx,Rat.mul_inv_cancel _ r,rB]
 have i:D^k*4^k<256^(((B D).size+1)*k+1):=by
  rw[<- Nat.mul_pow,gJ,Nat.pow_mul];have m:=Dw D;have g:D*4<=256^((B D).size+1):=by rw[gJ];omega
  have:(D*4)^k<=(256^((B D).size+1))^k:=Nat.pow_le_pow_left g k;have b:0<(256^((B D).size+1))^k:=nI (nI bd);omega
 have f:0<4^k:=nI bd;refine⟨(a:Int),D^k,al,j,?_,?_⟩
 ·exact Mx (Nat.le_mul_of_pos_right _ f) i
 ·have d:(a:Rat)<=((4^k*D^k:Nat):Rat):=by
   rw[<- c,zP];exact WH h.high Mw
  have b:a<=4^k*D^k:=by exact_mod_cast d
  rw[dK] at b;simp;omega
structure HC.Sml (D:Nat) (h:HC):Prop where
 s4:h.s<=4
 L8:h.L<=8
 d0:0<D
 sz:((B D).size+1)*(3*h.L+1)<=15000
 st:∀i,i<h.s ->Sm D 1 (h.st i)
 mv:∀i,i<h.s ->∀j,j<h.s ->Sm D 1 (h.mv i j)
 sh:∀t,t<h.L ->∀i,i<h.s ->Sm D 1 (h.sh t i)
theorem HC.Sml.alp {h:HC} (m:h.Sml D):∀t i,t<h.L ->i<h.s ->Sm D (3*t+2) (h.alp t i)
 |0,i,ht,a=>by rw[HC.alp];exact(m.st i a).mul (m.sh 0 ht i a)
 |t+1,j,ht,hj=>by
  rw[HC.alp];exact((Sm.sum m.s4 fun i a=>(m.alp t i al a).mul (m.mv i a j hj)).mul (m.sh (t+1) ht j hj)).up al
theorem HC.Sml.bet {h:HC} (m:h.Sml D):∀k i,k<h.L ->i<h.s ->Sm D (3*k) (h.bet k i)
 |0,_,_,_=>by rw[HC.bet];exact Sm.one
 |k+1,i,hk,hi=>by
  rw[HC.bet];exact(Sm.sum m.s4 fun j a=>((m.mv i hi j a).mul (m.sh _ al j a)).mul (m.bet k j al a)).up al
variable {h:HC} {l:List Fr} {U U':World}
def lF (n:Nat) (f:Nat ->Rat):List Fr:=(List.range n).map fun i=>qF (f i)
theorem iU (n:Nat) (f:Nat ->Rat):(lF n f).length=n:=by simp[lF]
theorem B8 {f:Nat ->Rat} (h:i<(lF n f).length):(lF n f)[i]=qF (f i):=by simp[lF]
theorem NV {f:Nat ->Rat} (h:i<n):(lF n f)[i]? =some (qF (f i)):=by
 rw[bj (by rw[iU];exact h),B8]
theorem aal {f g:Nat ->Rat} (h:∀i,i< n ->f i=g i):lF n f=lF n g:=by
 refine sI (by rw[iU,iU]) fun i a b=>?_;rw[B8,B8,h i (by rw[iU] at a;exact a)]
structure gV (n:Nat) (f:Nat ->Rat) (l:List Fr):Prop where
 len:l.length=n
 is:∀i (h:i<l.length),aQ l[i]=f i
 size:∀i (h:i<l.length),l[i].2.1.size+l[i].2.2.size<=30010
theorem gV.mk' {f:Nat ->Rat} (h:∀i,i< n ->qw (f i)<=30010):gV n f (lF n f):=by
 refine⟨iU n f,fun i a=>by rw[B8];exact mZ _,fun i a=>?_⟩;rw[B8];show (nu (f i)).size+(de (f i)).size<=30010;rw[mM];exact h i (by rw[iU] at a;exact a)
theorem HC.Sml.qw (m:h.Sml D) (b:Sm D k q) (a:k<=3*h.L+1):qw q<=30010:=by
 have c:=EI (b.fits m.d0);have d:((B D).size+1)*k<=((B D).size+1)*(3*h.L+1):=jg _ a;have e:=m.sz;omega
theorem gV.fsum {f:Nat ->Rat}:∀ {l:List Fr},gV n f l ->fsum l=eA f n:=by
 intro l h
 have e:∀(l:List Fr) (n:Nat),l.length=n ->(∀i (h:i<l.length),aQ l[i]=f i) ->Go.Proofs.YtdmdhjmcoijpaaaGreatDoor.fsum l=eA f n:=fun l=>by
  induction l using BV with
  |h0=>intro n a _;subst a;rfl
  |h1 l x ih=>
   intro n a b;(obtain rfl:n=l.length+1:=by rw[<- a];simp);rw[Hl,eA,ih l.length rfl fun i h=>?_]
   ·congr 1
    have:=b l.length aE;rw[tY (aq _)] at this;exact(show aQ x=f l.length by simpa using this)
   ·have:=b i (by simp;omega);rw[sH h] at this;exact this
 exact e l n h.len h.is
theorem abP {f:Nat ->Rat}:∀(l:List Fr) (n:Nat),l.length=n ->(∀i (h:i<l.length),aQ l[i]=f i) ->fsum l=eA f n:=fun l=>by
 induction l using BV with
 |h0=>intro n a _;subst a;rfl
 |h1 l x ih=>
  intro n a b;obtain rfl:n=l.length+1:=by rw[<- a];simp
  rw[Hl,eA,ih l.length rfl fun i h=>?_]
  ·congr 1
   have:=b l.length aE;rw[tY (aq _)] at this;exact(show aQ x=f l.length by simpa using this)
  ·have:=b i (by simp;omega);rw[sH h] at this;exact this
theorem gV.fsumk {f:Nat ->Rat} (h:gV n f l) (b:k<=n):Go.Proofs.YtdmdhjmcoijpaaaGreatDoor.fsum (l.take k)=eA f k:=by
 refine abP _ k (by rw[eE,h.len];omega) fun i a=>?_;rw[zV];exact h.is i (by rw[eE] at a;omega)
structure MF (w:World) (G:Nat) (l:List Fr) (U:World):Prop where
 row:eN U G l
 bel:ef w U
theorem MF.step {G:Nat} (h:MF w G l U) (b:ef U U'):MF w G l U':=⟨h.row.aa b h.row.lt,h.bel.trans (b.af h.bel.size)⟩
theorem MF.drew {G:Nat} (h:MF w G l U):MF w G l U.drew:=⟨h.row,h.bel.drew⟩
theorem MF.put {G:Nat} (h:MF w G l U) (g:w.heap.size<=G) (i:Nat) (f:Fr):MF w G (l.set i f) (((U.setCell ⟨G,i*3,none⟩ (.bool f.1)).setCell ⟨G,i*3+1,none⟩ (.string f.2.1)).setCell ⟨G,i*3+2,none⟩ (.string f.2.2)):=
 ⟨h.row.put i f,((h.bel.setCell (p:=⟨G,i*3,none⟩) g _).setCell (p:=⟨G,i*3+1,none⟩) g _).setCell (p:=⟨G,i*3+2,none⟩) g _⟩
theorem aby (a b:Option Addr) (ca cb n:Nat) (la lb:List Fr) (f g:Nat ->Rat) (w:World) (ha:aW w a la) (m:aW w b lb) (hf:gV n f la) (hg:gV n g lb) (hn:n<=100):
  du 24 #[.slice a n ca,.slice b n cb] w fun e w'=>∃G,e=.returned (.slice (some ⟨G,0,none⟩) n n)/\w.heap.size<=G/\eN w' G (lF n fun i=>f i*g i)/\ef w w':=by
 obtain⟨i0,bM,ae,ai,aj⟩:=dJ Tryz.infoFrac;have zG:=hid ha;have Dn:=hid m;have A:=hid hf;have E:=hid hg;clear ha m hf hg;have fA:=iU n fun i=>f i*g i;have qo:=hid (fun i (hi:i<n)=>NV (f:=fun i=>f i*g i) hi);generalize (lF n fun i=>f i*g i)=F at *;go_enter Tryz.func24,Tryz.ntmps24;go_upto_region 2 with (at_make;refine lj _ rfl _ _ 24 rfl w.heap.size 42 i0 (.agg #[.bool false,.string ⟨#[]⟩,.string ⟨#[]⟩]) 3 Tryz.underlying24 bM ae ai .i64 .i64 _ _ n rfl rfl b5 b5 (by rw[aj];omega) (by unfold maxLen;omega) (aq _) ?_;intro w2 ab ad)
 have I:=Ht ab;rw[Gr] at I;have aa:ef w w2:=(au _ w).grown ad (aq _) (fun k e=>by cases e);have eo:Hid (MF w w.heap.size (iR F 0) w2):=⟨by rw[Ga,fA];exact I,aa⟩;have hG:w.heap.size<=w.heap.size:=aq _;clear ab ad I aa;go_wp2_with fail
 go_loopw [12] (fun iv wr=>∃i:Nat,i<=n/\iv=.int .i64 i/\Hid (MF w w.heap.size (iR F i) wr)) (fun iv _=>n - (intOf iv).toNat)
 case atStart=>exact⟨0,aV _,rfl,eo⟩
 case round=>
  obtain⟨i,hi,rfl,H⟩:=hrel;clear eo;by_cases O:i<n
  ·have Z:i<la.length:=by rw[A.o.len];exact O
   (have M:i<lb.length:=by rw[E.o.len];exact O);obtain⟨c,j,rfl,D,P,Q,R⟩:=zG.o i Z;obtain⟨d,l,rfl,L,U,X,Y⟩:=Dn.o i M;obtain⟨kz,jX⟩:=mH.1 (qo.o i O);have kZ:=hid (Gb F kz);rw[jX] at kZ
   have LV:Hid (∀V:World,du 57 #[.agg #[.bool la[i].1,.string la[i].2.1,.string la[i].2.2],.agg #[.bool lb[i].1,.string lb[i].2.1,.string lb[i].2.2]] V fun e w'=>e=.returned (.agg #[.bool (qF (f i*g i)).1,.string (qF (f i*g i)).2.1,.string (qF (f i*g i)).2.2])/\ef V w'):=fun V=>by
    have h1:=A.o.size i Z;have h2:=E.o.size i M;exact KW (f i*g i) (A.o.is i Z) (E.o.is i M) rfl al al
   clear kz jX;generalize qF (f i*g i)=qf at *;generalize la[i].1=s at *;generalize la[i].2.1=x at *;generalize la[i].2.2=y at *;generalize lb[i].1=bn at *;generalize lb[i].2.1=t at *;generalize lb[i].2.2=J at *;go_upto_region 5 with fail
   have HELD:Hid (∀u,ef w u ->u.cell? ⟨c,j+i*3,none⟩=some (.bool s)/\u.cell? ⟨c,j+i*3+1,none⟩=some (.string x)/\u.cell? ⟨c,j+i*3+2,none⟩=some (.string y)/\u.cell? ⟨d,l+i*3,none⟩=some (.bool bn)/\u.cell? ⟨d,l+i*3+1,none⟩=some (.string t)/\u.cell? ⟨d,l+i*3+2,none⟩=some (.string J)):=fun u h=>⟨(h.cell (p:=⟨c,_,none⟩) D).trans P,(h.cell (p:=⟨c,_,none⟩) D).trans Q,(h.cell (p:=⟨c,_,none⟩) D).trans R,(h.cell (p:=⟨d,_,none⟩) L).trans U,(h.cell (p:=⟨d,_,none⟩) L).trans X,(h.cell (p:=⟨d,_,none⟩) L).trans Y⟩;clear P Q R U X Y;replace H:=hid H.o.drew;refine gI (S:=fun u=>u.cell? ⟨c,j+i*3,none⟩=some (.bool s)/\u.cell? ⟨c,j+i*3+1,none⟩=some (.string x)/\u.cell? ⟨c,j+i*3+2,none⟩=some (.string y)/\u.cell? ⟨d,l+i*3,none⟩=some (.bool bn)/\u.cell? ⟨d,l+i*3+1,none⟩=some (.string t)/\u.cell? ⟨d,l+i*3+2,none⟩=some (.string J)) ao (HELD.o _ H.o.bel) (fun r=>?_);generalize wr.drew=u0 at *;refine ar 0 (.slice (some ⟨w.heap.size,0,none⟩) n n) ?_;refine ar 1 (.int .i64 (i:Nat)) ?_;refine ar 2 (.slice (some ⟨c,j,none⟩) n ca) ?_;refine ar 3 (.int .i64 (i:Nat)) ?_;refine ar 4 (.pointer (some ⟨c,j+i*3,none⟩)) ?_;refine ar 5 (.agg #[.bool s,.string x,.string y]) ?_;refine ar 6 (.slice (some ⟨d,l,none⟩) n cb) ?_;refine ar 7 (.int .i64 (i:Nat)) ?_;refine ar 8 (.pointer (some ⟨d,l+i*3,none⟩)) ?_;refine ar 9 (.agg #[.bool bn,.string t,.string J]) ?_;refine aG [10] (cA ?_ aF);intro q K;go_simp
   refine(LV.o _).af ?_;rintro e u1 ⟨rfl,m⟩;replace H:=hid (H.o.step m);refine K.o _ _ (HELD.o _ H.o.bel) (fun T=>?_);clear K q r;have r:=T;clear T m;refine ar 11 (.pointer (some ⟨w.heap.size,i*3,none⟩)) ?_;(try simp only[gE,aP]);obtain⟨k0,k1,k2⟩:=H.o.row.cells i (by rw[wM _ al];omega);have f0:=H.o.row.fz (i*3);have f1:=H.o.row.fz (i*3+1);have f2:=H.o.row.fz (i*3+2);generalize (iR F i)[i]'(by rw[wM _ al];omega)=z at *;obtain⟨zn,zx,zy⟩:=z;simp only at k0 k1 k2;refine aG [12] (cA ?_ aF);intro q K;go_simp;refine K.o _ _ (HELD.o _ (H.o.put hG i qf).bel) (fun _=>dS ao ?_ _);clear K q r;replace H:=hid (H.o.put hG i qf);rw[kZ.o] at H;clear k0 k1 k2 f0 f1 f2;go_wp2;go_roundw
   case rel=>exact⟨i+1,al,b5,H⟩
   case measure=>simp[intOf];omega
  ·obtain rfl:i=n:=al
   have v:=H.o.row;rw[<- fA,Gc] at v;have cS:=hid v;clear v;go_wp2;go_ret;exact⟨w.heap.size,rfl,aq _,cS.o,H.o.bel⟩
variable {g:Nat}
abbrev dX (x y z:Value):Obj:=.cells #[x,y,z] 27
def b6 (w:World) (g:Nat) (x y z:Value):Prop:=w.heap[g]? =some (.cells #[x,y,z] 27 (0,0))
theorem b6.new (w:World) (x y z:Value):b6 (w.alloc (dX x y z)) w.heap.size x y z:=dB w _
theorem b6.lt (h:b6 w g x y z):g<w.heap.size:=(cJ.1 h).1
theorem b6.aa {b:Nat} (h:b6 w g x y z) (a:Below b w w') (c:g<b):b6 w' g x y z:=(a.block g c).trans h
theorem b6.cells (h:b6 w g x y z):w.cell? ⟨g,0,none⟩=some x/\w.cell? ⟨g,1,none⟩=some y/\w.cell? ⟨g,2,none⟩=some z:=by
 refine⟨?_,?_,?_⟩<;>(rw[bG w g _ _ _ (0,0) h];rfl)
theorem aI.away {n:Bool} {x y:ByteArray} (h:aI w g n x y) (b j:Nat) (v:Value) (e:g≠b):aI (w.setCell ⟨b,j,none⟩ v) g n x y:=(fQ w ⟨b,j,none⟩ v g e).trans h
structure MB (w:World) (G gB:Nat) (l:List Fr) (n:Bool) (x y:ByteArray) (U:World):Prop where
 mf:MF w G l U
 bx:aI U gB n x y
theorem MB.step {G gB:Nat} {n:Bool} {x y:ByteArray} (h:MB w G gB l n x y U) (b:ef U U'):MB w G gB l n x y U':=⟨h.mf.step b,h.bx.aa b h.bx.lt⟩
theorem MB.drew {G gB:Nat} {n:Bool} {x y:ByteArray} (h:MB w G gB l n x y U):MB w G gB l n x y U.drew:=⟨h.mf.drew,h.bx.drew⟩
theorem MB.put {G gB:Nat} {n:Bool} {x y:ByteArray} (h:MB w G gB l n x y U) (e:gB≠G) (g:w.heap.size<=G) (i:Nat) (f:Fr):MB w G gB (l.set i f) n x y (((U.setCell ⟨G,i*3,none⟩ (.bool f.1)).setCell ⟨G,i*3+1,none⟩ (.string f.2.1)).setCell ⟨G,i*3+2,none⟩ (.string f.2.2)):=
 ⟨h.mf.put g i f,((h.bx.away G _ _ e).away G _ _ e).away G _ _ e⟩
theorem abA (a b c d:Option Addr) (D E ca cb cc cd n x:Nat) (R:List (List Fr)) (r:List Fr) (f g:Nat ->Rat) (w:World) (hR:gD w c R) (hr:aW w d r) (hf:gV n f r) (CD:R.length=n) (hg:∀i (h:i<R.length),∃hx:x<R[i].length,aQ R[i][x]=g i/\R[i][x].2.1.size+R[i][x].2.2.size<=30010) (hm:∀i (h:i<R.length),R[i].length<=100) (hn:n<=100):
  du 48 #[.agg #[.slice a D ca,.slice b E cb,.slice c n cc],.slice d n cd,.int .i64 (x:Nat)] w fun e w'=>∃G,e=.returned (.slice (some ⟨G,0,none⟩) n n)/\w.heap.size<=G/\eN w' G (lF n fun i=>f i*g i)/\ef w w':=by
 obtain⟨i0,bM,bd,bf,bg⟩:=dJ Tryz.infoFrac;have Iu:=hid hR;have Wh:=hid hr;have mC:=hid hf;have HG:=hid hg;have HM:=hid hm;have Vu:=hid CD;clear hR hr hf hg hm CD;have fA:=iU n fun i=>f i*g i;have qo:=hid (fun i (hi:i<n)=>NV (f:=fun i=>f i*g i) hi);generalize (lF n fun i=>f i*g i)=L at *;have ab:=(au w.heap.size w).alloc (aq _) (dX (.slice a D ca) (.slice b E cb) (.slice c n cc));have hH:=b6.new w (.slice a D ca) (.slice b E cb) (.slice c n cc);have tH:Hid ((w.alloc (dX (.slice a D ca) (.slice b E cb) (.slice c n cc))).heap.size=w.heap.size+1):=by show _=_;simp
 go_enter Tryz.func48,Tryz.ntmps48;go_upto_region 1 with fail
 generalize (w.alloc (dX (.slice a D ca) (.slice b E cb) (.slice c n cc)))=w1 at *;go_wp2_with (first |(at_make;refine lj _ rfl _ _ 24 rfl w1.heap.size 42 i0 (.agg #[.bool false,.string ⟨#[]⟩,.string ⟨#[]⟩]) 3 Tryz.underlying24 bM bd bf .i64 .i64 _ _ n rfl rfl b5 b5 (by rw[bg];omega) (by unfold maxLen;omega) (aq _) ?_;intro w2 aO aS))
 have M:=Ht aO;rw[Gr] at M;have ad:ef w1 w2:=(au _ w1).grown aS (aq _) (fun k e=>by cases e);rw[tH.o] at M⊢;have U:Hid (MF w (w.heap.size+1) (iR L 0) w2):=⟨by rw[Ga,fA];exact M,ab.trans (ad.af ab.size)⟩;have F:=hid (hH.aa ad hH.lt);have zz:Hid (ef w w2):=U.o.bel;have hG:w.heap.size<=w.heap.size+1:=al
 clear aO aS M ad ab hH tH;go_loopw [15] (fun iv wr=>∃i:Nat,i<=n/\iv=.int .i64 i/\Hid (MF w (w.heap.size+1) (iR L i) wr)/\Hid (b6 wr w.heap.size (.slice a D ca) (.slice b E cb) (.slice c n cc))) (fun iv _=>n - (intOf iv).toNat)
 case atStart=>exact⟨0,aV _,rfl,U,F⟩
 case round=>
  obtain⟨i,hi,rfl,A,wh⟩:=hrel;clear U F zz;by_cases ai:i<n
  ·have wZ:i<r.length:=by rw[mC.o.len];exact ai
   (have qQ:i<R.length:=by rw[Vu.o];exact ai);obtain⟨X,oa,rfl,mi,a0,a1,a2⟩:=Wh.o i wZ;obtain⟨m,v,bc,T,rfl,iX,c0,aC,bh⟩:=Iu.o i qQ;obtain⟨SD,av,oZ⟩:=HG.o i qQ;obtain⟨j,t,rfl,ae,b0,b1,b2⟩:=aC x SD;have bl:=HM.o i qQ;obtain⟨kz,jX⟩:=mH.1 (qo.o i ai);have kZ:=hid (Gb L kz);rw[jX] at kZ
   have LV:Hid (∀V:World,du 57 #[.agg #[.bool r[i].1,.string r[i].2.1,.string r[i].2.2],.agg #[.bool R[i][x].1,.string R[i][x].2.1,.string R[i][x].2.2]] V fun e w'=>e=.returned (.agg #[.bool (qF (f i*g i)).1,.string (qF (f i*g i)).2.1,.string (qF (f i*g i)).2.2])/\ef V w'):=fun V=>by
    have h1:=mC.o.size i wZ;exact KW (f i*g i) (mC.o.is i wZ) av rfl al al
   clear kz jX aC av oZ;generalize qF (f i*g i)=I at *;generalize r[i].1=q at *;generalize r[i].2.1=s at *;generalize r[i].2.2=y at *;generalize R[i][x].1=bn at *;generalize R[i][x].2.1=Q at *;generalize R[i][x].2.2=xJ at *;generalize R[i].length=rn at *;have Z:=(au wr.heap.size wr).alloc (aq _) (FC q s y);have H:Hid (MB w (w.heap.size+1) wr.heap.size (iR L i) q s y (wr.alloc (FC q s y))):=⟨A.o.step Z,aI.new wr q s y⟩;have F:Hid (b6 (wr.alloc (FC q s y)) w.heap.size (.slice a D ca) (.slice b E cb) (.slice (some ⟨m,v,none⟩) n cc)):=wh.o.aa Z wh.o.lt;(have az:wr.heap.size≠w.heap.size+1:=by have:=A.o.row.lt;omega);have bk:w.heap.size+1<wr.heap.size:=A.o.row.lt;have aT:=(A.o.bel.cell (p:=⟨X,_,none⟩) mi).trans a0;have a6:=(A.o.bel.cell (p:=⟨X,_,none⟩) mi).trans a1;have a7:=(A.o.bel.cell (p:=⟨X,_,none⟩) mi).trans a2;clear Z a0 a1 a2 A wh;go_upto_region 5 with fail
   clear aT a6 a7;generalize aov:wr.heap.size=gB at *;generalize (wr.alloc (FC q s y))=W at *;have bb:=H.o.mf.bel;obtain⟨-, -,e2⟩:=F.o.cells;have HELD:Hid (∀u l,MB w (w.heap.size+1) gB l q s y u ->u.cell? ⟨w.heap.size,2,none⟩=some (.slice (some ⟨m,v,none⟩) n cc) ->u.cell? ⟨gB,0,none⟩=some (.bool q)/\u.cell? ⟨gB,1,none⟩=some (.string s)/\u.cell? ⟨gB,2,none⟩=some (.string y)/\u.cell? ⟨w.heap.size,2,none⟩=some (.slice (some ⟨m,v,none⟩) n cc)/\u.cell? ⟨m,v+i,none⟩=some (.slice (some ⟨j,t,none⟩) rn T)/\u.cell? ⟨j,t+x*3,none⟩=some (.bool bn)/\u.cell? ⟨j,t+x*3+1,none⟩=some (.string Q)/\u.cell? ⟨j,t+x*3+2,none⟩=some (.string xJ)):=fun u l h e=>⟨h.bx.c0,h.bx.c1,h.bx.c2,e,(h.mf.bel.cell (p:=⟨m,_,none⟩) iX).trans c0,(h.mf.bel.cell (p:=⟨j,_,none⟩) ae).trans b0,(h.mf.bel.cell (p:=⟨j,_,none⟩) ae).trans b1,(h.mf.bel.cell (p:=⟨j,_,none⟩) ae).trans b2⟩;clear c0 b0 b1 b2 bb;replace H:=hid H.o.drew;refine gI (S:=fun u=>u.cell? ⟨gB,0,none⟩=some (.bool q)/\u.cell? ⟨gB,1,none⟩=some (.string s)/\u.cell? ⟨gB,2,none⟩=some (.string y)/\u.cell? ⟨w.heap.size,2,none⟩=some (.slice (some ⟨m,v,none⟩) n cc)/\u.cell? ⟨m,v+i,none⟩=some (.slice (some ⟨j,t,none⟩) rn T)/\u.cell? ⟨j,t+x*3,none⟩=some (.bool bn)/\u.cell? ⟨j,t+x*3+1,none⟩=some (.string Q)/\u.cell? ⟨j,t+x*3+2,none⟩=some (.string xJ)) ao (HELD.o _ _ H.o e2) (fun P=>?_);have J:Hid (b6 W.drew w.heap.size (.slice a D ca) (.slice b E cb) (.slice (some ⟨m,v,none⟩) n cc)):=F.o
   clear F e2;generalize W.drew=u0 at *;refine ar 0 (.slice (some ⟨w.heap.size+1,0,none⟩) n n) ?_;refine ar 1 (.int .i64 (i:Nat)) ?_;refine ar 2 (.agg #[.bool q,.string s,.string y]) ?_;refine ar 3 (.pointer (some ⟨w.heap.size,2,none⟩)) ?_;refine ar 4 (.slice (some ⟨m,v,none⟩) n cc) ?_;refine ar 5 (.int .i64 (i:Nat)) ?_;refine ar 6 (.pointer (some ⟨m,v+i,none⟩)) ?_;refine ar 7 (.slice (some ⟨j,t,none⟩) rn T) ?_;refine ar 8 (.int .i64 (x:Nat)) ?_;refine ar 9 (.pointer (some ⟨j,t+x*3,none⟩)) ?_;refine ar 10 (.agg #[.bool bn,.string Q,.string xJ]) ?_;refine aG [11] (cA ?_ aF);intro O K;go_simp;refine(LV.o _).af ?_;rintro e u1 ⟨rfl,hb⟩;replace H:=hid (H.o.step hb);replace J:=hid (J.o.aa hb J.o.lt);refine K.o _ _ (HELD.o _ _ H.o J.o.cells.2.2) (fun ah=>?_);clear K O P;have P:=ah;clear ah hb;refine ar 12 (.pointer (some ⟨w.heap.size+1,i*3,none⟩)) ?_;(try simp only[gE,aP]);obtain⟨k0,k1,k2⟩:=H.o.mf.row.cells i (by rw[wM _ al];omega);have f0:=H.o.mf.row.fz (i*3);have f1:=H.o.mf.row.fz (i*3+1);have f2:=H.o.mf.row.fz (i*3+2);generalize (iR L i)[i]'(by rw[wM _ al];omega)=z at *;obtain⟨zn,zx,zy⟩:=z;simp only at k0 k1 k2;refine aG [13] (cA ?_ aF);intro O K;go_simp
   have aj:Hid (b6 (((u1.setCell ⟨w.heap.size+1,i*3,none⟩ (.bool I.1)).setCell ⟨w.heap.size+1,i*3+1,none⟩ (.string I.2.1)).setCell ⟨w.heap.size+1,i*3+2,none⟩ (.string I.2.2)) w.heap.size (.slice a D ca) (.slice b E cb) (.slice (some ⟨m,v,none⟩) n cc)):=(((fQ _ ⟨w.heap.size+1,i*3+2,none⟩ _ w.heap.size aE).trans (fQ _ ⟨w.heap.size+1,i*3+1,none⟩ _ w.heap.size aE)).trans (fQ _ ⟨w.heap.size+1,i*3,none⟩ _ w.heap.size aE)).trans J.o;refine K.o _ _ (HELD.o _ _ (H.o.put az hG i I) aj.o.cells.2.2) (fun _=>dS ao ?_ _);clear K O P;replace H:=hid (H.o.put az hG i I);rw[kZ.o] at H;clear k0 k1 k2 f0 f1 f2;go_wp2;go_roundw
   case rel=>exact⟨i+1,al,b5,H.o.mf,aj⟩
   case measure=>simp[intOf];omega
  ·obtain rfl:i=n:=al
   have Y:=A.o.row;rw[<- fA,Gc] at Y;have cS:=hid Y;clear Y;go_wp2;go_ret;exact⟨w.heap.size+1,rfl,al,cS.o,A.o.bel⟩
theorem amp (a c:Option Addr) (ca cc n:Nat) (l:List Fr) (R:List (List Fr)) (f:Nat ->Rat) (g:Nat ->Nat ->Rat) (w:World) (ha:aW w a l) (hR:gD w c R) (hf:gV n f l) (CD:R.length=n) (hg:∀i (h:i<R.length),gV n (g i) R[i]) (ae:∀i j,i< n ->j< n ->qw (f i*g i j)<=30010) (dN:∀j k,j< n ->k<=n ->qw (eA (fun i=>f i*g i j) k)<=40000) (hn:n<=4):
  du 89 #[.slice a n ca,.slice c n cc] w fun e w'=>∃G,e=.returned (.slice (some ⟨G,0,none⟩) n n)/\w.heap.size<=G/\eN w' G (lF n fun j=>eA (fun i=>f i*g i j) n)/\ef w w':=by
 obtain⟨i0,bM,ai,aj,av⟩:=dJ Tryz.infoFrac;have zG:=hid ha;have Iu:=hid hR;have mC:=hid hf;have M:=hid hg;have jc:=hid ae;have H7:=hid dN;have Vu:=hid CD;clear ha hR hf hg ae CD dN;have fA:=iU n fun j=>eA (fun i=>f i*g i j) n;have qo:=hid (fun j (hj:j<n)=>NV (f:=fun j=>eA (fun i=>f i*g i j) n) hj);generalize (lF n fun j=>eA (fun i=>f i*g i j) n)=L at *;go_enter Tryz.func89,Tryz.ntmps89;go_upto_region 2 with (at_make;refine lj _ rfl _ _ 24 rfl w.heap.size 42 i0 (.agg #[.bool false,.string ⟨#[]⟩,.string ⟨#[]⟩]) 3 Tryz.underlying24 bM ai aj .i64 .i64 _ _ n rfl rfl b5 b5 (by rw[av];omega) (by unfold maxLen;omega) (aq _) ?_;intro A F J)
 have t:=Ht F;rw[Gr] at t;have D:ef w A:=(au _ w).grown J (aq _) (fun k e=>by cases e);have eo:Hid (MF w w.heap.size (iR L 0) A):=⟨by rw[Ga,fA];exact t,D⟩;clear F J t D;go_wp2_with fail
 go_loopw [14] (fun jv wr=>∃j:Nat,j<=n/\jv=.int .i64 j/\Hid (MF w w.heap.size (iR L j) wr)) (fun jv _=>n - (intOf jv).toNat)
 case atStart=>exact⟨0,aV _,rfl,eo⟩
 case round=>
  obtain⟨j,hj,rfl,K⟩:=hrel;clear eo;by_cases Y:j<n
  ·have sQ:=iU n fun i=>f i*g i j;have PA:=hid (fun i (O:i<n)=>NV (f:=fun i=>f i*g i j) O);have I:Hid (gV n (fun i=>f i*g i j) (lF n fun i=>f i*g i j)):=gV.mk' fun i O=>jc.o i j O Y;generalize (lF n fun i=>f i*g i j)=TL at *;generalize wr=W at *;go_upto_region 6 with (at_make;refine lj _ rfl _ _ 24 rfl W.heap.size 42 i0 (.agg #[.bool false,.string ⟨#[]⟩,.string ⟨#[]⟩]) 3 Tryz.underlying24 bM ai aj .i64 .i64 _ _ n rfl rfl b5 b5 (by rw[av];omega) (by unfold maxLen;omega) (aq _) ?_;intro A F J)
   have t:=Ht F;rw[Gr] at t;have D:ef W A:=(au _ W).grown J (aq _) (fun k e=>by cases e);have Me:Hid (MF W W.heap.size (iR TL 0) A):=⟨by rw[Ga,sQ];exact t,D⟩;clear F J t D;go_wp2_with fail
   go_loopw [22] (fun iv wr=>∃i:Nat,i<=n/\iv=.int .i64 i/\Hid (MF W W.heap.size (iR TL i) wr)) (fun iv _=>n - (intOf iv).toNat)
   case atStart=>exact⟨0,aV _,rfl,Me⟩
   case round=>
    obtain⟨i,O,rfl,H⟩:=hrel;clear Me;by_cases ab:i<n
    ·have wZ:i<l.length:=by rw[mC.o.len];exact ab
     (have Q:i<R.length:=by rw[Vu.o];exact ab);(have Tj:j<R[i].length:=by rw[(M.o i Q).len];exact Y);obtain⟨b,m,rfl,mi,a0,a1,a2⟩:=zG.o i wZ;obtain⟨x,oc,bc,cr,rfl,iX,c0,az,aC⟩:=Iu.o i Q;obtain⟨r,d,rfl,aa,b0,b1,b2⟩:=az j Tj;obtain⟨y,X⟩:=mH.1 (PA.o i ab);have Z:=hid (Gb TL y);rw[X] at Z;have aE:=(M.o i Q).len
     have LV:Hid (∀V:World,du 57 #[.agg #[.bool l[i].1,.string l[i].2.1,.string l[i].2.2],.agg #[.bool R[i][j].1,.string R[i][j].2.1,.string R[i][j].2.2]] V fun e w'=>e=.returned (.agg #[.bool (qF (f i*g i j)).1,.string (qF (f i*g i j)).2.1,.string (qF (f i*g i j)).2.2])/\ef V w'):=fun V=>by
      have h1:=mC.o.size i wZ;have h2:=(M.o i Q).size j Tj;exact KW (f i*g i j) (mC.o.is i wZ) ((M.o i Q).is j Tj) rfl al al
     clear y X az;generalize qF (f i*g i j)=qf at *;generalize l[i].1=an at *;generalize l[i].2.1=ax at *;generalize l[i].2.2=ay at *;generalize R[i][j].1=bn at *;generalize R[i][j].2.1=bx at *;generalize R[i][j].2.2=xJ at *;generalize R[i].length=rn at *;go_upto_region 9 with fail
     have HELD:Hid (∀u,ef W u ->u.cell? ⟨b,m+i*3,none⟩=some (.bool an)/\u.cell? ⟨b,m+i*3+1,none⟩=some (.string ax)/\u.cell? ⟨b,m+i*3+2,none⟩=some (.string ay)/\u.cell? ⟨x,oc+i,none⟩=some (.slice (some ⟨r,d,none⟩) rn cr)/\u.cell? ⟨r,d+j*3,none⟩=some (.bool bn)/\u.cell? ⟨r,d+j*3+1,none⟩=some (.string bx)/\u.cell? ⟨r,d+j*3+2,none⟩=some (.string xJ)):=fun u h0=>by
      have h:=K.o.bel.trans (h0.af K.o.bel.size);exact⟨(h.cell (p:=⟨b,_,none⟩) mi).trans a0,(h.cell (p:=⟨b,_,none⟩) mi).trans a1,(h.cell (p:=⟨b,_,none⟩) mi).trans a2,(h.cell (p:=⟨x,_,none⟩) iX).trans c0,(h.cell (p:=⟨r,_,none⟩) aa).trans b0,(h.cell (p:=⟨r,_,none⟩) aa).trans b1,(h.cell (p:=⟨r,_,none⟩) aa).trans b2⟩
     clear a0 a1 a2 c0 b0 b1 b2;replace H:=hid H.o.drew;refine gI (S:=fun u=>u.cell? ⟨b,m+i*3,none⟩=some (.bool an)/\u.cell? ⟨b,m+i*3+1,none⟩=some (.string ax)/\u.cell? ⟨b,m+i*3+2,none⟩=some (.string ay)/\u.cell? ⟨x,oc+i,none⟩=some (.slice (some ⟨r,d,none⟩) rn cr)/\u.cell? ⟨r,d+j*3,none⟩=some (.bool bn)/\u.cell? ⟨r,d+j*3+1,none⟩=some (.string bx)/\u.cell? ⟨r,d+j*3+2,none⟩=some (.string xJ)) ao (HELD.o _ H.o.bel) (fun ak=>?_);generalize wr.drew=u0 at *;refine ar 0 (.slice (some ⟨W.heap.size,0,none⟩) n n) ?_;refine ar 1 (.int .i64 (i:Nat)) ?_;refine ar 2 (.slice (some ⟨b,m,none⟩) n ca) ?_;refine ar 3 (.int .i64 (i:Nat)) ?_;refine ar 4 (.pointer (some ⟨b,m+i*3,none⟩)) ?_;refine ar 5 (.agg #[.bool an,.string ax,.string ay]) ?_;refine ar 6 (.slice (some ⟨x,oc,none⟩) n cc) ?_;refine ar 7 (.int .i64 (i:Nat)) ?_;refine ar 8 (.pointer (some ⟨x,oc+i,none⟩)) ?_;refine ar 9 (.slice (some ⟨r,d,none⟩) rn cr) ?_;refine ar 10 (.int .i64 (j:Nat)) ?_;refine ar 11 (.pointer (some ⟨r,d+j*3,none⟩)) ?_;refine ar 12 (.agg #[.bool bn,.string bx,.string xJ]) ?_;refine aG [13] (cA ?_ aF);intro K' E;go_simp;refine(LV.o _).af ?_;rintro e u1 ⟨rfl,hb⟩;replace H:=hid (H.o.step hb);refine E.o _ _ (HELD.o _ H.o.bel) (fun ah=>?_);clear E K' ak;have ak:=ah;clear ah hb;refine ar 14 (.pointer (some ⟨W.heap.size,i*3,none⟩)) ?_;(try simp only[gE,aP]);obtain⟨P,T,U⟩:=H.o.row.cells i (by rw[wM _ al];omega);have f0:=H.o.row.fz (i*3)
     have f1:=H.o.row.fz (i*3+1);have f2:=H.o.row.fz (i*3+2);generalize (iR TL i)[i]'(by rw[wM _ al];omega)=z at *;obtain⟨zn,zx,zy⟩:=z;simp only at P T U;refine aG [15] (cA ?_ aF);intro K' E;go_simp;refine E.o _ _ (HELD.o _ (H.o.put (aq _) i qf).bel) (fun _=>dS ao ?_ _);clear E K' ak;replace H:=hid (H.o.put (aq _) i qf);rw[Z.o] at H;clear P T U f0 f1 f2;go_wp2;go_roundw
     case rel=>exact⟨i+1,al,b5,H⟩
     case measure=>simp[intOf];omega
    ·obtain rfl:i=n:=al
     have s:=H.o.row;rw[<- sQ,Gc] at s;obtain⟨y,X⟩:=mH.1 (qo.o j Y);have Z:=hid (Gb L y);rw[X] at Z
     have kX:Hid (du 19 #[.slice (some ⟨W.heap.size,0,none⟩) i i] wr fun e w'=>e=.returned (.agg #[.bool (qF (eA (fun k=>f k*g k j) i)).1,.string (qF (eA (fun k=>f k*g k j) i)).2.1,.string (qF (eA (fun k=>f k*g k j) i)).2.2])/\ef wr w'):=by
      have h:=Ho (some ⟨W.heap.size,0,none⟩) i TL wr s.fr (fun q v=>aR (I.o.size q v) al) (fun q v=>by rw[I.o.fsumk (by rw[I.o.len] at v;exact v)];exact H7.o j q Y (by rw[I.o.len] at v;exact v)) (by rw[I.o.len];omega);rw[I.o.len,I.o.fsum] at h;exact h
     have HB:=hid H.o.bel;clear s y X H;generalize qF (eA (fun k=>f k*g k j) i)=qf at *;go_wp2_with fail
     refine kX.o.af ?_;rintro e w5 ⟨rfl,ad⟩;replace K:=hid (K.o.step (HB.o.trans (ad.af HB.o.size)));clear ad;obtain⟨P,T,U⟩:=K.o.row.cells j (by rw[wM _ al];omega);have f0:=K.o.row.fz (j*3);have f1:=K.o.row.fz (j*3+1);have f2:=K.o.row.fz (j*3+2);generalize (iR L j)[j]'(by rw[wM _ al];omega)=z at *;obtain⟨zn,zx,zy⟩:=z;simp only at P T U;have L9:=hid (K.o.put (aq _) j qf);rw[Z.o] at L9;go_wp2;go_roundw
     case rel=>exact⟨j+1,al,b5,L9⟩
     case measure=>simp[intOf];omega
  ·obtain rfl:j=n:=al
   have s:=K.o.row;rw[<- fA,Gc] at s;have cS:=hid s;clear s;go_wp2;go_ret;exact⟨w.heap.size,rfl,aq _,cS.o,K.o.bel⟩
theorem afM (a b:Option Addr) (ca cb:Nat) (l:List Fr) (w:World) (h:aW w a l) (c:aW w b l) (u:l.length<=100000):
  du 12 #[.slice a l.length ca,.slice b l.length cb] w (eS w (.bool true)):=by
 have A:=hid h;have d:=hid c;clear h c;go_enter Tryz.func12,Tryz.ntmps12;go_wp2_with fail
 go_loopw [5] (fun iv wr=>∃i:Nat,i<=l.length/\iv=.int .i64 i/\Hid (ef w wr)) (fun iv _=>l.length - (intOf iv).toNat)
 case atStart=>exact⟨0,aV _,rfl,au _ _⟩
 case round=>
  obtain⟨i,s,rfl,H⟩:=hrel;by_cases t:i<l.length
  ·obtain⟨g,o,rfl,r,e,j,k⟩:=(A.o.aa H.o) i t;obtain⟨q,v,rfl,z,m,n,p⟩:=(d.o.aa H.o) i t;generalize l[i]=f at *;obtain⟨fn,x,y⟩:=f;simp only at e j k m n p;go_wp2_with fail
   go_quiet (fail)
   go_wp2;go_roundw
   case rel=>exact⟨i+1,al,b5,amE H.o _⟩
   case measure=>simp[intOf];omega
  ·obtain rfl:i=l.length:=al
   go_wp2;go_ret;exact⟨rfl,H.o⟩
variable {x':Value}
theorem aW.farT {c:Option Addr} (h:aW V c l) (n:bE V g x y) (q:cV x) (r:cV y) (j:Nat) (u:Value):aW (V.setCell ⟨g,j,none⟩ u) c l:=fun k p=>by
 obtain⟨g',o,rfl,t,a,b,d⟩:=h k p;obtain⟨v,D,z,rfl⟩:=q;obtain⟨w,E,A,rfl⟩:=r
 have s:¬g'=g:=fun e=>by
  subst e;rw[bG V g' _ _ _ (0,0) n] at a;match hm:o+k*3 with
  |0=>rw[hm] at a;simp at a
  |1=>rw[hm] at a;simp at a
  |m+2=>rw[hm] at a;simp at a
 have f:∀i,(V.setCell ⟨g,j,none⟩ u).cell? ⟨g',i,none⟩=V.cell? ⟨g',i,none⟩:=fun i=>dY _ _ _ _ (fun e=>s (dh Addr.block e).symm);exact⟨g',o,rfl,aU t (kh V _ _).size,(f _).trans a,(f _).trans b,(f _).trans d⟩
theorem aW.putT {c:Option Addr} (h:aW V c l) (b:bE V g x y) (e:cV x) (a:cV y) (i:cV x') (f:Value):aW ((V.setCell ⟨g,0,none⟩ x').setCell ⟨g,1,none⟩ f) c l:=by
 have d:bE (V.setCell ⟨g,0,none⟩ x') g x' y:=jf V g 0 _ _ x' b;exact(h.farT b e a 0 _).farT d i a 1 _
variable {K:Act ->World ->Prop} {Q:Exit ->Act ->World ->Prop}
theorem WX {o:Oper} {a:Act} (s x:Operand)
  (k:o.op=.call {callee:=.builtin .append,args:= #[s,x],argTypes:= #[24,24]}) (base:Nat) (v:Value) (l:List Fr) (f:Fr) (m:a.eval s=v) (t:cH w base v l) (g:Nat) (n:a.eval x=.slice (some ⟨g,0,none⟩) 1 1) (c:aI w g f.1 f.2.1 f.2.2) (A:l.length+1<=100000) (y:base<=w.heap.size)
  (h:∀v' w',cH w' base v' (l++[f]) ->w.grownBy w' v.ownBlock ->K (a.put o.dst v') w'):o.wp Tryz.prog a w K Q:=by
 obtain⟨p,M,z,q,r⟩:=dJ Tryz.infoFrac;refine FE _ s x 24 k base 42 p (.agg #[.bool false,.string ⟨#[]⟩,.string ⟨#[]⟩]) 3 40 Tryz.underlying24 M z q r rfl bd v l.length _ m t ⟨g,0,none⟩ 1 1 [.bool f.1,.string f.2.1,.string f.2.2] n rfl ?_ ?_ (by unfold maxLen;omega) al y ?_
 ·intro j u b;match j,b with
  |0,b=>cases b;exact c.c0
  |1,b=>cases b;exact c.c1
  |2,b=>cases b;exact c.c2
  |j+3,b=>simp at b
 ·intro u d;simp only[dU,nL,tV] at d;rcases d with rfl |rfl |rfl<;>rfl
 ·intro v' w' e i _;refine h v' w' ?_ i;rw[cH,bK,abT];exact e
theorem aiB (k:Int):mkRat k 1=(k:Rat):=by
 rw[Rat.mkRat_one]
open Go
theorem alQ (h:u<10):Lib.decDigits u=[UInt8.ofNat (48+u)]:=by rw[Lib.decDigits,dif_pos h]
open Go.Lib
variable {Ls:List Nat}
def UF (i:Nat):ByteArray:=⟨(decDigits i).toArray⟩
theorem alO (h:i<10):(UF i).size=1:=by
 rw[UF,alQ h];rfl
abbrev kM (c:UInt8) (i:Nat):ByteArray:=⟨#[c]⟩++UF i
def fS (k:Nat):List ByteArray:=(List.range k).map (kM 118)
theorem aeo (k:Nat):fS (k+1)=fS k++[kM 118 k]:=by simp[fS,qC]
theorem Ja (k:Nat):(fS k).length=k:=by simp[fS]
theorem pg.empty (w:World) (B:Nat):pg w B (.slice none 0 0) []:=⟨rfl,.inl ⟨rfl,rfl⟩⟩
theorem pg.step {B:Nat} {v:Value} {l:List ByteArray} (h:pg w B v l) (e:ef w w'):pg w' B v l:=by
 refine⟨h.1,?_⟩;rcases h.2 with a |⟨g,cap,r,a,c,b,d⟩
 ·exact .inl a
 ·exact .inr ⟨g,cap,r,a,c,(e.block g (cJ.1 b).1).trans b,d⟩
def jD (Ls:List Nat):List Fr:=Ls.map fun a:Nat=>qF ((a:Rat)/(Ls.sum:Rat))
theorem Jw (Ls:List Nat):(jD Ls).length=Ls.length:=by simp[jD]
theorem YN (h:n<256):qw (n:Rat)<=2:=by
 have a:(n:Rat).num.natAbs=n:=aE
 have b:(n:Rat).den=1:=rfl;rw[qw,a,b,lg,lg];have c:=o8 1 n al;have d:=o8 1 1 al;omega
theorem M3:∀ {Ls:List Nat},(∀a∈Ls,a<=6) ->Ls.sum<=6*Ls.length
 |[],_=>aq _
 |a::l,h=>by
  have d:=h a dp;have e:=M3 fun b c=>h b (dF _ c);simp only[List.sum_cons,ew];omega
theorem af5 (h:∀a∈Ls,a<=6) (l:Ls.length<=3) (s:1<=Ls.sum):∀f∈jD Ls,f.2.1.size+f.2.2.size<=2:=by
 intro f c;obtain⟨a,b,rfl⟩:=ba.1 c;have e:=M3 h;have d:=h a b;show (nu ((a:Rat)/(Ls.sum:Rat))).size+(de ((a:Rat)/(Ls.sum:Rat))).size<=2;rw[mM];have g:Fits 1 ((a:Rat)/(Ls.sum:Rat)):=⟨(a:Int),Ls.sum,al,by rw[IL];rfl,al,by simp;omega⟩;exact EI g
theorem af6 (m:1<=Ls.sum):dt (jD Ls)=true:=by
 have h:(Ls.sum:Rat)≠0:=fun e=>by
  have i:Ls.sum=0:=by exact_mod_cast e
  omega
 have d:(0:Rat)<(Ls.sum:Rat):=Rat.lt_of_le_of_ne Mw (Ne.symm h);rw[dt,kj];constructor
 ·rw[iQ];intro f b;obtain⟨a,j,rfl⟩:=ba.1 b;refine eD ?_;rw[mZ,Rat.not_lt];have g:(0:Rat)<=(a:Rat):=Mw;rw[rC];exact IK g (Rat.le_of_lt (Rat.inv_pos.2 d))
 ·refine eD ?_
  have k:∀(l:List Nat) (s c:Rat),(l.map fun a:Nat=>qF ((a:Rat)/c)).foldl (fun s f=>s+lD f) s=s+(l.sum:Rat)/c:=by
   intro l;induction l with
   |nil=>intro s c;show s=s+((0:Nat):Rat)/c;rw[rC];grind
   |cons a l ih=>
    intro s c;rw[iy,BH,ih,show lD (qF ((a:Rat)/c))=(a:Rat)/c from mZ _,List.sum_cons,rC,rC,rC,Rat.natCast_add,Rat.add_mul,IP]
  rw[fsum,jD,k,IJ,rC,Rat.mul_inv_cancel _ h]
variable {B' cap:Nat}
theorem SC (Ls:List Nat) (a:Nat):iL (Ls++[a])=iL Ls++[(a:Int)]:=by simp[iL]
theorem bP.put {B:Nat} {l:List Int} (h:bP w B (.slice (some ⟨g,0,none⟩) n cap) l) (j:Nat) (y:Int):bP (w.setCell ⟨g,j,none⟩ (.int .i64 y)) B (.slice (some ⟨g,0,none⟩) n cap) (l.set j y):=by
 rcases h.2 with ⟨a,_⟩ |⟨g',p,r,a,b,c,d,e,f,i⟩
 ·cases a
 ·cases a;refine⟨aE,.inr ⟨g,cap,_,aE,b,jf w g j _ _ _ c,by simpa using d,e,by simpa using f,?_⟩⟩;rw[Array.toList_setIfInBounds,kg,DD, <- i,List.take_set]
theorem cH.lower {B:Nat} {v:Value} (h:cH w B v l) (e:B'<=B):cH w B' v l:=by
 refine⟨h.1,?_⟩;rcases h.2 with a |⟨g,cap,r,a,b,c,d⟩
 ·exact .inl a
 ·exact .inr ⟨g,cap,r,a,aR e b,c,d⟩
theorem bP.emptyB (w:World) (B:Nat):bP w B (.slice none 0 0) []:=⟨rfl,.inl ⟨rfl,rfl⟩⟩
structure AR (Ls:List Nat) (i:Nat):Prop where
 len:Ls.length=i
 six:∀a∈Ls,a<=6
theorem afR (d:Option Addr) (cd k n:Nat) (W:List Int) (w:World) (hW:aJ w d W) (O:∀x∈W, -9223372036854775808<=x/\x<=9223372036854775807) (hk:k<=100000) (cK:1<=n) (jW:n<=5) (bO:W.length<=140737488355328):
  du 13 #[.slice d W.length cd,.int .i64 (k:Nat),.int .i64 (n:Nat)] w fun e w'=>∃(x:Value) (Ls:List Nat),e=.returned x/\cH w' w.heap.size x (jD Ls)/\AR Ls n/\1<=Ls.sum/\ef w w':=by
 have HW:=hid hW;have HR:=hid O;have A5:=hid (fun (c:Int) (h: -9223372036854775808<=c/\c<=9223372036854775807) (U:World)=>Nh c 7 U h.1 h.2 al al);have po:=hid (fun (c:Int)=>JB c (n:=7) al);have Q:=hid (fun (a:Nat) (h:a<=100) (U:World)=>agc (a:Int) U al al)
 have aT:Hid (∀(a:Nat),a<=100 ->∀U:World,du 33 #[.int .i64 (a:Nat)] U fun e w'=>e=.returned (iB (qF (a:Rat)))/\ef U w'):=fun a f U=>by
  have h:=Q.o a f U;rw[aiB] at h;exact h
 have Mj:Hid (∀(a s:Nat),a<=100 ->1<=s ->s<=100 ->∀U:World,du 32 #[iB (qF (a:Rat)),iB (qF (s:Rat))] U fun e w'=>e=.returned (.tuple #[iB (qF ((a:Rat)/(s:Rat))),.int .i64 0])/\ef U w'):=fun a s f bX J U=>by
  have bo:(s:Rat)≠0:=fun e=>by
   (have e':s=0:=by exact_mod_cast e);omega
  have h:=agm (bw (a:Rat)) (bw (s:Rat)) (nu (a:Rat)) (de (a:Rat)) (nu (s:Rat)) (de (s:Rat)) U (by rw[ji];exact bo) (by rw[mM];have:=YN (n:=a) al;omega) (by rw[mM];have:=YN (n:=s) al;omega);rw[ji,ji] at h;exact h
 clear Q;have Q:=aT;clear aT hW O;go_enter Tryz.func13,Tryz.ntmps13;go_wp2_with fail
 go_loopw [7,8,9] (fun x sv iv wr=>∃(i:Nat) (Ls:List Nat),i<=n/\iv=.int .i64 i/\sv=.int .i64 (Ls.sum:Nat)/\Hid (AR Ls i)/\Hid (bP wr w.heap.size x (iL Ls))/\Hid (ef w wr)) (fun _ _ iv _=>n - (Go.RowKit.intOf iv).toNat)
 case atStart=>exact⟨0,[],aV _,rfl,rfl,⟨rfl,fun a f=>by cases f⟩,bP.emptyB _ _,au _ _⟩
 case round=>
  obtain⟨i,Ls,hi,rfl,rfl,H,X,l⟩:=hrel;by_cases ai:i<n
  ·have SS:Ls.sum<=100:=by have:=M3 H.o.six;have:=H.o.len;omega
   have D:=H.o.len;by_cases ak:0<W.length
   ·obtain⟨E,bm⟩:∃E,E=k+i:=⟨_,rfl⟩;(have b0:IntKind.i64.wrap ((k:Int)+(i:Int))=(E:Int):=by rw[fj];omega);obtain⟨t,ht⟩:∃t,t=E % W.length:=⟨_,rfl⟩;(have sQ:t<W.length:=by rw[ht];exact jQ _ ak);(have bf:(E:Int) % (W.length:Int)=(t:Int):=by rw[ht,yz]);obtain⟨g',o',rfl,iI,cW⟩:=(HW.o.aa l.o) t sQ;have SD:=HR.o W[t] (bF sQ);have bW:=po.o W[t];have Vw:=hid (fun U=>A5.o W[t] SD U);(have bJ:(0:Int)<(W.length:Int):=al);(have bN:¬(W.length:Int)=0:=al);(have bz:IntKind.i64.wrap ((E:Int) % (W.length:Int))=(t:Int):=by rw[bf,fj];omega);clear ht bm ak;generalize W[t]=wt at *;generalize Ae wt 7=p at *;go_wp2_with fail
    refine(Vw.o _).af ?_;rintro e w1 ⟨rfl,v⟩;have jb:=hid (X.o.aa v);have bh:=hid (l.o.trans (v.af l.o.size));have P:=hid (jb.o.aa ((au _ w1).alloc (aq _) (.cells #[.int .i64 (p:Int)] 3)));have R:=hid (bh.o.alloc bh.o.size (.cells #[.int .i64 (p:Int)] 3));have Fk:=hid (Gg w1 (p:Int));have r:w.heap.size<=(w1.alloc (.cells #[.int .i64 (p:Int)] 3)).heap.size:=R.o.size;(have wY:(iL Ls).length=i:=by rw[bI];exact D);have kX:=hid (SC Ls p);(have br:IntKind.i64.wrap ((Ls.sum:Int)+(p:Int))=(((Ls++[p]).sum:Nat):Int):=by rw[fj];simp;omega);have xT:Hid (AR (Ls++[p]) (i+1)):=⟨by simp[D],fun a f=>by rcases ck.1 f with f |f;exact H.o.six a f;rw[dT.1 f];omega⟩;generalize J:(Ls++[p]).sum=s2 at *;have qi:=hid J;clear J cW v X l jb bh;go_wp2_with (at_builtin;refine I9 rfl _ _ rfl w.heap.size _ (iL Ls) [(p:Int)] rfl P.o (some ⟨w1.heap.size,0,none⟩) 1 rfl Fk.o (fun e=>by cases e) (by simp;omega) r ?_;intro v' w3 aj ah;have iE:=hid (R.o.grown ah r (fun k e=>P.o.own k e)))
    go_roundw
    case rel=>exact⟨i+1,Ls++[p],al,b5,by rw[qi.o],xT,by rw[kX.o];exact aj,iE⟩
    case measure=>simp[Go.RowKit.intOf];omega
   ·have sY:¬(0:Int)<(W.length:Int):=al
    have bx:decide (0<W.length)=false:=eK al;have P:=hid (X.o.aa ((au _ wr).alloc (aq _) (.cells #[.int .i64 1] 3)));have R:=hid (l.o.alloc l.o.size (.cells #[.int .i64 1] 3));have Fk:=hid (Gg wr 1);have r:w.heap.size<=(wr.alloc (.cells #[.int .i64 1] 3)).heap.size:=R.o.size;(have wY:(iL Ls).length=i:=by rw[bI];exact D);have kX:=hid (SC Ls 1);(have br:IntKind.i64.wrap ((Ls.sum:Int)+1)=(((Ls++[1]).sum:Nat):Int):=by rw[fj];simp;omega);have xT:Hid (AR (Ls++[1]) (i+1)):=⟨by simp[D],fun a f=>by rcases ck.1 f with f |f;exact H.o.six a f;rw[dT.1 f];omega⟩;have qi:=hid (Eq.refl (Ls++[1]).sum);generalize J:(Ls++[1]).sum=s2 at *;have E0:=hid J;clear J qi X l ak;go_wp2_with (at_builtin;refine I9 rfl _ _ rfl w.heap.size _ (iL Ls) [(1:Int)] rfl P.o (some ⟨wr.heap.size,0,none⟩) 1 rfl Fk.o (fun e=>by cases e) (by simp;omega) r ?_;intro v' w3 aj ah;have iE:=hid (R.o.grown ah r (fun k e=>P.o.own k e)))
    go_roundw
    case rel=>exact⟨i+1,Ls++[1],al,b5,by rw[E0.o],xT,by rw[kX.o];exact aj,iE⟩
    case measure=>simp[Go.RowKit.intOf];omega
  ·obtain rfl:n=i:=al
   (have SS:Ls.sum<=100:=by have:=M3 H.o.six;have:=H.o.len;omega);have D:=H.o.len;by_cases Y:Ls.sum=0
   focus
    (have Et:0<(iL Ls).length:=by rw[bI];omega);rcases X.o.cases with ⟨_,bu⟩ |⟨g,cap,rfl,bl,hg,bT,bV,hh⟩
    ·rw[bu] at Et;exact absurd Et aE
    focus
     have ao:=X.o.put 0 1;obtain⟨a7,bb⟩:=hh 0 (by simpa using Et);rw[bB] at a7 bb;have k8:=hid (l.o.setCell (p:=⟨g,0,none⟩) bl (.int .i64 1));(have Tl:(iL Ls).length=n:=by rw[bI];exact D);rw[Tl]
     obtain⟨L,m,rfl⟩:∃L m,Ls=L::m:=by
      cases Ls with
      |nil=>rw[<- D] at cK;exact absurd cK aE
      |cons L m=>exact⟨L,m,rfl⟩
     (have a1:L=0/\m.sum=0:=by simp at Y;exact Y)
     have ET:Hid (bP (wr.setCell ⟨g,0,none⟩ (.int .i64 1)) w.heap.size (.slice (some ⟨g,0,none⟩) n cap) (iL (1::m))):=by
      rw[Tl] at ao;exact ao
     have I:Hid (AR (1::m) n):=⟨by simpa using D,fun a f=>by rcases dU.1 f with rfl |f;omega;exact H.o.six a (dF _ f)⟩;have z:Hid ((1::m).sum=1/\1<=1/\1<=100):=⟨by simp[a1.2],al,al⟩;(have bM:(0:Int)<(n:Int):=al);rw[Y,show ((0:Nat):Int)=0 from rfl];clear Y ao hh X l Tl SS D H;go_upto_region 14 with fail
     clear a7 bb a1;generalize (wr.setCell ⟨g,0,none⟩ (.int .i64 1))=T at *;have iw:=ET;have bA:=k8;obtain⟨S,u⟩:∃S:Nat,S=1:=⟨1,rfl⟩;obtain⟨b,V⟩:∃b,b=1::m:=⟨_,rfl⟩;rw[<- V] at I z iw;(have aS:Hid (b.sum=S/\1<=S/\S<=100):=by rw[u];exact z);(have M:(1:Int)=((S:Nat):Int):=by rw[u];rfl);rw[M];clear z ET k8 V u M;have z:=aS;clear aS
   rotate_left
   focus
    (have SU:¬(Ls.sum:Int)=0:=al);obtain⟨S,u⟩:∃S,Ls.sum=S:=⟨_,rfl⟩;have z:Hid (Ls.sum=S/\1<=S/\S<=100):=⟨u,al,al⟩;rw[u] at SU⊢;obtain⟨b,V⟩:∃b,b=Ls:=⟨_,rfl⟩;rw[<- V] at H X z;have I:=H;have iw:=X;have bA:=l;(have GL:((S:Int)==0)=false:=by simpa using SU);clear Y u V H X l SS D;go_upto_region 14 with fail
    clear SU GL;generalize wr=T at *
   all_goals
    obtain⟨d7,EK,e7,Cm⟩:=iw.o.ints;have bc:=hid Cm;(have az:(iL b).length=n:=by rw[bI];exact I.o.len);rw[az] at e7;cases e7;have bk:=z.o.2.1;have OA:=z.o.2.2;have Dc:=hid z.o.1;(have fO:Hid ((jD b).length=n):=by show _=_;rw[Jw];exact I.o.len);(have qo:Hid (∀j (h:j<b.length),(jD b)[j]'(by rw[Jw];exact h)=qF ((b[j]:Rat)/(S:Rat))):=fun j h=>by simp[jD,Dc.o]);clear Cm z;go_wp2_with fail
    go_loopw [11,12] (fun x iv wr2=>∃i:Nat,i<=n/\iv=.int .i64 i/\Hid (cH wr2 T.heap.size x ((jD b).take i))/\Hid (ef T wr2)) (fun _ iv _=>n - (Go.RowKit.intOf iv).toNat)
    case atStart=>exact⟨0,aV _,rfl,cH.empty _ _,au _ _⟩
    case round=>
     obtain⟨i,hi,rfl,HY,K⟩:=hrel;by_cases ai:i<n
     ·have J9:i<(iL b).length:=by rw[az];exact ai
      (have A:i<b.length:=by rw[<- bI];exact J9);obtain⟨g',o',e8,iI,cL⟩:=(bc.o.aa K.o) i J9;cases e8;(try rw[bB] at cL)
      (have M:(iL b)[i]'J9=((b[i]'A:Nat):Int):=by simp[iL]);rw[M] at cL;have bR:=I.o.six (b[i]'A) (bF A);have Kf:=qo.o i A;(have bd:Hid ((jD b).take i++[qF (((b[i]'A:Nat):Rat)/(S:Rat))]=(jD b).take (i+1)):=by show _=_;rw[iF (by rw[fO.o];exact ai),Kf]);clear M Kf;generalize (b[i]'A)=Z at *;have nD:=hid (fun U=>Q.o Z al U);have Bc:=hid (fun U=>Q.o S al U);have bg:=hid (fun U=>Mj.o Z S al al al U);generalize qF ((Z:Nat):Rat)=fa at *;generalize qF ((S:Nat):Rat)=fs at *;generalize qF (((Z:Nat):Rat)/((S:Nat):Rat))=fq at *;obtain⟨an,ax,ay⟩:=fa;obtain⟨sn,sx,sy⟩:=fs;obtain⟨qn,q,y⟩:=fq;go_wp2_with fail
      refine(nD.o _).af ?_;rintro e v1 ⟨rfl,v⟩;go_wp2_with fail
      refine(Bc.o _).af ?_;rintro e v2 ⟨rfl,ab⟩;go_wp2_with fail
      refine(bg.o _).af ?_;rintro e F ⟨rfl,a6⟩;have aO:=ab.trans (a6.af ab.size);have TF:=v.trans (aO.af v.size);clear v ab a6 aO;have bL:=aI.new F qn q y;have ad:=TF.alloc TF.size (FC qn q y);obtain⟨k0,k1,k2, -⟩:=bL.facts
      have aC:aI ((F.alloc (FC qn q y)).alloc (FC qn q y)) (F.heap.size+1) qn q y:=by
       have h:=aI.new (F.alloc (FC qn q y)) qn q y;rwa [dE] at h
      have ae:=ad.alloc ad.size (FC qn q y);have Hx:=hid (HY.o.aa ae);have dI:=hid (K.o.trans (ae.af K.o.size));have qu:=hid aC;have r:T.heap.size<=((F.alloc (FC qn q y)).alloc (FC qn q y)).heap.size:=dI.o.size;(have sQ:((jD b).take i).length<=5:=by rw[eE,fO.o];omega);clear TF ad ae bL aC HY K cL;go_wp2_with (at_builtin;refine ad4 rfl _ _ rfl T.heap.size _ ((jD b).take i) (qn,q,y) rfl Hx.o (F.heap.size+1) rfl qu.o al r ?_;intro v' v6 bp Kc;have iD:=hid (dI.o.grown Kc r (fun k e=>Hx.o.own k e)))
      go_roundw
      case rel=>exact⟨i+1,al,b5,by rw[<- bd.o];exact bp,iD⟩
      case measure=>simp[Go.RowKit.intOf];omega
     ·obtain rfl:i=n:=al
      go_wp2;go_ret;have O:=HY.o;rw[lT (by rw[fO.o];exact aq _)] at O;exact⟨_,b,rfl,O.lower bA.o.size,I.o,by rw[Dc.o];exact bk,bA.o.trans (K.o.af bA.o.size)⟩
variable {ops:Array Oper} {rest:List Oper} {xs:List Value} {c s:Nat} {a:Option Addr}
def aL (t:TypeId) (w w':World):Prop:=∀(k:Nat) (c:Array Value) (fr:Nat×Nat),w.heap[k]? =some (Obj.cells c t fr) ->w'.heap[k]? =some (Obj.cells c t fr)
theorem aL.aa {t:TypeId} (b:ef w w'):aL t w w':=fun k _ _ h=>(b.block k (cJ.1 h).1).trans h
theorem aL.grown {t b:TypeId} {row:Option Nat} (d:w.grownBy w' row) (r:∀g,row=some g ->∃c f,w.heap[g]? =some (.cells c b f)) (n:t≠b):aL t w w':=fun k c f h=>by
 refine(d.block k (cJ.1 h).1 fun e=>?_).trans h;obtain⟨i,j,a⟩:=r k e.symm;rw[h] at a;cases a;exact n rfl
theorem aL.set {t d:TypeId} {b:Nat} {f:Array Value} {r:Nat×Nat} (a:w.heap[b]? =some (.cells f d r)) (n:t≠d) (j:Nat) (y:Value):aL t w (w.setCell ⟨b,j,none⟩ y):=fun k c i h=>by
 refine(fQ w ⟨b,j,none⟩ y k fun e=>?_).trans h;have g:k=b:=e;subst g;rw[h] at a;cases a;exact n rfl
theorem aL.trans {t:TypeId} {a b c:World} (h:aL t a b) (k:aL t b c):aL t a c:=fun i s f d=>k i s f (h i s f d)
theorem fJ {B:Nat} {e:TypeId} {v:Value} (h:w.ownsRow B e s v n xs) (k:aL e w w'):w'.ownsRow B e s v n xs:=by
 refine⟨h.1,?_⟩;rcases h.2 with a |⟨g,cap,r,a,b,c,d⟩
 ·exact .inl a
 ·exact .inr ⟨g,cap,r,a,b,k _ _ _ c,d⟩
theorem qI {B:Nat} {e:TypeId} {v:Value} (h:w.ownsRow B e s v n xs):∀g,v.ownBlock=some g ->∃c f,w.heap[g]? =some (.cells c e f):=fun g a=>by
 rcases h.2 with ⟨rfl,_⟩ |⟨g',cap,r,rfl,d,b,i⟩
 ·cases a
 ·cases a;exact⟨_,_,b⟩
theorem RM {B:Nat} {e:TypeId} {v:Value} (h:w.ownsRow B e s v n xs):∀g,v.ownBlock=some g ->B<=g:=fun g a=>by
 rcases h.2 with ⟨rfl,_⟩ |⟨g',cap,r,rfl,b,c,d⟩
 ·cases a
 ·cases a;exact b
theorem jm {B:Nat} {e:TypeId} {v:Value} (h:w.ownsRow B e s v n xs):∃a c,v=.slice a n c/\(a=none ->c=0):=by
 rcases h.2 with ⟨rfl,rfl⟩ |⟨g',cap,r,rfl,b,d,f⟩
 ·exact⟨none,0,rfl,fun _=>rfl⟩
 ·exact⟨_,_,rfl,fun e=>by cases e⟩
theorem yO {B:Nat} {e:TypeId} {v:Value} (h:w.ownsRow B e s v n xs) (f:B'<=B):w.ownsRow B' e s v n xs:=by
 refine⟨h.1,?_⟩;rcases h.2 with a |⟨g,cap,r,a,b,c,d⟩
 ·exact .inl a
 ·exact .inr ⟨g,cap,r,a,aR f b,c,d⟩
theorem Gd {B:Nat} {e:TypeId} (h:w.ownsRow B e s (.slice a n c) n xs) (l:j<xs.length):∃g,a=some ⟨g,0,none⟩/\g<w.heap.size/\w.cell? ⟨g,j,none⟩=some xs[j]:=by
 rcases h.2 with ⟨b,d⟩ |⟨g',cap,r,b,d,f,o,p,q,k⟩
 ·have:=h.1;subst d;rw[jO] at this;omega
 ·cases b;refine⟨g',rfl,(cJ.1 f).1,?_⟩;have m:j<n*s:=by have:=h.1;omega
  rw[bG w g' j _ _ (0,0) f]
  have i:r[j]? =(r.toList.take (n*s))[j]?:=by
   rw[pI,aA m,uU]
  rw[i,k,bj l]
abbrev PV:Type:=ByteArray×Value×List ByteArray
def vC:List PV ->List Value
 |[]=>[]
 |p::l=>.string p.1::p.2.1::vC l
theorem Jc:∀l,(vC l).length=l.length*2
 |[]=>rfl
 |p::l=>by
  show (vC l).length+1+1=(l.length+1)*2;rw[Jc l];omega
theorem Xg (p:PV):∀l,vC (l++[p])=vC l++[.string p.1,p.2.1]
 |[]=>rfl
 |q::l=>by
  show Value.string q.1::q.2.1::vC (l++[p])=_;rw[Xg p l];rfl
theorem Xf:∀(l:List PV) (k:Nat) (h:k<l.length),(vC l)[k*2]'(by rw[Jc];omega)=.string l[k].1/\(vC l)[k*2+1]'(by rw[Jc];omega)=l[k].2.1
 |p::l,0,_=>⟨rfl,rfl⟩
 |p::l,k+1,h=>by
  obtain⟨a,b⟩:=Xf l k (by simpa using h);refine⟨?_,?_⟩
  ·simp only[show (k+1)*2=k*2+1+1 by omega];exact a
  ·simp only[show (k+1)*2+1=k*2+1+1+1 by omega];exact b
def vM (w:World) (B:Nat) (x:Value) (P:List PV):Prop:=w.ownsRow B 81 2 x P.length (vC P)/\∀p∈P,pg w B p.2.1 p.2.2
abbrev PL:Type:=Value×List Int
def vN (w:World) (B:Nat) (y:Value) (P:List PL):Prop:=w.ownsRow B 22 1 y P.length (P.map (·.1))/\∀p∈P,bP w B p.1 p.2
abbrev PR:Type:=Value×List Fr
def kW (w:World) (B:Nat) (z:Value) (P:List PR):Prop:=w.ownsRow B 24 1 z P.length (P.map (·.1))/\∀p∈P,cH w B p.1 p.2
theorem vM.keep {B:Nat} {P:List PV} (h:vM w B x P) (h1:aL 81 w w') (a:aL 9 w w'):vM w' B x P:=⟨fJ h.1 h1,fun p b=>fJ (h.2 p b) a⟩
theorem vN.keep {B:Nat} {P:List PL} (h:vN w B x P) (h1:aL 22 w w') (a:aL 3 w w'):vN w' B x P:=⟨fJ h.1 h1,fun p b=>fJ (h.2 p b) a⟩
theorem kW.keep {B:Nat} {P:List PR} (h:kW w B x P) (h1:aL 24 w w') (a:aL 42 w w'):kW w' B x P:=⟨fJ h.1 h1,fun p b=>fJ (h.2 p b) a⟩
theorem vM.nil (w:World) (B:Nat):vM w B (.slice none 0 0) []:=⟨⟨rfl,.inl ⟨rfl,rfl⟩⟩,fun p h=>by cases h⟩
theorem vN.nil (w:World) (B:Nat):vN w B (.slice none 0 0) []:=⟨⟨rfl,.inl ⟨rfl,rfl⟩⟩,fun p h=>by cases h⟩
theorem kW.nil (w:World) (B:Nat):kW w B (.slice none 0 0) []:=⟨⟨rfl,.inl ⟨rfl,rfl⟩⟩,fun p h=>by cases h⟩
theorem Tryz.infoInts:(Tryz.prog.info? 22).map (fun i=>(i.zero,i.size,i.bytes))=some (some (.slice none 0 0),1,24):=ao
theorem Tryz.infoFracs:(Tryz.prog.info? 24).map (fun i=>(i.zero,i.size,i.bytes))=some (some (.slice none 0 0),1,24):=ao
theorem Tryz.infoVar:(Tryz.prog.info? 81).map (fun i=>(i.zero,i.size,i.bytes))=some (some (.agg #[.string ⟨#[]⟩,.slice none 0 0]),2,40):=ao
theorem W7 {o:Oper} {a:Act} (p:o.guard=none) (s x:Operand)
  (i:o.op=.call {callee:=.builtin .append,args:= #[s,x],argTypes:= #[25,25]}) (base:Nat) (v:Value) (P:List PR) (q:Value) (k:cV q) (l:a.eval s=v) (y:w.ownsRow base 24 1 v P.length (P.map (·.1))) (g:Nat) (m:a.eval x=.slice (some ⟨g,0,none⟩) 1 1) (f:w.cell? ⟨g,0,none⟩=some q) (D:P.length+1<=100000) (A:base<=w.heap.size)
  (h:∀v' w',w'.ownsRow base 24 1 v' (P.length+1) (P.map (·.1)++[q]) ->w.grownBy w' v.ownBlock ->wpList Tryz.prog ops Q rest (a.put o.dst v') w'):wpList Tryz.prog ops Q (o::rest) a w:=by
 obtain⟨n,M,z,r,t⟩:=dJ Tryz.infoFracs;refine FH _ p s x 25 i base 24 n (.slice none 0 0) 1 24 Tryz.underlying25 M z r t rfl bd v P.length _ l y ⟨g,0,none⟩ 1 1 [q] m rfl ?_ ?_ (by unfold maxLen;omega) al A ?_
 ·intro j u b;match j,b with
  |0,b=>cases b;exact f
  |j+1,b=>simp at b
 ·intro u c;simp only[dU,nL,tV] at c;subst c;obtain⟨_,_,_,rfl⟩:=k;rfl
 ·intro v' w' d e _;exact h v' w' d e
theorem MO {o:Oper} {a:Act} (s x:Operand)
  (f:o.op=.call {callee:=.builtin .append,args:= #[s,x],argTypes:= #[30,30]}) (base:Nat) (v:Value) (P:List PV) (nm:ByteArray) (q:Value) (i:cV q) (k:a.eval s=v) (y:w.ownsRow base 81 2 v P.length (vC P)) (g:Nat) (l:a.eval x=.slice (some ⟨g,0,none⟩) 1 1) (n:w.cell? ⟨g,0,none⟩=some (.string nm)) (p:w.cell? ⟨g,1,none⟩=some q) (D:P.length+1<=100000) (A:base<=w.heap.size)
  (h:∀v' w',w'.ownsRow base 81 2 v' (P.length+1) (vC P++[.string nm,q]) ->w.grownBy w' v.ownBlock ->K (a.put o.dst v') w'):o.wp Tryz.prog a w K Q:=by
 obtain⟨m,M,z,r,t⟩:=dJ Tryz.infoVar;refine FE _ s x 30 f base 81 m (.agg #[.string ⟨#[]⟩,.slice none 0 0]) 2 40 Tryz.underlying30 M z r t rfl bd v P.length _ k y ⟨g,0,none⟩ 1 1 [.string nm,q] l rfl ?_ ?_ (by unfold maxLen;omega) al A ?_
 ·intro j u b;match j,b with
  |0,b=>cases b;exact n
  |1,b=>cases b;exact p
  |j+2,b=>simp at b
 ·intro u c;simp only[dU,nL,tV] at c;rcases c with rfl |rfl
  ·rfl
  ·obtain⟨_,_,_,rfl⟩:=i;rfl
 ·intro v' w' d e _;exact h v' w' d e
theorem abV (a:List Fr):∀l,jq (l++a)=jq l++jq a
 |[]=>rfl
 |f::l=>by
  show Value.bool f.1::Value.string f.2.1::Value.string f.2.2::jq (l++a)=_;rw[abV a l];rfl
theorem abU {o:Nat}:∀ {l:List Fr},aW w (some ⟨g,o,none⟩) l ->∀j u,(jq l)[j]? =some u ->w.cell? ((⟨g,o,none⟩:Addr).add j)=some u/\u.oneCell'=true:=by
 intro l h j u a;have y:j<(jq l).length:=(mH.1 a).1;rw[KO] at y;have k:j/3<l.length:=al
 obtain⟨g',o',e,_,b,c,d⟩:=h (j/3) k;cases e
 have f:(⟨g,o,none⟩:Addr).add j=⟨g,o+j,none⟩:=by
  rw[Addr.add];by_cases b:j=0
  ·subst b;simp
  ·simp[b]
 have r:=KP l (j/3) k;rw[f];have m:j % 3=0∨j % 3=1∨j % 3=2:=al
 rcases m with m |m |m
 ·have e:j=j/3*3:=al
  rw[e] at a⊢;rw[r.1] at a;cases a;exact⟨b,rfl⟩
 ·have e:j=j/3*3+1:=al
  rw[e] at a⊢;rw[r.2.1] at a;cases a;exact⟨by rw[<- zT];exact c,rfl⟩
 ·have e:j=j/3*3+2:=al
  rw[e] at a⊢;rw[r.2.2] at a;cases a;exact⟨by rw[<- zT];exact d,rfl⟩
theorem ad3 {o:Oper} {a:Act} (q:o.guard=none) (s x:Operand)
  (i:o.op=.call {callee:=.builtin .append,args:= #[s,x],argTypes:= #[24,24]}) (base:Nat) (v:Value) (l la:List Fr) (k:a.eval s=v) (y:cH w base v l) (g c ca:Nat) (n:a.eval x=.slice (some ⟨g,c,none⟩) la.length ca) (f:aW w (some ⟨g,c,none⟩) la) (D:l.length+la.length<=100000) (A:base<=w.heap.size)
  (h:∀v' w',cH w' base v' (l++la) ->w.grownBy w' v.ownBlock ->wpList Tryz.prog ops Q rest (a.put o.dst v') w'):wpList Tryz.prog ops Q (o::rest) a w:=by
 obtain⟨p,M,z,r,t⟩:=dJ Tryz.infoFrac;refine FH _ q s x 24 i base 42 p (.agg #[.bool false,.string ⟨#[]⟩,.string ⟨#[]⟩]) 3 40 Tryz.underlying24 M z r t rfl bd v l.length _ k y ⟨g,c,none⟩ la.length ca (jq la) n (by rw[KO];omega) (fun j u b=>(abU f j u b).1) (fun u m=>?_) (by unfold maxLen;omega) al A ?_
 ·obtain⟨j,b,rfl⟩:=jz m;exact(abU f j _ (bj b)).2
 ·intro v' w' d e _;refine h v' w' ?_ e;rw[cH,bK,abV];exact d
variable {X:List Value}
def zo (w:World) (a:Option Addr) (X:List Value):Prop:=∀k (h:k<X.length),∃g o,a=some ⟨g,o,none⟩/\g<w.heap.size/\w.cell? ⟨g,o+k,none⟩=some X[k]/\cV X[k]
theorem zo.aa (h:zo w a X) (c:ef w w'):zo w' a X:=fun k i=>by
 obtain⟨g,o,d,b,e,f⟩:=h k i;exact⟨g,o,d,aU b c.size,(c.cell (p:=⟨g,o+k,none⟩) b).trans e,f⟩
def uF (w:World) (B:Nat) (v:Value) (X:List Value):Prop:=w.ownsRow B 24 1 v X.length X
theorem afl (n:Nat) (g:n<=100000) (w:World):
  du 75 #[.slice none 0 0,.int .i64 (n:Nat)] w fun e w'=>∃v,e=.returned v/\uF w' w.heap.size v []/\ef w w':=by
 obtain⟨i,b,c,j,z⟩:=dJ Tryz.infoFracs;by_cases h:n=0
 ·subst h;go_enter Tryz.func75,Tryz.ntmps75;go_wp2;go_ret;exact⟨_,rfl,⟨rfl,.inl ⟨rfl,rfl⟩⟩,au _ _⟩
 ·have d:(Builtin.firstCells i.size 0 (.slice none 0 0)).run Tryz.prog w.drew=.ok ([]:List Value).toArray w.drew:=run_firstCells_none w.drew i.size 0 0 0
  have U:∀t,(Builtin.append_ #[25,3] t #[.slice none 0 0,.int .i64 (n:Int)]).run Tryz.prog w=.ok (.slice (some ⟨w.heap.size,0,none⟩) (0+n) (grownCap w (0+n) 0 24)) (w.drew.alloc (.cells (([]:List Value).toArray++Builtin.zeroCells (Value.slice none 0 0).cells n++Builtin.zeroCells (Value.slice none 0 0).cells (grownCap w (0+n) 0 24 - (0+n))) 24)):=fun t=>
   WS w 25 3 t 24 i (.slice none 0 0) .i64 .i64 Tryz.underlying25 Tryz.underlying3 b c none 0 0 [] d n al al al al (by rw[z];omega) (FN al (by rw[z];omega))
  have L:0+n<=grownCap w (0+n) 0 24:=grownCap_ge w _ _ _;have p:=grownCap_le_maxLen w (0+n) 0 24 (by unfold maxLen;omega);rw[bB] at U L p;obtain⟨G,a⟩:∃G,G=grownCap w n 0 24:=⟨_,rfl⟩;rw[<- a] at U L p;have f:=hid p;have D:G<=9223372036854775807:=by unfold maxLen at p;omega
  have m:(0:Int)<(n:Int):=al
  clear d a p;go_enter Tryz.func75,Tryz.ntmps75;go_wp2_with (at_builtin;refine Lib.wpList_append_run _ rfl _ _ _ _ rfl _ _ rfl rfl _ _ (U _) ?_)
  go_ret;refine⟨_,rfl,⟨rfl,.inr ⟨w.heap.size,G,_,rfl,aq _,dB w.drew _,aV _,f.o,?_,aE⟩⟩,((au _ w).drew).alloc (aq _) _⟩;simp[size_zeroCells];omega
theorem ad1 {o:Oper} {a:Act} (t:o.guard=none) (s x:Operand)
  (m:o.op=.call {callee:=.builtin .append,args:= #[s,x],argTypes:= #[25,25]}) (base:Nat) (v:Value) (xs la:List Value) (c:a.eval s=v) (n:uF w base v xs) (p:Option Addr) (ca:Nat) (q:a.eval x=.slice p la.length ca) (i:zo w p la) (A:p=none ->ca=0) (K:xs.length+la.length<=100000) (J:base<=w.heap.size)
  (h:∀v' w',uF w' base v' (xs++la) ->w.grownBy w' v.ownBlock ->wpList Tryz.prog ops Q rest (a.put o.dst v') w'):wpList Tryz.prog ops Q (o::rest) a w:=by
 obtain⟨r,M,F,H,I⟩:=dJ Tryz.infoFracs;cases p with
 |none=>
  have z:la=[]:=by
   cases la with
   |nil=>rfl
   |cons x l=>obtain⟨g,o,e,_⟩:=i 0 aE;cases e
  subst z;have b:=A rfl;subst b;have d:=h v w (by rw[BP];exact n) ⟨rfl,rfl,rfl,aq _,fun _ _ _=>rfl⟩;exact wpList_append_own_none t s x 25 m base 24 r 1 Tryz.underlying25 M v xs.length _ c n q d
 |some ad=>
  refine FH _ t s x 25 m base 24 r (.slice none 0 0) 1 24 Tryz.underlying25 M F H I rfl bd v xs.length _ c n ad la.length ca la q aE ?_ ?_ (by unfold maxLen;omega) al J ?_
  ·intro j u f;obtain⟨E,X⟩:=mH.1 f;obtain⟨g,o',e,_,k,_⟩:=i j E;cases e;rw[<- X];rw[Addr.add];by_cases b:j=0
   ·subst b;simpa using k
   ·simpa [b] using k
  ·intro u D;obtain⟨j,f,rfl⟩:=jz D;obtain⟨g,o',e,_,_,c⟩:=i j f;obtain⟨_,_,_,e⟩:=c;rw[e];rfl
  ·intro v' w' d y _;refine h v' w' ?_ y;rw[uF,bK];exact d
def xG (la lb lc:List Value) (i:Nat):List Value:=if i=0 then[] else if i=1 then la else if i=2 then la++lb else la++lb++lc
theorem uF.own {B:Nat} {v:Value} {l:List Value} (h:uF w B v l):∀k,v.ownBlock=some k ->B<=k:=by
 intro k a;rcases h.2 with ⟨rfl,_⟩ |⟨g,cap,c,rfl,b,_⟩
 ·cases a
 ·cases a;exact b
theorem ak0 {la lb c:List Value} (r:la.length<=1000) (k:lb.length<=1000) (l:c.length<=1000) (i:Nat):(xG la lb c i).length<=3000:=by
 rw[xG];by_cases h:i=0
 ·rw[aA h];simp
 ·rw[aD h];by_cases a:i=1
  ·rw[aA a];omega
  ·rw[aD a];by_cases b:i=2
   ·rw[aA b,bK];omega
   ·rw[aD b,bK,bK];omega
theorem Yh (R:Nat) (a b d:Option Addr) (ca cb r:Nat) (la lb f:List Value) (w:World) (D:R<w.heap.size) (P:w.cell? ⟨R,0,none⟩=some (.slice a la.length ca)) (Q:w.cell? ⟨R,1,none⟩=some (.slice b lb.length cb)) (S:w.cell? ⟨R,2,none⟩=some (.slice d f.length r)) (J:zo w a la) (n:zo w b lb) (K:zo w d f) (Y:a=none ->ca=0) (Z:b=none ->cb=0) (X:d=none ->r=0) (s:la.length<=1000) (x:lb.length<=1000) (T:f.length<=1000):
  du 37 #[.slice (some ⟨R,0,none⟩) 3 3] w fun e w'=>∃v,e=.returned v/\uF w' w.heap.size v (la++lb++f)/\ef w w':=by
 have ah:∀i,i< 3 ->∃(p:Option Addr) (c:Nat) (l:List Value),w.cell? ⟨R,i,none⟩=some (.slice p l.length c)/\zo w p l/\(p=none ->c=0)/\l.length<=1000/\xG la lb f (i+1)=xG la lb f i++l:=by
  intro i L;by_cases h:i=0
  ·subst h;exact⟨a,ca,la,P,J,Y,s,by simp[xG]⟩
  ·by_cases h:i=1
   ·subst h;exact⟨b,cb,lb,Q,n,Z,x,by simp[xG]⟩
   ·obtain rfl:i=2:=al
    exact⟨d,r,f,S,K,X,T,by simp[xG]⟩
 have V:=hid ah;have O:=hid (fun i=>ak0 s x T i);have m:xG la lb f 3=la++lb++f:=by simp[xG]
 rw[<- m];have M:xG la lb f 0=[]:=rfl;clear ah P Q S J n K Y Z X m s x T;generalize xG la lb f=F at *;go_enter Tryz.func37,Tryz.ntmps37;go_wp2_with fail
 go_loopw [3,11] (fun sv iv wr=>∃i:Nat,i<=3/\iv=.int .i64 i/\sv=.int .i64 ((F i).length:Nat)/\Hid (ef w wr)) (fun _ iv _=>3 - (intOf iv).toNat)
 case atStart=>exact⟨0,al,rfl,by rw[M];rfl,au _ _⟩
 case round=>
  obtain⟨i,L,rfl,rfl,H⟩:=hrel;by_cases y:i<3
  ·obtain⟨p,c,l,j,I,q,hl,k⟩:=V.o i y;have aj:=(H.o.cell (p:=⟨R,i,none⟩) D).trans j;have A:=O.o i;(have ak:IntKind.i64.wrap (((F i).length:Int)+(l.length:Int))=((F i).length:Int)+(l.length:Int):=by rw[fj];omega);(have E:Hid (((F (i+1)).length:Int)=((F i).length:Int)+(l.length:Int)):=by show _=_;rw[k,bK];exact yB _ _);(have nZ:(0:Int)<=((F i).length:Int)+(l.length:Int):=al);clear k j q I;go_wp2;go_roundw
   case rel=>exact⟨i+1,al,b5,by rw[E.o],H⟩
   case measure=>simp[intOf];omega
  ·obtain rfl:i=3:=al
   have A:=O.o 3;go_wp2_with fail
   refine(afl (F 3).length al _).af ?_;rintro e w1 ⟨v1,rfl,z,ab⟩;have bh:=hid (H.o.trans (ab.af H.o.size));have U:Hid (∀b,b<=wr.heap.size ->uF w1 b v1 []):=fun b n=>⟨z.1,z.2.imp id (fun ⟨g,cap,ai,h1,m,h3⟩=>⟨g,cap,ai,h1,aR n m,h3⟩)⟩;have HR:=hid (U.o w.heap.size H.o.size);clear z ab U;go_wp2_with fail
   go_loopw [6,27] (fun sv iv wr=>∃i:Nat,i<=3/\iv=.int .i64 i/\Hid (uF wr w.heap.size sv (F i))/\Hid (ef w wr)) (fun _ iv _=>3 - (intOf iv).toNat)
   case atStart=>exact⟨0,al,rfl,by rw[M];exact HR,bh⟩
   case round=>
    obtain⟨i,L,rfl,t,u⟩:=hrel;by_cases y:i<3
    ·obtain⟨p,c,l,j,I,q,hl,k⟩:=V.o i y;have aj:=(u.o.cell (p:=⟨R,i,none⟩) D).trans j;have A:=O.o i;have HI:=hid (I.aa u.o);have HP:=hid q;have E:=hid k;have LN:=hid t.o.own;clear k j q I;go_wp2_with (at_builtin;refine ad1 rfl _ _ rfl w.heap.size _ (F i) l rfl t.o p c rfl HI.o HP.o al u.o.size ?_;intro v' w2 ae ad)
     have iC:=hid ae;have bA:=hid (u.o.grown ad u.o.size LN.o);clear ae ad;go_roundw
     case rel=>exact⟨i+1,al,b5,by rw[E.o];exact iC,bA⟩
     case measure=>simp[intOf];omega
    ·obtain rfl:i=3:=al
     go_wp2;go_ret;exact⟨_,rfl,t.o,u.o⟩
def kD (w:World) (a:Option Addr) (F:List (Int×Int)):Prop:=∀k (h:k<F.length),∃g o,a=some ⟨g,o,none⟩/\g<w.heap.size/\w.cell? ⟨g,o+k*2,none⟩=some (.int .i64 F[k].1)/\w.cell? ⟨g,o+k*2+1,none⟩=some (.int .i64 F[k].2)
theorem kD.aa {F:List (Int×Int)} (h:kD w a F) (c:ef w w'):kD w' a F:=fun k i=>by
 obtain⟨g,o,d,b,e,f⟩:=h k i;exact⟨g,o,d,aU b c.size,(c.cell (p:=⟨g,_,none⟩) b).trans e,(c.cell (p:=⟨g,_,none⟩) b).trans f⟩
theorem kD.take {F:List (Int×Int)} (h:kD w a F) (i:Nat):kD w a (F.take i):=fun k j=>by
 have d:k<F.length:=by rw[eE] at j;omega
 obtain⟨g,o,b,c,e,f⟩:=h k d;rw[zV];exact⟨g,o,b,c,e,f⟩
theorem ai9 (a:Option Addr) (ca f:Nat) (lb:Array Value) (F:List (Int×Int)) (p:Int×Int ->Bool) (w:World) (h:kD w a F) (Q:F.length<=1000) (K:∀v w,(callFunc f v).run Tryz.prog w=.ok (.enter f v) w)
  (t:∀q∈F,∀U:World,ef w U ->du f (#[.agg #[.int .i64 q.1,.int .i64 q.2]]++lb) U fun e w'=>e=.returned (.bool (p q))/\ef U w'):
  du 109 #[.slice a F.length ca,.func (.func f) #[] lb] w fun e w'=>∃j:Int,e=.returned (.int .i64 j)/\decide (0<=j)=F.any p/\ef w w':=by
 have x:=hid h;have P:=hid t
 have D:Hid ((∀i (c:i<F.length),p F[i]=false) ->F.any p=false):=fun d=>I4.2 fun q z=>by
  obtain⟨i,c,rfl⟩:=jz z;rw[d i c];decide
 have y:Hid (∀i (c:i<F.length),p F[i]=true ->F.any p=true):=fun i c d=>uT.2 ⟨_,bF c,d⟩;clear h t;generalize F.any p=R at *;go_enter Tryz.func109,Tryz.ntmps109;go_wp2_with fail
 go_loopw [8] (fun iv wr=>∃i:Nat,i<=F.length/\iv=.int .i64 i/\Hid (∀j (b:j<F.length),j< i ->p F[j]=false)/\Hid (ef w wr)) (fun iv _=>F.length - (intOf iv).toNat)
 case atStart=>exact⟨0,aV _,rfl,(fun j _ b=>absurd b al),au _ _⟩
 case round=>
  obtain⟨i,c,rfl,k,H⟩:=hrel;by_cases l:i<F.length
  ·obtain⟨g,o,rfl,s,m,n⟩:=x.o i l;have S:=(H.o.cell (p:=⟨g,_,none⟩) s).trans m;have T:=(H.o.cell (p:=⟨g,_,none⟩) s).trans n;have HC:=hid (P.o F[i] (bF l) wr H.o);have L:=hid (y.o i l)
   have I:Hid (p F[i]=false ->∀j (b:j<F.length),j<i+1 ->p F[j]=false):=fun e j b J=>by
    rcases cT j i with r |r
    ·exact k.o j b r
    ·obtain rfl:j=i:=al
     exact e
   clear m n;generalize p F[i]=q at *;generalize F[i].1=M at *;generalize F[i].2=O at *;go_wp2_with fail
   refine HC.o.af ?_;rintro e V ⟨rfl,u⟩;have A:=hid (H.o.trans (u.af H.o.size));clear u HC;cases q with
   |true=>
    have E:=hid (L.o rfl);go_wp2;go_ret;exact⟨(i:Nat),rfl,by rw[E.o];simp,A.o⟩
   |false=>
    have E:=hid (I.o rfl);go_wp2;go_roundw
    case rel=>exact⟨i+1,al,b5,E,A⟩
    case measure=>simp[intOf];omega
  ·obtain rfl:i=F.length:=al
   have E:=hid (D.o fun j b=>k.o j b b);go_wp2;go_ret;exact⟨-1,rfl,by rw[E.o];rfl,H.o⟩
theorem alW (a:Option Addr) (ca f:Nat) (lb:Array Value) (F:List (Int×Int)) (p:Int×Int ->Bool) (w:World) (h:kD w a F) (n:F.length<=1000) (i:∀g w,(callFunc f g).run Tryz.prog w=.ok (.enter f g) w)
  (c:∀q∈F,∀U:World,ef w U ->du f (#[.agg #[.int .i64 q.1,.int .i64 q.2]]++lb) U fun e w'=>e=.returned (.bool (p q))/\ef U w'):
  du 63 #[.slice a F.length ca,.func (.func f) #[] lb] w (eS w (.bool (F.any p))):=by
 have I:=hid (ai9 a ca f lb F p w h n i c);clear h c;generalize F.any p=R at *;go_enter Tryz.func63,Tryz.ntmps63;go_wp2_with fail
 refine I.o.af ?_;rintro e k ⟨j,rfl,b,d⟩;have H:=hid d;have J:=hid b;clear d b;go_wp2;go_ret;exact⟨by rw[<- J.o];rfl,H.o⟩
theorem ai1 (q:Int×Int) (v:Int) (B:Nat) (w:World) (h:B<w.heap.size) (c:w.cell? ⟨B,0,none⟩=some (.int .i64 v)):
  du 64 #[.agg #[.int .i64 q.1,.int .i64 q.2],.pointer (some ⟨B,0,none⟩)] w (eS w (.bool (q.1==v))):=by
 obtain⟨a,b⟩:=q;have A:=hid ((au w.heap.size w).alloc (aq _) (.cells #[.int .i64 a,.int .i64 b] 39));have d:=(A.o.cell (p:=⟨B,0,none⟩) h).trans c;show du 64 #[.agg #[.int .i64 a,.int .i64 b],.pointer (some ⟨B,0,none⟩)] w fun e w'=>e=.returned (.bool (a==v))/\ef w w';clear c;go_enter Tryz.func64,Tryz.ntmps64;go_wp2
 all_goals (go_ret;exact⟨by simp_all,A.o⟩)
theorem aan (a:Option Addr) (ca:Nat) (F:List (Int×Int)) (v:Int) (w:World) (h:kD w a F) (n:F.length<=1000):
  du 30 #[.slice a F.length ca,.int .i64 v] w (eS w (.bool (F.any fun p=>p.1==v))):=by
 have A:=(au w.heap.size w).alloc (aq _) (.cells #[.int .i64 v] 3);have x:=a8 w 3 (.int .i64 v);have HC:=hid (alW a ca 64 #[.pointer (some ⟨w.heap.size,0,none⟩)] F (fun p=>p.1==v) _ (h.aa A) n (enters_of Tryz.func64 ao rfl) (fun q _ U b=>ai1 q v w.heap.size U (aU x.lt b.size) ((b.cell (p:=⟨w.heap.size,0,none⟩) x.lt).trans x.cell)));have H:=hid A;clear h A x;generalize (F.any fun p=>p.1==v)=R at *;go_enter Tryz.func30,Tryz.ntmps30;go_wp2_with fail
 refine HC.o.af ?_;rintro e f ⟨rfl,c⟩;have d:=hid (H.o.trans (c.af H.o.size));clear c;go_wp2;go_ret;exact⟨rfl,d.o⟩
theorem ai8 (a:Option Addr) (ca f:Nat) (lb:Array Value) (F:List Int) (p:Int ->Bool) (w:World) (h:aJ w a F) (M:F.length<=1000) (J:∀t w,(callFunc f t).run Tryz.prog w=.ok (.enter f t) w)
  (r:∀q∈F,∀U:World,ef w U ->du f (#[.int .i64 q]++lb) U fun e w'=>e=.returned (.bool (p q))/\ef U w'):
  du 62 #[.slice a F.length ca,.func (.func f) #[] lb] w fun e w'=>∃j:Int,e=.returned (.int .i64 j)/\decide (0<=j)=F.any p/\ef w w':=by
 have u:=hid h;have P:=hid r
 have D:Hid ((∀i (c:i<F.length),p F[i]=false) ->F.any p=false):=fun d=>I4.2 fun q y=>by
  obtain⟨i,c,rfl⟩:=jz y;rw[d i c];decide
 have v:Hid (∀i (c:i<F.length),p F[i]=true ->F.any p=true):=fun i c d=>uT.2 ⟨_,bF c,d⟩;clear h r;generalize F.any p=R at *;go_enter Tryz.func62,Tryz.ntmps62;go_wp2_with fail
 go_loopw [8] (fun iv wr=>∃i:Nat,i<=F.length/\iv=.int .i64 i/\Hid (∀j (b:j<F.length),j< i ->p F[j]=false)/\Hid (ef w wr)) (fun iv _=>F.length - (intOf iv).toNat)
 case atStart=>exact⟨0,aV _,rfl,(fun j _ b=>absurd b al),au _ _⟩
 case round=>
  obtain⟨i,c,rfl,k,H⟩:=hrel;by_cases l:i<F.length
  ·obtain⟨g,o,rfl,x,m⟩:=u.o i l;have O:=(H.o.cell (p:=⟨g,_,none⟩) x).trans m;have HC:=hid (P.o F[i] (bF l) wr H.o);have L:=hid (v.o i l)
   have z:Hid (p F[i]=false ->∀j (b:j<F.length),j<i+1 ->p F[j]=false):=fun e j b I=>by
    rcases cT j i with n |n
    ·exact k.o j b n
    ·obtain rfl:j=i:=al
     exact e
   clear m;generalize p F[i]=q at *;generalize F[i]=K at *;go_wp2_with fail
   refine HC.o.af ?_;rintro e Q ⟨rfl,s⟩;have A:=hid (H.o.trans (s.af H.o.size));clear s HC;cases q with
   |true=>
    have E:=hid (L.o rfl);go_wp2;go_ret;exact⟨(i:Nat),rfl,by rw[E.o];simp,A.o⟩
   |false=>
    have E:=hid (z.o rfl);go_wp2;go_roundw
    case rel=>exact⟨i+1,al,b5,E,A⟩
    case measure=>simp[intOf];omega
  ·obtain rfl:i=F.length:=al
   have E:=hid (D.o fun j b=>k.o j b b);go_wp2;go_ret;exact⟨-1,rfl,by rw[E.o];rfl,H.o⟩
theorem acA (a:Option Addr) (ca f:Nat) (lb:Array Value) (F:List Int) (p:Int ->Bool) (w:World) (h:aJ w a F) (n:F.length<=1000) (i:∀g w,(callFunc f g).run Tryz.prog w=.ok (.enter f g) w)
  (c:∀q∈F,∀U:World,ef w U ->du f (#[.int .i64 q]++lb) U fun e w'=>e=.returned (.bool (p q))/\ef U w'):
  du 28 #[.slice a F.length ca,.func (.func f) #[] lb] w (eS w (.bool (F.any p))):=by
 have I:=hid (ai8 a ca f lb F p w h n i c);clear h c;generalize F.any p=R at *;go_enter Tryz.func28,Tryz.ntmps28;go_wp2_with fail
 refine I.o.af ?_;rintro e k ⟨j,rfl,b,d⟩;have H:=hid d;have J:=hid b;clear d b;go_wp2;go_ret;exact⟨by rw[<- J.o];rfl,H.o⟩
theorem agB (a:Option Addr) (ca:Nat) (F:List (Int×Int)) (v:Int) (B:Nat) (w:World) (h:kD w a F) (n:F.length<=1000) (c:w.cell? ⟨B,0,none⟩=some (.slice a F.length ca)):
  du 29 #[.int .i64 v,.pointer (some ⟨B,0,none⟩)] w (eS w (.bool (F.any fun p=>p.1==v))):=by
 have I:=hid (aan a ca F v w h n);clear h;generalize (F.any fun p=>p.1==v)=R at *;go_enter Tryz.func29,Tryz.ntmps29;go_wp2_with fail
 refine I.o.af ?_;rintro e d ⟨rfl,b⟩;have H:=hid b;clear b;go_wp2;go_ret;exact⟨rfl,H.o⟩
variable {R1 R2:List (List Fr)}
structure Hu (n m:Nat) (R:List (List Fr)):Prop where
 len:R.length=n
 each:∀i (h:i<R.length),R[i].length=m
 fw:∀i (h:i<R.length),fw R[i]<=10000
 row:∀i (h:i<R.length),dt R[i]=true
theorem amq (c:Option Addr) (cc n:Nat) (R:List (List Fr)) (w:World) (f:gD w c R) (h:Hu n n R) (h1:1<=n) (D:n<=6):
  du 88 #[.slice c n cc] w (eS w (.int .i64 0)):=by
 have u:=hid f;have H:=hid h;clear f h;go_enter Tryz.func88,Tryz.ntmps88;go_wp2_with fail
 go_loopw [17] (fun iv wr=>∃i:Nat,i<=n/\iv=.int .i64 i/\w=wr) (fun iv _=>n - (intOf iv).toNat)
 case atStart=>exact⟨0,aV _,rfl,rfl⟩
 case round=>
  obtain⟨i,x,rfl,rfl⟩:=hrel;by_cases t:i<n
  ·have q:i<R.length:=by rw[H.o.len];exact t
   obtain⟨m,p,b,r,rfl,X,d, -, -⟩:=u.o i q;rw[H.o.each i q] at d;go_wp2;go_roundw
   case rel=>exact⟨i+1,al,b5,trivial⟩
   case measure=>simp[intOf];omega
  ·obtain rfl:i=n:=al
   go_wp2_with fail
   go_loopw [29] (fun kv wr=>∃k:Nat,k<=i/\kv=.int .i64 k/\Hid (ef w wr)) (fun kv _=>i - (intOf kv).toNat)
   case atStart=>exact⟨0,aV _,rfl,au _ _⟩
   case round=>
    obtain⟨k,y,rfl,a⟩:=hrel;by_cases v:k<i
    ·have l:k<R.length:=by rw[H.o.len];exact v
     obtain⟨m,p,b,r,rfl,X,d,j, -⟩:=(u.o.aa a.o) k l;have s:=H.o.each k l;have z:=hid (amo b r R[k] wr j (H.o.fw k l) al);rw[H.o.row k l] at z;clear j s;generalize R[k].length=E at *;go_wp2_with fail
     refine z.o.af ?_;rintro e F ⟨rfl,g⟩;have A:=hid (a.o.trans (g.af a.o.size));clear g;go_wp2;go_roundw
     case rel=>exact⟨k+1,al,b5,A⟩
     case measure=>simp[intOf];omega
    ·obtain rfl:k=i:=al
     go_wp2;go_ret;exact⟨rfl,a.o⟩
theorem amn (a c:Option Addr) (ca cc n:Nat) (l:List Fr) (R:List (List Fr)) (f:Nat ->Rat) (g:Nat ->Nat ->Rat) (w:World) (q:aW w a l) (d:gD w c R) (s:gV n f l) (T:Hu n n R) (t:∀i (h:i<R.length),gV n (g i) R[i]) (z:∀i j,i< n ->j< n ->qw (f i*g i j)<=30010) (m:∀j k,j< n ->k<=n ->qw (eA (fun i=>f i*g i j) k)<=40000) (h1:1<=n) (y:n<=4):
  du 49 #[.slice a n ca,.slice c n cc] w fun e w'=>∃G,e=.returned (.tuple #[.slice (some ⟨G,0,none⟩) n n,.int .i64 0])/\w.heap.size<=G/\eN w' G (lF n fun j=>eA (fun i=>f i*g i j) n)/\ef w w':=by
 have HC:=hid (amq c cc n R w d T h1 al);have H:=hid (fun (V:World) (r:ef w V)=>amp a c ca cc n l R f g V (q.aa r) (d.aa r) s T.len t z m y);clear q d s T t z m;generalize (lF n fun j=>eA (fun i=>f i*g i j) n)=F at *;go_enter Tryz.func49,Tryz.ntmps49;go_wp2_with fail
 refine HC.o.af ?_;rintro e E ⟨rfl,v⟩;have b:=hid v;clear v;go_wp2_with fail
 refine(H.o _ b.o).af ?_;rintro e J ⟨G,rfl,p,u,x⟩;have A:=hid (b.o.trans (x.af b.o.size));have D:=hid u;have I:w.heap.size<=G:=aR b.o.size p;clear u x p;go_wp2;go_ret2;exact⟨G,rfl,I,D.o,A.o⟩
theorem Yj (a b c:Option Addr) (e f ca cb cc n m:Nat) (R:List (List Fr)) (w:World) (j:gD w c R) (h:Hu n m R) (h1:1<=n) (s:n<=100):
  du 36 #[.agg #[.slice a e ca,.slice b f cb,.slice c n cc]] w (eS w (.int .i64 (m:Nat))):=by
 have i:0<R.length:=by rw[h.len];omega
 obtain⟨g,k,l,r,rfl,X,d, -, -⟩:=j 0 i;rw[h.each 0 i,gK] at d;have A:=(au w.heap.size w).alloc (aq _) (dX (.slice a e ca) (.slice b f cb) (.slice (some ⟨g,k,none⟩) n cc));obtain⟨-, -,q⟩:=(b6.new w (.slice a e ca) (.slice b f cb) (.slice (some ⟨g,k,none⟩) n cc)).cells;have t:=(A.cell (p:=⟨g,_,none⟩) X).trans d;have H:=hid A;clear d A j h;go_enter Tryz.func36,Tryz.ntmps36;go_wp2;go_ret;exact⟨rfl,H.o⟩
theorem gD.vals (h:gD w a R):∃X:List Value,X.length=R.length/\zo w a X/\∀v∈X,∃(b:Option Addr) (l:List Fr) (c:Nat),v=.slice b l.length c/\aW w b l/\l∈R:=by
 let t:Nat ->Value:=fun k=>match a with
  |some p=>(w.cell? ⟨p.block,p.off+k,none⟩).getD (.slice none 0 0)
  |none=>.slice none 0 0
 have y:∀k (d:k<R.length),∃g o b c,a=some ⟨g,o,none⟩/\g<w.heap.size/\w.cell? ⟨g,o+k,none⟩=some (t k)/\t k=.slice b R[k].length c/\aW w b R[k]:=fun k d=>by
  obtain⟨g,o,b,c,rfl,q,f,i, -⟩:=h k d;have e:t k=.slice b R[k].length c:=by simp only[t,f,mE]
  exact⟨g,o,b,c,rfl,q,by rw[e];exact f,e,i⟩
 refine⟨(List.range R.length).map t,aE,fun k d=>?_,fun v r=>?_⟩
 ·have H:k<R.length:=by simpa using d
  obtain⟨g,o,b,c,j,m,f,i, -⟩:=y k H;have e:((List.range R.length).map t)[k]=t k:=aE
  rw[e];exact⟨g,o,j,m,f,b,_,c,i⟩
 ·obtain⟨k,d,rfl⟩:=ba.1 r;have H:k<R.length:=cI.1 d;obtain⟨g,o,b,c,j,m,f,i,n⟩:=y k H;exact⟨b,R[k],c,i,n,bF H⟩
structure xS (w:World) (a b c:Option Addr) (n m:Nat) (l:List Fr) (R1 R2:List (List Fr)):Prop where
 st:aW w a l
 mv:gD w b R1
 sh:gD w c R2
theorem xS.aa {b c:Option Addr} (h:xS w a b c n m l R1 R2) (d:ef w w'):xS w' a b c n m l R1 R2:=⟨h.st.aa d,h.mv.aa d,h.sh.aa d⟩
structure ES (n m:Nat) (l:List Fr) (R1 R2:List (List Fr)):Prop where
 n1:1<=n
 n4:n<=4
 m1:1<=m
 m4:m<=4
 len:l.length=n
 fw:fw l<=10000
 row:dt l=true
 mv:Hu n n R1
 sh:Hu n m R2
theorem ES.all (h:ES n m l R1 R2):∀r∈[l]++R1++R2,dt r=true/\Go.Proofs.YtdmdhjmcoijpaaaGreatDoor.fw r<=10000/\r.length<=4:=fun r d=>by
 rcases ck.1 d with b |b
 ·rcases ck.1 b with c |c
  ·rw[dT.1 c];exact⟨h.row,h.fw,by rw[h.len];exact h.n4⟩
  ·obtain⟨i,a,rfl⟩:=jz c;exact⟨h.mv.row i a,h.mv.fw i a,by rw[h.mv.each i a];exact h.n4⟩
 ·obtain⟨i,a,rfl⟩:=jz b;exact⟨h.sh.row i a,h.sh.fw i a,by rw[h.sh.each i a];exact h.m4⟩
theorem ajP (a b c:Option Addr) (ca cb cc n m:Nat) (l:List Fr) (R1 R2:List (List Fr)) (w:World) (h:xS w a b c n m l R1 R2) (T:ES n m l R1 R2) (aj:b=none ->cb=0) (an:c=none ->cc=0):
  du 14 #[.agg #[.slice a n ca,.slice b n cb,.slice c n cc]] w (eS w (.int .i64 0)):=by
 have cK:=T.n1;have mW:=T.n4;have az:=T.m1;have aC:=T.m4;obtain⟨z,Gx,av,ae⟩:=h.mv.vals;obtain⟨D,Gv,ax,ai⟩:=h.sh.vals;have jb:=hid av;have iw:=hid ax;have Y:Hid (z.length=n):=Gx.trans T.mv.len;have U:Hid (D.length=n):=Gv.trans T.sh.len
 have mo:Hid (∀v∈([.slice a n ca]++z++D:List Value),∃(f:Option Addr) (r:List Fr) (j:Nat),v=.slice f r.length j/\aW w f r/\r∈[l]++R1++R2):=fun v hv=>by
  rcases ck.1 hv with s |s
  ·rcases ck.1 s with t |t
   ·rw[dT.1 t];exact⟨a,l,ca,by rw[T.len],h.st,aE⟩
   ·obtain⟨f,r,j,F,I,e3⟩:=ae v t;exact⟨f,r,j,F,I,by simp[e3]⟩
  ·obtain⟨f,r,j,F,I,e3⟩:=ai v s;exact⟨f,r,j,F,I,by simp[e3]⟩
 have sB:=hid T.all;have tJ:=hid aj;have jd:=hid an;have A:=(au w.heap.size w).alloc (aq _) (dX (.slice a n ca) (.slice b n cb) (.slice c n cc));have O:=b6.new w (.slice a n ca) (.slice b n cb) (.slice c n cc);have Dm:=hid (fun V:World=>NW n V cK mW);have Il:Hid (∀V:World,du 34 #[.int .i64 (m:Nat)] V fun e w'=>e=.returned (.bool true)/\ef V w'):=fun V=>(NW m V az aC).af (fun e w' ⟨s,t⟩=>⟨s,by rw[t];exact au _ _⟩)
 have Fj:Hid (∀V:World,ef w V ->du 35 #[.slice b n cb,.int .i64 (n:Nat),.int .i64 (n:Nat)] V fun e w'=>e=.returned (.bool true)/\ef V w'):=fun V y=>by
  have h:=aao b cb n n R1 V (h.mv.aa y) T.mv.len (by rw[T.mv.len];omega) al T.mv.each;rwa [T.mv.len] at h
 have LB:Hid (∀V:World,ef w V ->du 36 #[.agg #[.slice a n ca,.slice b n cb,.slice c n cc]] V fun e w'=>e=.returned (.int .i64 (m:Nat))/\ef V w'):=fun V y=>Yj a b c n n ca cb cc n m R2 V (h.sh.aa y) T.sh cK al
 have Mc:Hid (∀V:World,ef w V ->du 35 #[.slice c n cc,.int .i64 (n:Nat),.int .i64 (m:Nat)] V fun e w'=>e=.returned (.bool true)/\ef V w'):=fun V y=>by
  have h:=aao c cc n m R2 V (h.sh.aa y) T.sh.len (by rw[T.sh.len];omega) al T.sh.each;rwa [T.sh.len] at h
 clear h T aj an Gx Gv av ax ae ai;obtain⟨e0,F,I⟩:=O.cells;go_enter Tryz.func14,Tryz.ntmps14;go_wp2_with fail
 generalize (w.alloc (dX (.slice a n ca) (.slice b n cb) (.slice c n cc)))=W at *;refine(Dm.o _).af ?_;rintro e w1 ⟨rfl,rfl⟩;go_wp2_with fail
 refine(Fj.o _ A).af ?_;rintro e J ⟨rfl,ab⟩;replace O:=O.aa ab O.lt;replace A:=A.trans (ab.af A.size);clear ab e0 F I;go_upto_region 3 with fail
 have r8:Hid (∀V:World,ef J V ->du 36 #[.agg #[.slice a n ca,.slice b n cb,.slice c n cc]] V fun e w'=>e=.returned (.int .i64 (m:Nat))/\ef V w'):=fun V y=>LB.o V (A.trans (y.af A.size));have Fi:Hid (∀V:World,ef J V ->du 35 #[.slice c n cc,.int .i64 (n:Nat),.int .i64 (m:Nat)] V fun e w'=>e=.returned (.bool true)/\ef V w'):=fun V y=>Mc.o V (A.trans (y.af A.size));have HELD:Hid (∀u,ef J u ->u.cell? ⟨w.heap.size,0,none⟩=some (.slice a n ca)/\u.cell? ⟨w.heap.size,1,none⟩=some (.slice b n cb)/\u.cell? ⟨w.heap.size,2,none⟩=some (.slice c n cc)):=fun u h=>(O.aa h O.lt).cells;have H:Hid (ef J J.drew):=(au _ J).drew;refine gI (S:=fun u=>u.cell? ⟨w.heap.size,0,none⟩=some (.slice a n ca)/\u.cell? ⟨w.heap.size,1,none⟩=some (.slice b n cb)/\u.cell? ⟨w.heap.size,2,none⟩=some (.slice c n cc)) ao (HELD.o _ H.o) (fun x=>?_);generalize J.drew=u0 at *;refine ar 0 (.pointer (some ⟨w.heap.size,2,none⟩)) ?_;refine ar 1 (.slice c n cc) ?_;refine ar 2 (.int .i64 (n:Nat)) ?_;refine ar 3 (.pointer (some ⟨w.heap.size,0,none⟩)) ?_;refine ar 4 (.slice a n ca) ?_;refine ar 5 (.int .i64 (n:Nat)) ?_;refine ar 6 (.bool false) ?_;refine ar 7 (.bool false) ?_;refine ar 8 (.agg #[.slice a n ca,.slice b n cb,.slice c n cc]) ?_;refine aG [9] (cA ?_ aF);intro E K;go_simp;refine(r8.o _ H.o).af ?_;rintro e u1 ⟨rfl,q⟩
 replace H:=hid (H.o.trans (q.af H.o.size));refine K.o _ _ (HELD.o _ H.o) (fun g=>?_);clear K E x;have x:=g;clear g q;refine aG [10] (cA ?_ aF);intro E K;go_simp;refine(Il.o _).af ?_;rintro e u2 ⟨rfl,q⟩;replace H:=hid (H.o.trans (q.af H.o.size));refine K.o _ _ (HELD.o _ H.o) (fun g=>?_);clear K E x;have x:=g;clear g q;refine ar 11 (.bool false) ?_;refine ar 12 (.bool false) ?_;refine ar 13 (.bool false) ?_;refine ar 14 (.pointer (some ⟨w.heap.size,2,none⟩)) ?_;refine ar 15 (.slice c n cc) ?_;refine ar 16 (.pointer (some ⟨w.heap.size,0,none⟩)) ?_;refine ar 17 (.slice a n ca) ?_;refine ar 18 (.int .i64 (n:Nat)) ?_;refine ar 19 (.agg #[.slice a n ca,.slice b n cb,.slice c n cc]) ?_;refine aG [20] (cA ?_ aF);intro E K;go_simp;refine(r8.o _ H.o).af ?_;rintro e u3 ⟨rfl,q⟩;replace H:=hid (H.o.trans (q.af H.o.size));refine K.o _ _ (HELD.o _ H.o) (fun g=>?_);clear K E x;have x:=g;clear g q;refine aG [21] (cA ?_ aF);intro E K;go_simp;refine(Fi.o _ H.o).af ?_;rintro e d ⟨rfl,q⟩;replace H:=hid (H.o.trans (q.af H.o.size));refine K.o _ _ (HELD.o _ H.o) (fun g=>?_);clear K E x;have x:=g;clear g q;refine ar 22 (.bool false) ?_;refine ar 23 (.bool false) ?_;try simp only[gE,aP]
 refine dS ao ?_ _;clear x;have R:=hid (A.trans (H.o.af A.size));obtain⟨e0,F,I⟩:=(O.aa H.o O.lt).cells;have Z:=hid ((au d.heap.size d).alloc (aq _) (.cells #[.slice a n ca] 24));have Fz:=hid (Z.o.alloc Z.o.size (.cells #[.slice (some ⟨d.heap.size,0,none⟩) 1 1,.slice b n cb,.slice c n cc] 25))
 have tL:Hid (du 37 #[.slice (some ⟨d.heap.size+1,0,none⟩) 3 3] ((d.alloc (.cells #[.slice a n ca] 24)).alloc (.cells #[.slice (some ⟨d.heap.size,0,none⟩) 1 1,.slice b n cb,.slice c n cc] 25)) fun e w'=>∃v,e=.returned v/\uF w' ((d.alloc (.cells #[.slice a n ca] 24)).alloc (.cells #[.slice (some ⟨d.heap.size,0,none⟩) 1 1,.slice b n cb,.slice c n cc] 25)).heap.size v ([.slice a n ca]++z++D)/\Below ((d.alloc (.cells #[.slice a n ca] 24)).alloc (.cells #[.slice (some ⟨d.heap.size,0,none⟩) 1 1,.slice b n cb,.slice c n cc] 25)).heap.size ((d.alloc (.cells #[.slice a n ca] 24)).alloc (.cells #[.slice (some ⟨d.heap.size,0,none⟩) 1 1,.slice b n cb,.slice c n cc] 25)) w'):=by
  have ad:((d.alloc (.cells #[.slice a n ca] 24)).alloc (.cells #[.slice (some ⟨d.heap.size,0,none⟩) 1 1,.slice b n cb,.slice c n cc] 25)).heap[d.heap.size+1]? =some (.cells #[.slice (some ⟨d.heap.size,0,none⟩) 1 1,.slice b n cb,.slice c n cc] 25 (0,0)):=by
   have h:=dB (d.alloc (.cells #[.slice a n ca] 24)) (.cells #[.slice (some ⟨d.heap.size,0,none⟩) 1 1,.slice b n cb,.slice c n cc] 25);rwa [dE] at h
  have mU:(d.alloc (.cells #[.slice a n ca] 24)).heap[d.heap.size]? =some (.cells #[.slice a n ca] 24 (0,0)):=dB d _;have JW:d.heap.size<(d.alloc (.cells #[.slice a n ca] 24)).heap.size:=aE
  have S3:=((au (d.alloc (.cells #[.slice a n ca] 24)).heap.size _).alloc (aq _) (.cells #[.slice (some ⟨d.heap.size,0,none⟩) 1 1,.slice b n cb,.slice c n cc] 25)).block d.heap.size JW |>.trans mU;have ED:=(jb.o.aa R.o).aa Fz.o;have xr:=(iw.o.aa R.o).aa Fz.o;have h:=Yh (d.heap.size+1) (some ⟨d.heap.size,0,none⟩) b c 1 cb cc [.slice a n ca] z D _ aE (by rw[bG _ _ _ _ _ (0,0) ad];rfl) (by rw[bG _ _ _ _ _ (0,0) ad,Y.o];rfl) (by rw[bG _ _ _ _ _ (0,0) ad,U.o];rfl) (fun k hk=>?_) ED xr (fun e=>by cases e) tJ.o jd.o aE (by rw[Y.o];omega) (by rw[U.o];omega)
  ·exact h
  ·obtain rfl:k=0:=by simp at hk;omega
   refine⟨d.heap.size,0,rfl,by simp;omega,?_,a,n,ca,rfl⟩;rw[bG _ _ _ _ _ (0,0) S3];rfl
 have dR:=hid (R.o.trans (Fz.o.af R.o.size));obtain⟨x0,x1,x2⟩:=((O.aa H.o O.lt).aa Z.o (aU O.lt H.o.size)).cells;go_wp2_with fail
 generalize ((d.alloc (.cells #[.slice a n ca] 24)).alloc (.cells #[.slice (some ⟨d.heap.size,0,none⟩) 1 1,.slice b n cb,.slice c n cc] 25))=W5 at *;refine tL.o.af ?_;rintro e w6 ⟨v6,rfl,qP,eT⟩;have P:=hid (dR.o.trans (eT.af dR.o.size));have yV:([.slice a n ca]++z++D:List Value).length=1+n+n:=by rw[bK,bK,Y.o,U.o];rfl
 have Q:=qP;rw[uF,yV] at Q;obtain⟨a6,c6,rfl, -⟩:=jm Q;have HV:=hid Q
 have Vg:Hid (∀k (h:k<([.slice a n ca]++z++D:List Value).length),∃(f:Option Addr) (r:List Fr) (j:Nat),([.slice a n ca]++z++D:List Value)[k]=.slice f r.length j/\aW w f r/\dt r=true/\Go.Proofs.YtdmdhjmcoijpaaaGreatDoor.fw r<=10000/\r.length<=4):=fun k h=>by
  obtain⟨f,r,j,s,t,M⟩:=mo.o _ (bF h);obtain⟨p1,p2,p3⟩:=sB.o r M;exact⟨f,r,j,s,t,p1,p2,p3⟩
 have Ln:=hid yV;clear qP Q eT yV e0 F I x0 x1 x2;generalize ([.slice a n ca]++z++D:List Value)=X at *;obtain⟨N,hN⟩:∃N,N=1+n+n:=⟨_,rfl⟩;rw[<- hN] at HV Ln;rw[<- hN];have aO:N<=9:=al
 clear hN;go_wp2_with fail
 go_loopw [56] (fun iv wr=>∃i:Nat,i<=N/\iv=.int .i64 i/\Hid (ef w6 wr)) (fun iv _=>N - (intOf iv).toNat)
 case atStart=>exact⟨0,aV _,rfl,au _ _⟩
 case round=>
  obtain⟨i,hi,rfl,L⟩:=hrel;by_cases ay:i<N
  ·have J8:i<X.length:=by rw[Ln.o];exact ay
   obtain⟨g6,rfl,Kc,Km⟩:=Gd HV.o J8;have Ty:=(L.o.cell (p:=⟨g6,_,none⟩) Kc).trans Km;obtain⟨f,r,j,s,t,M,h4,h5⟩:=Vg.o i J8;rw[s] at Ty;have xm:=P.o.trans (L.o.af P.o.size);have zC:=hid (aa8 f j r wr (t.aa xm) h4 al);rw[M] at zC;clear s t M h4 Km xm;generalize r.length=rl at *;go_wp2_with fail
   refine zC.o.af ?_;rintro e w7 ⟨rfl,dw⟩;have tM:=hid (L.o.trans (dw.af L.o.size));clear dw;go_wp2;go_roundw
   case rel=>exact⟨i+1,al,b5,tM⟩
   case measure=>simp[intOf];omega
  ·obtain rfl:i=N:=al
   go_wp2;go_ret;exact⟨rfl,P.o.trans (L.o.af P.o.size)⟩
theorem ajS (a b c:Option Addr) (ca cb cc n m x B:Nat) (R2:List (List Fr)) (w:World) (R:gD w c R2) (h:Hu n m R2) (h1:1<=n) (k:n<=4) (l:x<m) (d:b6 w B (.slice a n ca) (.slice b n cb) (.slice c n cc)):
  du 42 #[.int .i64 (x:Nat),.pointer (some ⟨B,0,none⟩)] w (eS w (.bool false)):=by
 have r:=hid (Yj a b c n n ca cb cc n m R2 w R h h1 al);obtain⟨g,i,j⟩:=d.cells;clear R h;go_enter Tryz.func42,Tryz.ntmps42;go_wp2_with fail
 refine r.o.af ?_;rintro e p ⟨rfl,f⟩;go_wp2;go_ret;exact⟨by simp;omega,f⟩
theorem ajR (a b c d:Option Addr) (ca cb cc g n m:Nat) (l:List Fr) (R1 R2:List (List Fr)) (Q:List Nat) (w:World) (h:xS w a b c n m l R1 R2) (T:ES n m l R1 R2) (s:b=none ->cb=0) (y:c=none ->cc=0) (k:aJ w d (iL Q)) (r:∀x∈Q,x<m) (R:Q.length<=8):
  du 17 #[.agg #[.slice a n ca,.slice b n cb,.slice c n cc],.slice d Q.length g] w (eS w (.int .i64 0)):=by
 have A:=(au w.heap.size w).alloc (aq _) (dX (.slice a n ca) (.slice b n cb) (.slice c n cc));have O:=b6.new w (.slice a n ca) (.slice b n cb) (.slice c n cc);have J:=hid (ajP a b c ca cb cc n m l R1 R2 _ (h.aa A) T s y)
 have D:Hid (∀V:World,Below (w.alloc (dX (.slice a n ca) (.slice b n cb) (.slice c n cc))).heap.size (w.alloc (dX (.slice a n ca) (.slice b n cb) (.slice c n cc))) V ->du 28 #[.slice d Q.length g,.func (.func 42) #[] #[.pointer (some ⟨w.heap.size,0,none⟩)]] V fun e w'=>e=.returned (.bool false)/\ef V w'):=fun V i=>by
  have v:=A.trans (i.af A.size)
  have j:=acA d g 42 #[.pointer (some ⟨w.heap.size,0,none⟩)] (iL Q) (fun _=>false) V (k.aa v) (by rw[bI];omega) (enters_of Tryz.func42 ao rfl) (fun q L U p=>by
   obtain⟨x,K,rfl⟩:=ba.1 L;exact ajS a b c ca cb cc n m x w.heap.size R2 U ((h.sh.aa v).aa p) T.sh T.n1 T.n4 (r x K) ((O.aa i O.lt).aa p (aU O.lt i.size)))
  rw[bI] at j;have e:(iL Q).any (fun _=>false)=false:=aE
  rwa [e] at j
 obtain⟨E,F,I⟩:=O.cells;have H:=hid A;clear h T s y k r A;go_enter Tryz.func17,Tryz.ntmps17;go_wp2_with fail
 generalize (w.alloc (dX (.slice a n ca) (.slice b n cb) (.slice c n cc)))=W at *;refine J.o.af ?_;rintro e M ⟨rfl,t⟩;have f:=hid t;clear t E F I;go_wp2_with fail
 refine(D.o _ f.o).af ?_;rintro e P ⟨rfl,u⟩;have z:=hid (H.o.trans ((f.o.trans (u.af f.o.size)).af H.o.size));clear u;go_wp2;go_ret;exact⟨rfl,z.o⟩
def zq (l:List Fr) (R1 R2:List (List Fr)):Prop:=1<=l.length/\l.length<=4/\R1.length=l.length/\R2.length=l.length/\1<=(R2.headD []).length/\(R2.headD []).length<=4/\(∀r∈R1,r.length=l.length)/\∀r∈R2,r.length=(R2.headD []).length
def EP (l:List Fr) (R1 R2:List (List Fr)):Prop:=dt l=true/\(∀r∈R1,dt r=true)/\∀r∈R2,dt r=true
def C2 (l:List Fr) (R1 R2:List (List Fr)) (e:Int):Prop:=(e=0/\zq l R1 R2/\EP l R1 R2)∨(e=9/\zq l R1 R2/\¬EP l R1 R2)∨(e=8/\¬zq l R1 R2)
theorem C2.uniq {e f:Int} (h:C2 l R1 R2 e) (g:C2 l R1 R2 f):e=f:=by
 rcases h with ⟨rfl,a,b⟩ |⟨rfl,a,b⟩ |⟨rfl,a⟩<;>rcases g with ⟨rfl,c,d⟩ |⟨rfl,c,d⟩ |⟨rfl,c⟩<;>first |rfl |exact absurd b d |exact absurd d b |exact absurd a c |exact absurd c a
structure Pr (l:List Fr) (R1 R2:List (List Fr)):Prop where
 l1:l.length<=1000
 l2:R1.length<=140737488355328
 l3:R2.length<=140737488355328
 r1:∀r∈R1,r.length<=1000
 r2:∀r∈R2,r.length<=1000
 f1:fw l<=10000
 f2:∀r∈R1,fw r<=10000
 f3:∀r∈R2,fw r<=10000
theorem Ex (h:0<R.length):R.headD []=R[0]:=by
 cases R with
 |nil=>exact absurd h bd
 |cons r R=>rfl
theorem gD.raw' (h:gD w a R) (k:i<R.length):∃g o b c,a=some ⟨g,o,none⟩/\g<w.heap.size/\w.cell? ⟨g,o+i,none⟩=some (.slice b R[i].length c)/\aW w b R[i]:=by
 obtain⟨g,o,b,c,d,e,f,j,_⟩:=h i k;exact⟨g,o,b,c,d,e,f,j⟩
structure xR (w:World) (a b c:Option Addr) (l:List Fr) (R1 R2:List (List Fr)):Prop where
 st:aW w a l
 mv:gD w b R1
 sh:gD w c R2
theorem xR.aa {b c:Option Addr} (h:xR w a b c l R1 R2) (d:ef w w'):xR w' a b c l R1 R2:=⟨h.st.aa d,h.mv.aa d,h.sh.aa d⟩
variable {Rs:List PR} {Vs:List PV} {W':World}
theorem abG {W:World} {v:Value} {t:TypeId} {a:Nat} (b:ef w W) (h:W.ownsRow w.heap.size t a v n xs) (g:W.grownBy W' v.ownBlock):ef w W':=b.grown g b.size (fun k e=>RM h k e)
theorem dQ.set0 {W:World} (h:dQ W g x y z) (v:Value):dQ (W.setCell ⟨g,0,none⟩ v) g v y z:=jf W g 0 _ _ v h
theorem dQ.set1 {W:World} (h:dQ W g x y z) (v:Value):dQ (W.setCell ⟨g,1,none⟩ v) g x v z:=jf W g 1 _ _ v h
theorem dQ.set2 {W:World} (h:dQ W g x y z) (v:Value):dQ (W.setCell ⟨g,2,none⟩ v) g x y v:=jf W g 2 _ _ v h
def qE (Vs:List PV):List Vr:=Vs.map fun p=>(p.1,p.2.2)
def rL (Ls:List PL):List (List Int):=Ls.map (·.2)
def jE (Rs:List PR):List (List Fr):=Rs.map (·.2)
theorem vM.vars {W:World} {B:Nat} (h:vM W B x Vs):∃a c,x=.slice a (qE Vs).length c/\vL W a (qE Vs):=by
 have n:(qE Vs).length=Vs.length:=by simp[qE]
 obtain⟨a,c,rfl,_⟩:=jm h.1;refine⟨a,c,by rw[n],fun k f=>?_⟩;rw[n] at f;obtain⟨p,q⟩:=Xf Vs k f;obtain⟨g,rfl,r,i⟩:=Gd h.1 (j:=k*2) (by rw[Jc];omega);obtain⟨g',e,_,l⟩:=Gd h.1 (j:=k*2+1) (by rw[Jc];omega);cases e;rw[p] at i;rw[q] at l;have o:=h.2 Vs[k] (bF f);obtain⟨b,cb,m,t⟩:=o.st
 have s:Vs[k].2.2.length<=cb:=by
  rcases o.2 with ⟨d,v⟩ |⟨u,cap,y,d,_,_,w,_⟩
  ·omega
  ·rw[m] at d;injection d with _ _ h6;omega
 refine⟨g,0,b,cb,rfl,r,?_,?_,?_,?_⟩
 ·rw[bB,i];simp[qE]
 ·rw[bB,l,m];simp[qE]
 ·simpa [qE] using t
 ·simpa [qE] using s
theorem vN.pars {W:World} {B:Nat} {Ls:List PL} (h:vN W B y Ls):∃a c,y=.slice a (rL Ls).length c/\gW W a (rL Ls)/\xQ W a (rL Ls):=by
 have l:(rL Ls).length=Ls.length:=by simp[rL]
 obtain⟨a,c,rfl,_⟩:=jm h.1
 have t:∀k (d:k<Ls.length),∃g,a=some ⟨g,0,none⟩/\g<W.heap.size/\∃b cb,W.cell? ⟨g,k,none⟩=some (.slice b Ls[k].2.length cb)/\aJ W b Ls[k].2/\(b=none ->cb=0):=fun k d=>by
  obtain⟨g,rfl,f,e⟩:=Gd h.1 (j:=k) (by simpa using d);have r:=h.2 Ls[k] (bF d);obtain⟨b,cb,m,n⟩:=jm r;obtain⟨u,U,q,s⟩:=r.ints;rw[m] at q;cases q;refine⟨g,rfl,f,b,cb,?_,s,n⟩;rw[e];simp[m]
 refine⟨a,c,by rw[l],fun k d=>?_,fun k d g o b n' x v p n=>?_⟩
 ·rw[l] at d;obtain⟨g,rfl,f,b,cb,e,s,_⟩:=t k d;exact⟨g,0,b,cb,rfl,f,by rw[bB,e];simp[rL],by simpa [rL] using s⟩
 ·rw[l] at d;obtain⟨g',i,_,u,U,e,_,w⟩:=t k d;rw[v] at i;cases i;rw[bB,e] at p;cases p;exact w n
theorem kW.rows {W:World} {B:Nat} (h:kW W B z Rs):∃a c,z=.slice a (jE Rs).length c/\gD W a (jE Rs):=by
 have l:(jE Rs).length=Rs.length:=by simp[jE]
 obtain⟨a,c,rfl,_⟩:=jm h.1;refine⟨a,c,by rw[l],fun k e=>?_⟩;rw[l] at e;obtain⟨g,rfl,n,m⟩:=Gd h.1 (j:=k) (by simpa using e);have i:=h.2 Rs[k] (bF e);obtain⟨b,cb,f,s⟩:=i.fr
 have o:Rs[k].2.length<=cb:=by
  rcases i.2 with ⟨d,q⟩ |⟨p,cap,u,d,_,_,r,_⟩
  ·omega
  ·rw[f] at d;injection d with _ _ h6;omega
 exact⟨g,0,b,cb,rfl,n,by rw[bB,m];simp[jE,f],by simpa [jE] using s,by simpa [jE] using o⟩
variable {r:List Fr}
def iK (r:List Fr):List Fr:=r.map fun f=>qF (lD f)
def fC (R:List (List Fr)):List Fr:=(R.map iK).flatten
theorem CX (r:List Fr):(iK r).length=r.length:=by simp[iK]
theorem al4 (h:j<r.length):iK (r.take (j+1))=iK (r.take j)++[qF (lD r[j])]:=by
 rw[iF h,iK,eP];rfl
structure adO (R:List (List Fr)):Prop where
 l:R.length<=4
 r:∀r∈R,r.length<=4
 f:∀r∈R,fw r<=10000
theorem afm (n:Nat) (g:n<=100000) (w:World):
  du 79 #[.slice none 0 0,.int .i64 (n:Nat)] w fun e w'=>∃v,e=.returned v/\cH w' w.heap.size v []/\ef w w':=by
 obtain⟨i,b,c,j,z⟩:=dJ Tryz.infoFrac;by_cases h:n=0
 ·subst h;go_enter Tryz.func79,Tryz.ntmps79;go_wp2;go_ret;exact⟨_,rfl,⟨rfl,.inl ⟨rfl,rfl⟩⟩,au _ _⟩
 ·have d:(Builtin.firstCells i.size 0 (.slice none 0 0)).run Tryz.prog w.drew=.ok ([]:List Value).toArray w.drew:=run_firstCells_none w.drew i.size 0 0 0
  have U:∀t,(Builtin.append_ #[24,3] t #[.slice none 0 0,.int .i64 (n:Int)]).run Tryz.prog w=.ok (.slice (some ⟨w.heap.size,0,none⟩) (0+n) (grownCap w (0+n) 0 42)) (w.drew.alloc (.cells (([]:List Value).toArray++Builtin.zeroCells (Value.agg #[.bool false,.string ⟨#[]⟩,.string ⟨#[]⟩]).cells n++Builtin.zeroCells (Value.agg #[.bool false,.string ⟨#[]⟩,.string ⟨#[]⟩]).cells (grownCap w (0+n) 0 42 - (0+n))) 42)):=fun t=>
   WS w 24 3 t 42 i (.agg #[.bool false,.string ⟨#[]⟩,.string ⟨#[]⟩]) .i64 .i64 Tryz.underlying24 Tryz.underlying3 b c none 0 0 [] d n al al al al (by rw[z];omega) (FN al (by rw[z];omega))
  have L:0+n<=grownCap w (0+n) 0 42:=grownCap_ge w _ _ _;have p:=grownCap_le_maxLen w (0+n) 0 42 (by unfold maxLen;omega);rw[bB] at U L p;obtain⟨G,a⟩:∃G,G=grownCap w n 0 42:=⟨_,rfl⟩;rw[<- a] at U L p;have f:=hid p;have D:G<=9223372036854775807:=by unfold maxLen at p;omega
  have m:(0:Int)<(n:Int):=al
  clear d a p;go_enter Tryz.func79,Tryz.ntmps79;go_wp2_with (at_builtin;refine Lib.wpList_append_run _ rfl _ _ _ _ rfl _ _ rfl rfl _ _ (U _) ?_)
  go_ret;refine⟨_,rfl,⟨rfl,.inr ⟨w.heap.size,G,_,rfl,aq _,dB w.drew _,aV _,f.o,?_,by simp[jq]⟩⟩,((au _ w).drew).alloc (aq _) _⟩;simp[size_zeroCells];omega
theorem cH.putU {B:Nat} (h:cH w B (.slice (some ⟨g,0,none⟩) n cap) l) (k:Nat) (f:Fr):cH (((w.setCell ⟨g,k*3,none⟩ (.bool f.1)).setCell ⟨g,k*3+1,none⟩ (.string f.2.1)).setCell ⟨g,k*3+2,none⟩ (.string f.2.2)) B (.slice (some ⟨g,0,none⟩) n cap) (l.set k f):=by
 obtain⟨o,a⟩:=h;rcases a with ⟨e,_⟩ |⟨g',p,r,e,j,m,b,c,d,i⟩
 ·cases e
 ·injection e with e1 e2 e3;injection e1 with e1;injection e1 with e1;subst e1 e2 e3;refine⟨by rw[KO,kg];omega,.inr ⟨g,cap,((r.setIfInBounds (k*3) (.bool f.1)).setIfInBounds (k*3+1) (.string f.2.1)).setIfInBounds (k*3+2) (.string f.2.2),by rw[kg],j,Cs _ _ _ _ _ _ (Cs _ _ _ _ _ _ (Cs _ _ _ _ _ _ m)),by rw[kg];exact b,c,by simp[d],?_⟩⟩;rw[<- Uy, <- i,kg];simp only[Array.toList_setIfInBounds,List.take_set]
theorem Yx {B:Nat} (h:cH w B (.slice (some ⟨g,0,none⟩) n cap) l) (j:k<l.length):w.cell? ⟨g,k*3,none⟩=some (.bool l[k].1)/\w.cell? ⟨g,k*3+1,none⟩=some (.string l[k].2.1)/\w.cell? ⟨g,k*3+2,none⟩=some (.string l[k].2.2)/\w.frozen? ⟨g,k*3,none⟩=false/\w.frozen? ⟨g,k*3+1,none⟩=false/\w.frozen? ⟨g,k*3+2,none⟩=false:=by
 obtain⟨m,f⟩:=h;rcases f with ⟨e,_⟩ |⟨g',s,u,e,r,a,o,p,q,i⟩
 ·cases e
 ·injection e with e1 e2 e3;injection e1 with e1;injection e1 with e1;subst e1 e2 e3;obtain⟨b,c,d⟩:=KP l k j;rw[<- i] at b c d;refine⟨?_,?_,?_,jw w g _ _ _ a,jw w g _ _ _ a,jw w g _ _ _ a⟩
  ·rw[bG w g _ _ _ (0,0) a, <- uU];rw[pI] at b;split at b
   ·exact b
   ·cases b
  ·rw[bG w g _ _ _ (0,0) a, <- uU];rw[pI] at c;split at c
   ·exact c
   ·cases c
  ·rw[bG w g _ _ _ (0,0) a, <- uU];rw[pI] at d;split at d
   ·exact d
   ·cases d
def i6 (R:List (List Fr)):List Fr:=R.flatten
theorem akX (h:i<R.length):i6 (R.take (i+1))=i6 (R.take i)++R[i]:=by
 rw[iF h,i6,List.flatten_append];simp[i6]
theorem abO (h:∀r∈R,r.length<=4):(i6 R).length<=4*R.length:=by
 induction R with
 |nil=>simp[i6]
 |cons r R ih=>
  have b:=ih fun x a=>h x (dF _ a);have c:=h r dp;have e:i6 (r::R)=r++i6 R:=by simp[i6]
  rw[e,bK,ew];omega
theorem al5 (R:List (List Fr)):iK (i6 R)=fC R:=by simp[iK,i6,fC,List.map_flatten];rfl
theorem afp (a:Option Addr) (ca:Nat) (R:List (List Fr)) (w:World) (h:gD w a R) (m:adO R) (h1:∀r∈R,1<=r.length):
  du 39 #[.slice a R.length ca] w fun e w'=>∃v,e=.returned v/\cH w' w.heap.size v (i6 R)/\ef w w':=by
 obtain⟨n,q⟩:∃n,R.length=n:=⟨_,rfl⟩;have mW:n<=4:=q▸m.l
 have P:∀i,i< n ->∃(g o g' o' c:Nat) (l:List Fr),a=some ⟨g,o,none⟩/\g<w.heap.size/\w.cell? ⟨g,o+i,none⟩=some (.slice (some ⟨g',o',none⟩) l.length c)/\aW w (some ⟨g',o',none⟩) l/\l.length<=4/\i6 (R.take (i+1))=i6 (R.take i)++l:=by
  intro i X;have s:i<R.length:=al
  obtain⟨g,o,ai,c,e,j,d,f⟩:=h.raw' s;have E:=bF s;have ab:=h1 _ E;obtain⟨g',o',V,_⟩:=f 0 ab;subst V;exact⟨g,o,g',o',c,R[i],e,j,d,f,m.r _ E,akX s⟩
 have S:=hid P
 have O:Hid (∀i,(i6 (R.take i)).length<=16):=fun i=>by
  have h1:=abO (R:=R.take i) fun x Z=>m.r x (QK Z);rw[eE] at h1;omega
 have y:i6 R=i6 (R.take n):=by rw[<- q,jR]
 rw[y,q];have z:i6 (R.take 0)=[]:=by simp[i6]
 clear P h m h1 q y;obtain⟨F,D⟩:∃F:Nat ->List Fr,F=fun i=>i6 (R.take i):=⟨_,rfl⟩;have u:∀i,i6 (R.take i)=F i:=fun i=>by rw[D]
 simp only[u] at S O z⊢;clear u D;go_enter Tryz.func39,Tryz.ntmps39;go_wp2_with fail
 go_loopw [3,11] (fun sv iv wr=>∃i:Nat,i<=n/\iv=.int .i64 i/\sv=.int .i64 ((F i).length:Nat)/\Hid (ef w wr)) (fun _ iv _=>n - (intOf iv).toNat)
 case atStart=>exact⟨0,al,rfl,by rw[z];rfl,au _ _⟩
 case round=>
  obtain⟨i,X,rfl,rfl,H⟩:=hrel;by_cases ae:i<n
  ·obtain⟨g,o,g',o',c,l,rfl,j,d,I,Y,f⟩:=S.o i ae;have ad:=(H.o.cell (p:=⟨g,o+i,none⟩) j).trans d;have A:=O.o i;(have aj:IntKind.i64.wrap (((F i).length:Int)+(l.length:Int))=((F i).length:Int)+(l.length:Int):=by rw[fj];omega);(have Q:Hid (((F (i+1)).length:Int)=((F i).length:Int)+(l.length:Int)):=by show _=_;rw[f,bK];exact yB _ _);(have nZ:(0:Int)<=((F i).length:Int)+(l.length:Int):=al);clear f d I;go_wp2;go_roundw
   case rel=>exact⟨i+1,al,b5,by rw[Q.o],H⟩
   case measure=>simp[intOf];omega
  ·obtain rfl:i=n:=al
   have A:=O.o i;go_wp2_with fail
   refine(afm (F i).length al _).af ?_;rintro e w1 ⟨v1,rfl,L,J⟩;have t:=hid (H.o.trans (J.af H.o.size));have b:=hid (L.lower H.o.size);clear L J;rw[<- z] at b;go_wp2_with fail
   go_loopw [6,27] (fun lv kv wr=>∃k:Nat,k<=i/\kv=.int .i64 k/\Hid (cH wr w.heap.size lv (F k))/\Hid (ef w wr)) (fun _ kv _=>i - (intOf kv).toNat)
   case atStart=>exact⟨0,al,rfl,b,t⟩
   case round=>
    clear b t H;obtain⟨k,m,rfl,b,H⟩:=hrel;by_cases ah:k<i
    ·obtain⟨g,o,g',o',c,l,rfl,j,d,I,Y,f⟩:=S.o k ah;have ad:=(H.o.cell (p:=⟨g,o+k,none⟩) j).trans d;have A:=O.o k;have U:=hid (I.aa H.o);have T:=hid f;clear f d I;go_wp2_with (at_builtin;refine ad3 rfl _ _ rfl w.heap.size _ (F k) l rfl b.o g' o' c rfl U.o al H.o.size ?_;intro v3 w3 M K;have kC:Hid (cH w3 w.heap.size v3 (F (k+1))):=(by rw[T.o];exact M);have iE:=hid (H.o.grown K H.o.size (fun x e=>b.o.own x e));clear M K)
     go_roundw
     case rel=>exact⟨k+1,al,b5,kC,iE⟩
     case measure=>simp[intOf];omega
    ·obtain rfl:k=i:=al
     go_wp2;go_ret;exact⟨_,rfl,b.o,H.o⟩
theorem ZB (c:UInt8) (i:Nat) (h:i<10) (w:World):
  du 16 #[.string ⟨#[c]⟩,.int .i64 (i:Nat)] w fun e w'=>e=.returned (.string (kM c i))/\w'=w:=by
 have H:=hid (fun U:World=>Tryz.strconv_Itoa_small i al U);have d:(⟨(Lib.decDigits i).toArray⟩:ByteArray).size=1:=alO h;go_enter Tryz.func16,Tryz.ntmps16;go_wp2_with fail
 refine(H.o _).af ?_;rintro e a ⟨rfl,rfl⟩;go_wp2;go_ret;exact⟨rfl,rfl⟩
def uV (n m:Nat):Nat ->List Vr
 |0=>[]
 |t+1=>uV n m t++[(kM 115 t,fS n),(kM 111 t,fS m)]
def uL:Nat ->List (List Int)
 |0=>[]
 |t+1=>uL t++[if t=0 then[] else[2*(t:Int) - 2],[2*(t:Int)]]
def uR (l:List Fr) (R1 R2:List (List Fr)):Nat ->List (List Fr)
 |0=>[]
 |t+1=>uR l R1 R2 t++[if t=0 then fC [l] else fC R1,fC R2]
theorem sJ (n m:Nat):∀t,(uV n m t).length=2*t
 |0=>rfl
 |t+1=>by rw[uV,bK,sJ n m t];simp;omega
theorem DL:∀t,(uL t).length=2*t
 |0=>rfl
 |t+1=>by rw[uL,bK,DL t];simp;omega
theorem BR (l:List Fr) (R1 R2:List (List Fr)):∀t,(uR l R1 R2 t).length=2*t
 |0=>rfl
 |t+1=>by rw[uR,bK,BR l R1 R2 t];simp;omega
structure US (w W:World) (G:Nat) (s e t:Value) (x y z:Value) (Vs:List PV) (Ls:List PL) (Rs:List PR):Prop where
 hb:b6 W w.heap.size s e t
 res:dQ W (w.heap.size+1) (.slice none 0 0) (.slice none 0 0) (.slice none 0 0)
 box:dQ W (G) x y z
 vs:vM W w.heap.size x Vs
 ls:vN W w.heap.size y Ls
 rs:kW W w.heap.size z Rs
 bel:ef w W
 hG:w.heap.size+2<=G
theorem US.step {W:World} {G:Nat} {s e t:Value} {Ls:List PL} (h:US w W G s e t x y z Vs Ls Rs) (b:ef W W'):US w W' G s e t x y z Vs Ls Rs:=
 ⟨h.hb.aa b h.hb.lt,h.res.aa b h.res.lt,h.box.aa b h.box.lt,h.vs.keep (.aa b) (.aa b),h.ls.keep (.aa b) (.aa b),h.rs.keep (.aa b) (.aa b),h.bel.trans (b.af h.bel.size),h.hG⟩
theorem Sq {W:World} {v:Value} {t:TypeId} {a:Nat} (b:ef w W) (h:W.ownsRow w.heap.size t a v n xs) (g:W.grownBy W' v.ownBlock):ef w W':=b.grown g b.size (fun k e=>RM h k e)
theorem US.out3 {W:World} {G:Nat} {s e t:Value} {Ls:List PL} (h:US w W G s e t x y z Vs Ls Rs):
  dQ (((W.setCell ⟨w.heap.size+1,0,none⟩ x).setCell ⟨w.heap.size+1,1,none⟩ y).setCell ⟨w.heap.size+1,2,none⟩ z) (w.heap.size+1) x y z/\vM (((W.setCell ⟨w.heap.size+1,0,none⟩ x).setCell ⟨w.heap.size+1,1,none⟩ y).setCell ⟨w.heap.size+1,2,none⟩ z) w.heap.size x Vs/\vN (((W.setCell ⟨w.heap.size+1,0,none⟩ x).setCell ⟨w.heap.size+1,1,none⟩ y).setCell ⟨w.heap.size+1,2,none⟩ z) w.heap.size y Ls/\kW (((W.setCell ⟨w.heap.size+1,0,none⟩ x).setCell ⟨w.heap.size+1,1,none⟩ y).setCell ⟨w.heap.size+1,2,none⟩ z) w.heap.size z Rs/\ef w (((W.setCell ⟨w.heap.size+1,0,none⟩ x).setCell ⟨w.heap.size+1,1,none⟩ y).setCell ⟨w.heap.size+1,2,none⟩ z):=by
 have b:=h.res.set0 x;have c:=b.set1 y;have d:=c.set2 z;have k:∀a:TypeId,a≠33 ->aL a W (((W.setCell ⟨w.heap.size+1,0,none⟩ x).setCell ⟨w.heap.size+1,1,none⟩ y).setCell ⟨w.heap.size+1,2,none⟩ z):=fun a n=>((aL.set h.res n 0 x).trans (aL.set b n 1 y)).trans (aL.set c n 2 z);refine⟨d,h.vs.keep (k _ bd) (k _ bd),h.ls.keep (k _ bd) (k _ bd),h.rs.keep (k _ bd) (k _ bd),?_⟩;exact((h.bel.setCell (p:=⟨w.heap.size+1,0,none⟩) (by show w.heap.size<=w.heap.size+1;omega) _).setCell (p:=⟨w.heap.size+1,1,none⟩) (by show w.heap.size<=w.heap.size+1;omega) _).setCell (p:=⟨w.heap.size+1,2,none⟩) (by show w.heap.size<=w.heap.size+1;omega) _
variable {T:Nat}
theorem M4 (f:Nat ->Rat):∀n,eA f n=bq f n
 |0=>rfl
 |n+1=>by rw[eA,bq,M4 f n]
theorem YI (a b c:Rat):a*(b*c)=b*(a*c):=by rw[<- jx,zQ a b,jx]
theorem aac (V:List Vr) (L:List (List Int)) (R:List (List Fr)) (l:List (Nat×Nat)):mQ V L R l=eB (aw V) (List.range V.length) (fun g=>eh l g*gO V L R g V.length) (fun _=>0):=by
 rw[<- R9 _ _ _ BD,mQ];refine gN fun k _=>?_
 have e:over (List.range V.length) (fun _=>0) (aY (aw V) (List.range V.length) k)=aY (aw V) (List.range V.length) k:=by
  funext u
  rw[over];split
  ·rfl
  ·next h=>exact(EO h).symm
 rw[e]
theorem Xj (n m:Nat):∀T t,t< T ->(uV n m T)[2*t]? =some (kM 115 t,fS n)/\(uV n m T)[2*t+1]? =some (kM 111 t,fS m)
 |T+1,t,h=>by
  have l:=sJ n m T;rw[uV];rcases cT t T with a |a
  ·rw[BG al,BG al];exact Xj n m T t a
  ·obtain rfl:t=T:=al
   rw[uQ al,uQ al,l,mF,show 2*t+1 - 2*t=1 by omega];exact⟨rfl,rfl⟩
theorem DM:∀T t,t< T ->(uL T)[2*t]? =some (if t=0 then[] else[2*(t:Int) - 2])/\(uL T)[2*t+1]? =some [2*(t:Int)]
 |T+1,t,h=>by
  have l:=DL T;rw[uL];rcases cT t T with a |a
  ·rw[BG al,BG al];exact DM T t a
  ·obtain rfl:t=T:=al
   rw[uQ al,uQ al,l,mF,show 2*t+1 - 2*t=1 by omega];exact⟨rfl,rfl⟩
theorem Je (l:List Fr) (R1 R2:List (List Fr)):∀T t,t< T ->(uR l R1 R2 T)[2*t]? =some (if t=0 then fC [l] else fC R1)/\(uR l R1 R2 T)[2*t+1]? =some (fC R2)
 |T+1,t,h=>by
  have b:=BR l R1 R2 T;rw[uR];rcases cT t T with a |a
  ·rw[BG al,BG al];exact Je l R1 R2 T t a
  ·obtain rfl:t=T:=al
   rw[uQ al,uQ al,b,mF,show 2*t+1 - 2*t=1 by omega];exact⟨rfl,rfl⟩
theorem z6 {t:Nat} (h:t<T):sz (aw (uV n m T)) (2*t)=n/\sz (aw (uV n m T)) (2*t+1)=m:=by
 obtain⟨a,b⟩:=Xj n m T t h;refine⟨?_,?_⟩
 ·rw[sz,aw,lU,a];exact Ja n
 ·rw[sz,aw,lU,b];exact Ja m
structure jM (n m T:Nat) (l:List Fr) (R1 R2:List (List Fr)) (h:HC) (q:Nat ->Nat) (sw:Nat ->Nat ->Rat):Prop where
 s:h.s=n
 L:h.L=T
 st:∀i,i< n ->aQ (bD (fC [l]) i)=h.st i
 mv:∀i,i< n ->∀j,j< n ->aQ (bD (fC R1) (i*n+j))=h.mv i j
 sg:∀i,i< n ->∀x,x< m ->aQ (bD (fC R2) (i*m+x))=sw i x
 sh:∀t,t< T ->∀i,i< n ->h.sh t i=sw i (q t)
 q:∀t,t< T ->q t<m
section
variable {n m T : Nat} {l : List Fr} {R1 R2 : List (List Fr)} {h : HC} {q : Nat -> Nat} {sw : Nat -> Nat -> Rat}
def ud (h:HC) (t:Nat) (g:Nat ->Nat) (y:Nat):Rat:=if t=0 then h.st y else h.mv (g (2*t - 2)) y
theorem jM.state (k:jM n m T l R1 R2 h q sw) {t:Nat} (c:t<T) {g:Nat ->Nat} (f:∀u,g u<sz (aw (uV n m T)) u):aQ (fg (uV n m T) (uL T) (uR l R1 R2 T) g (2*t))=ud h t g (g (2*t)):=by
 obtain⟨e,j⟩:=z6 (n:=n) (m:=m) c;have b:=f (2*t);rw[e] at b;rw[fg,bY,bY,(Je l R1 R2 T t c).1,(DM T t c).1,qL,e];by_cases a:t=0
 ·subst a;rw[ud,aA rfl];show aQ (bD (fC [l]) (0*n+g 0))=_;rw[jO,bB];exact k.st _ b
 ·have d:=f (2*(t - 1));rw[(z6 (n:=n) (m:=m) (show t - 1<T by omega)).1,show 2*(t - 1)=2*t - 2 by omega] at d;rw[ud,aD a];simp only[a,if_false,mE]
  have i:ag [2*(t:Int) - 2]=[2*t - 2]:=by
   show [(2*(t:Int) - 2).toNat]=_;congr 1
   omega
  rw[i];show aQ (bD (fC R1) ((0*sz _ (2*t - 2)+g (2*t - 2))*n+g (2*t)))=_;rw[jO,bB];exact k.mv _ d _ b
theorem jM.sign (k:jM n m T l R1 R2 h q sw) {t:Nat} (a:t<T) {g:Nat ->Nat} (d:∀u,g u<sz (aw (uV n m T)) u):aQ (fg (uV n m T) (uL T) (uR l R1 R2 T) g (2*t+1))=sw (g (2*t)) (g (2*t+1)):=by
 obtain⟨f,e⟩:=z6 (n:=n) (m:=m) a;have b:=d (2*t);have c:=d (2*t+1);rw[f] at b;rw[e] at c;rw[fg,bY,bY,(Je l R1 R2 T t a).2,(DM T t a).2,qL,e]
 have i:ag [2*(t:Int)]=[2*t]:=by
  show [(2*(t:Int)).toNat]=_;congr 1
 simp only[mE];rw[i];show aQ (bD (fC R2) ((0*sz _ (2*t)+g (2*t))*m+g (2*t+1)))=_;rw[jO,bB];exact k.sg _ b _ c
theorem Jm {x:Int}:ag [x]=[x.toNat]:=rfl
theorem Q3 {g:Nat ->Nat} {x:Nat}:∀k,k<=v ->k<=2*T ->gO (uV n m T) (uL T) (uR l R1 R2 T) (aM g v x) k=gO (uV n m T) (uL T) (uR l R1 R2 T) g k
 |0,_,_=>rfl
 |k+1,h1,h2=>by
  rw[gO,gO,Q3 k al al];congr 2
  refine aaf fun u h=>?_
  have b:u≠v:=by
   rcases h with rfl |h
   ·omega
   ·rcases WJ k with e |e
    ·obtain⟨t,rfl⟩:∃t,k=2*t:=⟨k/2,al⟩;rw[bY,(DM T t al).1] at h;by_cases a:t=0
     ·simp only[a,zN,mE] at h;cases h
     ·simp only[a,if_false,mE,Jm,dT] at h;omega
    ·obtain⟨t,rfl⟩:∃t,k=2*t+1:=⟨k/2,al⟩;rw[bY,(DM T t al).2] at h;simp only[mE,Jm,dT] at h;omega
  rw[aM,aD b]
def di (q:Nat ->Nat) (t:Nat):List (Nat×Nat):=(List.range t).map fun u=>(2*u+1,q u)
theorem ak9 (q:Nat ->Nat) (t:Nat) (g:Nat ->Nat):eh (di q (t+1)) g=eh (di q t) g*oX (2*t+1) (q t) g:=by
 rw[di,qC,eP,U3];congr 1
 show oX _ _ g*1=_;rw[rB]
theorem abY {q:Nat ->Nat} {t x:Nat} (b:∀u,u< t ->2*u+1≠v) (g:Nat ->Nat):eh (di q t) (aM g v x)=eh (di q t) g:=Pm (fun p h=>by
 obtain⟨u,a,rfl⟩:=ba.1 h;exact b u (cI.1 a)) g
theorem jM.peel (k:jM n m T l R1 R2 h q sw) {t:Nat} (a:t<T) (J:(Nat ->Nat) ->Rat) (H:Nat ->Rat) (i:∀g v x,v=2*t∨v=2*t+1 ->J (aM g v x)=J g) (f:Nat ->Nat) (w:∀u,f u<sz (aw (uV n m T)) u):
  eB (aw (uV n m T)) (List.range (2*t+2)) (fun g=>eh (di q (t+1)) g*gO (uV n m T) (uL T) (uR l R1 R2 T) g (2*t+2)*(J g*H (g (2*t)))) f
   =eB (aw (uV n m T)) (List.range (2*t)) (fun g=>eh (di q t) g*gO (uV n m T) (uL T) (uR l R1 R2 T) g (2*t)*(J g*bq (fun y=>ud h t g y*h.sh t y*H y) n)) f:=by
 obtain⟨c,d⟩:=z6 (n:=n) (m:=m) a;rw[show 2*t+2=2*t+1+1 by omega,qC,qC,DX,DX];refine B3 (fun g z=>?_) _ _ w;rw[c]
 have E:∀y,y< n ->bq (fun x=>eh (di q (t+1)) (aM (aM g (2*t) y) (2*t+1) x)*gO (uV n m T) (uL T) (uR l R1 R2 T) (aM (aM g (2*t) y) (2*t+1) x) (2*t+1+1)*(J (aM (aM g (2*t) y) (2*t+1) x)*H (aM (aM g (2*t) y) (2*t+1) x (2*t)))) (sz (aw (uV n m T)) (2*t+1))=eh (di q t) g*gO (uV n m T) (uL T) (uR l R1 R2 T) g (2*t)*J g*(ud h t g y*h.sh t y*H y):=fun y j=>by
  rw[d]
  have D:∀u,aM g (2*t) y u<sz (aw (uV n m T)) u:=fun u=>by
   rw[aM];split
   ·next e=>subst e;rw[c];exact j
   ·exact z u
  have F:∀x,x< m ->eh (di q (t+1)) (aM (aM g (2*t) y) (2*t+1) x)*gO (uV n m T) (uL T) (uR l R1 R2 T) (aM (aM g (2*t) y) (2*t+1) x) (2*t+1+1)*(J (aM (aM g (2*t) y) (2*t+1) x)*H (aM (aM g (2*t) y) (2*t+1) x (2*t)))=(if x=q t then 1 else 0)*(eh (di q t) g*gO (uV n m T) (uL T) (uR l R1 R2 T) g (2*t)*J g*(ud h t g y*sw y x*H y)):=fun x A=>by
   have o:∀u,aM (aM g (2*t) y) (2*t+1) x u<sz (aw (uV n m T)) u:=fun u=>by
    rw[aM];split
    ·next e=>subst e;rw[d];exact A
    ·exact D u
   have p:aM (aM g (2*t) y) (2*t+1) x (2*t)=y:=by
    rw[aM,aD al,aM,aA rfl]
   (have b:aM (aM g (2*t) y) (2*t+1) x (2*t+1)=x:=by rw[aM,aA rfl]);(have r:oX (2*t+1) (q t) (aM (aM g (2*t) y) (2*t+1) x)=if x=q t then 1 else 0:=by rw[oX,b])
   have s:ud h t (aM (aM g (2*t) y) (2*t+1) x) y=ud h t g y:=by
    rw[ud,ud];split
    ·rfl
    ·rw[aM,aD al,aM,aD al]
   rw[ak9,abY al,abY al,gO,gO,Q3 (2*t) al al,Q3 (2*t) al al,k.state a o,k.sign a o,p,b,r,s,i _ _ _ (.inr rfl),i _ _ _ (.inl rfl)];simp only[jx,zQ,YI]
  rw[gN F,Jq (k.q t a),k.sh t a y j]
 rw[gN E,yI,jx]
theorem jM.front (k:jM n m T l R1 R2 h q sw) (f:Nat ->Nat) (b:∀u,f u<sz (aw (uV n m T)) u):∀t,t< T ->∀H:Nat ->Rat,
  eB (aw (uV n m T)) (List.range (2*t+2)) (fun g=>eh (di q (t+1)) g*gO (uV n m T) (uL T) (uR l R1 R2 T) g (2*t+2)*H (g (2*t))) f=bq (fun i=>h.alp t i*H i) n
 |0,ht,H=>by
  have a:=k.peel ht (fun _=>1) H (fun _ _ _ _=>rfl) f b;simp only[sF] at a;rw[a];show 1*1*bq _ n=_;rw[sF,sF];exact gN fun i j=>by rw[ud,aA rfl,HC.alp]
 |t+1,ht,H=>by
  have a:=k.peel ht (fun _=>1) H (fun _ _ _ _=>rfl) f b;simp only[sF] at a;rw[a];have d:=k.front f b t al (fun i=>bq (fun y=>h.mv i y*h.sh (t+1) y*H y) n)
  have e:(fun g:Nat ->Nat=>eh (di q (t+1)) g*gO (uV n m T) (uL T) (uR l R1 R2 T) g (2*(t+1))*bq (fun y=>ud h (t+1) g y*h.sh (t+1) y*H y) n)=fun g=>eh (di q (t+1)) g*gO (uV n m T) (uL T) (uR l R1 R2 T) g (2*t+2)*(fun i=>bq (fun y=>h.mv i y*h.sh (t+1) y*H y) n) (g (2*t)):=by
   funext g
   rw[show 2*(t+1)=2*t+2 by omega];congr 1
  rw[show 2*(t+1)=2*t+2 by omega] at *;rw[e,d]
  have c:∀i,i< n ->h.alp t i*bq (fun y=>h.mv i y*h.sh (t+1) y*H y) n=bq (fun y=>h.alp t i*h.mv i y*(h.sh (t+1) y*H y)) n:=fun i _=>by
   rw[<- yI];exact gN fun y _=>by simp only[jx]
  rw[gN c,M5];refine gN fun y _=>?_;rw[HC.alp,k.s,M4,jx];have:=yI (h.sh (t+1) y*H y) (fun i=>h.alp t i*h.mv i y) n;rw[zQ _ (h.sh (t+1) y*H y), <- this];exact gN fun i _=>zQ _ _
theorem jM.back (k:jM n m T l R1 R2 h q sw) (f:Nat ->Nat) (a:∀u,f u<sz (aw (uV n m T)) u):∀j t,t+j+1=T ->∀J:(Nat ->Nat) ->Rat,(∀g v x,2*t+2<=v ->J (aM g v x)=J g) ->
  eB (aw (uV n m T)) (List.range (2*T)) (fun g=>eh (di q T) g*gO (uV n m T) (uL T) (uR l R1 R2 T) g (2*T)*J g) f=eB (aw (uV n m T)) (List.range (2*t+2)) (fun g=>eh (di q (t+1)) g*gO (uV n m T) (uL T) (uR l R1 R2 T) g (2*t+2)*(J g*h.bet j (g (2*t)))) f
 |0,t,e,J,_=>by
  obtain rfl:T=t+1:=al
  rw[show 2*(t+1)=2*t+2 by omega];congr 1
  funext g
  rw[HC.bet,rB]
 |j+1,t,e,J,hJ=>by
  rw[k.back f a j (t+1) al J (fun g v x b=>hJ g v x al),k.peel al J (h.bet j) (fun g v x b=>hJ g v x al) f a];rw[show 2*(t+1)=2*t+2 by omega];congr 1
  funext g
  congr 2
  rw[HC.bet,k.s,M4,k.L];refine gN fun y _=>?_;rw[ud,aD al,show 2*(t+1) - 2=2*t by omega,show T - 1 - j=t+1 by omega]
theorem jM.all (k:jM n m T l R1 R2 h q sw) (c:1<=T) (p:∀u,0<sz (aw (uV n m T)) u):mQ (uV n m T) (uL T) (uR l R1 R2 T) (di q T)=h.all:=by
 rw[aac,sJ];have a:=k.back (fun _=>0) p 0 (T - 1) al (fun _=>1) (fun _ _ _ _=>rfl);simp only[rB,HC.bet] at a;rw[a];have b:=k.front (fun _=>0) p (T - 1) al (fun _=>1);simp only[rB] at b;rw[b,HC.all,k.s,k.L,M4]
theorem jM.one (k:jM n m T l R1 R2 h q sw) (p:∀u,0<sz (aw (uV n m T)) u) {t:Nat} (o:t<T) (j:i<n):mQ (uV n m T) (uL T) (uR l R1 R2 T) ((2*t,i)::di q T)=h.alp t i*h.bet (T - 1 - t) i:=by
 rw[aac,sJ]
 have d:=k.back (fun _=>0) p (T - 1 - t) t al (oX (2*t) i) (fun g v x r=>by
  have e:aM g v x (2*t)=g (2*t):=by rw[aM,aD al]
  rw[oX,oX,e])
 have a:(fun g:Nat ->Nat=>eh ((2*t,i)::di q T) g*gO (uV n m T) (uL T) (uR l R1 R2 T) g (2*T))=fun g=>eh (di q T) g*gO (uV n m T) (uL T) (uR l R1 R2 T) g (2*T)*oX (2*t) i g:=by
  funext g
  rw[eh,jx,zQ]
 rw[a,d];have f:=k.front (fun _=>0) p t o (fun y=>(if y=i then 1 else 0)*h.bet (T - 1 - t) y);have b:(fun g:Nat ->Nat=>eh (di q (t+1)) g*gO (uV n m T) (uL T) (uR l R1 R2 T) g (2*t+2)*(oX (2*t) i g*h.bet (T - 1 - t) (g (2*t))))=fun g=>eh (di q (t+1)) g*gO (uV n m T) (uL T) (uR l R1 R2 T) g (2*t+2)*(fun y=>(if y=i then 1 else 0)*h.bet (T - 1 - t) y) (g (2*t)):=rfl;rw[b,f];have c:∀y,y< n ->h.alp t y*((if y=i then 1 else 0)*h.bet (T - 1 - t) y)=(if y=i then 1 else 0)*(h.alp t y*h.bet (T - 1 - t) y):=fun y _=>YI _ _ _;rw[gN c,Jq j]
end
theorem aeu {l:List Int} (a:Up l n):fT l n=true:=by
 rw[fT,iQ];intro i b;have h:=cI.1 b;rw[oU,gY,getD_eq h];refine⟨(a.each i h).1,(a.each i h).2,fun c=>?_⟩;rw[getD_eq (show i - 1<l.length by omega)];exact a.lt (i - 1) i h al
theorem Pd (h:∀r∈R,r.length=k):(fC R).length=R.length*k:=by
 induction R with
 |nil=>simp[fC]
 |cons r R ih=>
  show (iK r++fC R).length=_;rw[bK,CX,h r dp,ih fun r a=>h r (dF _ a),ew,fF,jP,yu]
theorem al2 (h:∀r∈R,r.length=k):∀ {i:Nat} (a:i<R.length),gH (fC R) k i=iK R[i]:=by
 induction R with
 |nil=>intro i a;exact absurd a aE
 |cons r R ih=>
  intro i a;have c:(iK r).length=k:=by rw[CX,h r dp]
  show gH (iK r++fC R) k i=_;cases i with
  |zero=>rw[gH,jO,BM,WM al,lT al];rfl
  |succ i=>
   (have d:i<R.length:=by simpa using a);have e:=ih (fun r b=>h r (dF _ b)) d;rw[gH] at e;rw[gH,List.drop_append,c,fF,jP,DG al,IV];exact e
theorem akZ (l:List Fr):fsum (iK l)=fsum l:=by
 rw[fsum,fsum,iK,List.foldl_map];congr 1
 funext s f
 show s+val (bw (lD f)) (nu (lD f)) (de (lD f))=_;rw[ji]
theorem afU (l:List Fr):dt (iK l)=dt l:=by
 rw[dt,dt,akZ,iK,List.all_map];congr 1
 congr 1
 funext f
 show decide (¬aQ (qF (lD f))<0)=_;rw[mZ];rfl
theorem ahR (h1:1<=T) (P:T<=4) (O:1<=n) (Q:n<=3) (S:1<=m) (L:m<=3) (F:l.length=n) (K:dt l=true) (I:R1.length=n) (s:∀r∈R1,r.length=n/\dt r=true) (J:R2.length=n) (u:∀r∈R2,r.length=m/\dt r=true):
  bH (uV n m T) (uL T) (uR l R1 R2 T)=0:=by
 have p:T=1∨T=2∨T=3∨T=4:=al
 have w:n=1∨n=2∨n=3:=al
 have M:m=1∨m=2∨m=3:=al
 have z:bZ (uL T)=0:=by rcases p with rfl |rfl |rfl |rfl<;>decide+kernel
 have H:oQ (uV n m T)=0:=by
  rcases p with rfl |rfl |rfl |rfl<;>rcases w with rfl |rfl |rfl<;>rcases M with rfl |rfl |rfl<;>decide+kernel
 rw[bH,aA ⟨by rw[DL,sJ],by rw[BR,sJ]⟩,aA z,aA H];refine CU fun j E=>?_;rw[sJ] at E
 have y:∀(R:List (List Fr)) (k:Nat),R.length*k=(fC R).length ->(∀r∈R,r.length=k/\dt r=true) ->((List.range R.length).all fun i=>dt (gH (fC R) k i))=true:=fun R k _ o=>by
  rw[iQ];intro i A;have q:=cI.1 A;rw[al2 (fun r h=>(o r h).1) q,afU];exact(o _ (bF q)).2
 rcases WJ j with x |x
 ·obtain⟨t,rfl⟩:∃t,j=2*t:=⟨j/2,al⟩;have a:t<T:=al
  obtain⟨b,f⟩:=z6 (n:=n) (m:=m) a;rw[lp,bY,bY,(Je l R1 R2 T t a).1,(DM T t a).1,b];by_cases g:t=0
  ·have D:∀r∈[l],r.length=n/\dt r=true:=fun r h=>by rw[dT.1 h];exact⟨F,K⟩
   have e:=Pd (R:=[l]) (k:=n) fun r h=>(D r h).1;simp only[g,zN,mE];have c:cnt (aw (uV n m T)) (ag [])=1:=rfl;rw[c,aA (by rw[e];rfl),aA (show ((List.range 1).all fun i=>dt (gH (fC [l]) n i))=true from y [l] n e.symm D)]
  ·have v:=(z6 (n:=n) (m:=m) (T:=T) (show t - 1<T by omega)).1;have e:=Pd (R:=R1) (k:=n) fun r h=>(s r h).1;simp only[g,if_false,mE]
   have d:ag [2*(t:Int) - 2]=[2*(t - 1)]:=by
    rw[Jm];congr 1
    omega
   have c:cnt (aw (uV n m T)) (ag [2*(t:Int) - 2])=R1.length:=by
    rw[d];show sz _ (2*(t - 1))*1=_;rw[v,kF,I]
   rw[c,aA e,aA (y R1 n e.symm s)]
 ·obtain⟨t,rfl⟩:∃t,j=2*t+1:=⟨j/2,al⟩;have a:t<T:=al
  obtain⟨b,f⟩:=z6 (n:=n) (m:=m) a;have e:=Pd (R:=R2) (k:=m) fun r h=>(u r h).1;rw[lp,bY,bY,(Je l R1 R2 T t a).2,(DM T t a).2,f]
  have d:ag [2*(t:Int)]=[2*t]:=by
   rw[Jm];congr 1
  have c:cnt (aw (uV n m T)) (ag [2*(t:Int)])=R2.length:=by
   rw[d];show sz _ (2*t)*1=_;rw[b,kF,J]
  simp only[mE,c];rw[aA e,aA (y R2 m e.symm u)]
section
attribute [local go_sem] Oper.semAt_some
theorem alx (n:Nat) (y:1<=n) (l:Nat) (s:List Nat) (q:∀u∈s,u<8) (J:Nat ->World ->Prop)
  (Y:∀k V,k< 8 ->k∈s ->J k V ->YieldAt Fence.wide (n - 1) Tryz.prog l #[.int .i64 (k:Nat)] V fun e V'=>e=.returned (.bool true)/\J (k+1) V')
  (p:∀k V,k< 8 ->¬k∈s ->J k V ->J (k+1) V) (V:World) (h0:J 0 V):
  CallsIn Fence.wide n Tryz.prog 148 #[.int .u32 (aB s:Nat),.func (.yield l) #[] #[]] V fun e V'=>(∃v,e=.returned v)/\J 8 V':=by
 refine FO Tryz.func148 rfl trivial ?_ rfl;simp only[Tryz.ntmps148,nJ,ew,mG,Nat.reduceAdd,Nat.reduceSub,nR,nQ,nK,mI,jy,fG];have H:=hid (fun (k:Nat) (g:k<8) (U:World)=>Rq s k U q g);generalize aB s=m at *;gi_wp2
 gi_loopw [5] (fun i wr=>∃k:Nat,k<=8/\i=.int .i64 k/\J k wr) (fun i _=>8 - (intOf i).toNat)
 case atStart=>exact⟨0,aV _,rfl,h0⟩
 case round=>
  obtain⟨k,g,rfl,b⟩:=hrel;by_cases t:k<8
  ·have r:(k:Int)<8:=al
   have c:=hid (H.o k t);by_cases a:k∈s
   ·rw[eD a] at c;obtain⟨fn,D,E,A,z,R⟩:=Y k wr t a b;have j:=hid R;clear R;gi_wp2_with (refine⟨trivial,?_⟩;gi_at_call 197;refine(ix.2 (c.o _)).af ?_;rintro e w' ⟨rfl,w⟩;subst w)
    refine j.o.af ?_;rintro e x ⟨rfl,d⟩;gi_wp2
    go_roundw
    case rel=>exact⟨k+1,al,b5,d⟩
    case measure=>simp[intOf];omega
   ·rw[eK a] at c;have d:=p k wr t a b;gi_wp2_with (refine⟨trivial,?_⟩;gi_at_call 197;refine(ix.2 (c.o _)).af ?_;rintro e w' ⟨rfl,w⟩;subst w)
    refine⟨fun f h=>(by cases h),?_⟩;gi_wp2
    go_roundw
    case rel=>exact⟨k+1,al,b5,d⟩
    case measure=>simp[intOf];omega
  ·obtain rfl:k=8:=al
   gi_wp2
   go_end0
   exact⟨⟨_,rfl⟩,b⟩
def aly (B:Nat) (I:Nat ->World ->Prop) (k:Nat) (W:World):Exit ->Act ->World ->Prop
 |.normal,_,W'=>KeepsFrom B W W'/\I (k+1) W'
 |_,_,_=>False
theorem DJ {g:Operand} {m:Array Tmp} {assign body:Code} {a:Act} (h1:2<=n) (s:List Nat) (V:∀u∈s,u<8)
  (S:a.eval g=.func (.func 148) #[.int .u32 (aB s:Nat)] #[]) (M:m.size=1) (I:Nat ->World ->Prop) (i:OwnFrom w.heap.size I) (h0:I 0 w) (E:Nat ->Act)
  (ad:∀(l k:Nat) (W:World) (K:Act ->World ->Prop),K (E k) W ->
   assign.wpIn (Fence.wide.inRound l) (n - 1 - 1) Tryz.prog (Exit.then K (fun _ _ _=>False)) {tmps:=(m.zip #[.int .i64 (k:Nat)]).foldl (fun t (p,v)=>t.setIfInBounds p v) a.tmps,defers:=[]} W)
  (ab:∀(l k:Nat) (W:World),k< 8 ->k∈s ->I k W ->body.wpIn (Fence.wide.inRound l) (n - 1 - 1) Tryz.prog (aly w.heap.size I k W) (E k) W)
  (aa:∀k W,k< 8 ->¬k∈s ->I k W ->I (k+1) W)
  (ak:∀(D:Nat) (W:World),w.heap.size<=D ->I 8 W ->W.heap[D]? =some (.deferred (some [])) ->Q .normal {a with defers:= {target:=.collected D,args:= #[]}::a.defers} W):
  (Code.rangeFunc g m assign body).wpIn Fence.wide n Tryz.prog Q a w:=by
 refine wpIn_rangeFunc fun fn ah=>?_;rw[show Fence.wide.round=none from rfl];obtain⟨c,j⟩:∃c:LoopState ->Option Code ->Loop,c=fun Z Y=> {state:=Z,pending:=Y,fn,tmps:=a.tmps,params:=m,assign,body,defers:=w.heap.size}:=⟨_,rfl⟩;obtain⟨b,o⟩:∃b,(w.alloc (.deferred (some []))).alloc (.loop (c .ready none))=b:=⟨_,rfl⟩
 have xB:b.heap[w.heap.size+1]? =some (.loop (c .ready none)):=by
  rw[<- o];have h:=World.alloc_heap_new (w.alloc (.deferred (some []))) (.loop (c .ready none));rwa [dE] at h
 have O:b.heap[w.heap.size]? =some (.deferred (some [])):=by
  rw[<- o];exact(wF _ _ _ aE).trans (World.alloc_heap_new w _)
 have ae:I 0 b:=by
  rw[<- o];exact i.alloc _ (i.alloc _ h0)
 refine⟨w.heap.size+1,[{target:=.collected w.heap.size,args:= #[]}],b, {target:=.fn (.func 148) #[],args:= #[.int .u32 (aB s:Nat),.func (.yield (w.heap.size+1)) #[] #[]]},b,148, #[.int .u32 (aB s:Nat),.func (.yield (w.heap.size+1)) #[] #[]],b,?_,?_,?_,?_,fun _=>al,?_⟩
 ·rw[<- o,j];exact run_enterLoop_outer _ _ _ _ _
 ·simp only[resolve,S];simp[go_sem]
 ·intro f' H;simp[Target.leads] at H;subst H;trivial
 ·have R:∀r w,(callFunc 148 r).run Tryz.prog w=.ok (.enter 148 r) w:=enters_of Tryz.func148 ao rfl;simp[invoke,go_sem,R]
 ·refine(alx (n - 1) al (w.heap.size+1) s V (fun k W=>I k W/\W.heap[w.heap.size+1]? =some (.loop (c .ready none))/\W.heap[w.heap.size]? =some (.deferred (some []))) ?_ (fun k W y z h=>⟨aa k W y z h.1,h.2⟩) b ⟨ae,xB,O⟩).af ?_
  ·rintro k W y z ⟨x,d,q⟩;have aj:w.heap.size+1<W.heap.size:=(cJ.1 d).1;have F:=run_yield (P:=Tryz.prog) (args:= #[.int .i64 (k:Nat)]) d (by rw[j];exact M.symm);rw[j] at F;refine⟨fn,_,assign,body,F,roundIn_of_wpIn ah (ad _ k W _ ⟨_,run_beginRound d (by rw[j]),?_⟩)⟩;have ai:(W.putObj (w.heap.size+1) (.loop {c .ready none with state:=.busy})).heap[w.heap.size+1]? =some (.loop {c .ready none with state:=.busy}):=World.putObj_heap_same aj;have X:(W.putObj (w.heap.size+1) (.loop {c .ready none with state:=.busy})).heap[w.heap.size]? =some (.deferred (some [])):=(yj al).trans q;refine wpIn_mono (ab _ k _ y z (i.putObj _ x al d rfl)) ?_;rintro e a3 W3 f;cases e with
   |normal=>
    obtain⟨J,L⟩:=f;have A:=J.same _ _ al ai rfl;have U:=run_endRound (P:=Tryz.prog) none A;have T:=J.same _ _ (aq _) X rfl;refine⟨_,_,U,rfl,i.putObj _ L al A rfl,?_,(yj al).trans T⟩;rw[j];exact World.putObj_heap_same (cJ.1 A).1
   |ret=>exact f.elim
   |exit id=>exact f.elim
   |goto t=>exact f.elim
   |panic ch=>exact f.elim
   |outgrown=>exact f.elim
  ·rintro e W2 ⟨⟨v,rfl⟩,x,d,q⟩;have h:=run_endLoop (P:=Tryz.prog) d (by rw[j];simp);rw[j] at h;exact⟨none,_,h,ak _ _ (aq _) (i.putObj _ x al d rfl) ((yj al).trans q)⟩
end
def Aa:ByteArray:=⟨(([0,1,1,2,1,2,2,3,1,2,2,3,2,3,3,4,1,2,2,3,2,3,3,4,2,3,3,4,3,4,4,5,1,2,2,3,2,3,3,4,2,3,3,4,3,4,4,5,2,3,3,4,3,4,4,5,3,4,4,5,4,5,5,6].append [1,2,2,3,2,3,3,4,2,3,3,4,3,4,4,5,2,3,3,4,3,4,4,5,3,4,4,5,4,5,5,6,2,3,3,4,3,4,4,5,3,4,4,5,4,5,5,6,3,4,4,5,4,5,5,6,4,5,5,6,5,6,6,7]).append ([1,2,2,3,2,3,3,4,2,3,3,4,3,4,4,5,2,3,3,4,3,4,4,5,3,4,4,5,4,5,5,6,2,3,3,4,3,4,4,5,3,4,4,5,4,5,5,6,3,4,4,5,4,5,5,6,4,5,5,6,5,6,6,7].append [2,3,3,4,3,4,4,5,3,4,4,5,4,5,5,6,3,4,4,5,4,5,5,6,4,5,5,6,5,6,6,7,3,4,4,5,4,5,5,6,4,5,5,6,5,6,6,7,4,5,5,6,5,6,6,7,5,6,6,7,6,7,7,8])).toArray⟩
def fL (s:List Nat) (k:Nat):List Nat:=(List.range k).filter fun v=>decide (v∈s)
theorem Sl {s:List Nat} (h:k∈s):fL s (k+1)=fL s k++[k]:=by rw[fL,qC,BL,fL];simp[h]
theorem NJ {s:List Nat} (h:¬k∈s):fL s (k+1)=fL s k:=by rw[fL,qC,BL,fL];simp[h]
theorem Gn {s:List Nat}:v∈fL s k↔v<k/\v∈s:=by simp[fL]
theorem Sn (s:List Nat) (k:Nat):(fL s k).length<=k:=by
 have:=pH (fun v=>decide (v∈s)) (List.range k);simpa [fL] using this
def Ac (m:Nat):Nat:=((List.range 8).filter fun v=>m.testBit v).length
theorem agC (s:List Nat):Ac (aB s)=(fL s 8).length:=by
 rw[Ac,fL];congr 1
 exact List.filter_congr fun v _=>rK s v
theorem agF:((List.range 256).all fun m=>decide (Aa.data.toList[m]? =some (UInt8.ofNat (Ac m))))=true:=by decide+kernel
theorem agE (h:m<256):Aa.data.toList[m]? =some (UInt8.ofNat (Ac m)):=tW (iQ.1 agF m (cI.2 h))
theorem agD:Aa.size=256:=by decide+kernel
theorem YX (m:Nat):Ac m<=8:=by
 have:=pH (fun v=>m.testBit v) (List.range 8);simpa [Ac] using this
theorem ahy (m:Nat) (w:World) (r:m<256):
  du 199 #[.int .u32 (m:Nat)] w fun e w'=>e=.returned (.int .i64 (Ac m:Nat))/\∃k,w'=w.drewN k:=by
 have u:(m:Int)/16777216=0:=al
 have t:(m:Int)/65536=0:=al
 have j:(m:Int)/256=0:=al
 have n:bits BinOp.and IntKind.u32 (m:Nat) 255=((m:Nat):Int):=by
  have e:(255:Int)=((255:Nat):Int):=rfl;rw[e,u32_and_nat _ _ al al,show (255:Nat)=2^8 - 1 from rfl,Nat.and_two_pow_sub_one_eq_mod];omega
 have z:bits BinOp.and IntKind.u32 0 255=0:=bd
 have v:=agD;have l:m<Aa.size:=al
 have a:∀i (h:i<Aa.size),Aa[i]=UInt8.ofNat (Ac i):=fun i h=>by
  have b:=agE (m:=i) al;rw[uU] at b;obtain⟨g,d⟩:=cJ.1 b;exact d
 have f:Aa[0]'al=0:=a 0 al
 obtain⟨q,s,V⟩:∃q:UInt8,Aa[m]'l=q/\q.toNat=Ac m:=⟨_,a m l,by
  have:=YX m;rw[UInt8.toNat_ofNat'];omega⟩
 have x:IntKind.u8.wrap 0=0:=bd
 have c:=YX m;rw[<- V] at c
 have S:IntKind.u8.wrap ((q.toNat:Nat):Int)=((q.toNat:Nat):Int):=by
  have:(q.toNat:Int)<256:=al
  rw[IntKind.wrap_u8];omega
 have K:=hid V;clear a V;have p:Aa=⟨(([0,1,1,2,1,2,2,3,1,2,2,3,2,3,3,4,1,2,2,3,2,3,3,4,2,3,3,4,3,4,4,5,1,2,2,3,2,3,3,4,2,3,3,4,3,4,4,5,2,3,3,4,3,4,4,5,3,4,4,5,4,5,5,6].append [1,2,2,3,2,3,3,4,2,3,3,4,3,4,4,5,2,3,3,4,3,4,4,5,3,4,4,5,4,5,5,6,2,3,3,4,3,4,4,5,3,4,4,5,4,5,5,6,3,4,4,5,4,5,5,6,4,5,5,6,5,6,6,7]).append ([1,2,2,3,2,3,3,4,2,3,3,4,3,4,4,5,2,3,3,4,3,4,4,5,3,4,4,5,4,5,5,6,2,3,3,4,3,4,4,5,3,4,4,5,4,5,5,6,3,4,4,5,4,5,5,6,4,5,5,6,5,6,6,7].append [2,3,3,4,3,4,4,5,3,4,4,5,4,5,5,6,3,4,4,5,4,5,5,6,4,5,5,6,5,6,6,7,3,4,4,5,4,5,5,6,4,5,5,6,5,6,6,7,4,5,5,6,5,6,6,7,5,6,6,7,6,7,7,8])).toArray⟩:=rfl;go_enter Tryz.func199,Tryz.ntmps199;go_upto_region 1 with fail
 rw[<- p];clear p;go_quiet (fail)
 go_wp2;go_ret;exact⟨by rw[<- K.o];rfl,_,rfl⟩
section
attribute [local go_sem] Oper.semAt_some
theorem Yv (s:List Nat) (w:World) (a:∀u∈s,u<8):
  du 149 #[.int .u32 (aB s:Nat)] w fun e w'=>e=.returned (.int .i64 ((fL s 8).length:Nat))/\∃k,w'=w.drewN k:=by
 have h:=vn a;have H:=hid (fun U=>ahy (aB s) U h);rw[agC] at H;generalize (fL s 8).length=c at *;generalize aB s=m at *;go_enter Tryz.func149,Tryz.ntmps149;go_wp2_with fail
 refine(H.o _).af ?_;rintro e b ⟨rfl,k,rfl⟩;go_wp2;go_ret;exact⟨rfl,k,rfl⟩
theorem aik (s:List Nat) (v:Nat) (b:∀u∈s,u<8) (c:v<8):aB s&&&(4294967295 - 2^v)=aB (s.filter fun u=>decide (u≠v)):=by
 have f:2^v<2^8:=QF bd c;have e:4294967295 - 2^v=2^32 - (2^v+1):=al
 have d:2^v<2^32:=al
 apply Mz;intro i;rw[e,Nat.testBit_and,QD d,rK,rK,Nat.testBit_two_pow];by_cases h:i∈s
 ·have g:=b i h;have k:i<32:=al
  by_cases l:v=i
  ·subst l;simp[h]
  ·have a:¬i=v:=fun e=>l e.symm;simp[h,k,l,a]
 ·simp[h]
theorem Ju (s:List Nat) (v:Nat) (w:World) (h:∀u∈s,u<8) (a:v<8):
  du 150 #[.int .u32 (aB s:Nat),.int .i64 (v:Nat)] w fun e w'=>e=.returned (.int .u32 (aB (s.filter fun u=>decide (u≠v)):Nat))/\w'=w:=by
 have d:=vn h;have c:2^v<256:=show 2^v<2^8 from QF bd a
 have E:Hid (bits BinOp.andNot IntKind.u32 (aB s:Nat) (2^v % 4294967296)=((aB (s.filter fun u=>decide (u≠v)):Nat):Int)):=by
  show _=_
  have e:((2:Int)^v % 4294967296)=((2^v:Nat):Int):=by
   (have b:((2:Int)^v)=((2^v:Nat):Int):=by rw[Int.natCast_pow];rfl);rw[b];generalize (2^v:Nat)=q at *;omega
  rw[e,u32_andNot_nat _ _ al al,aik s v h a]
 generalize aB (s.filter fun u=>decide (u≠v))=r at *;generalize aB s=m at *;go_enter Tryz.func150,Tryz.ntmps150;go_wp2;go_ret;exact⟨by rw[E.o];rfl,rfl⟩
theorem ajc (l:List Nat):(iL l).map (Value.int .i64)=l.map iv:=by simp[iL,iv]
theorem aab (s:List Nat) (w:World) (p:∀u∈s,u<8):
  du 98 #[.int .u32 (aB s:Nat)] w fun e w'=>∃v,e=.returned v/\bP w' w.heap.size v (iL (fL s 8))/\ef w w':=by
 refine(ix (n:=6)).1 ?_;obtain⟨q,j,z,x,y⟩:=dJ Tryz.infoInt;have R:=Sn s 8;have HC:=hid (fun U=>Yv s U p);obtain⟨c,t⟩:∃c,c=(fL s 8).length:=⟨_,rfl⟩;rw[<- t] at HC R;clear t;refine uN Tryz.func98 rfl trivial ?_ rfl;simp only[Tryz.ntmps98,nJ,ew,mG,Nat.reduceAdd,Nat.reduceSub,nR,nQ,nK,mI,jy,fG]
 gi_wp2_with (first
  |(refine⟨trivial,?_⟩;gi_at_call 149;refine(ix.2 (HC.o _)).af ?_;rintro e w0 ⟨rfl,g⟩)
  |(gi_at_make;refine wpListIn_make_own _ rfl _ _ 22 rfl w.heap.size 3 q (.int .i64 0) 1 Tryz.underlying22 j z x .i64 .i64 _ c rfl rfl al (by rw[y];omega) (by unfold maxLen;omega) (by obtain⟨k,rfl⟩:=g;exact aq _) ?_;intro a ab i))
 have P:ef w w0:=by obtain⟨k,rfl⟩:=g;exact below_drewN (au _ w) k
 have Y:w0.heap.size=w.heap.size:=by obtain⟨k,rfl⟩:=g;rfl
 clear g;have E:=i.size;have L:ef w a:=P.grown i al (fun k e=>by cases e);have O:=a8 a 22 (.slice (some ⟨w0.heap.size,0,none⟩) 0 c);have M:ef w (a.alloc (.cells #[.slice (some ⟨w0.heap.size,0,none⟩) 0 c] 22)):=L.alloc al _;have J:w.heap.size<=a.heap.size:=al
 clear Y E
 refine DJ al s p rfl rfl
  (fun k V=>(∃v,Boxed V a.heap.size 22 v/\V.ownsRow w.heap.size 3 1 v (fL s k).length ((fL s k).map iv)/\True)/\ef w V)
  (fP (gZ (holdsRow_own w.heap.size a.heap.size 22 3 1 (fun k:Nat=>(fL s k).length) (fun k=>(fL s k).map iv) (fun _ _=>True)) _) (zM (aq _) (by simp;omega)))
  ⟨⟨_,O,ab.alloc _,trivial⟩,M⟩
  (fun k=> {tmps:= #[.int .u32 (aB s:Nat),undef,.slice none 0 0,.pointer (some ⟨a.heap.size,0,none⟩),.int .i64 (k:Nat),.int .u32 (aB s:Nat),.int .i64 (c:Nat),.slice (some ⟨w0.heap.size,0,none⟩) 0 c,.int .u32 (aB s:Nat),.func (.func 148) #[.int .u32 (aB s:Nat)] #[],.int .i64 (k:Nat),undef,undef,undef,undef,undef],defers:=[]}) ?assign ?body ?skip ?done
 case assign=>
  intro l k W K d;gi_wp2
  exact d
 case body=>
  rintro l k V I m ⟨⟨v,f,r,_⟩,b⟩;have H:=f.cell;have rR:=Sn s k;gi_wp2_with (gi_at_builtin;refine wpListIn_append_own _ rfl _ _ 22 rfl w.heap.size 3 q (.int .i64 0) 1 8 Tryz.underlying22 j z x y rfl bd _ _ _ rfl (r.alloc _) ⟨V.heap.size,0,none⟩ 1 1 [.int .i64 (k:Nat)] rfl rfl (cell_one_new _ _ _) (by simp[Value.oneCell']) (by unfold maxLen;omega) al (by have:=b.size;simp;omega) ?_;intro v' w3 A aa _;obtain⟨g',ae,rfl⟩:=ownsRow_succ A;obtain⟨T,Z,X,S,Q⟩:=f.appended bd r b.size J A aa;have ad:=T.cell;have Ou:=T.frozen)
  exact⟨S.from _,⟨⟨_,Z,by rw[Sl m];simpa [iv] using X,trivial⟩,b.trans Q⟩⟩
 case skip=>
  rintro k V I m h;rwa [NJ m]
 case done=>
  rintro D V F ⟨⟨v,f,r,_⟩,b⟩ d;have H:=f.cell;gi_wp2
  refine⟨aE,.inl ⟨_,_,rfl,Bu d,?_⟩⟩;refine⟨_,Bx rfl _ _ _,v,rfl,?_,b.trans (uP (w:=w) (aq _) V D _ _ (by simp at F;omega) d rfl rfl)⟩;rw[bP,ajc,bI];exact ownsRow_putObj r _ d rfl
end
theorem ail (a b:List Nat):aB a |||aB b=aB (a++b):=by
 apply Mz;intro i;rw[Nat.testBit_or,rK,rK,rK];by_cases h:i∈a<;>by_cases c:i∈b<;>simp[h,c]
theorem aim (a b:List Nat) (d:∀u∈a,u<8) (f:∀u∈b,u<8):aB a&&&(4294967295 - aB b)=aB (a.filter fun x=>decide (¬x∈b)):=by
 have g:=vn f;have e:4294967295 - aB b=2^32 - (aB b+1):=al
 have s:aB b<2^32:=al
 apply Mz;intro i;rw[e,Nat.testBit_and,QD s,rK,rK,rK];by_cases h:i∈a
 ·have j:=d i h;have k:i<32:=al
  by_cases c:i∈b<;>simp[h,c,k]
 ·simp[h]
theorem UT (a b:List Nat) (h:∀u∈a,u<8) (c:∀u∈b,u<8):bits BinOp.or IntKind.u32 (aB a:Nat) (aB b:Nat)=((aB (a++b):Nat):Int):=by
 have d:=vn h;have e:=vn c;rw[u32_or_nat _ _ al al,ail]
theorem amA (a b:List Nat) (h:∀u∈a,u<8) (c:∀u∈b,u<8):bits BinOp.andNot IntKind.u32 (aB a:Nat) (aB b:Nat)=((aB (a.filter fun x=>decide (¬x∈b)):Nat):Int):=by
 have d:=vn h;have e:=vn c;rw[u32_andNot_nat _ _ al al,aim a b h c]
theorem KU {s:List Nat} (h:∀u∈s,u<8) (p:Nat ->Bool):∀u∈s.filter p,u<8:=fun u a=>h u (eL.1 a).1
theorem acV {a b:List Nat} (h:∀u∈a,u<8) (c:∀u∈b,u<8):∀u∈a++b,u<8:=fun u d=>(ck.1 d).elim (h u) (c u)
theorem CR {P:List (List Nat)} (a:∀p∈P,∀u∈p,u<8) (v:Nat):∀u∈P.getD v [],u<8:=by
 by_cases h:v<P.length
 ·rw[bY,bj h];exact a _ (bF h)
 ·rw[bY,jA al];intro u b;simp at b
theorem D8 {P:List (List Nat)} (h:v<P.length):(P.map aB)[v]'(by rw[dM];exact h)=aB (P.getD v []):=by rw[nO,bY,bj h];rfl
def JK (B:List (List Nat)) (v u:Nat):Nat:=(fL (((B.getD v []).filter fun x=>decide (¬x∈B.getD u [])).filter fun x=>decide (x≠u)) 8).length
def qW (B:List (List Nat)) (v k:Nat):Nat:=((fL (B.getD v []) k).map (JK B v)).sum
theorem ach {B:List (List Nat)} (h:k∈B.getD v []):qW B v (k+1)=qW B v k+JK B v k:=by rw[qW,Sl h,eP,List.sum_append,qW];simp
theorem aci {B:List (List Nat)} (h:¬k∈B.getD v []):qW B v (k+1)=qW B v k:=by rw[qW,NJ h,qW]
theorem aak (B:List (List Nat)) (v u:Nat):JK B v u<=8:=Sn _ _
theorem O5 (B:List (List Nat)) (v:Nat):∀k,qW B v k<=8*k
 |0=>by simp[qW,fL]
 |k+1=>by
  have a:=O5 B v k;have b:=aak B v k;by_cases h:k∈B.getD v []
  ·rw[ach h];omega
  ·rw[aci h];omega
def pS (B:List (List Nat)) (v:Nat):Nat:=qW B v 8/2
section
attribute [local go_sem] Oper.semAt_some
theorem jJ {W:World} {B:Nat} {t:TypeId} {v:Value} (h:Boxed W B t v) (b j:Nat) (y:Value) (e:B≠b):Boxed (W.setCell ⟨b,j,none⟩ y) B t v:=(fQ W ⟨b,j,none⟩ y B e).trans h
theorem xK {W:World} {B b:Nat} {t:TypeId} {v:Value} (h:Boxed W B t v) (c:Below b W W') (a:B<b):Boxed W' B t v:=(c.block B a).trans h
theorem Sy (h:ef V V'):KeepsOthers V V':=⟨h.size,fun k _ a _=>(h.block k (cJ.1 a).1).trans a⟩
theorem Sz (h:KeepsOthers V U) (k:Nat):KeepsOthers V (U.drewN k):=⟨h.1,h.2⟩
theorem aiU (G n c v:Nat) (P:List (List Nat)) (w:World) (hn:P.length=n) (h8:n<=8) (hU:cF w G (P.map aB)) (hP:∀p∈P,∀u∈p,u<n) (hv:v<n):
  du 230 #[.slice (some ⟨G,0,none⟩) n c,.int .i64 (v:Nat)] w (eS w (.int .i64 (pS P v:Nat))):=by
 refine(ix (n:=6)).1 ?_;have uw:∀p∈P,∀u∈p,u<8:=fun p hp u hu=>by have:=hP p hp u hu;omega
 have hs:=CR uw v;have OJ:=hU.lt;have kv:=hU.cell v (by rw[dM];omega);rw[D8 al] at kv;have P5:=hid kv
 have Fg:Hid (∀u,u< n ->w.cell? ⟨G,u,none⟩=some (.int .u32 (aB (P.getD u []):Nat))):=fun u hu=>by
  have:=hU.cell u (by rw[dM];omega);rwa [D8 al] at this
 have LW:Hid (∀k,k∈P.getD v [] ->k<n):=fun k O=>by
  rw[bY,bj al] at O;exact hP _ (bF _) k O
 have rp:=hid (fun u=>CR uw u);have aj:=hid (fun k h=>ach (B:=P) (v:=v) (k:=k) h);have Qn:=hid (fun k h=>aci (B:=P) (v:=v) (k:=k) h);have ai:=hid (fun k=>O5 P v k);have VS:=hid (fun u=>aak P v u);have mq:=hid (fun (u:Nat) (hu:u<8) (U:World)=>Ju ((P.getD v []).filter fun x=>decide (¬x∈P.getD u [])) u U (KU hs _) hu);have tL:=hid (fun (u:Nat) (U:World)=>Yv (((P.getD v []).filter fun x=>decide (¬x∈P.getD u [])).filter fun x=>decide (x≠u)) U (KU (KU hs _) _));have ae:=hid (fun (u:Nat)=>amA (P.getD v []) (P.getD u []) hs (CR uw u));have av:Hid (∀u,(fL (((P.getD v []).filter fun x=>decide (¬x∈P.getD u [])).filter fun x=>decide (x≠u)) 8).length=JK P v u):=fun u=>rfl
 have ax:Hid ((qW P v 8:Int).tdiv 2=(pS P v:Nat)):=by
  show _=_;rw[pS];exact(yA _ _).symm▸rfl
 have ab:G<w.heap.size:=OJ;have az:=O5 P v 8;generalize pS P v=aT at *;generalize Ow:P.getD v []=bv at *;clear hU hP uw kv Ow;refine uN Tryz.func230 rfl trivial ?_ rfl;simp only[Tryz.ntmps230,nJ,ew,mG,Nat.reduceAdd,Nat.reduceSub,nR,nQ,nK,mI,jy,fG];obtain⟨H,J⟩:∃H,H=((w.alloc (.cells #[.slice (some ⟨G,0,none⟩) n c] 137)).alloc (.cells #[.int .i64 (v:Nat)] 3)).alloc (.cells #[.int .i64 0] 3):=⟨_,rfl⟩;have b0:Boxed H w.heap.size 137 (.slice (some ⟨G,0,none⟩) n c):=by rw[J];exact((a8 w _ _).alloc _).alloc _
 have b1:Boxed H (w.heap.size+1) 3 (.int .i64 (v:Nat)):=by
  have h:=(a8 (w.alloc (.cells #[.slice (some ⟨G,0,none⟩) n c] 137)) 3 (.int .i64 (v:Nat))).alloc (.cells #[.int .i64 0] 3);rw[dE] at h;rw[J];exact h
 have b2:Boxed H (w.heap.size+1+1) 3 (.int .i64 (qW P v 0:Nat)):=by
  have h:=a8 ((w.alloc (.cells #[.slice (some ⟨G,0,none⟩) n c] 137)).alloc (.cells #[.int .i64 (v:Nat)] 3)) 3 (.int .i64 0);rw[dE,dE] at h;rw[J];exact h
 have aa:ef w H:=by
  rw[J];exact(((au _ w).alloc (aq _) _).alloc aE _).alloc (by simp;omega) _
 have Q:=b0.cell;have R:=b1.cell;have S:=(aa.cell (p:=⟨G,v,none⟩) ab).trans P5.o;rw[J] at Q R S;gi_wp2
 rw[<- J];clear Q R S J;have yZ:w.heap.size+1+1<H.heap.size:=b2.lt
 refine DJ al bv hs rfl rfl
  (fun k V=>Boxed V w.heap.size 137 (.slice (some ⟨G,0,none⟩) n c)/\Boxed V (w.heap.size+1) 3 (.int .i64 (v:Nat))/\Boxed V (w.heap.size+1+1) 3 (.int .i64 (qW P v k:Nat))/\ef w V)
  (fP (gZ (jN _ _ (fun _=>_)) _) (fP (gZ (jN _ _ (fun _=>_)) _) (fP (gZ (jN _ _ (fun k:Nat=>.int .i64 (qW P v k:Nat))) _) (zM (aq _) al))))
  ⟨b0,b1,b2,aa⟩
  (fun k=> {tmps:= #[.slice (some ⟨G,0,none⟩) n c,.int .i64 (v:Nat),.pointer (some ⟨w.heap.size,0,none⟩),.pointer (some ⟨w.heap.size+1,0,none⟩),.int .i64 0,.pointer (some ⟨w.heap.size+1+1,0,none⟩),.int .i64 (k:Nat),.slice (some ⟨G,0,none⟩) n c,.int .i64 (v:Nat),.pointer (some ⟨G,v,none⟩),.int .u32 (aB bv:Nat),.func (.func 148) #[.int .u32 (aB bv:Nat)] #[],.int .i64 (k:Nat),undef,undef,undef,undef,undef,undef,undef,undef,undef,undef,undef,undef,undef,undef,undef,undef],defers:=[]}) ?assign ?body ?skip ?done
 case assign=>
  intro l k W K Z;gi_wp2
  exact Z
 case body=>
  rintro l k V O hm ⟨X,Y,L,M⟩;have ay:=LW.o k hm;have Q:=X.cell;have R:=Y.cell;have y:=L.cell;have S:=(M.cell (p:=⟨G,v,none⟩) ab).trans P5.o;have kU:=(M.cell (p:=⟨G,k,none⟩) ab).trans (Fg.o k ay);have aC:=ae.o k;have EU:=hid (mq.o k O);have T:=hid (tL.o k);rw[av.o k] at T;have aO:=ai.o k;have aS:=VS.o k;have an:=hid (aj.o k hm);generalize aB (bv.filter fun x=>decide (¬x∈P.getD k []))=m1 at *;generalize aB ((bv.filter fun x=>decide (¬x∈P.getD k [])).filter fun x=>decide (x≠k))=m2 at *;generalize aB (P.getD k [])=mu at *;generalize JK P v k=le at *;generalize qW P v k=I at *;generalize aB bv=mv at *;have Gz:IntKind.i64.wrap ((I:Int)+(le:Int))=((I+le:Nat):Int):=by rw[fj];omega
  have f2:=L.frozen;gi_wp2_with fail
  refine yL (fun u=>u.cell? ⟨w.heap.size,0,none⟩=some (.slice (some ⟨G,0,none⟩) n c)/\u.cell? ⟨w.heap.size+1,0,none⟩=some (.int .i64 (v:Nat))/\u.cell? ⟨G,v,none⟩=some (.int .u32 (mv:Nat))/\u.cell? ⟨G,k,none⟩=some (.int .u32 (mu:Nat))) ao ao (fun ⟨_,_,h⟩=>h) ⟨Q,R,S,kU⟩ ?_;intro i;have j:KeepsOthers V V.drew:=zW V;have m:Boxed V.drew w.heap.size 137 (.slice (some ⟨G,0,none⟩) n c):=X;have r:Boxed V.drew (w.heap.size+1) 3 (.int .i64 (v:Nat)):=Y;have q:Boxed V.drew (w.heap.size+1+1) 3 (.int .i64 (I:Nat)):=L;have s:=M.drew;have ad:=q.cell;clear Q R y S kU f2 X Y L M b0 b1 b2 aa;have y:=ad;clear ad;generalize V.drew=t at *;refine ar 1 (.slice (some ⟨G,0,none⟩) n c) ?_;refine ar 2 (.int .i64 (v:Nat)) ?_;refine ar 3 (.pointer (some ⟨G,v,none⟩)) ?_;refine ar 4 (.int .u32 (mv:Nat)) ?_;refine ar 5 (.slice (some ⟨G,0,none⟩) n c) ?_;refine ar 6 (.int .i64 (k:Nat)) ?_;refine ar 7 (.pointer (some ⟨G,k,none⟩)) ?_;refine ar 8 (.int .u32 (mu:Nat)) ?_;refine ar 9 (.int .u32 (m1:Nat)) ?_;refine ar 10 (.int .i64 (k:Nat)) ?_;refine aG [0,11] (cA ?_ (cA ?_ aF))
  focus
   intro g a;go_simp;clear y;refine a.o _ _ i (fun d=>?_);clear a g d;refine aG [11] (cA ?_ aF);intro g a;go_simp;refine(EU.o _).af ?_;rintro e b ⟨rfl,f⟩;subst f;refine a.o _ _ i (fun d=>?_);clear a g d;generalize b=t at *;refine aG [12] (cA ?_ aF);intro g a;go_simp;refine(T.o _).af ?_;rintro e b ⟨rfl,z,f⟩;(have A:Boxed b w.heap.size 137 (.slice (some ⟨G,0,none⟩) n c):=by rw[f];exact m);(have p1:Boxed b (w.heap.size+1) 3 (.int .i64 (v:Nat)):=by rw[f];exact r);(have p2:Boxed b (w.heap.size+1+1) 3 (.int .i64 (I:Nat)):=by rw[f];exact q);(have E:ef w b:=by rw[f];exact below_drewN s z);(have F:KeepsOthers V b:=by rw[f];exact Sz j z);refine a.o _ _ (by rw[f];exact i) (fun d=>?_);clear a g f m r q s j i;have i:=d;have m:=A;have r:=p1;have q:=p2;have s:=E;have j:=F;clear d A p1 p2 E F t;generalize b=t at *
  rotate_left
  focus
   intro g a;go_simp;refine(EU.o _).af ?_;rintro e b ⟨rfl,f⟩;subst f;refine a.o _ _ i (fun d=>?_);clear a g d;generalize b=t at *;refine aG [0,12] (cA ?_ (cA ?_ aF))
   focus
    intro g a;go_simp;clear y;refine a.o _ _ i (fun d=>?_);clear a g d;refine aG [12] (cA ?_ aF);intro g a;go_simp;refine(T.o _).af ?_;rintro e b ⟨rfl,z,f⟩;(have A:Boxed b w.heap.size 137 (.slice (some ⟨G,0,none⟩) n c):=by rw[f];exact m);(have p1:Boxed b (w.heap.size+1) 3 (.int .i64 (v:Nat)):=by rw[f];exact r);(have p2:Boxed b (w.heap.size+1+1) 3 (.int .i64 (I:Nat)):=by rw[f];exact q);(have E:ef w b:=by rw[f];exact below_drewN s z);(have F:KeepsOthers V b:=by rw[f];exact Sz j z);refine a.o _ _ (by rw[f];exact i) (fun d=>?_);clear a g f m r q s j i;have i:=d;have m:=A;have r:=p1;have q:=p2;have s:=E;have j:=F;clear d A p1 p2 E F t;generalize b=t at *
   rotate_left
   focus
    intro g a;go_simp;refine(T.o _).af ?_;rintro e b ⟨rfl,z,f⟩;(have A:Boxed b w.heap.size 137 (.slice (some ⟨G,0,none⟩) n c):=by rw[f];exact m);(have p1:Boxed b (w.heap.size+1) 3 (.int .i64 (v:Nat)):=by rw[f];exact r);(have p2:Boxed b (w.heap.size+1+1) 3 (.int .i64 (I:Nat)):=by rw[f];exact q);(have E:ef w b:=by rw[f];exact below_drewN s z);(have F:KeepsOthers V b:=by rw[f];exact Sz j z);refine a.o _ _ (by rw[f];exact i) (fun d=>?_);clear a g f m r q s j i;have i:=d;have m:=A;have r:=p1;have q:=p2;have s:=E;have j:=F;clear d A p1 p2 E F y;have y:=q.cell;clear t;generalize b=t at *;refine aG [0] (cA ?_ aF);intro g a;go_simp;clear y;refine a.o _ _ i (fun d=>?_);clear a g d
  all_goals
   have f2:=q.frozen;have y:=q.cell;refine ar 13 (.int .i64 ((I+le:Nat):Int)) ?_;refine aG [14] (cA ?_ aF);intro g a;go_simp;refine a.o _ _ ⟨(jJ m (w.heap.size+1+1) 0 _ al).cell,(jJ r (w.heap.size+1+1) 0 _ al).cell,(dY _ _ _ _ (fun e=>(show ¬w.heap.size+1+1=G by omega) (dh Addr.block e))).trans i.2.2.1,(dY _ _ _ _ (fun e=>(show ¬w.heap.size+1+1=G by omega) (dh Addr.block e))).trans i.2.2.2⟩ (fun _=>dS ao ?_ _);clear a g i;gi_wp2
   exact⟨(j.trans (kh t _ _)).from _,jJ m _ 0 _ al,jJ r _ 0 _ al,by rw[an.o];exact q.set _,s.setCell (p:=⟨w.heap.size+1+1,0,none⟩) (by show w.heap.size<=w.heap.size+1+1;omega) _⟩
 case skip=>
  rintro k V O hm h;rw[Qn.o k hm];exact h
 case done=>
  rintro D V j ⟨X,Y,L,M⟩ Z;have hc:=L.cell;gi_wp2
  refine⟨aE,.inl ⟨_,_,rfl,Bu Z,?_⟩⟩;refine⟨_,Bx rfl _ _ _,?_,M.trans (uP (w:=w) (aq _) V D _ _ al Z rfl rfl)⟩;rw[<- ax.o];rfl
end
section
attribute [local go_sem] Oper.semAt_some
def yP (P:List (List Nat)) (v u:Nat):List Nat:=((P.getD u []++P.getD v []).filter fun x=>decide (x≠u)).filter fun x=>decide (x≠v)
def ik (P:List (List Nat)) (v k:Nat):List (List Nat):=(List.range P.length).map fun u=>if u<k/\u∈P.getD v [] then yP P v u else P.getD u []
theorem F0 (P:List (List Nat)) (v k:Nat):(ik P v k).length=P.length:=by simp[ik]
theorem aeE (P:List (List Nat)) (v:Nat):ik P v 0=P:=by
 apply sI (by simp[ik]);intro i a h;simp[ik,bY,h]
theorem aeF {P:List (List Nat)} (m:k∈P.getD v []):ik P v (k+1)=(ik P v k).set k (yP P v k):=by
 apply sI (by simp[ik]);intro i c d;rw[MG];simp only[ik,nO,DF];by_cases h:k=i
 ·subst h;rw[aA ⟨al,m⟩,aA rfl]
 ·rw[aD h];have e:(i<k+1/\i∈P.getD v [])↔(i<k/\i∈P.getD v []):=⟨fun ⟨a,b⟩=>⟨al,b⟩,fun ⟨a,b⟩=>⟨al,b⟩⟩;simp only[e]
theorem aeG {P:List (List Nat)} (m:¬k∈P.getD v []):ik P v (k+1)=ik P v k:=by
 apply sG;intro i c;have e:(i<k+1/\i∈P.getD v [])↔(i<k/\i∈P.getD v []):=⟨fun ⟨a,b⟩=>⟨by rcases cT i k with h |h;exact h;exact absurd (show i=k by omega) (fun e=>m (e▸b)),b⟩,fun ⟨a,b⟩=>⟨al,b⟩⟩;simp only[e]
theorem aeH {P:List (List Nat)} (b:u<P.length) (h:¬(u<k/\u∈P.getD v [])):(ik P v k).getD u []=P.getD u []:=by
 have a:u<(ik P v k).length:=by rw[F0];exact b
 have e:(ik P v k).getD u []=(ik P v k)[u]:=by rw[bY,bj a];rfl
 rw[e];simp only[ik,nO,DF];rw[aD h]
def sK (P:List (List Nat)) (v:Nat):List (List Nat):=ik P v 8
theorem Nb {β:Type} (g:Nat) (f:β ->List Nat):Own (fun s W=>cF W g (f s)):=fun s X Y w h b r=>by
 refine(b.block g h.lt (fun e=>?_)).trans h;obtain⟨o,a,c⟩:=r g e.symm;rw[h] at a;cases a;cases c
theorem Zd {β:Type} {G B:Nat} (b:w.heap.size<=B):OwnFrom B (fun (_:β) W=>w.grownBy W (some G)):=fun _ W W' o h g r=>
 ⟨g.os.trans h.os,g.tape.trans h.tape,g.output.trans h.output,aR h.size g.size,fun k a n=>(g.block k (aU a h.size) (fun e=>by
  have:=(r k e.symm).1;omega)).trans (h.block k a n)⟩
theorem akw (h:ef w w') (G:Nat):w.grownBy w' (some G):=⟨h.os,h.tape,h.output,h.size,fun k a _=>h.block k a⟩
theorem abF {a b c:World} {G:Nat} (h:a.grownBy b (some G)) (k:b.grownBy c (some G)):a.grownBy c (some G):=
 ⟨k.os.trans h.os,k.tape.trans h.tape,k.output.trans h.output,aR h.size k.size,fun i d e=>(k.block i (aU d h.size) e).trans (h.block i d e)⟩
theorem akv (w:World) (G j:Nat) (y:Value):w.grownBy (w.setCell ⟨G,j,none⟩ y) (some G):=⟨rfl,rfl,rfl,aE,fun k _ h=>fQ w ⟨G,j,none⟩ y k (fun e=>h (dh some e))⟩
theorem abH {a b:World} {G:Nat} (h:a.grownBy b (some G)):a.grownBy b.drew (some G):=⟨h.os,h.tape,h.output,h.size,h.block⟩
theorem aeL (G n c v:Nat) (P:List (List Nat)) (w:World) (hn:P.length=n) (h8:n<=8) (z:cF w G (P.map aB)) (hP:∀p∈P,∀u∈p,u<n) (hv:v<n) (GD:¬v∈P.getD v []):
  du 203 #[.slice (some ⟨G,0,none⟩) n c,.int .i64 (v:Nat)] w fun e w'=>(∃r,e=.returned r)/\cF w' G ((sK P v).map aB)/\w.grownBy w' (some G):=by
 refine(ix (n:=6)).1 ?_;have H:∀p∈P,∀u∈p,u<8:=fun p hp u O=>by have:=hP p hp u O;omega
 have M:=CR H v;have ab:=z.lt
 have LW:Hid (∀k,k∈P.getD v [] ->k<n):=fun k A=>by
  rw[bY,bj al] at A;exact hP _ (bF _) k A
 have T:Hid (∀(V:World) (k u:Nat),u< n ->¬(u<k/\u∈P.getD v []) ->cF V G ((ik P v k).map aB) ->V.cell? ⟨G,u,none⟩=some (.int .u32 (aB (P.getD u []):Nat))/\V.frozen? ⟨G,u,none⟩=false):=fun V k u O an R=>by
  have d:u<(ik P v k).length:=by rw[F0];omega
  have:=R.cell u (by rw[dM];exact d);rw[D8 d,aeH al an] at this;exact⟨this,R.fz u⟩
 have kY:Hid (∀(V:World) (k:Nat),k∈P.getD v [] ->cF V G ((ik P v k).map aB) ->cF (V.setCell ⟨G,k,none⟩ (.int .u32 (aB (yP P v k):Nat))) G ((ik P v (k+1)).map aB)):=fun V k m R=>by
  have:=R.set k (aB (yP P v k));rwa [aeF m,DD]
 have fD:Hid (∀k,¬k∈P.getD v [] ->ik P v (k+1)=ik P v k):=fun k h=>aeG h;have S:Hid (∀k,¬(v<k/\v∈P.getD v [])):=fun k h=>GD h.2;have LO:=hid (fun u=>UT (P.getD u []) (P.getD v []) (CR H u) M);have AY:=hid (fun (u:Nat) (O:u<8) (U:World)=>Ju (P.getD u []++P.getD v []) u U (acV (CR H u) M) O);have zz:Hid (∀(u:Nat) (U:World),du 150 #[.int .u32 (aB ((P.getD u []++P.getD v []).filter fun x=>decide (x≠u)):Nat),.int .i64 (v:Nat)] U fun e w'=>e=.returned (.int .u32 (aB (yP P v u):Nat))/\w'=U):=fun u U=>Ju _ v U (KU (acV (CR H u) M) _) al;have jZ:cF w G ((ik P v 0).map aB):=by rw[aeE];exact z
 have rV:sK P v=ik P v 8:=rfl;rw[rV];have P5:=hid (T.o w 0 v hv (S.o 0) jZ);generalize Ow:P.getD v []=bv at *;have zJ:=hid Ow;clear z hP H rV GD Ow;refine uN Tryz.func203 rfl trivial ?_ rfl;simp only[Tryz.ntmps203,nJ,ew,mG,Nat.reduceAdd,Nat.reduceSub,nR,nQ,nK,mI,jy,fG];obtain⟨f,j⟩:∃f,f=(w.alloc (.cells #[.slice (some ⟨G,0,none⟩) n c] 137)).alloc (.cells #[.int .i64 (v:Nat)] 3):=⟨_,rfl⟩;have Y:Boxed f w.heap.size 137 (.slice (some ⟨G,0,none⟩) n c):=by rw[j];exact(a8 w _ _).alloc _
 have I:Boxed f (w.heap.size+1) 3 (.int .i64 (v:Nat)):=by
  have h:=a8 (w.alloc (.cells #[.slice (some ⟨G,0,none⟩) n c] 137)) 3 (.int .i64 (v:Nat));rw[dE] at h;rw[j];exact h
 have Q:ef w f:=by
  rw[j];exact((au _ w).alloc (aq _) _).alloc aE _
 have E:=Y.cell;have F:=I.cell;have i:=(Q.cell (p:=⟨G,v,none⟩) ab).trans P5.o.1;rw[j] at E F i;gi_wp2
 rw[<- j];clear E F i j;have yZ:w.heap.size+1<f.heap.size:=I.lt
 refine DJ al bv M rfl rfl
  (fun k V=>Boxed V w.heap.size 137 (.slice (some ⟨G,0,none⟩) n c)/\Boxed V (w.heap.size+1) 3 (.int .i64 (v:Nat))/\cF V G ((ik P v k).map aB)/\w.grownBy V (some G))
  (fP (gZ (jN _ _ (fun _=>_)) _) (fP (gZ (jN _ _ (fun _=>_)) _) (fP (gZ (Nb _ (fun k:Nat=>(ik P v k).map aB)) _) (Zd al))))
  ⟨Y,I,jZ.aa Q ab,akw Q G⟩
  (fun k=> {tmps:= #[.slice (some ⟨G,0,none⟩) n c,.int .i64 (v:Nat),.pointer (some ⟨w.heap.size,0,none⟩),.pointer (some ⟨w.heap.size+1,0,none⟩),.int .i64 (k:Nat),.slice (some ⟨G,0,none⟩) n c,.int .i64 (v:Nat),.pointer (some ⟨G,v,none⟩),.int .u32 (aB bv:Nat),.func (.func 148) #[.int .u32 (aB bv:Nat)] #[],.int .i64 (k:Nat),undef,undef,undef,undef,undef,undef,undef,undef,undef,undef,undef,undef,undef,undef,undef,undef],defers:=[]}) ?assign ?body ?skip ?done
 case assign=>
  intro l k W K y;gi_wp2
  exact y
 case body=>
  rintro l k V A m ⟨J,d,g,L⟩;have ai:=LW.o k m;have aj:k≠v:=fun e=>S.o (k+1) ⟨al,e▸m⟩;have E:=J.cell;have F:=d.cell;have i:=(T.o V k v hv (S.o k) g).1;rw[zJ.o] at i;have jG:=T.o V k k ai al g;have av:=LO.o k;have ae:=hid (AY.o k A);have ad:=hid (zz.o k);have LA:=hid (fun U z=>kY.o U k m z);generalize aB ((P.getD k []++bv).filter fun x=>decide (x≠k))=m2 at *;generalize aB (P.getD k []++bv)=m1 at *;generalize aB (P.getD k [])=mu at *;generalize aB (yP P v k)=m3 at *;generalize aB bv=mv at *;gi_wp2_with fail
  refine yL (fun u=>u.cell? ⟨w.heap.size,0,none⟩=some (.slice (some ⟨G,0,none⟩) n c)/\u.cell? ⟨w.heap.size+1,0,none⟩=some (.int .i64 (v:Nat))/\u.cell? ⟨G,v,none⟩=some (.int .u32 (mv:Nat))) ao ao (fun ⟨_,_,h⟩=>h) ⟨E,F,i⟩ ?_;intro t;have hD:KeepsOthers V V.drew:=zW V;have q0:Boxed V.drew w.heap.size 137 (.slice (some ⟨G,0,none⟩) n c):=J;have q1:Boxed V.drew (w.heap.size+1) 3 (.int .i64 (v:Nat)):=d;have q2:cF V.drew G ((ik P v k).map aB):=g;have qB:=abH L;have kU:V.drew.cell? ⟨G,k,none⟩=some (.int .u32 (mu:Nat)):=jG.1;have fU:V.drew.frozen? ⟨G,k,none⟩=false:=jG.2;clear E F i jG J d g L Y I Q;generalize V.drew=q at *;refine ar 0 (.slice (some ⟨G,0,none⟩) n c) ?_;refine ar 1 (.int .i64 (k:Nat)) ?_;refine ar 2 (.slice (some ⟨G,0,none⟩) n c) ?_;refine ar 3 (.int .i64 (k:Nat)) ?_;refine ar 4 (.pointer (some ⟨G,k,none⟩)) ?_;refine ar 6 (.slice (some ⟨G,0,none⟩) n c) ?_;refine ar 7 (.int .i64 (v:Nat)) ?_;refine ar 8 (.pointer (some ⟨G,v,none⟩)) ?_;refine ar 9 (.int .u32 (mv:Nat)) ?_;refine ar 11 (.int .i64 (k:Nat)) ?_;refine ar 13 (.int .i64 (v:Nat)) ?_;refine aG [5] (cA ?_ aF);intro b a;go_simp;refine a.o _ _ t (fun s=>?_);clear a b s;refine ar 10 (.int .u32 (m1:Nat)) ?_;refine aG [12] (cA ?_ aF);intro b a;go_simp;refine(ae.o _).af ?_;rintro e X ⟨rfl,Z⟩;subst Z;refine a.o _ _ t (fun s=>?_);clear a b s;generalize X=q at *;refine aG [14] (cA ?_ aF);intro b a;go_simp;refine(ad.o _).af ?_;rintro e X ⟨rfl,Z⟩
  subst Z;refine a.o _ _ t (fun s=>?_);clear a b s;generalize X=q at *;refine ar 15 (.pointer (some ⟨G,k,none⟩)) ?_;refine aG [16] (cA ?_ aF);intro b a;go_simp;refine a.o _ _ ⟨(jJ q0 G k _ al).cell,(jJ q1 G k _ al).cell,(dY _ _ _ _ (fun e=>aj (dh Addr.off e))).trans t.2.2⟩ (fun _=>dS ao ?_ _);clear a b t;gi_wp2
  exact⟨(hD.trans (kh q _ _)).from _,jJ q0 G k _ al,jJ q1 G k _ al,LA.o q q2,abF qB (akv q G k _)⟩
 case skip=>
  rintro k V A m h;rw[fD.o k m];exact h
 case done=>
  rintro D V hD ⟨J,d,g,L⟩ y;gi_wp2
  refine⟨aE,.inl ⟨_,_,rfl,Bu y,?_⟩⟩;refine⟨_,results_none rfl _ _ _,⟨_,rfl⟩,Nb G (fun (_:Unit)=>(ik P v 8).map aB) () V _ (some D) g (grownBy_putObj' V D _) (fun r e=>by cases e;exact⟨_,y,rfl⟩),?_⟩;exact Zd (β:=Unit) (aq _) () V _ (some D) L (grownBy_putObj' V D _) (fun r e=>by cases e;exact⟨al,_,y,rfl⟩)
end
section
attribute [local go_sem] Oper.semAt_some
def jH (f:Nat ->Nat) (s:List Nat):Nat ->Option (Nat×Nat)
 |0=>none
 |k+1=>if k∈s then(match jH f s k with |none=>some (k,f k) |some (b,m)=>if f k<m then some (k,f k) else some (b,m)) else jH f s k
def KN:Option (Nat×Nat) ->Nat
 |none=>0
 |some (b,_)=>b
def Uw:Option (Nat×Nat) ->Int
 |none=> -1
 |some (_,m)=>(m:Int)
theorem akT {s:List Nat} (h:¬k∈s):jH f s (k+1)=jH f s k:=by rw[jH,aD h]
theorem akW {s:List Nat} (h:k∈s) (e:jH f s k=none):jH f s (k+1)=some (k,f k):=by rw[jH,aA h,e]
theorem akV {s:List Nat} {b:Nat} (h:k∈s) (e:jH f s k=some (b,m)) (l:f k<m):jH f s (k+1)=some (k,f k):=by rw[jH,aA h,e];exact aA l
theorem akU {s:List Nat} {b:Nat} (h:k∈s) (e:jH f s k=some (b,m)) (l:¬f k<m):jH f s (k+1)=some (b,m):=by rw[jH,aA h,e];exact aD l
def j6 (P:List (List Nat)) (s:List Nat):Nat:=KN (jH (pS P) s 8)
theorem aiV (P:List (List Nat)) (v:Nat):pS P v<=32:=by
 have:=O5 P v 8;rw[pS];omega
theorem ali (G n c:Nat) (P:List (List Nat)) (s:List Nat) (w:World) (hn:P.length=n) (h8:n<=8) (U:cF w G (P.map aB)) (hP:∀p∈P,∀u∈p,u<n) (T:∀u∈s,u<n):
  du 202 #[.slice (some ⟨G,0,none⟩) n c,.int .u32 (aB s:Nat)] w (eS w (.int .i64 (j6 P s:Nat))):=by
 refine(ix (n:=6)).1 ?_;have GP:∀u∈s,u<8:=fun u hu=>by have:=T u hu;omega
 have ak:=U.lt;have HL:=hid (fun (V:World) (t:ef w V) (k:Nat) (R:k<n)=>aiU G n c k P V hn h8 (U.aa t ak) hP R);have HN:=hid (fun k (h:¬k∈s)=>akT (f:=pS P) h);have HF:=hid (fun k (h:k∈s) e=>akW (f:=pS P) h e);have HS:=hid (fun k b m (h:k∈s) e S=>akV (f:=pS P) (b:=b) (m:=m) h e S);have HM:=hid (fun k b m (h:k∈s) e S=>akU (f:=pS P) (b:=b) (m:=m) h e S);have AZ:=hid T;have o0:j6 P s=KN (jH (pS P) s 8):=rfl;rw[o0];have ad:jH (pS P) s 0=none:=rfl;have pE:=hid (fun k=>aiV P k);generalize jH (pS P) s=fw at *;generalize pS P=lk at *;clear U hP T o0;refine uN Tryz.func202 rfl trivial ?_ rfl;simp only[Tryz.ntmps202,nJ,ew,mG,Nat.reduceAdd,Nat.reduceSub,nR,nQ,nK,mI,jy,fG];obtain⟨r,x⟩:∃r,r=((w.alloc (.cells #[.slice (some ⟨G,0,none⟩) n c] 137)).alloc (.cells #[.int .i64 0] 3)).alloc (.cells #[.int .i64 (-1)] 3):=⟨_,rfl⟩;have Y:Boxed r w.heap.size 137 (.slice (some ⟨G,0,none⟩) n c):=by rw[x];exact((a8 w _ _).alloc _).alloc _
 have Z:Boxed r (w.heap.size+1) 3 (.int .i64 (KN (fw 0):Nat)):=by
  have h:=(a8 (w.alloc (.cells #[.slice (some ⟨G,0,none⟩) n c] 137)) 3 (.int .i64 0)).alloc (.cells #[.int .i64 (-1)] 3);rw[dE] at h;rw[x,ad];exact h
 have M:Boxed r (w.heap.size+1+1) 3 (.int .i64 (Uw (fw 0))):=by
  have h:=a8 ((w.alloc (.cells #[.slice (some ⟨G,0,none⟩) n c] 137)).alloc (.cells #[.int .i64 0] 3)) 3 (.int .i64 (-1));rw[dE,dE] at h;rw[x,ad];exact h
 have ab:ef w r:=by
  rw[x];exact(((au _ w).alloc (aq _) _).alloc aE _).alloc (by simp;omega) _
 gi_wp2
 rw[<- x];clear x;have yZ:w.heap.size+1+1<r.heap.size:=M.lt
 refine DJ al s GP rfl rfl
  (fun k V=>Boxed V w.heap.size 137 (.slice (some ⟨G,0,none⟩) n c)/\Boxed V (w.heap.size+1) 3 (.int .i64 (KN (fw k):Nat))/\Boxed V (w.heap.size+1+1) 3 (.int .i64 (Uw (fw k)))/\ef w V)
  (fP (gZ (jN _ _ (fun _=>_)) _) (fP (gZ (jN _ _ (fun k:Nat=>.int .i64 (KN (fw k):Nat))) _) (fP (gZ (jN _ _ (fun k:Nat=>.int .i64 (Uw (fw k)))) _) (zM (aq _) al))))
  ⟨Y,Z,M,ab⟩
  (fun k=> {tmps:= #[.slice (some ⟨G,0,none⟩) n c,.int .u32 (aB s:Nat),.pointer (some ⟨w.heap.size,0,none⟩),undef,.int .i64 0,.pointer (some ⟨w.heap.size+1,0,none⟩),.pointer (some ⟨w.heap.size+1+1,0,none⟩),.int .i64 (k:Nat),undef,.int .u32 (aB s:Nat),.func (.func 148) #[.int .u32 (aB s:Nat)] #[],.int .i64 (k:Nat),undef,undef,undef,undef,undef,undef,undef,undef,undef,undef,undef,undef,undef],defers:=[]}) ?assign ?body ?skip ?done
 case assign=>
  intro l k W K J;gi_wp2
  exact J
 case body=>
  rintro l k V R v ⟨A,F,I,t⟩;have Q:=hid (HL.o V t k (AZ.o k v));have an:=pE.o k;have ah:=hid (HF.o k v);have PB:=hid (fun b m=>HS.o k b m v);have ai:=hid (fun b m=>HM.o k b m v);have k0:=A.cell;have z:=hid t;have H:=hid (And.intro A (And.intro F I));have X:=I.lt;clear A F I t Y Z M ab;generalize fw k=st at *;generalize lk k=L at *;have ao:¬(L:Int)<0:=al
  cases st with
  |none=>
   have g:=ah.o rfl;have E:=hid g;clear g;gi_wp2_with (refine⟨trivial,?_⟩;gi_at_call 230;refine(MM l (ix.2 Q.o)).af ?_;rintro e i ⟨rfl,a⟩;have y:=xK H.o.1 a al;have d:=xK H.o.2.1 a al;have q:=xK H.o.2.2 a X;have j1:=d.cell;have j:=q.cell;have g1:=d.frozen;have g2:=q.frozen;have ae:i.cell? ⟨w.heap.size+1+1,0,none⟩=some (.int .i64 (-1)):=j;clear j)
   refine⟨((Sy a).trans ((kh i _ _).trans (kh _ _ _))).from _,jJ (jJ y _ 0 _ al) _ 0 _ al,?_,?_,?_⟩
   ·rw[E.o];exact jJ (d.set _) _ 0 _ al
   ·rw[E.o];exact(jJ q _ 0 _ al).set _
   ·exact((z.o.trans (a.af z.o.size)).setCell (p:=⟨w.heap.size+1,0,none⟩) aE _).setCell (p:=⟨w.heap.size+1+1,0,none⟩) (by show w.heap.size<=w.heap.size+1+1;omega) _
  |some bm=>
   obtain⟨b,m⟩:=bm;(have av:¬(m:Int)<0:=al);by_cases O:L<m
   ·have g:=PB.o b m rfl O;have E:=hid g;(have aj:(L:Int)<(m:Int):=al);clear g;gi_wp2_with (refine⟨trivial,?_⟩;gi_at_call 230;refine(MM l (ix.2 Q.o)).af ?_;rintro e i ⟨rfl,a⟩;have y:=xK H.o.1 a al;have d:=xK H.o.2.1 a al;have q:=xK H.o.2.2 a X;have j1:=d.cell;have j:=q.cell;have g1:=d.frozen;have g2:=q.frozen;have ae:i.cell? ⟨w.heap.size+1+1,0,none⟩=some (.int .i64 (m:Nat)):=j;clear j)
    refine⟨((Sy a).trans ((kh i _ _).trans (kh _ _ _))).from _,jJ (jJ y _ 0 _ al) _ 0 _ al,?_,?_,?_⟩
    ·rw[E.o];exact jJ (d.set _) _ 0 _ al
    ·rw[E.o];exact(jJ q _ 0 _ al).set _
    ·exact((z.o.trans (a.af z.o.size)).setCell (p:=⟨w.heap.size+1,0,none⟩) aE _).setCell (p:=⟨w.heap.size+1+1,0,none⟩) (by show w.heap.size<=w.heap.size+1+1;omega) _
   ·have g:=ai.o b m rfl O;have E:=hid g;(have aj:¬(L:Int)<(m:Int):=al);clear g O;gi_wp2_with (refine⟨trivial,?_⟩;gi_at_call 230;refine(MM l (ix.2 Q.o)).af ?_;rintro e i ⟨rfl,a⟩;have y:=xK H.o.1 a al;have d:=xK H.o.2.1 a al;have q:=xK H.o.2.2 a X;have j:=q.cell;have ae:i.cell? ⟨w.heap.size+1+1,0,none⟩=some (.int .i64 (m:Nat)):=j;clear j)
    exact⟨(Sy a).from _,y,by rw[E.o];exact d,by rw[E.o];exact q,z.o.trans (a.af z.o.size)⟩
 case skip=>
  rintro k V R v h;rw[HN.o k v];exact h
 case done=>
  rintro D V hD ⟨A,F,I,t⟩ J;have hc:=F.cell;gi_wp2
  refine⟨aE,.inl ⟨_,_,rfl,Bu J,?_⟩⟩;exact⟨_,Bx rfl _ _ _,rfl,t.trans (uP (w:=w) (aq _) V D _ _ al J rfl rfl)⟩
end
def qY (w:World) (g:Nat) (l:List Value):Prop:=w.heap[g]? =some (.cells l.toArray 22 (0,0))
theorem qY.cell {l:List Value} (h:qY w g l) (j:Nat) (a:j<l.length):w.cell? ⟨g,j,none⟩=some l[j]:=by
 rw[bG w g j _ _ (0,0) h];simp[a]
theorem qY.fz {l:List Value} (h:qY w g l) (j:Nat):w.frozen? ⟨g,j,none⟩=false:=jw w g j _ _ h
theorem qY.lt {l:List Value} (h:qY w g l):g<w.heap.size:=(cJ.1 h).1
theorem qY.aa {b:Nat} {l:List Value} (h:qY w g l) (a:Below b w w') (c:g<b):qY w' g l:=(a.block g c).trans h
theorem qY.set {l:List Value} (h:qY w g l) (j:Nat) (y:Value):qY (w.setCell ⟨g,j,none⟩ y) g (l.set j y):=by
 have a:=jf w g j _ _ y h;rw[qY,a];simp
theorem Tryz.infoInts1:(Tryz.prog.info? 22).map (fun i=>(i.zero,i.size,i.bytes))=some (some (.slice none 0 0),1,24):=ao
theorem aiI (n:Nat):(madeCells (Value.slice none 0 0).cells (n*1)).toList=List.replicate n (Value.slice none 0 0):=by
 rw[show (Value.slice none 0 0).cells= #[Value.slice none 0 0] from rfl,FK,kF]
def gP (s:List Nat):List Int:=iL (fL s 8)
def Lf (w:World) (P:List (List Nat)) (l:List Value) (i:Nat):Prop:=l.length=P.length/\∀j (hj:j<P.length),j< i ->∃d cd,l[j]? =some (.slice d (gP P[j]).length cd)/\aJ w d (gP P[j])
theorem Lf.aa {P:List (List Nat)} {l:List Value} (h:Lf w P l i) (e:ef w w'):Lf w' P l i:=⟨h.1,fun j g f=>by
 obtain⟨d,c,a,b⟩:=h.2 j g f;exact⟨d,c,a,b.aa e⟩⟩
theorem aJ.off {d:Option Addr} {l:List Int} (h:aJ w d l) (i:∀g' o',d=some ⟨g',o',none⟩ ->l≠[] ->g'≠g):aJ (w.setCell ⟨g,j,none⟩ y) d l:=fun k a=>by
 obtain⟨g',o',b,c,f⟩:=h k a;have n:=i g' o' b (fun e=>by rw[e] at a;simp at a);refine⟨g',o',b,by simpa using c,?_⟩;rw[<- f];have e:=fQ w ⟨g,j,none⟩ y g' (by show g'≠g;exact n);exact nH e
theorem aas {d:Option Addr} {l:List Int} {vs:List Value} (h:aJ w d l) (j:qY w g vs) (m:∀v∈vs,∃a n c,v=.slice a n c):∀g' o',d=some ⟨g',o',none⟩ ->l≠[] ->g'≠g:=fun g' o' i k e=>by
 subst e;have p:0<l.length:=List.length_pos_iff.2 k;obtain⟨o,r,f,q,b⟩:=h 0 p;rw[i] at f;cases f;rw[bG w g' _ _ _ (0,0) j] at b;rw[List.getElem?_toArray] at b;obtain⟨a,n,c,e⟩:=m _ (List.mem_of_getElem? b);cases e
def Slv (l:List Value):Prop:=∀v∈l,∃a n c,v=Value.slice a n c
theorem aaa (a:Option Addr) (ca:Nat) (P:List (List Nat)) (w:World) (F:∀p∈P,∀u∈p,u<8) (hn:P.length<=5000) (S:∀k (h:k<P.length),∃g o,a=some ⟨g,o,none⟩/\g<w.heap.size/\w.cell? ⟨g,o+k,none⟩=some (.int .u32 (aB P[k]:Nat))):
  du 151 #[.slice a P.length ca] w fun e w'=>∃G,e=.returned (.slice (some ⟨G,0,none⟩) P.length P.length)/\w.heap.size<=G/\gW w' (some ⟨G,0,none⟩) (P.map gP)/\ef w w':=by
 obtain⟨i0,Y,ai,aj,ak⟩:=dJ Tryz.infoInts1;have X:=hid S;have V:=hid F;have Q:=hid (fun (s:List Nat) (hs:∀u∈s,u<8) (U:World)=>aab s U hs);clear S F;go_enter Tryz.func151,Tryz.ntmps151
 go_wp2_with (first
  |(at_make;refine lj _ rfl _ _ 31 rfl w.heap.size 22 i0 (.slice none 0 0) 1 Tryz.underlying31 Y ai aj .i64 .i64 _ _ P.length rfl rfl b5 b5 (by rw[ak];omega) (by unfold maxLen;omega) (aq _) ?_;intro J M O))
 have t:=qg M;rw[aiI] at t;have A:Hid (ef w J):=(au _ w).grown O (aq _) (fun k e=>by cases e);have y:Hid (qY J w.heap.size (List.replicate P.length (.slice none 0 0))):=t;clear M O t;go_wp2_with fail
 go_loopw [11] (fun iv wr=>∃(i:Nat) (vs:List Value),i<=P.length/\iv=.int .i64 i/\Hid (qY wr w.heap.size vs)/\Hid (Lf wr P vs i)/\Hid (Slv vs)/\Hid (ef w wr)) (fun iv _=>P.length - (intOf iv).toNat)
 case atStart=>exact⟨0,_,aV _,rfl,y,⟨aE,fun j _ h=>absurd h al⟩,fun v f=>⟨none,0,0,(List.mem_replicate.1 f).2⟩,A⟩
 case round=>
  obtain⟨i,vs,hi,rfl,R,E,n,H⟩:=hrel;clear y A;by_cases L:i<P.length
  ·obtain⟨g,o,rfl,hg,D⟩:=X.o i L;have Z:=(H.o.cell (p:=⟨g,o+i,none⟩) hg).trans D;have T:=hid (Q.o P[i] (V.o _ (bF L)));have ah:=E.o.1;clear D;go_wp2_with fail
   refine(T.o _).af ?_;rintro e w3 ⟨v,rfl,f,m⟩;obtain⟨d,c,rfl,I⟩:=f.ints;have l:=R.o.aa m R.o.lt;have K:=E.o.aa m;have k3:=l.cell i al;have f3:=l.fz i;have wu:=hid ((H.o.trans (m.af H.o.size)).setCell (p:=⟨w.heap.size,i,none⟩) (aq _) (.slice d (gP P[i]).length c));have kd:=hid (l.set i (.slice d (gP P[i]).length c))
   have ab:Hid (Slv (vs.set i (.slice d (gP P[i]).length c))):=fun x hx=>by
    rcases WN hx with h |h
    ·exact n.o x h
    ·exact⟨_,_,_,h⟩
   have ad:Hid (Lf (w3.setCell ⟨w.heap.size,i,none⟩ (.slice d (gP P[i]).length c)) P (vs.set i (.slice d (gP P[i]).length c)) (i+1)):=by
    refine⟨by rw[kg];exact ah,fun j hj rS=>?_⟩;by_cases e:j=i
    ·subst e;exact⟨d,c,by rw[List.getElem?_set_self al],aJ.off I (aas I l n.o)⟩
    ·obtain⟨d',ae,q,b⟩:=K.2 j hj al;exact⟨d',ae,by rw[QL (fun e'=>e e'.symm)];exact q,aJ.off b (aas b l n.o)⟩
   rw[show iL (fL P[i] 8)=gP P[i] from rfl];generalize (gP P[i]).length=ln at *;generalize vs[i]'al=z at *;clear l K m I f Z;go_wp2;go_roundw
   case rel=>exact⟨i+1,_,al,b5,kd,ad,ab,wu⟩
   case measure=>simp[intOf];omega
  ·obtain rfl:i=P.length:=al
   have cS:Hid (gW wr (some ⟨w.heap.size,0,none⟩) (P.map gP)):=fun k r=>by
    rw[dM] at r;obtain⟨d,c,q,b⟩:=E.o.2 k r r;obtain⟨h3,h4⟩:=mH.1 q;refine⟨w.heap.size,0,d,c,rfl,R.o.lt,?_,by rw[nO];exact b⟩;rw[bB,R.o.cell k h3,h4,nO]
   go_wp2;go_ret;exact⟨w.heap.size,rfl,aq _,cS.o,H.o⟩
variable {nv v':Value} {w9 wr wr':World}
def xN (w:World) (B:Nat) (v:Value) (l:List Nat):Prop:=w.ownsRow B 141 1 v l.length (l.map uv)
theorem xN.own {B:Nat} {v:Value} {l:List Nat} (h:xN w B v l):∀k,v.ownBlock=some k ->B<=k:=by
 intro k a;rcases h.2 with ⟨rfl,_⟩ |⟨g,cap,c,rfl,b,_⟩
 ·cases a
 ·cases a;exact b
theorem xN.slv {B:Nat} {v:Value} {l:List Nat} (h:xN w B v l):∃d n c,v=.slice d n c:=by
 rcases h.2 with ⟨rfl,_⟩ |⟨g,cap,r,rfl,a,_⟩
 ·exact⟨_,_,_,rfl⟩
 ·exact⟨_,_,_,rfl⟩
theorem Zb {W:World} {d f:Nat} {a b:TypeId} {c v:Value} {n m:Nat} {x o:List Value} (h1:W.ownsRow d a 1 c n x) (j:W.ownsRow f b 1 v m o) (k:a≠b):v.ownBlock=none∨v.ownBlock≠c.ownBlock:=by
 rcases j.2 with ⟨rfl,_⟩ |⟨g,cap,r,rfl,_,l,_⟩
 ·exact .inl rfl
 ·refine .inr fun e=>?_;rcases h1.2 with ⟨rfl,_⟩ |⟨g',p,u,rfl,_,i,_⟩
  ·cases e
  ·have h:g=g':=oP e;subst h;rw[l] at i;injection i with h3;injection h3 with _ h4 _;exact k h4.symm
theorem Zc {W:World} {B G:Nat} {e:TypeId} {v:Value} {x:List Value} (h:W.ownsRow B e 1 v n x) (c:G<B):v.ownBlock=none∨v.ownBlock≠some G:=by
 rcases h.2 with ⟨rfl,_⟩ |⟨g,cap,r,rfl,b,_⟩
 ·exact .inl rfl
 ·exact .inr fun e=>by
   have a:g=G:=oP e;omega
theorem Ul {G:Nat} {row:Option Nat} (h:w.grownBy V (some G)) (g:V.grownBy V' row) (b:∀r,row=some r ->w.heap.size<=r):w.grownBy V' (some G):=
 ⟨g.os.trans h.os,g.tape.trans h.tape,g.output.trans h.output,aR h.size g.size,fun k a n=>(g.block k (aU a h.size) (fun e=>by
  have:=b k e.symm;omega)).trans (h.block k a n)⟩
theorem Tryz.infoSet2:(Tryz.prog.info? 141).map (fun i=>(i.zero,i.size,i.bytes))=some (some (.int .u32 0),1,4):=ao
theorem adX {o:Oper} {a:Act} (s x:Operand)
  (k:o.op=.call {callee:=.builtin .append,args:= #[s,x],argTypes:= #[137,137]}) (base:Nat) (v:Value) (l:List Nat) (f:Nat) (m:a.eval s=v) (t:xN w base v l) (g:Nat) (n:a.eval x=.slice (some ⟨g,0,none⟩) 1 1) (i:w.cell? ⟨g,0,none⟩=some (uv f)) (A:l.length+1<=100000) (y:base<=w.heap.size)
  (h:∀v' w',xN w' base v' (l++[f]) ->w.grownBy w' v.ownBlock ->K (a.put o.dst v') w'):o.wp Tryz.prog a w K Q:=by
 obtain⟨p,M,z,q,r⟩:=dJ Tryz.infoSet2;refine FE _ s x 137 k base 141 p (.int .u32 0) 1 4 Tryz.underlying137 M z q r rfl bd v l.length _ m t ⟨g,0,none⟩ 1 1 [uv f] n rfl ?_ ?_ (by unfold maxLen;omega) al y ?_
 ·intro j u b;match j,b with
  |0,b=>cases b;exact i
  |j+1,b=>simp at b
 ·intro u c;simp only[dU,nL,tV] at c;subst c;rfl
 ·intro v' w' d e _;refine h v' w' ?_ e;rw[xN,bK,eP];exact d
theorem ad0 {o:Oper} {a:Act} (s x:Operand)
  (k:o.op=.call {callee:=.builtin .append,args:= #[s,x],argTypes:= #[22,22]}) (base:Nat) (v:Value) (l:List Int) (f:Int) (m:a.eval s=v) (t:bP w base v l) (g:Nat) (n:a.eval x=.slice (some ⟨g,0,none⟩) 1 1) (i:w.cell? ⟨g,0,none⟩=some (.int .i64 f)) (A:l.length+1<=100000) (y:base<=w.heap.size)
  (h:∀v' w',bP w' base v' (l++[f]) ->w.grownBy w' v.ownBlock ->K (a.put o.dst v') w'):o.wp Tryz.prog a w K Q:=by
 obtain⟨p,M,z,q,r⟩:=dJ Tryz.infoInt;refine FE _ s x 22 k base 3 p (.int .i64 0) 1 8 Tryz.underlying22 M z q r rfl bd v l.length _ m t ⟨g,0,none⟩ 1 1 [.int .i64 f] n rfl ?_ ?_ (by unfold maxLen;omega) al y ?_
 ·intro j u b;match j,b with
  |0,b=>cases b;exact i
  |j+1,b=>simp at b
 ·intro u c;simp only[dU,nL,tV] at c;subst c;rfl
 ·intro v' w' d e _;refine h v' w' ?_ e;rw[bP,bK,eP];exact d
def wH:Nat ->List Nat
 |0=>[]
 |i+1=>i::wH i
theorem zZ {x:Nat}:x∈wH i↔x<i:=by
 induction i with
 |zero=>simp[wH]
 |succ i ih=>rw[wH,dU,ih];omega
structure FlS where
 ord:List Nat
 bag:List (List Nat)
 lft:List Nat
 nei:List (List Nat)
def bC (P:List (List Nat)) (n:Nat):Nat ->FlS
 |0=>⟨[],[],wH n,P⟩
 |k+1=>⟨(bC P n k).ord++[j6 (bC P n k).nei (bC P n k).lft],(bC P n k).bag++[j6 (bC P n k).nei (bC P n k).lft::(bC P n k).nei.getD (j6 (bC P n k).nei (bC P n k).lft) []],(bC P n k).lft.filter (fun u=>decide (u≠j6 (bC P n k).nei (bC P n k).lft)),sK (bC P n k).nei (j6 (bC P n k).nei (bC P n k).lft)⟩
structure tA (n:Nat) (P:List (List Nat)):Prop where
 len:P.length=n
 lt:∀p∈P,∀u∈p,u<n
 self:∀u,¬u∈P.getD u []
theorem tA.at {P:List (List Nat)} (h:tA n P) (v:Nat):∀u∈P.getD v [],u<n:=by
 by_cases a:v<P.length
 ·rw[bY,bj a];exact h.lt _ (bF a)
 ·rw[bY,jA al];intro u b;simp at b
theorem Sd {P:List (List Nat)} {x:Nat}:x∈yP P v u↔(x∈P.getD u []∨x∈P.getD v [])/\x≠u/\x≠v:=by
 simp only[yP,eL,ck,IG];exact⟨fun ⟨⟨a,b⟩,c⟩=>⟨a,b,c⟩,fun ⟨a,b,c⟩=>⟨⟨a,b⟩,c⟩⟩
theorem tA.take {P:List (List Nat)} (h:tA n P) (v:Nat):tA n (sK P v):=by
 refine⟨by rw[sK,F0];exact h.len,fun p b u a=>?_,fun u a=>?_⟩
 ·obtain⟨i,d,rfl⟩:=ba.1 b;by_cases c:i<8/\i∈P.getD v []
  ·rw[aA c,Sd] at a;exact a.1.elim (h.at i u) (h.at v u)
  ·rw[aD c] at a;exact h.at i u a
 ·by_cases l:u<P.length
  ·have e:(sK P v).getD u []=if u<8/\u∈P.getD v [] then yP P v u else P.getD u []:=by
    rw[bY,bj (by rw[sK,F0];exact l)];simp[sK,ik]
   rw[e] at a;by_cases c:u<8/\u∈P.getD v []
   ·rw[aA c,Sd] at a;exact a.2.1 rfl
   ·rw[aD c] at a;exact h.self u a
  ·rw[bY,jA (by rw[sK,F0];omega)] at a;simp at a
theorem OY {s:List Nat}:∀ {k b m:Nat},jH f s k=some (b,m) ->b∈s
 |0,_,_,h=>by cases h
 |k+1,b,m,h=>by
  by_cases a:k∈s
  ·rw[jH,aA a] at h;cases hf:jH f s k with
   |none=>rw[hf] at h;cases h;exact a
   |some x=>
    obtain⟨d,c⟩:=x;rw[hf] at h;simp only at h;by_cases l:f k<c
    ·rw[aA l] at h;cases h;exact a
    ·rw[aD l] at h;cases h;exact OY hf
  ·rw[jH,aD a] at h;exact OY h
theorem ab5 {P:List (List Nat)} {s:List Nat} (h1:1<=n) (a:∀u∈s,u<n):j6 P s<n:=by
 rw[j6];cases h:jH (pS P) s 8 with
 |none=>exact h1
 |some x=>
  obtain⟨b,m⟩:=x;exact a b (OY h)
theorem O1 {P:List (List Nat)} (h:tA n P):∀k,tA n (bC P n k).nei/\(∀u∈(bC P n k).lft,u<n)/\(bC P n k).ord.length=k/\(bC P n k).bag.length=k
 |0=>⟨h,fun u a=>zZ.1 a,rfl,rfl⟩
 |k+1=>by
  obtain⟨b,c,d,e⟩:=O1 h k;exact⟨b.take _,fun u a=>c u (eL.1 a).1,by simp[bC,d],by simp[bC,e]⟩
structure nE (w wr:World) (G:Nat) (nv bv:Value) (o:List Int) (b Q:List Nat):Prop where
 row:cF wr G Q
 grow:w.grownBy wr (some G)
 nd:bP wr w.heap.size nv o
 bg:xN wr w.heap.size bv b
theorem nE.aa {G:Nat} {bv:Value} {o:List Int} {b Q:List Nat} (h:nE w wr G nv bv o b Q) (a:ef wr wr'):nE w wr' G nv bv o b Q:=
 ⟨h.row.aa a h.row.lt,Ul h.grow (row:=none) ⟨a.os,a.tape,a.output,a.size,fun k c _=>a.block k c⟩ (fun r e=>by cases e),h.nd.under a,Nu h.bg a (aq _)⟩
theorem nE.nodes {G:Nat} {bv:Value} {o o':List Int} {b Q:List Nat} (h:nE w wr G nv bv o b Q) (c:G<w.heap.size) (a:bP w9 w.heap.size v' o') (g:wr.grownBy w9 nv.ownBlock):nE w w9 G v' bv o' b Q:=
 ⟨(g.block G h.row.lt (fun e=>by have:=h.nd.own G e.symm;omega)).trans h.row,Ul h.grow g (fun r e=>h.nd.own r e),a,QA h.bg g (Zb h.nd h.bg bd)⟩
theorem nE.bags {G:Nat} {bv:Value} {o:List Int} {b a Q:List Nat} (h:nE w wr G nv bv o b Q) (d:G<w.heap.size) (c:xN w9 w.heap.size v' a) (g:wr.grownBy w9 bv.ownBlock):nE w w9 G nv v' o a Q:=
 ⟨(g.block G h.row.lt (fun e=>by have:=h.bg.own G e.symm;omega)).trans h.row,Ul h.grow g (fun r e=>h.bg.own r e),QA h.nd g (Zb h.bg h.nd bd),c⟩
theorem nE.o {G:Nat} {bv:Value} {o:List Int} {b Q a:List Nat} (h:nE w wr G nv bv o b Q) (c:G<w.heap.size) (r:cF w9 G a) (g:wr.grownBy w9 (some G)):nE w w9 G nv bv o b a:=
 ⟨r,abF h.grow g,QA h.nd g (Zc h.nd c),QA h.bg g (Zc h.bg c)⟩
theorem nE.drew {G:Nat} {bv:Value} {o:List Int} {b Q:List Nat} (h:nE w wr G nv bv o b Q):nE w wr.drew G nv bv o b Q:=⟨h.row,abH h.grow,h.nd,h.bg⟩
theorem akC (G n c:Nat) (P:List (List Nat)) (w:World) (h1:1<=n) (h8:n<=8) (m:cF w G (P.map aB)) (hP:tA n P):
  du 153 #[.slice (some ⟨G,0,none⟩) n c] w fun e w'=>∃nv bv,e=.returned (.tuple #[nv,bv])/\nE w w' G nv bv (iL (bC P n n).ord) ((bC P n n).bag.map aB) ((bC P n n).nei.map aB):=by
 have L:=m.lt;have oM:=hid (fun k=>O1 hP k);have V:Hid (nE w w G (.slice none 0 0) (.slice none 0 0) (iL (bC P n 0).ord) ((bC P n 0).bag.map aB) ((bC P n 0).nei.map aB)):=⟨m,⟨rfl,rfl,rfl,aq _,fun _ _ _=>rfl⟩,⟨rfl,.inl ⟨rfl,rfl⟩⟩,⟨rfl,.inl ⟨rfl,rfl⟩⟩⟩;have Z:=hid (fun (i:Nat) (M:i<8) (U:World)=>F5 (wH i) i U (fun u x=>by have:=zZ.1 x;omega) M);have ab:Hid (∀i,aB (i::wH i)=aB (wH (i+1))):=fun i=>rfl;have ae:Hid (∀k,bC P n (k+1)=⟨(bC P n k).ord++[j6 (bC P n k).nei (bC P n k).lft],(bC P n k).bag++[j6 (bC P n k).nei (bC P n k).lft::(bC P n k).nei.getD (j6 (bC P n k).nei (bC P n k).lft) []],(bC P n k).lft.filter (fun u=>decide (u≠j6 (bC P n k).nei (bC P n k).lft)),sK (bC P n k).nei (j6 (bC P n k).nei (bC P n k).lft)⟩):=fun k=>rfl;have Ik:Hid ((bC P n 0).lft=wH n):=rfl;generalize bC P n=t at *;clear m hP;go_enter Tryz.func153,Tryz.ntmps153;go_wp2_with fail
 go_loopw [4,9] (fun sv iv wr=>∃i:Nat,i<=n/\sv=.int .u32 (aB (wH i):Nat)/\iv=.int .i64 i/\wr=w) (fun _ iv _=>n - (intOf iv).toNat)
 case atStart=>exact⟨0,aV _,rfl,rfl,rfl⟩
 case round=>
  obtain⟨i,M,rfl,rfl,Q⟩:=hrel;replace Q:=Q.symm;subst Q;by_cases ad:i<n
  ·have Y:=hid (Z.o i al);rw[ab.o i] at Y;generalize aB (wH i)=O at *;go_wp2_with fail
   refine(Y.o _).af ?_;rintro e w1 ⟨rfl,aj⟩;subst aj;go_wp2;go_roundw
   case rel=>exact⟨i+1,al,rfl,b5,trivial⟩
   case measure=>simp[intOf];omega
  ·obtain rfl:i=n:=al
   rw[<- Ik.o];clear M ad Z ab;go_wp2_with fail
   go_loopw [2,3,4,18] (fun nv bv sv iv wr'=>∃k:Nat,k<=i/\iv=.int .i64 k/\sv=.int .u32 (aB (t k).lft:Nat)/\Hid (nE w wr' G nv bv (iL (t k).ord) ((t k).bag.map aB) ((t k).nei.map aB))) (fun _ _ _ iv _=>i - (intOf iv).toNat)
   case atStart=>exact⟨0,aV _,rfl,rfl,V⟩
   case round=>
    obtain⟨k,hk,rfl,rfl,H⟩:=hrel;clear V;by_cases ad:k<i
    ·obtain⟨j,D,ax,av⟩:=oM.o k;have X:=hid (ae.o k);(obtain⟨d2,n2,e2,rfl⟩:∃d n c,u2=Value.slice d n c:=by obtain⟨d,cd,e, -⟩:=H.o.nd.ints;exact⟨_,_,_,e⟩);obtain⟨d3,n3,e3,rfl⟩:=H.o.bg.slv;generalize t k=S at *;have ai:=ab5 (P:=S.nei) h1 D;have Iq:=hid (fun (U:World) (m:cF U G (S.nei.map aB))=>ali G i c S.nei S.lft U j.len h8 m j.lt D);have EX:=hid (fun (U:World) (m:cF U G (S.nei.map aB))=>aeL G i c (j6 S.nei S.lft) S.nei U j.len h8 m j.lt ai (j.self _));have xT:=hid (fun (U:World)=>F5 (S.nei.getD (j6 S.nei S.lft) []) (j6 S.nei S.lft) U (fun u x=>by have:=j.at _ u x;omega) al);have mq:=hid (fun (U:World)=>Ju S.lft (j6 S.nei S.lft) U (fun u x=>by have:=D u x;omega) al)
     have Fv:Hid (∀U:World,cF U G (S.nei.map aB) ->U.cell? ⟨G,j6 S.nei S.lft,none⟩=some (.int .u32 (aB (S.nei.getD (j6 S.nei S.lft) []):Nat))):=fun U hR=>by
      have hl:=j.len;have:=hR.cell (j6 S.nei S.lft) (by rw[dM];omega);rwa [D8 al] at this
     generalize GD:j6 S.nei S.lft=v at *;clear GD j D;generalize hm4:aB (S.lft.filter fun u=>decide (u≠v))=m4 at *;have vV:=hid hm4;clear hm4;go_wp2_with fail
     refine(Iq.o _ H.o.row).af ?_;rintro e w1 ⟨rfl,hb⟩;have J:=H.o.aa hb;clear hb H;have kc:=Fv.o _ J.row;have R:Hid (aB (v::S.nei.getD v [])=aB (v::S.nei.getD v [])):=rfl;generalize hm1:aB (v::S.nei.getD v [])=s at *;replace R:Hid (aB (v::S.nei.getD v [])=s):=hm1;clear hm1;generalize aB (S.nei.getD v [])=O at *;go_upto_region 10 with fail
     refine gI (S:=fun u=>u.cell? ⟨G,v,none⟩=some (.int .u32 (O:Nat))) ao kc (fun a=>?_);have r:=J.drew;(have ay:(iL S.ord).length<=8:=by rw[bI];omega);(have kx:(S.bag.map aB).length<=8:=by rw[dM];omega);clear kc J;generalize w1.drew=g at *;refine ar 0 (.slice d2 n2 e2) ?_;refine ar 1 (.int .i64 (v:Nat)) ?_;refine ar 4 (.slice d3 n3 e3) ?_;refine ar 5 (.slice (some ⟨G,0,none⟩) i c) ?_;refine ar 6 (.int .i64 (v:Nat)) ?_;refine ar 7 (.pointer (some ⟨G,v,none⟩)) ?_;(try simp only[gE,aP]);refine ed 8 (.int .u32 (O:Nat)) ?_ ?_
     ·intro u' aO;have s0:=aO;go_simp
     refine ar 9 (.int .i64 (v:Nat)) ?_;refine aG [2] (cA ?_ aF);intro K h;go_simp;have F:=(au _ g).alloc (aq _) (.cells #[.int .i64 (v:Nat)] 3);have f:=r.aa F;have HC:=(a8 g 3 (.int .i64 (v:Nat))).cell;refine h.o _ _ ((F.cell (p:=⟨G,v,none⟩) r.row.lt).trans a) (fun b=>?_);clear h K a r F;have a:=b;clear b;generalize (g.alloc (.cells #[.int .i64 (v:Nat)] 3))=U1 at *;generalize g.heap.size=I at *;refine aG [3] (cA ?_ aF);intro K h;rw[aA (by rfl)];refine ad0 _ _ rfl w.heap.size _ (iL S.ord) (v:Nat) rfl f.nd I rfl HC al f.grow.size ?_;intro v' w9 q l;(obtain⟨z,E,y,rfl⟩:∃d n c,v'=Value.slice d n c:=by obtain⟨d,cd,e, -⟩:=q.ints;exact⟨_,_,_,e⟩);have A:=f.nodes L q l;refine h.o _ _ ((nH (l.block G f.row.lt (fun e=>by have:=f.nd.own G e.symm;omega))).trans a) (fun b=>?_);clear h K a f q l HC;have a:=b;clear b;have td:True:=trivial;clear td;generalize hd:z=dn at *;generalize mV:E=nn at *;generalize Ov:y=cn at *;clear hd mV Ov z E y;refine aG [10] (cA ?_ aF);intro K h;go_simp;refine(xT.o _).af ?_;rintro e U2 ⟨rfl,jG⟩;subst jG;refine h.o _ _ a (fun b=>?_);clear h K b;have r:=A;clear A;generalize U2=g at *;refine aG [11] (cA ?_ aF);intro K h;go_simp;have F:=(au _ g).alloc (aq _) (.cells #[.int .u32 (s:Nat)] 141);have f:=r.aa F;have HC:=(a8 g 141 (.int .u32 (s:Nat))).cell;refine h.o _ _ ((F.cell (p:=⟨G,v,none⟩) r.row.lt).trans a) (fun b=>?_);clear h K a r F;have a:=b;clear b
     generalize (g.alloc (.cells #[.int .u32 (s:Nat)] 141))=U1 at *;generalize g.heap.size=I at *;refine aG [12] (cA ?_ aF);intro K h;rw[aA (by rfl)];refine adX _ _ rfl w.heap.size _ (S.bag.map aB) s rfl f.bg I rfl HC al f.grow.size ?_;intro v' w9 q l;obtain⟨z,E,y,rfl⟩:∃d n c,v'=Value.slice d n c:=q.slv;have A:=f.bags L q l;refine h.o _ _ ((nH (l.block G f.row.lt (fun e=>by have:=f.bg.own G e.symm;omega))).trans a) (fun b=>?_);clear h K a f q l HC;have a:=b;clear b;refine ar 13 (.slice dn nn cn) ?_;refine ar 14 (.slice z E y) ?_;(try simp only[gE,aP]);refine dS ao ?_ _;clear a;have T:=A;clear A;generalize w9=w3 at *;go_wp2_with fail
     refine(mq.o _).af ?_;rintro e w4 ⟨rfl,an⟩;subst an;go_wp2_with fail
     refine(EX.o _ T.row).af ?_;rintro e w5 ⟨⟨rr,rfl⟩,rO,vA⟩;have tD:=hid (T.o L rO vA);clear rO vA T;go_wp2;go_roundw
     case rel=>exact⟨k+1,al,b5,by rw[X.o];show _=Value.int .u32 (aB (S.lft.filter fun u=>decide (u≠v)):Nat);rw[vV.o],by rw[X.o];show nE _ _ _ _ _ (iL (S.ord++[v])) ((S.bag++[v::S.nei.getD v []]).map aB) _;rw[aav,eP,show [v::S.nei.getD v []].map aB=[s] from by rw[<- R.o];rfl];exact tD⟩
     case measure=>simp[intOf];omega
    ·obtain rfl:k=i:=al
     (obtain⟨d2,n2,e2,rfl⟩:∃d n c,u2=Value.slice d n c:=by obtain⟨d,cd,e, -⟩:=H.o.nd.ints;exact⟨_,_,_,e⟩);obtain⟨d3,n3,e3,rfl⟩:=H.o.bg.slv;go_wp2;go_ret2;exact⟨_,_,rfl,H.o⟩
variable {fn:Func} {ds:List Deferred} {lo:Nat}
def Shut (lo:Nat):Nat ->List Deferred ->World ->Prop
 |_,[],_=>True
 |B,d::ds,W=>∃r,lo<=r/\r<B/\d= {target:=.collected r,args:= #[]}/\W.heap[r]? =some (.deferred (some []))/\Shut lo r ds W
theorem Shut.af {B:Nat} {W:World} (h:Shut lo B ds W) (e:B<=B'):Shut lo B' ds W:=by
 cases ds with
 |nil=>trivial
 |cons d ds=>
  obtain⟨r,a,c,b⟩:=h;exact⟨r,a,al,b⟩
theorem Shut.keep:∀ {ds:List Deferred} {B:Nat} {W W':World},Shut lo B ds W ->(∀r,r< B ->W'.heap[r]? =W.heap[r]?) ->Shut lo B ds W'
 |[],_,_,_,_,_=>trivial
 |d::ds,B,W,W',h,hk=>by
  obtain⟨r,b,a,c,e,f⟩:=h;exact⟨r,b,a,c,(hk r a).trans e,f.keep fun k l=>hk k al⟩
theorem Shut.aa {B:Nat} {W:World} (h:Shut lo B ds W) (b:Below B W W'):Shut lo B ds W':=h.keep fun r a=>b.block r a
theorem Ea {F:Fence} {P:Program} {m:Array Value} {R:Ending ->World ->Prop} {K:World ->Prop}
  (b:∀W r,K W ->lo<=r ->W.heap[r]? =some (.deferred (some [])) ->K (W.putObj r (.deferred none))) (e:∀W,K W ->LeavesInM F n P fn m R [] .returning W):
  ∀(ds:List Deferred) (B:Nat) (W:World),Shut lo B ds W ->K W ->LeavesInM F n P fn m R ds .returning W
 |[],_,W,_,hW=>e W hW
 |d::ds,B,W,h,hW=>by
  obtain⟨r,c,g,rfl,a,f⟩:=h;refine⟨aE,.inl ⟨r,_,rfl,Bu a,Ea b e ds r _ ?_ (b W r hW c a)⟩⟩;exact f.keep fun k i=>yj al
end Go.Proofs.YtdmdhjmcoijpaaaGreatDoor
