/- A chain that came in and may be: its numbers as they stand, and how long they are. -/
import Derived.Test.YtmbjmiioggfneaaGreatDoorChnCCxCexZ
import Derived.Test.YtmbjmiioggfneaaGreatDoorHidACxChnB
import Derived.OrdersHeld
import Derived.Deep.RegionHeld
namespace Go.Proofs.YtmbjmiioggfneaaGreatDoor
open Go.RowKit Go.Shelf
def Sh (m T:Nat):Prop:=T<256^m
theorem Sh.mul {m k a b:Nat} (h:Sh m a) (h':Sh k b):Sh (m+k) (a*b):=by
 unfold Sh at *
 rw[Nat.pow_add]
 exact Nat.mul_lt_mul'' h h'
theorem Sh.le {m a b:Nat} (h:Sh m a) (hb:b≤a):Sh m b:=Nat.lt_of_le_of_lt hb h
theorem Sh.up {m k a:Nat} (h:Sh m a) (hk:m≤k):Sh k a:=Nat.lt_of_lt_of_le h (Nat.pow_le_pow_right (by decide) hk)
theorem Sh.pow {m T:Nat} (h:Sh m T):∀n,Sh (1+n*m) (T^n)
 |0=>by rw[Nat.pow_zero];show 1<256^(1+0*m);rw[Nat.zero_mul];decide
 |n+1=>by
  rw[Nat.pow_succ,Nat.succ_mul,←Nat.add_assoc]
  exact(Sh.pow h n).mul h
theorem sh_five:Sh 1 5:=by unfold Sh;decide
theorem sh_big:Sh 4 36000000:=by unfold Sh;decide
structure ChX (n:Nat) (X:Nat→Nat→Fr):Prop where
 one:1≤n
 five:n≤5
 chn:Chn n (rowQ X)
 few:∀i j,i<n→j<n→fz (X i j)≤700
 ok:RwsOK n n (mF n X)
 den:∃T:Nat,0<T∧Sh 700 T∧∀i j,i<n→j<n→Whl T (rowQ X i j)
theorem Chn.le_one {n:Nat} {P:Nat→Nat→Rat} (h:Chn n P) {i j:Nat} (hi:i<n) (hj:j<n):P i j≤1:=by
 have h1:=sumR_part (f:=P i) (fun k hk=>h.low i k hi hk) j hj
 rw[h.one i hi] at h1
 exact h1
theorem Chn.abs {n:Nat} {P:Nat→Nat→Rat} (h:Chn n P) {i j:Nat} (hi:i<n) (hj:j<n):Abs 1 (P i j):=by
 have h1:=h.le_one hi hj
 have h2:=h.low i j hi hj
 constructor
 ·show -(1:Rat)≤_
  grind
 ·exact h1
theorem ChX.lst {n:Nat} {X:Nat→Nat→Fr} (h:ChX n X):∀i (hi:i<(mF n X).length),Lst n (rowQ X i) (mF n X)[i]:=fun i hi=>by
 have hi':i<n:=by rw[mF_length] at hi;exact hi
 rw[mF_get]
 refine⟨rF_length n _,fun j hj=>by rw[rF_get];rfl,fun j hj=>?_⟩
 rw[rF_get]
 have:=h.few i j hi' (by rw[rF_length] at hj;exact hj)
 exact Nat.le_trans this (by decide)
theorem Whl.one (D:Nat):Whl D 1:=⟨(D:Int),by rw[Rat.one_mul];rfl⟩
theorem Whl.sub {D:Nat} {p q:Rat} (h:Whl D p) (h':Whl D q):Whl D (p - q):=by
 rw[Rat.sub_eq_add_neg]
 exact h.add h'.neg
theorem Abs.one:Abs 1 1:=⟨by decide,by decide⟩
theorem Abs.sub {B C:Nat} {p q:Rat} (h:Abs B p) (h':Abs C q):Abs (B+C) (p - q):=by
 rw[Rat.sub_eq_add_neg]
 exact h.add h'.neg
theorem fits_whl {m E B:Nat} {q:Rat} (hE:0<E) (hB1:1≤B) (h:Whl E q) (ha:Abs B q) (hB:Sh m (B*E)):Fits m q:=by
 have h1:=fits_quot (d:=1) hE h ⟨(E:Int),by rw[Rat.one_mul];rfl⟩ (by decide) ha ((show Abs 1 1 from ⟨by decide,by decide⟩).up hB1) hB
 have e:q/1=q:=by rw[Rat.div_def];grind
 rwa [e] at h1
theorem fits_five {T:Nat} {q:Rat} (h0:0<T) (hT:Sh 700 T) (h:Whl T q) (ha:Abs 5 q):Fits 701 q:=fits_whl (m:=1+700) h0 (by decide) h ha (sh_five.mul hT)
theorem ChX.fit {n:Nat} {X:Nat→Nat→Fr} (h:ChX n X) {i j:Nat} (hi:i<n) (hj:j<n):Fits 701 (rowQ X i j):=by
 obtain⟨T,hT0,hT,hTw⟩:=h.den
 exact fits_five hT0 hT (hTw i j hi hj) ((h.chn.abs hi hj).up (by decide))
theorem prodN_const (T:Nat):∀n,prodN n (fun _=>T)=T^n
 |0=>rfl
 |n+1=>by rw[prodN,prodN_const T n,Nat.pow_succ,Nat.mul_comm]
theorem pow_five {T n:Nat} (hT:Sh 700 T) (hn:n≤5):Sh 3501 (T^n):=(hT.pow n).up (by omega)
theorem fits_many {T n B:Nat} {q:Rat} (h0:0<T) (hT:Sh 700 T) (hn:n≤5) (hB1:1≤B) (hB:B≤36000000) (h:Whl (T^n) q) (ha:Abs B q):Fits 3505 q:=fits_whl (m:=4+3501) (Nat.pow_pos h0) hB1 h ha ((sh_big.le hB).mul (pow_five hT hn))
theorem facB_six:facB 6 5≤1000000:=by decide
theorem elm_sh {n k m C T:Nat} {M:Nat→Nat→Rat} (hn:n≤5) (hk:k≤n) (hC:1≤C) (h0:0<T) (hw:∀i,i<n→∀c,c≤n→Whl T (M i c)) (ha:∀i,i<n→∀c,c≤n→Abs C (M i c)) (hp:∀j,j<k→elm M j j j≠0) (hB:Sh m ((n+1)*(C*facB C n)*T^n)) {i c:Nat} (hi:i<n) (hc:c≤n):Fits m (elm M k i c):=by
 refine elm_long (D:=fun _=>T) hn hk hC (fun _ _=>h0) hw ha hp ?_ hi hc
 rw[prodN_const]
 exact hB
theorem elm_six {n k T:Nat} {M:Nat→Nat→Rat} (hn:n≤5) (hk:k≤n) (h0:0<T) (hT:Sh 700 T) (hw:∀i c,i<n→c≤n→Whl T (M i c)) (ha:∀i c,i<n→c≤n→Abs 6 (M i c)) (hp:∀j,j<k→elm M j j j≠0) {i c:Nat} (hi:i<n) (hc:c≤n):Fits 3505 (elm M k i c):=by
 refine elm_sh (C:=6) (m:=3505) hn hk (by decide) h0 (fun i hi c hc=>hw i c hi hc) (fun i hi c hc=>ha i c hi hc) hp ?_ hi hc
 have h1:facB 6 n≤facB 6 5:=facB_mono (by decide) hn
 have h2:=facB_six
 have h3:(n+1)*(6*facB 6 n)≤36000000:=Nat.le_trans (Nat.mul_le_mul (by omega:n+1≤6) (Nat.mul_le_mul_left 6 (Nat.le_trans h1 h2))) (by decide)
 have h4:Sh (4+3501) ((n+1)*(6*facB 6 n)*T^n):=(sh_big.le h3).mul (pow_five hT hn)
 exact h4
end Go.Proofs.YtmbjmiioggfneaaGreatDoor

/- slices.Repeat of one fraction; noughts and spread of package chain. -/
namespace Go.Proofs.YtmbjmiioggfneaaGreatDoor
open Go.RowKit Go.Shelf
theorem run_copy_rowS {P:Program} (w:World) (dT sT ty elem:TypeId) (g o dLen dCap:Nat) (a:Addr) (sLen sCap k sz:Nat) (cur:Array Value) (t:TypeId) (cs:List Value)
  (hu:P.underlying dT=some (.slice elem)) (hs:(P.info? elem).map (·.size)=some sz)
  (hg:w.heap[g]? =some (.cells cur t (0,0))) (hk:Nat.min sLen dLen=k) (hn:cs.length=k*sz)
  (hsrc:∀j v,cs[j]? =some v→w.cell? (a.add j)=some v) (hfit:o+cs.length≤cur.size) (h1:∀v∈cs,v.oneCell'=true):
  (Builtin.copy_ #[dT,sT] ty #[.slice (some ⟨g,o,none⟩) dLen dCap,.slice (some a) sLen sCap]).run P w=
   .ok (goInt k) (w.setRow g (cur.toList.take o++cs++cur.toList.drop (o+cs.length)).toArray):=by
 have hst:=run_storeCells_at P g o t cs 0 cur w hg (by simpa using hfit) h1
 cases hq:P.info? elem with
 |none=>simp[hq] at hs
 |some i=>
  have hi:i.size=sz:=by simpa [hq] using hs
  have hl:=run_firstCells_some (P:=P) w sz k a sLen sCap cs hn hsrc
  simp[Builtin.copy_,run_underlying hu,Builtin.lenOf,sizeOf,typeInfo,hq,hi,hk,hl,hst]
theorem wp_copy_rowS {P:Program} {w:World} {o:Oper} {a:Act} {K:Act→World→Prop} {Q:Exit→Act→World→Prop} (d s:Operand) (dT sT:TypeId)
  (ho:o.op=.call {callee:=.builtin .copy,args:= #[d,s],argTypes:= #[dT,sT]}) (elem:TypeId) (sz:Nat) (hu:P.underlying dT=some (.slice elem)) (hsz:(P.info? elem).map (·.size)=some sz)
  (g off dLen dCap:Nat) (ad:Addr) (sLen sCap k:Nat) (hd:a.eval d=.slice (some ⟨g,off,none⟩) dLen dCap) (hs:a.eval s=.slice (some ad) sLen sCap)
  (cur:Array Value) (t:TypeId) (hg:w.heap[g]? =some (.cells cur t (0,0))) (cs:List Value) (hk:Nat.min sLen dLen=k) (hn:cs.length=k*sz)
  (hsrc:∀j v,cs[j]? =some v→w.cell? (ad.add j)=some v) (hfit:off+cs.length≤cur.size) (h1:∀v∈cs,v.oneCell'=true)
  (h:∀w',w'=w.setRow g (cur.toList.take off++cs++cur.toList.drop (off+cs.length)).toArray→K (a.put o.dst (goInt k)) w'):o.wp P a w K Q:=by
 have hrun:=run_copy_rowS (P:=P) w dT sT o.type elem g off dLen dCap ad sLen sCap k sz cur t cs hu hsz hg hk hn hsrc hfit h1
 unfold Oper.wp execOp
 simp only[ho,resolve,invoke,builtin,Sem.run_bind,Sem.run_pure,Result.andThen_ok,List.map_toArray,List.map_cons,List.map_nil,hd,hs,hrun]
 exact h _ rfl
theorem wpList_copy_rowS {P:Program} {w:World} {ops:Array Oper} {rest:List Oper} {o:Oper} {a:Act} {Q:Exit→Act→World→Prop} (hgd:o.guard=none) (d s:Operand) (dT sT:TypeId)
  (ho:o.op=.call {callee:=.builtin .copy,args:= #[d,s],argTypes:= #[dT,sT]}) (elem:TypeId) (sz:Nat) (hu:P.underlying dT=some (.slice elem)) (hsz:(P.info? elem).map (·.size)=some sz)
  (g off dLen dCap:Nat) (ad:Addr) (sLen sCap k:Nat) (hd:a.eval d=.slice (some ⟨g,off,none⟩) dLen dCap) (hs:a.eval s=.slice (some ad) sLen sCap)
  (cur:Array Value) (t:TypeId) (hg:w.heap[g]? =some (.cells cur t (0,0))) (cs:List Value) (hk:Nat.min sLen dLen=k) (hn:cs.length=k*sz)
  (hsrc:∀j v,cs[j]? =some v→w.cell? (ad.add j)=some v) (hfit:off+cs.length≤cur.size) (h1:∀v∈cs,v.oneCell'=true)
  (h:∀w',w'=w.setRow g (cur.toList.take off++cs++cur.toList.drop (off+cs.length)).toArray→wpList P ops Q rest (a.put o.dst (goInt k)) w'):wpList P ops Q (o::rest) a w:=
 wpList_plain hgd fun _ hK=>wp_copy_rowS d s dT sT ho elem sz hu hsz g off dLen dCap ad sLen sCap k hd hs cur t hg cs hk hn hsrc hfit h1 fun w' e=>hK _ _ (h w' e)
def rpF (n k:Nat) (f:Fr):List Fr:=List.replicate k f++List.replicate (n - k) frZ
theorem rpF_length {n k:Nat} (f:Fr) (h:k≤n):(rpF n k f).length=n:=by simp[rpF];omega
theorem rpF_all (n:Nat) (f:Fr):rpF n n f=List.replicate n f:=by simp[rpF]
theorem frC_take:∀(l:List Fr) (k:Nat),(frC l).take (k*3)=frC (l.take k)
 |[],k=>by simp[frC]
 |f::l,0=>by simp[frC]
 |f::l,k+1=>by
  rw[show (k+1)*3=k*3+1+1+1 by omega]
  simp only[frC,List.take_succ_cons,frC_take l k]
theorem frC_drop:∀(l:List Fr) (k:Nat),(frC l).drop (k*3)=frC (l.drop k)
 |[],k=>by simp[frC]
 |f::l,0=>by simp[frC]
 |f::l,k+1=>by
  rw[show (k+1)*3=k*3+1+1+1 by omega]
  simp only[frC,List.drop_succ_cons,frC_drop l k]
theorem frC_ones:∀(l:List Fr),∀v∈frC l,v.oneCell'=true
 |[],v,h=>by cases h
 |f::l,v,h=>by
  simp only[frC,List.mem_cons] at h
  rcases h with rfl |rfl |rfl |h
  ·rfl
  ·rfl
  ·rfl
  ·exact frC_ones l v h
theorem rpF_more {n k c:Nat} (f:Fr) (h:k+c≤n):(frC (rpF n k f)).take (k*3)++frC (List.replicate c f)++(frC (rpF n k f)).drop (k*3+(frC (List.replicate c f)).length)=frC (rpF n (k+c) f):=by
 rw[frC_length,List.length_replicate,show k*3+3*c=(k+c)*3 by omega,frC_take,frC_drop,←frC_append,←frC_append]
 congr 1
 rw[rpF,rpF,List.take_append_of_le_length (by simp),List.take_of_length_le (by simp),List.drop_append,List.drop_eq_nil_of_le (by simp),List.nil_append,List.drop_replicate,List.length_replicate,List.replicate_append_replicate]
 congr 2
 omega
theorem rpF_src {w:World} {G n k c:Nat} {f:Fr} (h:RowF w G (rpF n k f)) (hc:c≤k):∀j v,(frC (List.replicate c f))[j]? =some v→w.cell? ((⟨G,0,none⟩:Addr).add j)=some v:=fun j v hj=>by
 have hadd:(⟨G,0,none⟩:Addr).add j=⟨G,j,none⟩:=by unfold Addr.add;split<;>simp_all
 rw[hadd,cell_of_row w G j _ _ (0,0) h]
 have e:rpF n k f=List.replicate c f++(List.replicate (k - c) f++List.replicate (n - k) frZ):=by
  rw[rpF,←List.append_assoc,List.replicate_append_replicate]
  congr 2
  omega
 rw[e,frC_append,List.getElem?_toArray,List.getElem?_append_left (by
  rcases Nat.lt_or_ge j (frC (List.replicate c f)).length with h |h
  ·exact h
  ·rw[List.getElem?_eq_none h] at hj;cases hj)]
 exact hj
theorem rpF_row {w:World} {G n k c:Nat} {f:Fr} (h:RowF w G (rpF n k f)) (hc:k+c≤n):RowF (w.setRow G ((frC (rpF n k f)).toArray.toList.take (k*3)++frC (List.replicate c f)++(frC (rpF n k f)).toArray.toList.drop (k*3+(frC (List.replicate c f)).length)).toArray) G (rpF n (k+c) f):=by
 rw[List.toList_toArray,rpF_more f hc]
 exact setRow_heap w G _ _ _ _ h
set_option maxRecDepth 100000 in
set_option maxHeartbeats 2000000 in
theorem slRepeat_one (g n:Nat) (f:Fr) (w:World) (hx:Box w g f.1 f.2.1 f.2.2) (h1:1≤n) (hn:n≤1000):
  Calls Tryz.prog 78 #[.slice (some ⟨g,0,none⟩) 1 1,.int .i64 (n:Nat)] w fun e w'=>∃G,e=.returned (.slice (some ⟨G,0,none⟩) n n)∧w.heap.size≤G∧RowF w' G (List.replicate n f)∧Below w.heap.size w w':=by
 obtain⟨i0,hi0,hz0,hz1,hz2⟩:=info_parts Tryz.infoFrac
 have HSZ:Hid ((Tryz.prog.info? 44).map (·.size)=some 3):=by show _=_;rw[hi0,Option.map_some,hz1]
 have HX:=hid hx
 clear hx
 have hm1:1*n/18446744073709551616=0:=Nat.div_eq_of_lt (by omega)
 have hm2:1*n % 18446744073709551616=n:=by rw[Nat.one_mul];exact Nat.mod_eq_of_lt (by omega)
 have HMU:Hid (∀V:World,Calls Tryz.prog 105 #[.int .u64 1,.int .u64 (n:Nat)] V fun e w'=>e=.returned (.tuple #[.int .u64 0,.int .u64 (n:Nat)])∧w'=V):=fun V=>by
  have h:=Tryz.bits_Mul 1 n (by omega) (by omega) V
  rw[hm1,hm2] at h
  exact h
 clear hm1 hm2
 go_enter Tryz.func78,Tryz.ntmps78
 go_wp2_with fail
 refine(HMU.out _).mono ?_
 rintro e w1 ⟨rfl,rfl⟩
 have hgt:¬((9223372036854775807:Int)<(n:Int)):=by omega
 go_upto_region 7 with (first |(at_make;refine wpList_make_full _ rfl _ _ 23 rfl w1.heap.size 44 i0 (.agg #[.bool false,.string ⟨#[]⟩,.string ⟨#[]⟩]) 3 Tryz.underlying23 hi0 hz0 hz1 .i64 .i64 _ _ n rfl rfl (by go_num) (by go_num) (by rw[hz2];omega) (by unfold maxLen;omega) (Nat.le_refl _) ?_;intro w2 hown2 hgrow2))
 have hb2:=block_of_own3 hown2
 rw[made_frs] at hb2
 have hB2:Below w1.heap.size w1 w2:=(Below.refl _ _).grown hgrow2 (Nat.le_refl _) (fun k e=>by cases e)
 have HR0:Hid (RowF w2 w1.heap.size (rpF n 0 f)):=by
  show RowF _ _ _
  rw[rpF,List.replicate_zero,List.nil_append,Nat.sub_zero]
  exact hb2
 have HX2:=hid (HX.out.below hB2 HX.out.lt)
 have HMIN:Hid (Nat.min 1 n=1):=Nat.min_eq_left h1
 have HSRC:Hid (∀j v,(frC (List.replicate 1 f))[j]? =some v→w2.cell? ((⟨g,0,none⟩:Addr).add j)=some v):=fun j v hj=>by
  have hadd:(⟨g,0,none⟩:Addr).add j=⟨g,j,none⟩:=by unfold Addr.add;split<;>simp_all
  rw[hadd]
  match j,hj with
  |0,hj=>cases hj;exact HX2.out.c0
  |1,hj=>cases hj;exact HX2.out.c1
  |2,hj=>cases hj;exact HX2.out.c2
  |j+3,hj=>simp[frC] at hj
 clear hown2 hgrow2 hb2
 obtain⟨G,hGe⟩:∃G,G=w1.heap.size:=⟨_,rfl⟩
 have HGL:Hid (w1.heap.size≤G):=by rw[hGe];exact Nat.le_refl _
 have HB2:=hid hB2
 simp only[←hGe] at HR0⊢
 clear hGe hB2
 have HFIT:Hid (0*3+(frC (List.replicate 1 f)).length≤(frC (rpF n 0 f)).toArray.size):=by
  show _≤_
  rw[List.size_toArray,frC_length,frC_length,rpF_length f (Nat.zero_le _)]
  simp
  omega
 go_upto_region 8 with (first |(refine wpList_copy_rowS rfl (.tmp 31) (.tmp 32) 23 23 rfl 44 3 Tryz.underlying23 HSZ.out G (0*3) n n ⟨g,0,none⟩ 1 1 1 rfl rfl (frC (rpF n 0 f)).toArray 44 HR0.out (frC (List.replicate 1 f)) HMIN.out rfl HSRC.out HFIT.out (frC_ones _) ?_;intro w3 e3;have HK0:Hid (RowF w3 G (rpF n (0+1) f)∧Below w1.heap.size w1 w3):=(by rw[e3];exact⟨rpF_row HR0.out (by omega),below_setRow HB2.out HGL.out _⟩);clear e3))
 rw[Nat.zero_add] at HK0
 clear HR0 HX2 HMIN HSRC HB2 HFIT
 go_loopw [8] (fun kv wr=>∃k:Nat,1≤k∧k≤n∧kv=.int .i64 k∧Hid (RowF wr G (rpF n k f)∧Below w1.heap.size w1 wr)) (fun kv _=>n - (intOf kv).toNat)
 case atStart=>exact⟨1,Nat.le_refl _,h1,rfl,HK0⟩
 case round=>
  obtain⟨k,hk1,hkn,rfl,HK⟩:=hrel
  clear HK0
  by_cases hlt:k<n
  ·obtain⟨c,hc⟩:∃c,Nat.min k (n - k)=c:=⟨_,rfl⟩
   have HMIN:=hid hc
   have HCK:Hid (c≤k):=by rw[←hc];exact Nat.min_le_left _ _
   have HCN:Hid (k+c≤n):=by have h9:Nat.min k (n - k)≤n - k:=Nat.min_le_right _ _;show _≤_;omega
   have HCP:Hid (1≤c):=by
    show 1≤c
    rw[←hc]
    exact Nat.le_min.2 ⟨hk1,by omega⟩
   have HKC1:Hid (1≤k+c):=by show _≤_;omega
   have HKB:Hid (k+c≤1000):=Nat.le_trans HCN.out hn
   clear hc
   have hnk:¬n=k:=by omega
   have hwk:IntKind.i64.wrap ((k:Int)+(c:Int))=(k:Int)+(c:Int):=by rw[IntKind.wrap_i64];have:=HKB.out;omega
   go_upto_region 9 with fail
   replace HK:Hid (RowF wr.drew G (rpF n k f)∧Below w1.heap.size w1 wr.drew):=⟨HK.out.1,HK.out.2.drew⟩
   refine wp_region_held_drew (S:=fun _=>True) (by kernel_rfl) trivial (fun hSd=>?_)
   generalize wr.drew=u0 at *
   refine wpAnyH_take (i:=0) (oi:=_) (v:=.int .i64 (k:Nat)) rfl (by kernel_rfl) (by kernel_rfl) (by kernel_rfl) (fun _ _ _ h=>h) (Or.inl ⟨by rfl,?_⟩) (by assumption) ?_
   ·intro u' hSu
    (try simp only[List.getElem_toArray,List.getElem_cons_zero])
    go_simp
   (try simp only[List.getElem_toArray,List.getElem_cons_zero])
   (try simp only[Act.put,List.setIfInBounds_toArray,List.set_cons_zero,List.set_cons_succ])
   refine wpAnyH_take (i:=1) (oi:=_) (v:=.slice (some ⟨G,0,none⟩) n n) rfl (by kernel_rfl) (by kernel_rfl) (by kernel_rfl) (fun _ _ _ h=>h) (Or.inl ⟨by rfl,?_⟩) (by assumption) ?_
   ·intro u' hSu
    (try simp only[List.getElem_toArray,List.getElem_cons_zero,List.getElem_cons_succ])
    go_simp
   (try simp only[List.getElem_toArray,List.getElem_cons_zero,List.getElem_cons_succ])
   (try simp only[Act.put,List.setIfInBounds_toArray,List.set_cons_zero,List.set_cons_succ])
   refine wpAnyH_take (i:=2) (oi:=_) (v:=.int .i64 (k:Nat)) rfl (by kernel_rfl) (by kernel_rfl) (by kernel_rfl) (fun _ _ _ h=>h) (Or.inl ⟨by rfl,?_⟩) (by assumption) ?_
   ·intro u' hSu
    (try simp only[List.getElem_toArray,List.getElem_cons_zero,List.getElem_cons_succ])
    go_simp
   (try simp only[List.getElem_toArray,List.getElem_cons_zero,List.getElem_cons_succ])
   (try simp only[Act.put,List.setIfInBounds_toArray,List.set_cons_zero,List.set_cons_succ])
   refine wpAnyH_take (i:=3) (oi:=_) (v:=.slice (some ⟨G,k*3,none⟩) (n - k) (n - k)) rfl (by kernel_rfl) (by kernel_rfl) (by kernel_rfl) (fun _ _ _ h=>h) (Or.inl ⟨by rfl,?_⟩) (by assumption) ?_
   ·intro u' hSu
    (try simp only[List.getElem_toArray,List.getElem_cons_zero,List.getElem_cons_succ])
    go_simp
   (try simp only[List.getElem_toArray,List.getElem_cons_zero,List.getElem_cons_succ])
   (try simp only[Act.put,List.setIfInBounds_toArray,List.set_cons_zero,List.set_cons_succ])
   refine wpAnyH_take (i:=4) (oi:=_) (v:=.slice (some ⟨G,0,none⟩) n n) rfl (by kernel_rfl) (by kernel_rfl) (by kernel_rfl) (fun _ _ _ h=>h) (Or.inl ⟨by rfl,?_⟩) (by assumption) ?_
   ·intro u' hSu
    (try simp only[List.getElem_toArray,List.getElem_cons_zero,List.getElem_cons_succ])
    go_simp
   (try simp only[List.getElem_toArray,List.getElem_cons_zero,List.getElem_cons_succ])
   (try simp only[Act.put,List.setIfInBounds_toArray,List.set_cons_zero,List.set_cons_succ])
   refine wpAnyH_take (i:=5) (oi:=_) (v:=.int .i64 (k:Nat)) rfl (by kernel_rfl) (by kernel_rfl) (by kernel_rfl) (fun _ _ _ h=>h) (Or.inl ⟨by rfl,?_⟩) (by assumption) ?_
   ·intro u' hSu
    (try simp only[List.getElem_toArray,List.getElem_cons_zero,List.getElem_cons_succ])
    go_simp
   (try simp only[List.getElem_toArray,List.getElem_cons_zero,List.getElem_cons_succ])
   (try simp only[Act.put,List.setIfInBounds_toArray,List.set_cons_zero,List.set_cons_succ])
   refine wpAnyH_take (i:=6) (oi:=_) (v:=.slice (some ⟨G,0,none⟩) k n) rfl (by kernel_rfl) (by kernel_rfl) (by kernel_rfl) (fun _ _ _ h=>h) (Or.inl ⟨by rfl,?_⟩) (by assumption) ?_
   ·intro u' hSu
    (try simp only[List.getElem_toArray,List.getElem_cons_zero,List.getElem_cons_succ])
    go_simp
   (try simp only[List.getElem_toArray,List.getElem_cons_zero,List.getElem_cons_succ])
   (try simp only[Act.put,List.setIfInBounds_toArray,List.set_cons_zero,List.set_cons_succ])
   refine wpAnyH_ready (rs:=[7]) (by kernel_rfl) (by simp) (AllReadyH.cons rfl ?_ (AllReadyH.nil))
   ·intro K' hK'
    rw[if_pos (by rfl)]
    refine wp_copy_rowS (.tmp 41) (.tmp 44) 23 23 rfl 44 3 Tryz.underlying23 HSZ.out G (k*3) (n - k) (n - k) ⟨G,0,none⟩ k n c rfl rfl (frC (rpF n k f)).toArray 44 HK.out.1 (frC (List.replicate c f)) HMIN.out (by rw[frC_length,List.length_replicate];omega) (rpF_src HK.out.1 HCK.out) (by rw[frC_length,List.length_replicate];simp[frC_length,rpF_length f (by omega:k≤n)];have:=HCN.out;omega) (frC_ones _) ?_
    intro u1 e1
    have HK9:Hid (RowF u1 G (rpF n (k+c) f)∧Below w1.heap.size w1 u1):=by
     rw[e1]
     exact⟨rpF_row HK.out.1 HCN.out,below_setRow HK.out.2 HGL.out _⟩
    clear e1
    refine hK'.out _ _ trivial (fun hSe=>?_)
    clear hK' K' hSd HK
    have hSd:=hSe
    clear hSe
    (try simp only[List.getElem_toArray,List.getElem_cons_zero,List.getElem_cons_succ])
    (try simp only[Act.put,List.setIfInBounds_toArray,List.set_cons_zero,List.set_cons_succ])
    refine wpAnyH_take (i:=8) (oi:=_) (v:=.int .i64 ((k+c:Nat):Int)) rfl (by kernel_rfl) (by kernel_rfl) (by kernel_rfl) (fun _ _ _ h=>h) (Or.inl ⟨by rfl,?_⟩) (by assumption) ?_
    ·intro u' hSu
     (try simp only[List.getElem_toArray,List.getElem_cons_zero,List.getElem_cons_succ])
     go_simp
    (try simp only[List.getElem_toArray,List.getElem_cons_zero,List.getElem_cons_succ])
    (try simp only[Act.put,List.setIfInBounds_toArray,List.set_cons_zero,List.set_cons_succ])
    refine wpAnyH_take (i:=9) (oi:=_) (v:=.int .i64 ((k+c:Nat):Int)) rfl (by kernel_rfl) (by kernel_rfl) (by kernel_rfl) (fun _ _ _ h=>h) (Or.inl ⟨by rfl,?_⟩) (by assumption) ?_
    ·intro u' hSu
     (try simp only[List.getElem_toArray,List.getElem_cons_zero,List.getElem_cons_succ])
     go_simp
    (try simp only[List.getElem_toArray,List.getElem_cons_zero,List.getElem_cons_succ])
    (try simp only[Act.put,List.setIfInBounds_toArray,List.set_cons_zero,List.set_cons_succ])
    refine wpAnyH_done (by kernel_rfl) ?_ _
    go_wp2
    go_roundw
    case rel=>exact⟨k+c,HKC1.out,HCN.out,rfl,HK9⟩
    case measure=>simp[intOf];have:=HCP.out;omega
  ·obtain rfl:n=k:=by omega
   go_wp2
   go_ret
   refine⟨G,rfl,HGL.out,?_,HK.out.2⟩
   have h9:=HK.out.1
   rw[rpF_all] at h9
   exact h9
set_option maxRecDepth 100000 in
set_option maxHeartbeats 1000000 in
theorem chNoughts_any (n:Nat) (w:World) (h1:1≤n) (hn:n≤1000):
  Calls Tryz.prog 76 #[.int .i64 (n:Nat)] w fun e w'=>∃G,e=.returned (.slice (some ⟨G,0,none⟩) n n)∧w.heap.size≤G∧RowF w' G (lF n fun _=>0)∧Below w.heap.size w w':=by
 have HO0:=hid (fun V:World=>fOf_q (k:=0) (w:=V) 0 0 rfl (by decide) (by rfl))
 have HRP:=hid (fun (g:Nat) (V:World) (hx:Box V g (sgn 0) (nu 0) (de 0))=>slRepeat_one g n (qF 0) V hx h1 hn)
 have HE:Hid (List.replicate n (qF 0)=lF n fun _=>0):=by
  show _=_
  refine List.ext_getElem (by rw[lF_length];simp) fun i h1 h2=>?_
  rw[lF_get]
  simp
 rw[HE.out] at HRP
 generalize sgn 0=zn at *
 generalize nu 0=zx at *
 generalize de 0=zy at *
 go_enter Tryz.func76,Tryz.ntmps76
 go_wp2_with fail
 refine(HO0.out _).mono ?_
 rintro e w0 ⟨rfl,hb0⟩
 have HB0:=hid (hb0.alloc hb0.size (FC zn zx zy))
 have HX0:=hid (Box.new w0 zn zx zy)
 clear hb0
 go_wp2_with fail
 refine(HRP.out w0.heap.size _ HX0.out).mono ?_
 rintro e w1 ⟨G,rfl,hG,hr,hb⟩
 have HR:=hid hr
 have HB:=hid (HB0.out.trans (hb.mono HB0.out.size))
 have HG:Hid (w.heap.size≤G):=Nat.le_trans HB0.out.size hG
 clear hr hb hG
 go_wp2
 go_ret
 exact⟨G,rfl,HG.out,HR.out,HB.out⟩
def sprQ (l:List Nat) (x:Nat→Rat):Nat→Nat→Rat
 |0,_=>0
 |k+1,i=>if i=l.getD k 0 then x k else sprQ l x k i
set_option maxRecDepth 100000 in
set_option maxHeartbeats 1000000 in
theorem chSpread_any (a b:Option Addr) (ca cb n m:Nat) (l:List Nat) (x:Nat→Rat) (w:World) (ha:IntS w a (iL l)) (hb:FrS w b (lF m x)) (hm:l.length=m) (hl:∀y∈l,y<n) (h1:1≤n) (hn:n≤1000) (hm1:m≤1000):
  Calls Tryz.prog 43 #[.int .i64 (n:Nat),.slice a m ca,.slice b m cb] w fun e w'=>∃G,e=.returned (.slice (some ⟨G,0,none⟩) n n)∧w.heap.size≤G∧RowF w' G (lF n (sprQ l x m))∧Below w.heap.size w w':=by
 have HN:=hid (chNoughts_any n w h1 hn)
 have HV:=hid ha
 have HF:=hid hb
 have HL:=hid hl
 have HM:=hid hm
 clear ha hb hl hm
 go_enter Tryz.func43,Tryz.ntmps43
 go_wp2_with fail
 refine HN.out.mono ?_
 rintro e w1 ⟨G,rfl,hG,hr,hb⟩
 have HK0:Hid (MF w G (lF n (sprQ l x 0)) w1):=⟨hr,hb⟩
 have HG:=hid hG
 clear hr hb hG HN
 go_wp2_with fail
 go_loopw [14] (fun iv wr=>∃k:Nat,k≤m∧iv=.int .i64 k∧Hid (MF w G (lF n (sprQ l x k)) wr)) (fun iv _=>m - (intOf iv).toNat)
 case atStart=>exact⟨0,Nat.zero_le _,rfl,HK0⟩
 case round=>
  obtain⟨k,hk,rfl,HK⟩:=hrel
  clear HK0
  by_cases hlt:k<m
  ·have hkl:k<l.length:=by rw[HM.out];exact hlt
   have hki:k<(iL l).length:=by rw[iL_length];exact hkl
   have hkf:k<(lF m x).length:=by rw[lF_length];exact hlt
   obtain⟨g,o,rfl,hg,c0⟩:=(HV.out.below HK.out.bel) k hki
   rw[iL_get hkl] at c0
   obtain⟨g2,o2,rfl,hg2,d0,d1,d2⟩:=(HF.out.below HK.out.bel) k hkf
   rw[lF_get] at d0 d1 d2
   have hy:=HL.out l[k] (List.getElem_mem hkl)
   have HE:Hid ((lF n (sprQ l x k)).set l[k] (qF (x k))=lF n (sprQ l x (k+1))):=by
    show _=_
    rw[lF_set]
    refine lF_congr fun j _=>?_
    show _=if j=l.getD k 0 then x k else sprQ l x k j
    rw[List.getD_eq_getElem?_getD,List.getElem?_eq_getElem hkl]
    rfl
   have HPW:=hid (HK.out.put HG.out l[k] (qF (x k)))
   rw[HE.out] at HPW
   obtain⟨k0,k1,k2⟩:=HK.out.row.cells l[k] (by rw[lF_length];exact hy)
   have f0:=HK.out.row.fz (l[k]*3)
   have f1:=HK.out.row.fz (l[k]*3+1)
   have f2:=HK.out.row.fz (l[k]*3+2)
   generalize (lF n (sprQ l x k))[l[k]]'(by rw[lF_length];exact hy)=z at *
   obtain⟨zn,zx,zy⟩:=z
   simp only at k0 k1 k2
   generalize l[k]=y at *
   generalize qF (x k)=zz at *
   obtain⟨an,ax,ay⟩:=zz
   simp only at d0 d1 d2 HPW
   clear HE HK
   go_wp2
   go_roundw
   case rel=>exact⟨k+1,by omega,by go_num,HPW⟩
   case measure=>simp[intOf];omega
  ·obtain rfl:m=k:=by omega
   go_wp2
   go_ret
   exact⟨G,rfl,HG.out,HK.out.row,HK.out.bel⟩
end Go.Proofs.YtmbjmiioggfneaaGreatDoor

/- backward of package hidden. -/
namespace Go.Proofs.YtmbjmiioggfneaaGreatDoor
open Go.RowKit Go.Shelf
theorem RwF.some' {w:World} {B:Nat} {v:Value} {l:List Fr} (h:RwF w B v l) (h1:1≤l.length):∃g cd,v=.slice (some ⟨g,0,none⟩) l.length cd∧g<w.heap.size∧l.length≤cd∧FrS w (some ⟨g,0,none⟩) l:=by
 obtain⟨d,cd,e,hf⟩:=h.fr
 rcases h.2 with ⟨_,h2⟩ |⟨g,cap,cur,e1,h2,h3,h4,_⟩
 ·omega
 ·rw[e] at e1
  cases e1
  exact⟨g,cd,e,(Array.getElem?_eq_some_iff.1 h3).1,h4,hf⟩
end Go.Proofs.YtmbjmiioggfneaaGreatDoor

/- Regions that draw their order: a condition on the world that holds until one operation (a store, say) has come up, and another one behind it. What yields its value under the first may be taken ahead of all, if that operation waits for it. -/
namespace Go.Proofs.YtmbjmiioggfneaaGreatDoor
section
variable {P:Program} {ops:Array Oper} {Q:Exit→Act→World→Prop} {md:Region.Mode} {S:Bool→World→Prop} {k:Nat}
def wpU (P:Program) (md:Region.Mode) (ops:Array Oper) (Q:Exit→Act→World→Prop) (S:Bool→World→Prop) (k:Nat):Nat→Array Bool→Act→World→Prop
 |0,l,a,w=>Region.ready md ops l=[]∧Q .normal a w
 |n+1,l,a,w=>(Region.ready md ops l=[]→Q .normal a w)∧∀i∈Region.ready md ops l,wpOp P ops Q i (fun a' w'=>S ((l.setIfInBounds i true).getD k true) w'∧wpU P md ops Q S k n (l.setIfInBounds i true) a' w') a w
theorem wpU_any:∀(n:Nat) (l:Array Bool) (a:Act) (w:World),wpU P md ops Q S k n l a w→wpAny P md ops Q n l a w
 |0,_,_,_,h=>h
 |n+1,_,_,_,h=>⟨h.1,fun i hi=>wpOp_mono (fun a' w' h'=>wpU_any n _ a' w' h'.2) (h.2 i hi)⟩
theorem ready_un {l:Array Bool} {i:Nat} (h:i∈Region.ready md ops l):l.getD i true=false:=(mem_ready.1 h).1
theorem wpU_first {i:Nat} {oi:Oper} {v:Value} (W:Bool→Prop) (hi:ops[i]? =some oi) (hsel:∀(j:Nat) (o:Oper) cs b,ops[j]? =some o→o.op≠.select cs b)
  (hQ:∀c a w,Q (.panic c) (a.put oi.dst v) w→Q (.panic c) a w)
  (hW:∀(l:Array Bool) (j:Nat),i∈Region.ready md ops l→j∈Region.ready md ops l→j≠i→W (l.getD k true)→W ((l.setIfInBounds j true).getD k true)) (hk:k≠i):
  ∀(n:Nat) (l:Array Bool) (a:Act) (w:World),
   (∀j oj,ops[j]? =some oj→j≠i→l.getD j true=false→(∀e∈oj.after,Region.binds md e=true→e.on≠i)→oi.apart ops oj=true)→
   i∈Region.ready md ops l→YieldsIf P ops (fun u=>∃b,W b∧S b u) oi v a→W (l.getD k true)→S (l.getD k true) w→
   wpU P md ops Q S k n (l.setIfInBounds i true) (a.put oi.dst v) w→wpU P md ops Q S k (n+1) l a w:=by
 have hflag:∀l:Array Bool,(l.setIfInBounds i true).getD k true=l.getD k true:=fun l=>getD_set_ne true (Ne.symm hk)
 intro n
 induction n with
 |zero=>
  intro l a w _ hr hy hw hS H
  refine⟨fun h=>(by rw[h] at hr;cases hr),fun j hj=>?_⟩
  by_cases hji:j=i
  ·subst hji
   exact hy.wpOp hi ⟨_,hw,hS⟩ ⟨by rw[hflag];exact hS,H⟩
  ·have:=ready_mono hj hji
   rw[H.1] at this
   cases this
 |succ n ih=>
  intro l a w hfree hr hy hw hS H
  refine⟨fun h=>(by rw[h] at hr;cases hr),fun j hj=>?_⟩
  by_cases hji:j=i
  ·subst hji
   exact hy.wpOp hi ⟨_,hw,hS⟩ ⟨by rw[hflag];exact hS,H⟩
  ·have h1:=H.2 j (ready_mono hj hji)
   obtain⟨hjun,oj,hoj,hall⟩:=mem_ready.1 hj
   have hnot:∀e∈oj.after,Region.binds md e=true→e.on≠i:=fun e he hb heq=>by
    have h1:=hall e he hb
    have h0:=ready_un hr
    rw[heq] at h1
    rcases Nat.lt_or_ge i l.size with h' |h'
    ·simp[h'] at h0 h1;rw[h0] at h1;cases h1
    ·simp[Array.getElem?_eq_none h'] at h1
   have h2:=wpOp_putIf hoj (hfree j oj hoj hji hjun hnot) (fun cs b=>hsel i oi cs b hi) (fun cs b=>hsel j oj cs b hoj) hQ hy h1
   have hfree':∀x ox,ops[x]? =some ox→x≠i→(l.setIfInBounds j true).getD x true=false→(∀e∈ox.after,Region.binds md e=true→e.on≠i)→oi.apart ops ox=true:=fun x ox hx hxi hun hno=>by
    refine hfree x ox hx hxi ?_ hno
    by_cases hjx:j=x
    ·subst hjx;exact hjun
    ·rw[getD_set_ne true hjx] at hun;exact hun
   have hw':=hW l j hr hj hji hw
   have ecomm:(l.setIfInBounds i true).setIfInBounds j true=(l.setIfInBounds j true).setIfInBounds i true:=Array.setIfInBounds_comm _ _ (Ne.symm hji)
   refine wpOp_mono (fun a' w' h3=>?_) h2
   have hS':S ((l.setIfInBounds j true).getD k true) w':=by
    have:=h3.2.1
    rwa [ecomm,getD_set_ne true (Ne.symm hk)] at this
   refine⟨hS',ih (l.setIfInBounds j true) a' w' hfree' (ready_mono hr (Ne.symm hji)) h3.1 hw' hS' ?_⟩
   rw[←ecomm]
   exact h3.2.2
theorem wpU_take {i:Nat} {oi:Oper} {v:Value} {n:Nat} {l:Array Bool} {a:Act} {w:World} (hi:ops[i]? =some oi)
  (hs:Region.noSelect ops=true) (hf:Region.free md ops l i=true) (hr:(Region.ready md ops l).contains i=true) (hk:k≠i)
  (hQ:∀c a w,Q (.panic c) (a.put oi.dst v) w→Q (.panic c) a w) (hy:YieldsIf P ops (fun u=>∃b,S b u) oi v a) {b:Bool} (hb:l.getD k true=b) (hS:S b w)
  (h:wpU P md ops Q S k n (l.setIfInBounds i true) (a.put oi.dst v) w):wpU P md ops Q S k (n+1) l a w:=
 wpU_first (fun _=>True) hi (Region.noSelect_spec hs) hQ (fun _ _ _ _ _ h=>h) hk n l a w (Region.free_spec hi hf) (by simpa using hr) (hy.imp (fun ⟨h1,h2⟩=>⟨h1,fun u ⟨b,_,hu⟩=>h2 u ⟨b,hu⟩⟩) id) trivial (by rw[hb];exact hS) h
theorem wpU_ahead {i:Nat} {oi ok:Oper} {v:Value} {n:Nat} {l:Array Bool} {a:Act} {w:World} (hi:ops[i]? =some oi)
  (hs:Region.noSelect ops=true) (hf:Region.free md ops l i=true) (hr:(Region.ready md ops l).contains i=true) (hk:k≠i)
  (hok:ops[k]? =some ok) (hw:(ok.after.any fun e=>Region.binds md e&&e.on==i)=true)
  (hQ:∀c a w,Q (.panic c) (a.put oi.dst v) w→Q (.panic c) a w) (hy:YieldsIf P ops (S false) oi v a) (hb:l.getD k true=false) (hS:S false w)
  (h:wpU P md ops Q S k n (l.setIfInBounds i true) (a.put oi.dst v) w):wpU P md ops Q S k (n+1) l a w:=by
 refine wpU_first (fun b=>b=false) hi (Region.noSelect_spec hs) hQ (fun l j hri hj hji e=>?_) hk n l a w (Region.free_spec hi hf) (by simpa using hr) (hy.imp (fun ⟨h1,h2⟩=>⟨h1,fun u ⟨b,hb,hu⟩=>h2 u (by subst hb;exact hu)⟩) id) hb (by rw[hb];exact hS) h
 by_cases hjk:j=k
 ·subst hjk
  exfalso
  obtain⟨_,oj,hoj,hall⟩:=mem_ready.1 hj
  rw[hok] at hoj
  cases hoj
  obtain⟨e,he,h2⟩:=Array.any_eq_true'.1 hw
  obtain⟨h3,h4⟩:=Bool.and_eq_true_iff.1 h2
  have h5:=hall e he h3
  have h0:=ready_un hri
  rw[eq_of_beq h4] at h5
  rcases Nat.lt_or_ge i l.size with h' |h'
  ·simp[h'] at h0 h5;rw[h0] at h5;cases h5
  ·simp[Array.getElem?_eq_none h'] at h5
 ·rw[getD_set_ne true hjk]
  exact e
def AllU (P:Program) (md:Region.Mode) (ops:Array Oper) (Q:Exit→Act→World→Prop) (S:Bool→World→Prop) (k n:Nat) (l:Array Bool) (a:Act) (w:World) (rs:List Nat):Prop:=
 ∀i∈rs,wpOp P ops Q i (fun a' w'=>S ((l.setIfInBounds i true).getD k true) w'∧wpU P md ops Q S k n (l.setIfInBounds i true) a' w') a w
theorem AllU.nil {n:Nat} {l:Array Bool} {a:Act} {w:World}:AllU P md ops Q S k n l a w []:=fun _ h=>by cases h
theorem AllU.cons {n:Nat} {l:Array Bool} {a:Act} {w:World} {i:Nat} {o:Oper} {rs:List Nat} {b:Bool} (ho:ops[i]? =some o) (hb:(l.setIfInBounds i true).getD k true=b)
  (h:∀K':Act→World→Prop,Go.Shut (∀a w,S b w→(S b w→wpU P md ops Q S k n (l.setIfInBounds i true) a w)→K' a w)→if Region.wanted o (yielded ops a.tmps)=true then Oper.wp P o a w K' Q else K' (a.put o.dst undef) w)
  (hs:AllU P md ops Q S k n l a w rs):AllU P md ops Q S k n l a w (i::rs):=fun j hj=>by
 rcases List.mem_cons.1 hj with rfl |hj
 ·exact wpOp_step ho (fun K' hK=>h K' (fun a w hS hU=>hK a w ⟨by rw[hb];exact hS,hU hS⟩))
 ·exact hs j hj
theorem wpU_ready {rs:List Nat} {n:Nat} {l:Array Bool} {a:Act} {w:World} (hr:Region.ready md ops l=rs) (hne:rs≠[]) (h:AllU P md ops Q S k n l a w rs):wpU P md ops Q S k (n+1) l a w:=
 ⟨fun h0=>absurd (hr▸h0) hne,hr▸h⟩
theorem wpU_done {l:Array Bool} {a:Act} {w:World} (hr:Region.ready md ops l=[]) (h:Q .normal a w):∀n,wpU P md ops Q S k n l a w
 |0=>⟨hr,h⟩
 |_+1=>⟨fun _=>h,by rw[hr];simp⟩
theorem wp_region_until {id:Nat} {a:Act} {w:World} (k:Nat) (S:Bool→World→Prop) (hm:P.follows .mixedOrders=true) (hS:S false w.drew) (h:S false w.drew→wpU P .any ops Q S k ops.size (Array.replicate ops.size false) a w.drew):(Code.region id ops true).wp P Q a w:=
 wp_region_any hm (wpU_any _ _ _ _ (h hS))
end
end Go.Proofs.YtmbjmiioggfneaaGreatDoor
