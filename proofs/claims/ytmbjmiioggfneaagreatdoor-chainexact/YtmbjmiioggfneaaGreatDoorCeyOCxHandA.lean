/- Both sides answer the same, whatever the rows. -/
import Derived.Test.YtmbjmiioggfneaaGreatDoorCeyKCxSamA
import Derived.Test.YtmbjmiioggfneaaGreatDoorHidACxChnB
import Derived.Test.YtmbjmiioggfneaaGreatDoorFracACxRefR
import Derived.Deep.Strs
import Derived.HandedShaped
import Derived.ProofKit
import Derived.OpenShut
import Derived.ShutString
import Derived.SizedLaws
import Derived.Test.YtmbjmiioggfneaaGreatDoorRefSCxDicP
import Derived.Carry
import Derived.Test.YtmbjmiioggfneaaGreatDoorChnPCxNetD
import Derived.Test.YtmbjmiioggfneaaGreatDoorProg
set_option linter.unusedVariables false
set_option linter.unusedSimpArgs false
namespace Go.Proofs.YtmbjmiioggfneaaGreatDoor
open Go.RowKit Go.Shelf
structure CEX (w:World) (c d b:Option Addr) (n np nq:Nat) (R:List (List Fr)) (l:List Fr) (Q:List Int):Prop where
 m:FsS w c R
 p:FrS w d l
 q:IntS w b Q
 en:R.length=n
 ep:l.length=np
 eq:Q.length=nq
 hw:R.length+sumM R R.length≤700
 pw:l.length+sw l+Q.length≤300
 sh:n≤5∨7≤n
variable {w:World} {c d b:Option Addr} {n np nq:Nat} {R:List (List Fr)} {l:List Fr} {Q:List Int}
theorem CEX.cases (h:CEX w c d b n np nq R l Q):(∃z:Int,z≠0∧CkE R z)∨(CkE R 0∧∃X,R=mF n X∧ChX n X):=by
 obtain⟨z,hz⟩:=CkE.some R
 by_cases h0:z=0
 ·subst h0
  refine .inr ⟨hz,?_⟩
  have h6:R.length≤6:=by
   rcases hz with ⟨h9,_⟩ |⟨h9,_⟩ |⟨_,a,_⟩
   ·exact absurd h9 (by decide)
   ·exact absurd h9 (by decide)
   ·exact a.1.2
  have h5:R.length≤5:=by have:=h.sh;have:=h.en;omega
  have h9:=chx_of hz h5 h.hw
  rwa [h.en] at h9
 ·exact .inl ⟨z,h0,hz⟩
theorem CEX.ck (h:CEX w c d b n np nq R l Q):CkS R:=ckS_of h.hw
def FrsR (L:List Fr) (z:Int) (w:World) (e:Ending) (w':World):Prop:=∃x k,e=.returned (.tuple #[.slice x L.length k,.int .i64 z])∧FrS w' x L∧Below w.heap.size w w'
def MatR (R:List (List Fr)) (z:Int) (w:World) (e:Ending) (w':World):Prop:=∃x k,e=.returned (.tuple #[.slice x R.length k,.int .i64 z])∧FsS w' x R∧Below w.heap.size w w'
def ClsR (L:List (List Int)) (B:List Bool) (z:Int) (w:World) (e:Ending) (w':World):Prop:=∃x k y m,e=.returned (.tuple #[.slice x L.length k,.slice y B.length m,.int .i64 z])∧LsS w' x L∧BoS' w' y B∧Below w.heap.size w w'
def OneF (f:Fr) (z:Int) (w:World) (e:Ending) (w':World):Prop:=e=.returned (.tuple #[.agg #[.bool f.1,.string f.2.1,.string f.2.2],.int .i64 z])∧Below w.heap.size w w'
def BooR (r:Bool) (z:Int) (w:World) (e:Ending) (w':World):Prop:=e=.returned (.tuple #[.bool r,.int .i64 z])∧Below w.heap.size w w'
theorem frs_nil {z:Int} {U w':World} {e:Ending} (h:e=.returned (.tuple #[.slice none 0 0,.int .i64 z])∧Below U.heap.size U w'):FrsR [] z U e w':=⟨none,0,h.1,fun k hk=>absurd hk (Nat.not_lt_zero _),h.2⟩
theorem mat_nil {z:Int} {U w':World} {e:Ending} (h:e=.returned (.tuple #[.slice none 0 0,.int .i64 z])∧Below U.heap.size U w'):MatR [] z U e w':=⟨none,0,h.1,fun k hk=>absurd hk (Nat.not_lt_zero _),h.2⟩
theorem cls_nil {z:Int} {U w':World} {e:Ending} (h:e=.returned (.tuple #[.slice none 0 0,.slice none 0 0,.int .i64 z])∧Below U.heap.size U w'):ClsR [] [] z U e w':=⟨none,0,none,0,h.1,fun k hk=>absurd hk (Nat.not_lt_zero _),fun k hk=>absurd hk (Nat.not_lt_zero _),h.2⟩
theorem CEX.check (h:CEX w c d b n np nq R l Q) (cc:Nat):∃z:Int,(∀U:World,Below w.heap.size w U→Calls Tryz.prog 9 #[.slice c n cc] U fun e w'=>e=.returned (.int .i64 z)∧Below U.heap.size U w')∧(∀U:World,Below w.heap.size w U→Calls Tryz.prog 10 #[.slice c n cc] U fun e w'=>e=.returned (.int .i64 z)∧Below U.heap.size U w'):=by
 obtain⟨z,hz⟩:=CkE.some R
 refine⟨z,fun U hU=>?_,fun U hU=>?_⟩<;>rw[←h.en]
 ·exact chCheck_is c cc R U (h.m.below hU) h.ck hz
 ·exact rChain_is c cc R U (h.m.below hU) h.ck hz
theorem lsw_mF {X:Nat→Nat→Fr} (hX:ChX n X):∀i (h:i<(mF n X).length),LsW n (rowQ X i) (mF n X)[i]:=fun i hi=>by
 have hi':i<n:=by rw[mF_length] at hi;exact hi
 rw[mF_get]
 refine⟨rF_length n _,fun j hj=>by rw[rF_get];rfl,fun j hj=>?_⟩
 rw[rF_get]
 have:=hX.few i j hi' (by rw[rF_length] at hj;exact hj)
 exact Nat.le_trans this (by decide)
theorem CEX.step (h:CEX w c d b n np nq R l Q) (cd cc:Nat):∃(L:List Fr) (z:Int),L.length≤8∧(∀U:World,Below w.heap.size w U→Calls Tryz.prog 7 #[.slice d np cd,.slice c n cc] U fun e w'=>FrsR L z U e w')∧(∀U:World,Below w.heap.size w U→Calls Tryz.prog 8 #[.slice d np cd,.slice c n cc] U fun e w'=>FrsR L z U e w'):=by
 rcases h.cases with ⟨z,h0,hz⟩ |⟨hz,X,hRX,hX⟩
 ·refine⟨[],z,Nat.zero_le _,fun U hU=>?_,fun U hU=>?_⟩<;>rw[←h.en]
  ·exact(chStep_bad _ c cc R U (h.m.below hU) h.ck hz h0).mono fun e w' he=>frs_nil he
  ·exact(rStep_bad _ c cc R U (h.m.below hU) h.ck hz h0).mono fun e w' he=>frs_nil he
 ·by_cases hp:np=n
  ·have h5:=hX.five
   have hl:l.length=n:=h.ep.trans hp
   have hf:LsW n (fun i=>frQ (celF l i)) l:=⟨hl,fun i hi=>by show frQ _=frQ _;rw[celF_eq hi],fun i hi=>by
    have h1:=swM_mem (List.getElem_mem hi)
    have h2:=h.pw
    omega⟩
   have hfit:∀i,i<n→Fits 301 (frQ (celF l i)):=fun i hi=>by
    have hi':i<l.length:=by omega
    have h1:=swM_mem (List.getElem_mem hi')
    have h2:=h.pw
    rw[celF_eq hi']
    exact fits_up (fits_val _ _ _) (by omega)
   have hprod:∀i j,i<n→j<n→Fits (301+701) (frQ (celF l i)*rowQ X i j):=fun i j hi hj=>fits_tim (hfit i hi) (hX.fit hi hj)
   have hsz:∀i j,i<n→j<n→qw (frQ (celF l i)*rowQ X i j)≤20000:=fun i j hi hj=>by have:=fits_qw (hprod i j hi hj);omega
   have hps:∀j k,j<n→k≤n→qw (sumR (fun i=>frQ (celF l i)*rowQ X i j) k)≤40000:=fun j k hj hk=>by
    have h1:=fits_qw (fits_sumR (n:=k) fun i hi=>hprod i j (by omega) hj)
    have h2:k*(301+701+1)≤5*(301+701+1):=Nat.mul_le_mul_right _ (by omega)
    omega
   have hm:FsS w c (mF n X):=by rw[←hRX];exact h.m
   refine⟨lF n fun j=>sumR (fun i=>frQ (celF l i)*rowQ X i j) n,0,by rw[lF_length];omega,fun U hU=>?_,fun U hU=>?_⟩<;>rw[hp]
   ·refine(chStep_long d c cd cc n l (mF n X) (fun i=>frQ (celF l i)) (rowQ X) U (h.p.below hU) (hm.below hU) hf hX.ok hX.one (lsw_mF hX) hsz hps (by omega)).mono ?_
    rintro e w' ⟨G,rfl,_,hG,hb⟩
    exact⟨_,_,by rw[lF_length],hG.fr,hb⟩
   ·refine(rStep_yes d c cd cc n l (mF n X) (fun i=>frQ (celF l i)) (rowQ X) U (h.p.below hU) (hm.below hU) hf hX.ok hX.one (lsw_mF hX) hsz hps (by omega)).mono ?_
    rintro e w' ⟨v,rfl,hv,hb⟩
    obtain⟨x,k,rfl,hx⟩:=hv.fr
    exact⟨x,k,rfl,hx,hb⟩
  ·have hne:np≠R.length:=by rw[h.en];exact hp
   refine⟨[],8,Nat.zero_le _,fun U hU=>?_,fun U hU=>?_⟩<;>rw[←h.en]
   ·exact(chStep_len d np cd c cc R U (h.m.below hU) h.ck hz hne).mono fun e w' he=>frs_nil he
   ·exact(rStep_len d np cd c cc R U (h.m.below hU) h.ck hz hne).mono fun e w' he=>frs_nil he
theorem pow_whl {T:Nat} {P:Nat→Nat→Rat} (hw:∀i j,i<n→j<n→Whl T (P i j)):∀t i j,i<n→j<n→Whl (T^t) (powQ n P t i j)
 |0,i,j,_,_=>delta_whl _ i j
 |t+1,i,j,hi,hj=>by
  rw[Nat.pow_succ]
  exact Whl.sum fun s hs=>(pow_whl hw t i s hi hs).mul (hw s j hs hj)
theorem CEX.power (h:CEX w c d b n np nq R l Q) (k:Int) (hk:k≤5∨16<k) (cc:Nat):∃(L:List (List Fr)) (z:Int),(L.length≤8∧∀r∈L,r.length≤8)∧(∀U:World,Below w.heap.size w U→Calls Tryz.prog 12 #[.slice c n cc,.int .i64 k] U fun e w'=>MatR L z U e w')∧(∀U:World,Below w.heap.size w U→Calls Tryz.prog 13 #[.slice c n cc,.int .i64 k] U fun e w'=>MatR L z U e w'):=by
 rcases h.cases with ⟨z,h0,hz⟩ |⟨hz,X,hRX,hX⟩
 ·refine⟨[],z,⟨Nat.zero_le _,fun r hr=>by cases hr⟩,fun U hU=>?_,fun U hU=>?_⟩<;>rw[←h.en]
  ·exact(chPower_bad _ c cc R U (h.m.below hU) h.ck hz h0).mono fun e w' he=>mat_nil he
  ·exact(rPower_bad _ c cc R U (h.m.below hU) h.ck hz h0).mono fun e w' he=>mat_nil he
 ·by_cases ho:k<0∨16<k
  ·refine⟨[],2,⟨Nat.zero_le _,fun r hr=>by cases hr⟩,fun U hU=>?_,fun U hU=>?_⟩<;>rw[←h.en]
   ·exact(chPower_out k c cc R U (h.m.below hU) h.ck hz ho).mono fun e w' he=>mat_nil he
   ·exact(rPower_out k c cc R U (h.m.below hU) h.ck hz ho).mono fun e w' he=>mat_nil he
  ·obtain⟨m,rfl⟩:∃m:Nat,k=(m:Int):=⟨k.toNat,by omega⟩
   have hm5:m≤5:=by omega
   have h5:=hX.five
   have hm:FsS w c (mF n X):=by rw[←hRX];exact h.m
   obtain⟨T,hT0,hT,hTw⟩:=hX.den
   have habs:∀t i j,i<n→j<n→Abs 1 (powQ n (rowQ X) t i j):=fun t i j hi hj=>(pow_chn hX.chn t).abs hi hj
   have hpw:∀i t,i<n→t<m→(∀j,j<n→qw (powQ n (rowQ X) t i j)≤20000)∧(∀j j',j<n→j'<n→qw (powQ n (rowQ X) t i j*rowQ X j j')≤20000)∧∀j k,j<n→k≤n→qw (sumR (fun t'=>powQ n (rowQ X) t i t'*rowQ X t' j) k)≤40000:=fun i t hi ht=>by
    refine⟨fun j hj=>?_,fun j j' hj hj'=>?_,fun j k hj hk=>?_⟩
    ·have:=fits_qw (fits_many (n:=t) (B:=1) hT0 hT (by omega) (by decide) (by decide) (pow_whl hTw t i j hi hj) (habs t i j hi hj))
     omega
    ·have h1:Whl (T^(t+1)) (powQ n (rowQ X) t i j*rowQ X j j'):=by
      rw[Nat.pow_succ]
      exact(pow_whl hTw t i j hi hj).mul (hTw j j' hj hj')
     have:=fits_qw (fits_many (n:=t+1) (B:=1*1) hT0 hT (by omega) (by decide) (by decide) h1 ((habs t i j hi hj).mul (hX.chn.abs hj hj')))
     omega
    ·have h1:Whl (T^(t+1)) (sumR (fun t'=>powQ n (rowQ X) t i t'*rowQ X t' j) k):=by
      rw[Nat.pow_succ]
      exact Whl.sum fun s hs=>(pow_whl hTw t i s hi (by omega)).mul (hTw s j (by omega) hj)
     have h2:=Abs.sum (n:=k) fun s (hs:s<k)=>(habs t i s hi (by omega)).mul (hX.chn.abs (i:=s) (by omega) hj)
     have:=fits_qw (fits_many (n:=t+1) (B:=k*1+1) hT0 hT (by omega) (by omega) (by omega) h1 (h2.up (by omega)))
     omega
   refine⟨mR n (powQ n (rowQ X) m),0,⟨by rw[mR_length];omega,fun r hr=>?_⟩,fun U hU=>?_,fun U hU=>?_⟩
   ·obtain⟨i,_,rfl⟩:=List.mem_map.1 hr
    rw[lF_length];omega
   ·refine(chPower_yes c cc n 700 m (rowQ X) (mF n X) U (hm.below hU) hX.ok ⟨mF_length n X,fun i hi=>?_,fun i j hi hj=>?_,fun i j hi hj=>?_⟩ hX.one (by omega) (by omega) ?_ hX.chn).mono ?_
    ·rw[mF_get,rF_length]
    ·exact(lsw_mF hX i hi).is j hj
    ·have hi':i<n:=by rw[mF_length] at hi;exact hi
     have hj':j<n:=by rw[(lsw_mF hX i hi).len] at hj;exact hj
     have h9:=hX.few i j hi' hj'
     simp only[mF_get,rF_get]
     exact h9
    ·have:n*n≤5*5:=Nat.mul_le_mul h5 h5
     omega
    ·rintro e w' ⟨G,rfl,hG,_,hb⟩
     exact⟨_,_,by rw[mR_length],hG,hb⟩
   ·refine(rPower_yes c cc n m (mF n X) (rowQ X) U (hm.below hU) hX.ok hX.one (by omega) (lsw_mF hX) (by omega) hpw).mono ?_
    rintro e w' ⟨x,k,rfl,hx,hb⟩
    exact⟨x,k,by rw[mR_length],hx,hb⟩
theorem ClS.outR {U w':World} {B n:Nat} {e:Nat→Nat→Bool} {x y:Value} {P:List PL} {z:Int} (h:ClS B n e n x y P w') (hb:Below U.heap.size U w'):ClsR ((lstN n e n).map fun k=>iL (clN n e k)) ((lstN n e n).map (stB n e)) z U (.returned (.tuple #[x,y,.int .i64 z])) w':=by
 obtain⟨a,k,rfl,hl, -⟩:=h.row.pars
 obtain⟨g,m,rfl,hg, -⟩:=h.cl.bos
 have hv:lOf P=(lstN n e n).map fun k=>iL (clN n e k):=h.val
 rw[hv] at hl⊢
 exact⟨a,k,g,m,rfl,hl,hg,hb⟩
theorem CEX.classes (h:CEX w c d b n np nq R l Q) (cc:Nat):∃(L:List (List Int)) (BL:List Bool) (z:Int),L.length≤8∧BL.length≤8∧(∀r∈L,r.length≤8)∧(∀U:World,Below w.heap.size w U→Calls Tryz.prog 15 #[.slice c n cc] U fun e w'=>ClsR L BL z U e w')∧(∀U:World,Below w.heap.size w U→Calls Tryz.prog 16 #[.slice c n cc] U fun e w'=>ClsR L BL z U e w'):=by
 rcases h.cases with ⟨z,h0,hz⟩ |⟨hz,X,hRX,hX⟩
 ·refine⟨[],[],z,Nat.zero_le _,Nat.zero_le _,fun r hr=>(by cases hr),fun U hU=>?_,fun U hU=>?_⟩<;>rw[←h.en]
  ·exact(chClasses_bad c cc R U (h.m.below hU) h.ck hz h0).mono fun e w' he=>cls_nil he
  ·exact(rClasses_bad c cc R U (h.m.below hU) h.ck hz h0).mono fun e w' he=>cls_nil he
 ·have h5:=hX.five
  have hm:FsS w c (mF n X):=by rw[←hRX];exact h.m
  have hll:=lstN_le n (cmsB n (rowQ X)) n
  refine⟨(lstN n (cmsB n (rowQ X)) n).map fun k=>iL (clN n (cmsB n (rowQ X)) k),(lstN n (cmsB n (rowQ X)) n).map (stB n (cmsB n (rowQ X))),0,by rw[List.length_map];omega,by rw[List.length_map];omega,fun r hr=>?_,fun U hU=>?_,fun U hU=>?_⟩
  ·obtain⟨k,_,rfl⟩:=List.mem_map.1 hr
   rw[iL_length]
   have:=clN_le n (cmsB n (rowQ X)) k
   omega
  ·refine(chClasses_any c cc n X U (hm.below hU) hX).mono ?_
   rintro e w' ⟨x,y,P,B,rfl,_,hc,hb⟩
   exact hc.outR hb
  ·refine(rClasses_any c cc n X U (hm.below hU) hX).mono ?_
   rintro e w' ⟨x,y,P,B,rfl,_,hc,hb⟩
   exact hc.outR hb
theorem OneC.uniq {P:Nat→Nat→Rat} {k k':Nat} (h:OneC n P k) (h':OneC n P k'):k=k':=by
 have:=h.sole.symm.trans h'.sole
 exact(List.cons.inj this).1
theorem OneC.few {P:Nat→Nat→Rat} {k:Nat} (h:OneC n P k) (h1:1≤n):true∉(clB n P).drop (fstT (clB n P)+1):=fun h9=>clsd_many h1 h9 (by rw[h.sole];rfl)
theorem CEX.still (h:CEX w c d b n np nq R l Q) (cc:Nat):∃(L:List Fr) (z:Int),L.length≤8∧(∀U:World,Below w.heap.size w U→Calls Tryz.prog 18 #[.slice c n cc] U fun e w'=>FrsR L z U e w')∧(∀U:World,Below w.heap.size w U→Calls Tryz.prog 19 #[.slice c n cc] U fun e w'=>FrsR L z U e w'):=by
 rcases h.cases with ⟨z,h0,hz⟩ |⟨hz,X,hRX,hX⟩
 ·refine⟨[],z,Nat.zero_le _,fun U hU=>?_,fun U hU=>?_⟩<;>rw[←h.en]
  ·exact(chStill_bad c cc R U (h.m.below hU) h.ck hz h0).mono fun e w' he=>frs_nil he
  ·exact(rStill_bad c cc R U (h.m.below hU) h.ck hz h0).mono fun e w' he=>frs_nil he
 ·have h5:=hX.five
  have hm:FsS w c (mF n X):=by rw[←hRX];exact h.m
  by_cases hmany:true∈(clB n (rowQ X)).drop (fstT (clB n (rowQ X))+1)
  ·refine⟨[],13,Nat.zero_le _,fun U hU=>?_,fun U hU=>?_⟩
   ·refine(chStill_any c cc n X U (hm.below hU) hX).mono ?_
    rintro e w' ⟨hb,⟨k,G,h1,_⟩ |⟨_,rfl⟩⟩
    ·exact absurd hmany (h1.few hX.one)
    ·exact frs_nil ⟨rfl,hb⟩
   ·refine(rStill_any c cc n X U (hm.below hU) hX).mono ?_
    rintro e w' ⟨hb,⟨k,v,h1,_⟩ |⟨_,rfl⟩⟩
    ·exact absurd hmany (h1.few hX.one)
    ·exact frs_nil ⟨rfl,hb⟩
  ·obtain⟨_,ho⟩:=oneC_of hX.one hmany
   refine⟨lF n (stQ (rowQ X) (clN n (cmsB n (rowQ X)) (lstN n (cmsB n (rowQ X)) n)[fstT (clB n (rowQ X))])),0,by rw[lF_length];omega,fun U hU=>?_,fun U hU=>?_⟩
   ·refine(chStill_any c cc n X U (hm.below hU) hX).mono ?_
    rintro e w' ⟨hb,⟨k,G,h1,rfl,_,hG⟩ |⟨h9,_⟩⟩
    ·rw[ho.uniq h1]
     exact⟨_,_,by rw[lF_length],hG.fr,hb⟩
    ·exact absurd h9 hmany
   ·refine(rStill_any c cc n X U (hm.below hU) hX).mono ?_
    rintro e w' ⟨hb,⟨k,v,h1,rfl,hG⟩ |⟨h9,_⟩⟩
    ·rw[ho.uniq h1]
     obtain⟨x,k9,rfl,hx⟩:=hG.fr
     exact⟨x,k9,rfl,hx,hb⟩
    ·exact absurd h9 hmany
theorem CEX.turns (h:CEX w c d b n np nq R l Q) (cc:Nat):∃(r:Bool) (z:Int),(∀U:World,Below w.heap.size w U→Calls Tryz.prog 24 #[.slice c n cc] U fun e w'=>BooR r z U e w')∧(∀U:World,Below w.heap.size w U→Calls Tryz.prog 25 #[.slice c n cc] U fun e w'=>BooR r z U e w'):=by
 rcases h.cases with ⟨z,h0,hz⟩ |⟨hz,X,hRX,hX⟩
 ·refine⟨false,z,fun U hU=>?_,fun U hU=>?_⟩<;>rw[←h.en]
  ·exact(chTurns_bad c cc R U (h.m.below hU) h.ck hz h0).mono fun e w' he=>he
  ·exact(rTurns_bad c cc R U (h.m.below hU) h.ck hz h0).mono fun e w' he=>he
 ·have hm:FsS w c (mF n X):=by rw[←hRX];exact h.m
  by_cases hmany:true∈(clB n (rowQ X)).drop (fstT (clB n (rowQ X))+1)
  ·refine⟨false,13,fun U hU=>?_,fun U hU=>?_⟩
   ·refine(chTurns_any c cc n X U (hm.below hU) hX).mono ?_
    rintro e w' ⟨hb,⟨k,h1,_⟩ |⟨_,rfl⟩⟩
    ·exact absurd hmany (h1.few hX.one)
    ·exact⟨rfl,hb⟩
   ·refine(rTurns_any c cc n X U (hm.below hU) hX).mono ?_
    rintro e w' ⟨hb,⟨k,h1,_⟩ |⟨_,rfl⟩⟩
    ·exact absurd hmany (h1.few hX.one)
    ·exact⟨rfl,hb⟩
  ·obtain⟨_,ho⟩:=oneC_of hX.one hmany
   refine⟨trB n (stQ (rowQ X) (clN n (cmsB n (rowQ X)) (lstN n (cmsB n (rowQ X)) n)[fstT (clB n (rowQ X))])) (rowQ X),0,fun U hU=>?_,fun U hU=>?_⟩
   ·refine(chTurns_any c cc n X U (hm.below hU) hX).mono ?_
    rintro e w' ⟨hb,⟨k,h1,rfl⟩ |⟨h9,_⟩⟩
    ·rw[ho.uniq h1]
     exact⟨rfl,hb⟩
    ·exact absurd h9 hmany
   ·refine(rTurns_any c cc n X U (hm.below hU) hX).mono ?_
    rintro e w' ⟨hb,⟨k,h1,rfl⟩ |⟨h9,_⟩⟩
    ·rw[ho.uniq h1]
     exact⟨rfl,hb⟩
    ·exact absurd h9 hmany
theorem up_nats {Q:List Int} {n:Nat} (h:Up Q n):∃S:List Nat,Q=iL S∧S.Pairwise (·<·)∧∀x∈S,x<n:=by
 have h0:∀x∈Q,0≤x:=fun x hx=>by
  obtain⟨i,hi,rfl⟩:=List.mem_iff_getElem.1 hx
  exact(h.each i hi).1
 refine⟨Q.map Int.toNat,?_,?_,fun x hx=>?_⟩
 ·rw[iL,List.map_map]
  exact((List.map_congr_left (g:=id) fun x hx=>Int.toNat_of_nonneg (h0 x hx)).trans (List.map_id Q)).symm
 ·rw[List.pairwise_iff_getElem]
  intro i j hi hj hij
  rw[List.length_map] at hi hj
  rw[List.getElem_map,List.getElem_map]
  have h1:=h.lt i j hj hij
  have h2:=(h.each i hi).1
  omega
 ·obtain⟨y,hy,rfl⟩:=List.mem_map.1 hx
  obtain⟨i,hi,rfl⟩:=List.mem_iff_getElem.1 hy
  have:=h.each i hi
  omega
theorem CEX.hits (h:CEX w c d b n np nq R l Q) (cc cb:Nat):∃(L:List Fr) (z:Int),L.length≤8∧(∀U:World,Below w.heap.size w U→Calls Tryz.prog 20 #[.slice c n cc,.slice b nq cb] U fun e w'=>FrsR L z U e w')∧(∀U:World,Below w.heap.size w U→Calls Tryz.prog 21 #[.slice c n cc,.slice b nq cb] U fun e w'=>FrsR L z U e w'):=by
 rcases h.cases with ⟨z,h0,hz⟩ |⟨hz,X,hRX,hX⟩
 ·refine⟨[],z,Nat.zero_le _,fun U hU=>?_,fun U hU=>?_⟩<;>rw[←h.en]
  ·exact(chHits_bad _ c cc R U (h.m.below hU) h.ck hz h0).mono fun e w' he=>frs_nil he
  ·exact(rHits_bad _ c cc R U (h.m.below hU) h.ck hz h0).mono fun e w' he=>frs_nil he
 ·have h5:=hX.five
  have hm:FsS w c (mF n X):=by rw[←hRX];exact h.m
  cases hr:risB Q (R.length:Nat) with
  |false=>
   have hq:Q.length≤140737488355328:=by have:=h.pw;omega
   refine⟨[],11,Nat.zero_le _,fun U hU=>?_,fun U hU=>?_⟩<;>rw[←h.en,←h.eq]
   ·exact(chHits_out b cb Q c cc R U (h.m.below hU) h.ck hz (h.q.below hU) hq hr).mono fun e w' he=>frs_nil he
   ·exact(rHits_out b cb Q c cc R U (h.m.below hU) h.ck hz (h.q.below hU) hq hr).mono fun e w' he=>frs_nil he
  |true=>
   rw[h.en] at hr
   obtain⟨S,hS,hp,hb⟩:=up_nats (ris_up hr)
   have hq:∀U:World,Below w.heap.size w U→IntS U b (iL S):=fun U hU=>by rw[←hS];exact h.q.below hU
   have hl:nq=S.length:=by rw[←h.eq,hS,iL_length]
   refine⟨lF n (hitQ n (rowQ X) S S.length),0,by rw[lF_length];omega,fun U hU=>?_,fun U hU=>?_⟩<;>rw[hl]
   ·refine(chHits_any c b cc cb n X S U (hm.below hU) (hq U hU) hX hp hb).mono ?_
    rintro e w' ⟨G,rfl,_,hG,hb⟩
    exact⟨_,_,by rw[lF_length],hG.fr,hb⟩
   ·refine(rHits_any c b cc cb n X S U (hm.below hU) (hq U hU) hX hp hb).mono ?_
    rintro e w' ⟨v,rfl,hG,hb⟩
    obtain⟨x,k9,rfl,hx⟩:=hG.fr
    exact⟨x,k9,rfl,hx,hb⟩
theorem CEX.back (h:CEX w c d b n np nq R l Q) (i:Int) (cc:Nat):∃(f:Fr) (z:Int),(z≠0→f=(false,⟨#[]⟩,⟨#[]⟩))∧(∀U:World,Below w.heap.size w U→Calls Tryz.prog 22 #[.slice c n cc,.int .i64 i] U fun e w'=>OneF f z U e w')∧(∀U:World,Below w.heap.size w U→Calls Tryz.prog 23 #[.slice c n cc,.int .i64 i] U fun e w'=>OneF f z U e w'):=by
 rcases h.cases with ⟨z,h0,hz⟩ |⟨hz,X,hRX,hX⟩
 ·refine⟨(false,⟨#[]⟩,⟨#[]⟩),z,fun _=>rfl,fun U hU=>?_,fun U hU=>?_⟩<;>rw[←h.en]
  ·exact(chBack_bad _ c cc R U (h.m.below hU) h.ck hz h0).mono fun e w' he=>he
  ·exact(rBack_bad _ c cc R U (h.m.below hU) h.ck hz h0).mono fun e w' he=>he
 ·have hm:FsS w c (mF n X):=by rw[←hRX];exact h.m
  by_cases ho:i<0∨((R.length:Nat):Int)≤i
  ·refine⟨(false,⟨#[]⟩,⟨#[]⟩),11,fun _=>rfl,fun U hU=>?_,fun U hU=>?_⟩<;>rw[←h.en]
   ·exact(chBack_out i c cc R U (h.m.below hU) h.ck hz ho).mono fun e w' he=>he
   ·exact(rBack_out i c cc R U (h.m.below hU) h.ck hz ho).mono fun e w' he=>he
  ·rw[h.en] at ho
   obtain⟨m,rfl⟩:∃m:Nat,i=(m:Int):=⟨i.toNat,by omega⟩
   have hmn:m<n:=by omega
   cases hs:stB n (cmsB n (rowQ X)) m with
   |true=>
    refine⟨qF (1/stQ (rowQ X) (clN n (cmsB n (rowQ X)) m) m),0,fun h=>absurd rfl h,fun U hU=>?_,fun U hU=>?_⟩
    ·refine(chBack_any c cc n m X U (hm.below hU) hX hmn).mono ?_
     rintro e w' ⟨hb,⟨_,rfl⟩ |⟨h9,_⟩⟩
     ·exact⟨rfl,hb⟩
     ·rw[hs] at h9;cases h9
    ·refine(rBack_any c cc n m X U (hm.below hU) hX hmn).mono ?_
     rintro e w' ⟨hb,⟨_,rfl⟩ |⟨h9,_⟩⟩
     ·exact⟨rfl,hb⟩
     ·rw[hs] at h9;cases h9
   |false=>
    refine⟨(false,⟨#[]⟩,⟨#[]⟩),16,fun _=>rfl,fun U hU=>?_,fun U hU=>?_⟩
    ·refine(chBack_any c cc n m X U (hm.below hU) hX hmn).mono ?_
     rintro e w' ⟨hb,⟨h9,_⟩ |⟨_,rfl⟩⟩
     ·rw[hs] at h9;cases h9
     ·exact⟨rfl,hb⟩
    ·refine(rBack_any c cc n m X U (hm.below hU) hX hmn).mono ?_
     rintro e w' ⟨hb,⟨h9,_⟩ |⟨_,rfl⟩⟩
     ·rw[hs] at h9;cases h9
     ·exact⟨rfl,hb⟩
end Go.Proofs.YtmbjmiioggfneaaGreatDoor

/- The law of exact chains. -/
namespace Go.Proofs.YtmbjmiioggfneaaGreatDoor
open Go.RowKit Go.Shelf
theorem one_anyM {f:Fr} {z:Int} (hz:z≠0→f=(false,⟨#[]⟩,⟨#[]⟩)) (U:World):Calls Tryz.prog 26 #[.agg #[.bool f.1,.string f.2.1,.string f.2.2],.int .i64 z,.agg #[.bool f.1,.string f.2.1,.string f.2.2],.int .i64 z] U fun e w'=>e=.returned (.bool true)∧Below U.heap.size U w':=by
 by_cases h:z=0
 ·subst h
  exact oneFrac_ok f.1 f.2.1 f.2.2 U
 ·rw[hz h]
  exact oneFrac_err z h U
set_option maxRecDepth 100000 in
set_option maxHeartbeats 1000000 in
theorem chainExact_any (c d b:Option Addr) (cc cd cb n np nq:Nat) (k i:Int) (R:List (List Fr)) (l:List Fr) (Q:List Int) (w:World) (hm:FsS w c R) (hp:FrS w d l) (hq:IntS w b Q) (hu:HMu R) (hl:l.length≤140737488355328∧∀f∈l,f.2.1.size≤140737488355328∧f.2.2.size≤140737488355328) (hQ:Q.length≤140737488355328) (en:R.length=n) (ep:l.length=np) (eq:Q.length=nq):
  Calls Tryz.prog 3 #[.slice c n cc,.slice d np cd,.int .i64 k,.slice b nq cb,.int .i64 i] w fun e w'=>e=.returned (.bool true)∧Below w.heap.size w w':=by
 have HHV:Hid (Calls Tryz.prog 5 #[.slice c n cc] w fun e w'=>(∃r:Bool,e=.returned (.bool r)∧(r=false→R.length+sumM R R.length≤700))∧Below w.heap.size w w'):=by
  have h9:=heavyMatrix_any c cc R w hm hu
  rw[en] at h9
  rw[en]
  exact h9
 have HFB:Hid (∀U:World,Below w.heap.size w U→Calls Tryz.prog 6 #[.slice d np cd] U fun e w'=>(∃r:Nat,e=.returned (.int .i64 r)∧r≤1000000000000000∧(r≤4096→r=l.length+sw l))∧Below U.heap.size U w'):=fun U hU=>by
  have h9:=fracBytes_any d cd l U (hp.below hU) hl.1 hl.2
  rw[ep] at h9
  rw[ep]
  exact h9
 have HHX:Hid (R.length+sumM R R.length≤700→l.length+sw l+nq≤300→(n≤5∨7≤n)→CEX w c d b n np nq R l Q):=fun h1 h2 h3=>⟨hm,hp,hq,en,ep,eq,h1,by rw[eq];exact h2,h3⟩
 have hn:n≤140737488355328:=by rw[←en];exact hu.len
 have hnq:nq≤140737488355328:=by rw[←eq];exact hQ
 clear hm hp hq hu hl hQ en ep eq
 go_enter Tryz.func3,Tryz.ntmps3
 go_upto_region 1 with fail
 go_cut [47] from 28 to 47 (fun s wx=>∃bb:Bool,s=.bool bb∧Hid (bb=false→(R.length+sumM R R.length≤700∧l.length+sw l+nq≤300∧(n≤5∨7≤n)))∧Hid (Below w.heap.size w wx))
 case first=>
  go_wp2_with fail
  refine HHV.out.mono ?_
  rintro e w1 ⟨⟨r,rfl,hr⟩,hb⟩
  have HA1:=hid hb
  have HR:=hid hr
  clear hb hr HHX HHV
  cases r with
  |true=>
   go_wp2_with fail
   go_meet
   exact⟨true,rfl,fun e=>(by cases e),HA1⟩
  |false=>
   have h7:=hid (HR.out rfl)
   clear HR
   go_wp2_with fail
   refine(HFB.out _ HA1.out).mono ?_
   rintro e w2 ⟨⟨r,rfl,hr,hre⟩,hb⟩
   have HA2:=hid (HA1.out.trans (hb.mono HA1.out.size))
   have HRE:=hid hre
   clear hb hre HA1 HFB
   by_cases hbig:300<r+nq
   ·have hb2:(300:Int)<(r:Int)+(nq:Int):=by omega
    go_wp2_with fail
    go_meet
    exact⟨true,by simp<;>omega,fun e=>(by cases e),HA2⟩
   ·have hb2:¬(300:Int)<(r:Int)+(nq:Int):=by omega
    have h8:Hid (l.length+sw l+nq≤300):=by
     show _≤_
     have:=HRE.out (by omega)
     omega
    by_cases hn5:n≤5
    ·have hb3:¬(5:Int)<(n:Int):=by omega
     go_wp2_with fail
     go_meet
     exact⟨false,by simp<;>omega,fun _=>⟨h7.out,h8.out,.inl hn5⟩,HA2⟩
    ·have hb3:(5:Int)<(n:Int):=by omega
     by_cases hn7:n<7
     ·have hb4:(n:Int)<7:=by omega
      go_wp2_with fail
      go_meet
      exact⟨true,by simp<;>omega,fun e=>(by cases e),HA2⟩
     ·have hb4:¬(n:Int)<7:=by omega
      go_wp2_with fail
      go_meet
      exact⟨false,by simp<;>omega,fun _=>⟨h7.out,h8.out,.inr (by omega)⟩,HA2⟩
 case rest=>
 clear HHV HFB
 obtain⟨bb,rfl,HBB,HAB⟩:=hcut
 cases bb with
 |true=>
  go_wp2
  go_ret
  exact⟨rfl,HAB.out⟩
 |false=>
 obtain⟨h7,h8,hsh⟩:=HBB.out rfl
 have hX:=HHX.out h7 h8 hsh
 clear h7 h8 hsh HHX HBB
 have HPR:=hid (fun (k9:Int) (h:k9≤5∨16<k9)=>hX.power k9 h cc)
 go_upto_region 3 with fail
 by_cases hk:5<k
 all_goals
  go_wp2_with fail
  obtain⟨zc,hk1,hk2⟩:=hX.check cc
  obtain⟨LS,zs,hsF,hs1,hs2⟩:=hX.step cd cc
  obtain⟨LP,zp,k9,hke,hpF,hp1,hp2⟩:∃(LP:List (List Fr)) (zp k9:Int),((5<k∧k9=17)∨(k≤5∧k9=k))∧(LP.length≤8∧∀r∈LP,r.length≤8)∧(∀U:World,Below w.heap.size w U→Calls Tryz.prog 12 #[.slice c n cc,.int .i64 k9] U fun e w'=>MatR LP zp U e w')∧(∀U:World,Below w.heap.size w U→Calls Tryz.prog 13 #[.slice c n cc,.int .i64 k9] U fun e w'=>MatR LP zp U e w'):=by
   by_cases h:5<k
   ·obtain⟨LP,zp,h1⟩:=HPR.out 17 (.inr (by decide))
    exact⟨LP,zp,17,.inl ⟨h,rfl⟩,h1⟩
   ·obtain⟨LP,zp,h1⟩:=HPR.out k (.inl (by omega))
    exact⟨LP,zp,k,.inr ⟨by omega,rfl⟩,h1⟩
  rcases hke with ⟨h9,rfl⟩ |⟨h9,rfl⟩
  all_goals try (exfalso;omega)
  clear h9
  obtain⟨LC,BC,zl,hcF,hcB,hcE,hc1,hc2⟩:=hX.classes cc
  obtain⟨LT,zt,htF,ht1,ht2⟩:=hX.still cc
  obtain⟨LH,zh,hhF,hh1,hh2⟩:=hX.hits cc cb
  obtain⟨fb,zb,hbz,hb1,hb2⟩:=hX.back i cc
  obtain⟨rt,zr,hr1,hr2⟩:=hX.turns cc
  have HCK1:=hid hk1
  have HCK2:=hid hk2
  have HST1:=hid hs1
  have HST2:=hid hs2
  have HSTF:=hid hsF
  have HPW1:=hid hp1
  have HPW2:=hid hp2
  have HPWF:=hid hpF
  have HCL1:=hid hc1
  have HCL2:=hid hc2
  have HCLF:=hid hcF
  have HCLB:=hid hcB
  have HCLE:=hid hcE
  have HSL1:=hid ht1
  have HSL2:=hid ht2
  have HSLF:=hid htF
  have HHT1:=hid hh1
  have HHT2:=hid hh2
  have HHTF:=hid hhF
  have HBK1:=hid hb1
  have HBK2:=hid hb2
  have HON:=hid (fun U=>one_anyM hbz U)
  have HTU1:=hid hr1
  have HTU2:=hid hr2
  clear hX hk1 hk2 hs1 hs2 hsF hp1 hp2 hpF hc1 hc2 hcF hcB hcE ht1 ht2 htF hh1 hh2 hhF hb1 hb2 hbz hr1 hr2 HPR
  refine(HST1.out _ HAB.out).mono ?_
  rintro e w1 ⟨x1,m1,rfl,hF,hb⟩
  have HF:=hid hF
  replace HAB:=hid (HAB.out.trans (hb.mono HAB.out.size))
  clear hF hb
  go_wp2_with fail
  refine(HST2.out _ HAB.out).mono ?_
  rintro e w2 ⟨x2,m2,rfl,hF,hb⟩
  have HS:=hid (fun (U:World) (hU:Below w2.heap.size w2 U)=>sameFracs_any x1 x2 m1 m2 LS U ((HF.out.below hb).below hU) (hF.below hU) (by have:=HSTF.out;omega))
  replace HAB:=hid (HAB.out.trans (hb.mono HAB.out.size))
  clear hF hb HF HST1 HST2
  go_wp2_with fail
  refine(HCK1.out _ HAB.out).mono ?_
  rintro e w3 ⟨rfl,hb3⟩
  replace HAB:=hid (HAB.out.trans (hb3.mono HAB.out.size))
  go_wp2_with fail
  refine(HCK2.out _ HAB.out).mono ?_
  rintro e w4 ⟨rfl,hb4⟩
  replace HAB:=hid (HAB.out.trans (hb4.mono HAB.out.size))
  have HS4:=hid (HS.out _ (hb3.trans (hb4.mono hb3.size)))
  clear hb3 hb4 HS HCK1 HCK2
  have hcc:(zc !=zc)=false:=bne_self_eq_false _
  have hss:(zs !=zs)=false:=bne_self_eq_false _
  go_wp2_with fail
  refine HS4.out.mono ?_
  rintro e w5 ⟨rfl,hb⟩
  replace HAB:=hid (HAB.out.trans (hb.mono HAB.out.size))
  clear hb HS4 hcc hss HSTF
  go_wp2_with fail
  refine(HPW1.out _ HAB.out).mono ?_
  rintro e w6 ⟨x1,m1,rfl,hF,hb⟩
  have HF:=hid hF
  replace HAB:=hid (HAB.out.trans (hb.mono HAB.out.size))
  clear hF hb
  go_wp2_with fail
  refine(HPW2.out _ HAB.out).mono ?_
  rintro e w7 ⟨x2,m2,rfl,hF,hb⟩
  have HS:=hid (sameRows_any x1 x2 m1 m2 LP w7 (HF.out.below hb) hF (by have:=HPWF.out.1;omega) (fun r hr=>by have:=HPWF.out.2 r hr;omega))
  replace HAB:=hid (HAB.out.trans (hb.mono HAB.out.size))
  clear hF hb HF HPW1 HPW2 HPWF
  have hpp:(zp !=zp)=false:=bne_self_eq_false _
  go_wp2_with fail
  refine HS.out.mono ?_
  rintro e w8 ⟨rfl,hb⟩
  replace HAB:=hid (HAB.out.trans (hb.mono HAB.out.size))
  clear hb HS hpp
  go_wp2_with fail
  refine(HCL1.out _ HAB.out).mono ?_
  rintro e w9 ⟨x1,m1,y1,p1,rfl,hF,hG,hb⟩
  have HF:=hid hF
  have HG:=hid hG
  replace HAB:=hid (HAB.out.trans (hb.mono HAB.out.size))
  clear hF hG hb
  go_wp2_with fail
  refine(HCL2.out _ HAB.out).mono ?_
  rintro e w10 ⟨x2,m2,y2,p2,rfl,hF,hG,hb⟩
  have HS:=hid (sameLists_w x1 x2 m1 m2 LC w10 (HF.out.below hb) hF (by have:=HCLF.out;omega) (fun r hr=>by have:=HCLE.out r hr;omega))
  have HG1:=hid (HG.out.below hb)
  have HG2:=hid hG
  replace HAB:=hid (HAB.out.trans (hb.mono HAB.out.size))
  clear hF hG hb HF HG HCL1 HCL2 HCLF HCLE
  have hll:(zl !=zl)=false:=bne_self_eq_false _
  go_wp2_with fail
  refine HS.out.mono ?_
  rintro e w11 ⟨rfl,hb⟩
  have HG3:=hid (HG1.out.below hb)
  have HG4:=hid (HG2.out.below hb)
  replace HAB:=hid (HAB.out.trans (hb.mono HAB.out.size))
  clear hb HS hll HG1 HG2
  have hbc:=HCLB.out
  go_wp2_with fail
  obtain⟨nb,hnb⟩:∃x,BC.length=x:=⟨_,rfl⟩
  have HNB:=hid hnb
  rw[hnb] at hbc
  simp only[hnb]
  clear hnb
  have HZ:Hid (Below w11.heap.size w11 w11):=Below.refl _ _
  go_loopw [21] (fun tv wr=>∃t:Nat,t≤nb∧tv=.int .i64 t∧Hid (Below w11.heap.size w11 wr)) (fun tv _=>nb - (intOf tv).toNat)
  case atStart=>exact⟨0,Nat.zero_le _,rfl,HZ⟩
  case round=>
   clear HZ
   obtain⟨t,ht,rfl,HB⟩:=hrel
   by_cases hlt:t<nb
   ·have hltB:t<BC.length:=by rw[HNB.out];exact hlt
    obtain⟨g1,o1,rfl,hg1,c1⟩:=(HG3.out.below HB.out) t hltB
    obtain⟨g2,o2,rfl,hg2,c2⟩:=(HG4.out.below HB.out) t hltB
    generalize BC[t]=bt at *
    have hbt:(bt !=bt)=false:=bne_self_eq_false _
    go_wp2_with fail
    go_quiet (fail)
    go_wp2
    go_roundw
    case rel=>exact⟨t+1,by omega,by go_num,below_dn HB.out _⟩
    case measure=>simp[intOf];omega
   ·obtain rfl:t=nb:=by omega
    replace HAB:=hid (HAB.out.trans (HB.out.mono HAB.out.size))
    clear HG3 HG4 HB HNB
    go_wp2_with fail
    refine(HSL1.out _ HAB.out).mono ?_
    rintro e w12 ⟨x1,m1,rfl,hF,hb⟩
    have HF:=hid hF
    replace HAB:=hid (HAB.out.trans (hb.mono HAB.out.size))
    clear hF hb
    go_wp2_with fail
    refine(HSL2.out _ HAB.out).mono ?_
    rintro e w13 ⟨x2,m2,rfl,hF,hb⟩
    have HS:=hid (sameFracs_any x1 x2 m1 m2 LT w13 (HF.out.below hb) hF (by have:=HSLF.out;omega))
    replace HAB:=hid (HAB.out.trans (hb.mono HAB.out.size))
    clear hF hb HF HSL1 HSL2 HSLF
    have hzz:(zt !=zt)=false:=bne_self_eq_false _
    go_wp2_with fail
    refine HS.out.mono ?_
    rintro e w14 ⟨rfl,hb⟩
    replace HAB:=hid (HAB.out.trans (hb.mono HAB.out.size))
    clear hb HS hzz
    go_wp2_with fail
    refine(HHT1.out _ HAB.out).mono ?_
    rintro e w15 ⟨x1,m1,rfl,hF,hb⟩
    have HF:=hid hF
    replace HAB:=hid (HAB.out.trans (hb.mono HAB.out.size))
    clear hF hb
    go_wp2_with fail
    refine(HHT2.out _ HAB.out).mono ?_
    rintro e w16 ⟨x2,m2,rfl,hF,hb⟩
    have HS:=hid (sameFracs_any x1 x2 m1 m2 LH w16 (HF.out.below hb) hF (by have:=HHTF.out;omega))
    replace HAB:=hid (HAB.out.trans (hb.mono HAB.out.size))
    clear hF hb HF HHT1 HHT2 HHTF
    have hzz:(zh !=zh)=false:=bne_self_eq_false _
    go_wp2_with fail
    refine HS.out.mono ?_
    rintro e w17 ⟨rfl,hb⟩
    replace HAB:=hid (HAB.out.trans (hb.mono HAB.out.size))
    clear hb HS hzz
    go_wp2_with fail
    refine(HBK1.out _ HAB.out).mono ?_
    rintro e w18 ⟨rfl,hb⟩
    have HX1:=hid (Box.new w18 fb.1 fb.2.1 fb.2.2)
    have hal:=(Below.refl w18.heap.size w18).alloc (Nat.le_refl _) (FC fb.1 fb.2.1 fb.2.2)
    replace HAB:=hid ((HAB.out.trans (hb.mono HAB.out.size)).trans (hal.mono (Nat.le_trans HAB.out.size hb.size)))
    clear hb hal
    go_wp2_with fail
    generalize (w18.alloc (FC fb.1 fb.2.1 fb.2.2))=w19 at *
    generalize w18.heap.size=g1 at *
    refine(HBK2.out _ HAB.out).mono ?_
    rintro e w20 ⟨rfl,hb⟩
    have hX1:=HX1.out.below hb HX1.out.lt
    have HX2:=hid (Box.new w20 fb.1 fb.2.1 fb.2.2)
    have hal:=(Below.refl w20.heap.size w20).alloc (Nat.le_refl _) (FC fb.1 fb.2.1 fb.2.2)
    replace HX1:=hid (hX1.below hal hX1.lt)
    replace HAB:=hid ((HAB.out.trans (hb.mono HAB.out.size)).trans (hal.mono (Nat.le_trans HAB.out.size hb.size)))
    clear hb hal hX1 HBK1 HBK2
    go_wp2_with fail
    generalize (w20.alloc (FC fb.1 fb.2.1 fb.2.2))=w21 at *
    generalize w20.heap.size=g2 at *
    refine(HTU1.out _ HAB.out).mono ?_
    rintro e w22 ⟨rfl,hb⟩
    replace HX1:=hid (HX1.out.below hb HX1.out.lt)
    replace HX2:=hid (HX2.out.below hb HX2.out.lt)
    replace HAB:=hid (HAB.out.trans (hb.mono HAB.out.size))
    clear hb
    go_wp2_with fail
    refine(HTU2.out _ HAB.out).mono ?_
    rintro e w23 ⟨rfl,hb⟩
    replace HX1:=hid (HX1.out.below hb HX1.out.lt)
    replace HX2:=hid (HX2.out.below hb HX2.out.lt)
    replace HAB:=hid (HAB.out.trans (hb.mono HAB.out.size))
    clear hb HTU1 HTU2
    obtain⟨k0,k1,k2⟩:=HX1.out.trio
    obtain⟨j0,j1,j2⟩:=HX2.out.trio
    have hrr:(rt==rt)=true:=beq_self_eq_true _
    have hzr:(zr==zr)=true:=beq_self_eq_true _
    clear HX1 HX2
    go_wp2_with fail
    refine(HON.out _).mono ?_
    rintro e w24 ⟨rfl,hb⟩
    replace HAB:=hid (HAB.out.trans (hb.mono HAB.out.size))
    clear hb
    go_wp2
    go_ret
    exact⟨rfl,HAB.out⟩
end Go.Proofs.YtmbjmiioggfneaaGreatDoor

/- A lifting that hands on the world's shape beside what the row lists; fractions opened and shut. -/
namespace Go.Proofs.YtmbjmiioggfneaaGreatDoor
open Go.ChangeShapes Go.WideShapes Go.ChangeAt Go.RowKit
theorem lift_shaped {H:Type} {enc:TypeId×Value→H} {a:Assume} {C:Checked} {os:Os} {f:FuncId} {fn:Func} {s:ChangeSpec} {conds:List PathCond} {apart fresh handsOn again:Bool} {X:World→Array Value→Prop}
  (hX:∀(w w':World) (args:Array Value),w.heap=w'.heap→X w args→X w' args)
  (own:ownKnob C.prog.godebug=none) (started:os.Started) (noInit:C.prog.inits.idxOf? f=none) (hfn:C.prog.funcs[f]? =some fn)
  (witness:∃(w:World) (tape:Tape) (i:Input),w.os=os∧(w.forCall tape i).Shaped C.prog∧i.vars=[]∧Input.okWide C.prog (w.forCall tape i) .any w.heap.size f i∧
   ((s.pre enc C.prog fn conds apart (w.forCall tape i).memory i.args∧X (w.forCall tape i).memory i.args)∧sizedMet enc C.prog fn (OpenSpec.ofChange s) apart (w.forCall tape i).memory i.args)∧a.holds C.prog (lone (Frame.enter C.prog f i.args .normal) [] (w.forCall tape i)))
  (walk:∀(W:World) (base:Nat) (args:Array Value) (ds gs:List (DataW H)) (before:List MemPlace),
   (∀(j:Nat) t v,fn.params[j]? =some t→args[j]? =some v→Value.okWide C.prog W .any base t v)→
   DataW.Whole enc C.prog fn.params.toList s.vars apart W args.toList ds gs before→
   (DataW.weightsEach C.prog (fn.params.toList++s.plain.varTypes C.prog) (ds++gs)).all (·≤reachBytes)=true→X W args→W.ShapedOpen C.prog→
   Calls C.prog f args W fun e W'=>∃v,e=.returned v∧s.post enc C.prog fn apart fresh handsOn again W args v W'):
  ReturnsInHanded a C os f .any (fun w args=>(s.pre enc C.prog fn conds apart w args∧X w args)∧sizedMet enc C.prog fn (OpenSpec.ofChange s) apart w args) (s.post enc C.prog fn apart fresh handsOn again):=by
 refine returnsInHanded_of_calls own started noInit witness ?_
 intro w tape i _ hsh _ hok hpre _
 obtain⟨_,_,_,fn',hfn',_,_,_,_,hval⟩:=hok
 obtain rfl:fn'=fn:=Option.some.inj (hfn'.symm.trans hfn)
 obtain⟨⟨⟨ds,gs,before,hw,_⟩,hx⟩,hz⟩:=hpre
 refine(walk (w.forCall tape i) w.heap.size i.args ds gs before hval (DataW.Whole.of_heap (w':=w.forCall tape i) (by rfl) hw) (hz.weights hw) (hX _ _ _ (by rfl) hx) hsh).mono fun e W' ⟨v,he,hp⟩=>?_
 subst he
 exact ChangeSpec.post_blind hp
theorem cellsF:Tryz.prog.cellsOf 44=3:=by kernel_rfl
theorem cellsB:Tryz.prog.cellsOf 4=1:=by kernel_rfl
theorem cellsN:Tryz.prog.cellsOf 42=1:=by kernel_rfl
end Go.Proofs.YtmbjmiioggfneaaGreatDoor

/- A slice of fractions that came in, opened. -/
namespace Go.Proofs.YtmbjmiioggfneaaGreatDoor
open Go.ChangeShapes Go.WideShapes Go.ChangeAt Go.RowKit
theorem cell_lt {w:World} {a:Addr} {v:Value} (h:w.cell? a=some v):a.block<w.heap.size:=by
 rcases Nat.lt_or_ge a.block w.heap.size with h1 |h1
 ·exact h1
 ·simp[World.cell?,Array.getElem?_eq_none h1] at h
def fd {H:Type} (f:Fr):DataW H:=.agg [.lit (.bool f.1),.lit (.string f.2.1.data.toList),.lit (.string f.2.2.data.toList)]
set_option maxRecDepth 100000 in
theorem open_fracs {H:Type} {enc:TypeId×Value→H} {W:World} {r:Reach} {b0:Nat} {v:Value} {d:DataW H} {p:List MemPlace} (hval:Value.okWide Tryz.prog W r b0 23 v) (h:DataW.Trod enc Tryz.prog W 0 (fun _=>true) true 23 v d p):
  ∃(a:Option Addr) (cap:Nat) (l:List Fr),v=.slice a l.length cap∧FrS W a l∧((d=.nil∧l=[])∨∃rest,d=.slice (l.map fd) rest):=by
 obtain⟨a,len,cap,rfl⟩:=okWide_slice Tryz.underlying23 hval
 obtain⟨fuel,hf⟩:=h
 rcases Deep.open_slice Tryz.underlying23 hf with ⟨hcs,hx⟩ |⟨a',len',cap',m,n,D,Pl,hcs,hb,hl,hm,hmm,hx,hel⟩
 ·simp[Value.cells] at hcs
  obtain⟨rfl,rfl,rfl⟩:=hcs
  simp only[Prod.mk.injEq] at hx
  exact⟨none,0,[],rfl,fun k hk=>absurd hk (by simp),.inl ⟨hx.1,rfl⟩⟩
 ·simp[Value.cells] at hcs
  obtain⟨rfl,rfl,rfl⟩:=hcs
  simp only[Prod.mk.injEq] at hx
  have hlm:len≤m:=by rw[hmm];split<;>omega
  rw[cellsF] at hel
  have each:∀i,i<len→∃f:Fr,(W.cell? (a'.add (i*3))=some (.bool f.1)∧W.cell? (a'.add (i*3+1))=some (.string f.2.1)∧W.cell? (a'.add (i*3+2))=some (.string f.2.2))∧D i=fd f:=by
   intro i hi
   obtain⟨cs',h1,h2⟩:=hel i (by omega)
   obtain⟨_,hlen,hcell⟩:=World.cells?_some h1
   match cs',hlen with
   |[c0,c1,c2],_=>
    obtain⟨y0,y1,y2,k,hxx,_,hy0,hy1,hy2⟩:=Deep.trod_struct3 Tryz.underlying44 h2
    obtain⟨nn,e0,rfl⟩:=DataW.trod_bool Tryz.underlying4 hy0
    obtain⟨x,e1,rfl,hx1⟩:=DataW.trod_string Tryz.underlying42 hy1
    obtain⟨y,e2,rfl,hx2⟩:=DataW.trod_string Tryz.underlying42 hy2
    simp[cellsB,cellsN] at e0 e1 e2
    subst e0 e1 e2
    simp only[Prod.mk.injEq] at hxx
    have g0:=hcell 0 (by omega)
    have g1:=hcell 1 (by omega)
    have g2:=hcell 2 (by omega)
    rw[Deep.add_add] at g0 g1 g2
    exact⟨(nn,x,y),⟨by simpa using g0,by simpa using g1,by simpa using g2⟩,hxx.1⟩
  obtain⟨f,hf2⟩:=Deep.choose_lt (α:=Fr) each
  refine⟨some a',cap,(List.range len).map f,by simp,?_,.inr ⟨(List.range (m - len)).map fun j=>D (len+j),?_⟩⟩
  ·intro k hk
   have hk':k<len:=by simpa using hk
   obtain⟨⟨g0,g1,g2⟩,_⟩:=hf2 k hk'
   obtain⟨⟨z0,_,_⟩,_⟩:=hf2 0 (by omega)
   have hsp:=World.cell?_spot z0
   obtain⟨bb,oo,sp⟩:=a'
   rw[Nat.zero_mul] at hsp
   simp[Addr.add] at hsp
   subst hsp
   rw[WideShapes.add_plain] at g0 g1 g2
   refine⟨bb,oo,rfl,cell_lt g0,?_,?_,?_⟩
   ·simpa using g0
   ·simpa [Nat.add_assoc] using g1
   ·simpa [Nat.add_assoc] using g2
  ·rw[hx.1]
   congr 1
   rw[List.map_map]
   exact List.map_congr_left fun i hi=>(hf2 i (List.mem_range.1 hi)).2
theorem weights_all {H:Type} {P:Program} {e:TypeId} {n:Nat}:∀ {l:List (DataW H)} {d:DataW H},d∈l→n∈d.weights P e→n∈DataW.weightsAll P e l
 |x::l,d,hd,hn=>by
  simp only[DataW.weightsAll,List.mem_append]
  rcases List.mem_cons.1 hd with rfl |hd
  ·exact .inl hn
  ·exact .inr (weights_all hd hn)
theorem bytesF:Tryz.prog.bytesOf 44=40:=by kernel_rfl
theorem sized_fracs {H:Type} {ts:List TypeId} {ds:List (DataW H)} (h:(DataW.weightsEach Tryz.prog ts ds).all (·≤reachBytes)=true) {j:Nat} {l:List Fr} {rest:List (DataW H)} (ht:ts[j]? =some 23) (hd:ds[j]? =some (.slice (l.map fd) rest)):
  l.length≤140737488355328∧∀f∈l,f.2.1.size≤140737488355328∧f.2.2.size≤140737488355328:=by
 constructor
 ·have h1:=List.all_eq_true.1 h _ (DataW.weights_mem_each ht hd (((l.map (fd (H:=H))).length+rest.length)*Tryz.prog.bytesOf 44) (by simp[DataW.weights,Tryz.underlying23]))
  have h1':((l.map (fd (H:=H))).length+rest.length)*Tryz.prog.bytesOf 44≤reachBytes:=by simpa using h1
  rw[bytesF,List.length_map] at h1'
  simp only[reachBytes] at h1'
  omega
 ·intro f hf
  have hin:∀n,n∈(fd (H:=H) f).weights Tryz.prog 44→n≤reachBytes:=fun n hn=>by
   have:=List.all_eq_true.1 h _ (DataW.weights_mem_each ht hd n (by
    simp only[DataW.weights,Tryz.underlying23,List.mem_cons,List.mem_append]
    exact .inr (.inl (weights_all (List.mem_map_of_mem hf) hn))))
   simpa using this
  have a1:=hin f.2.1.data.toList.length (by simp[fd,DataW.weights,Tryz.underlying44,DataW.weightsEach])
  have a2:=hin f.2.2.data.toList.length (by simp[fd,DataW.weights,Tryz.underlying44,DataW.weightsEach])
  rw[bytes_len] at a1 a2
  simp only[reachBytes] at a1 a2
  constructor<;>omega
end Go.Proofs.YtmbjmiioggfneaaGreatDoor

/- Lists of ints and tables that came in, opened. -/
namespace Go.Proofs.YtmbjmiioggfneaaGreatDoor
open Go.ChangeShapes Go.WideShapes Go.ChangeAt Go.RowKit
def idt {H:Type} (x:Int):DataW H:=.lit (.int .i64 x)
theorem cellsI:Tryz.prog.cellsOf 3=1:=by kernel_rfl
theorem cellsFs:Tryz.prog.cellsOf 23=1:=by kernel_rfl
set_option maxRecDepth 100000 in
theorem trod_ints {H:Type} {enc:TypeId×Value→H} {W:World} {fuel:Nat} {cs:List Value} {x:DataW H×List MemPlace} (hf:DataW.trod enc Tryz.prog W 0 (fun _=>true) true fuel 24 cs=some x):
  ∃(a:Option Addr) (cap:Nat) (l:List Int),cs=[.slice a l.length cap]∧IntS W a l∧(a=none→cap=0)∧((x.1=.nil∧l=[])∨∃rest,x.1=.slice (l.map idt) rest)∧∀y∈l, -9223372036854775808≤y∧y≤9223372036854775807:=by
 rcases Deep.open_slice Tryz.underlying24 hf with ⟨hcs,hx⟩ |⟨a',len,cap,m,n,D,Pl,hcs,hb,hl,hm,hmm,hx,hel⟩
 ·exact⟨none,0,[],hcs,fun k hk=>absurd hk (by simp),fun _=>rfl,.inl ⟨by rw[hx],rfl⟩,fun _ h=>by cases h⟩
 ·have hlm:len≤m:=by rw[hmm];split<;>omega
  rw[cellsI] at hel
  have each:∀i,i<len→∃z:Int,(W.cell? (a'.add (i*1))=some (.int .i64 z)∧ -9223372036854775808≤z∧z≤9223372036854775807)∧D i=idt z:=by
   intro i hi
   obtain⟨cs',h1,h2⟩:=hel i (by omega)
   obtain⟨_,hlen,hcell⟩:=World.cells?_some h1
   obtain⟨z,e0,hxx,hwf⟩:=DataW.trod_int Tryz.underlying3 h2
   subst e0
   simp only[Prod.mk.injEq] at hxx
   have g0:=hcell 0 (by omega)
   rw[Deep.add_add] at g0
   exact⟨z,⟨by simpa using g0,bounds_i64 hwf⟩,hxx.1⟩
  obtain⟨f,hf2⟩:=Deep.choose_lt (α:=Int) each
  refine⟨some a',cap,(List.range len).map f,by rw[hcs];simp,?_,fun e=>by(cases e),.inr ⟨(List.range (m - len)).map fun j=>D (len+j),?_⟩,?_⟩
  ·intro k hk
   have hk':k<len:=by simpa using hk
   obtain⟨⟨g0,_⟩,_⟩:=hf2 k hk'
   obtain⟨⟨z0,_⟩,_⟩:=hf2 0 (by omega)
   have hsp:=World.cell?_spot z0
   obtain⟨bb,oo,sp⟩:=a'
   rw[Nat.zero_mul] at hsp
   simp[Addr.add] at hsp
   subst hsp
   rw[WideShapes.add_plain] at g0
   refine⟨bb,oo,rfl,cell_lt g0,?_⟩
   simpa using g0
  ·rw[hx]
   show DataW.slice _ _=DataW.slice _ _
   congr 1
   rw[List.map_map]
   exact List.map_congr_left fun i hi=>(hf2 i (List.mem_range.1 hi)).2
  ·intro y hy
   obtain⟨i,hi,rfl⟩:=List.mem_map.1 hy
   exact(hf2 i (List.mem_range.1 hi)).1.2
set_option maxRecDepth 100000 in
theorem open_ints {H:Type} {enc:TypeId×Value→H} {W:World} {r:Reach} {b0:Nat} {v:Value} {d:DataW H} {p:List MemPlace} (hval:Value.okWide Tryz.prog W r b0 24 v) (h:DataW.Trod enc Tryz.prog W 0 (fun _=>true) true 24 v d p):
  ∃(a:Option Addr) (cap:Nat) (l:List Int),v=.slice a l.length cap∧IntS W a l∧(a=none→cap=0)∧((d=.nil∧l=[])∨∃rest,d=.slice (l.map idt) rest)∧∀x∈l, -9223372036854775808≤x∧x≤9223372036854775807:=by
 obtain⟨a,len,cap,rfl⟩:=okWide_slice Tryz.underlying24 hval
 obtain⟨fuel,hf⟩:=h
 obtain⟨a',cap',l,hcs,hi,h0,hd,hr⟩:=trod_ints hf
 simp[Value.cells] at hcs
 obtain⟨rfl,rfl,rfl⟩:=hcs
 exact⟨a,cap,l,rfl,hi,h0,hd,hr⟩
set_option maxRecDepth 100000 in
theorem open_fracs_of {H:Type} {enc:TypeId×Value→H} {W:World} {a:Option Addr} {len cap:Nat} {d:DataW H} {p:List MemPlace} (h:DataW.Trod enc Tryz.prog W 0 (fun _=>true) true 23 (.slice a len cap) d p):
  ∃(a':Option Addr) (cap':Nat) (l:List Fr),(Value.slice a len cap)=.slice a' l.length cap'∧FrS W a' l∧((d=.nil∧l=[])∨∃rest,d=.slice (l.map fd) rest):=by
 obtain⟨fuel,hf⟩:=h
 rcases Deep.open_slice Tryz.underlying23 hf with ⟨hcs,hx⟩ |⟨a',len',cap',m,n,D,Pl,hcs,hb,hl,hm,hmm,hx,hel⟩
 ·simp[Value.cells] at hcs
  obtain⟨rfl,rfl,rfl⟩:=hcs
  simp only[Prod.mk.injEq] at hx
  exact⟨none,0,[],rfl,fun k hk=>absurd hk (by simp),.inl ⟨hx.1,rfl⟩⟩
 ·simp[Value.cells] at hcs
  obtain⟨rfl,rfl,rfl⟩:=hcs
  simp only[Prod.mk.injEq] at hx
  have hlm:len≤m:=by rw[hmm];split<;>omega
  rw[cellsF] at hel
  have each:∀i,i<len→∃f:Fr,(W.cell? (a'.add (i*3))=some (.bool f.1)∧W.cell? (a'.add (i*3+1))=some (.string f.2.1)∧W.cell? (a'.add (i*3+2))=some (.string f.2.2))∧D i=fd f:=by
   intro i hi
   obtain⟨cs',h1,h2⟩:=hel i (by omega)
   obtain⟨_,hlen,hcell⟩:=World.cells?_some h1
   match cs',hlen with
   |[c0,c1,c2],_=>
    obtain⟨y0,y1,y2,k,hxx,_,hy0,hy1,hy2⟩:=Deep.trod_struct3 Tryz.underlying44 h2
    obtain⟨nn,e0,rfl⟩:=DataW.trod_bool Tryz.underlying4 hy0
    obtain⟨x,e1,rfl,hx1⟩:=DataW.trod_string Tryz.underlying42 hy1
    obtain⟨y,e2,rfl,hx2⟩:=DataW.trod_string Tryz.underlying42 hy2
    simp[cellsB,cellsN] at e0 e1 e2
    subst e0 e1 e2
    simp only[Prod.mk.injEq] at hxx
    have g0:=hcell 0 (by omega)
    have g1:=hcell 1 (by omega)
    have g2:=hcell 2 (by omega)
    rw[Deep.add_add] at g0 g1 g2
    exact⟨(nn,x,y),⟨by simpa using g0,by simpa using g1,by simpa using g2⟩,hxx.1⟩
  obtain⟨f,hf2⟩:=Deep.choose_lt (α:=Fr) each
  refine⟨some a',cap,(List.range len).map f,by simp,?_,.inr ⟨(List.range (m - len)).map fun j=>D (len+j),?_⟩⟩
  ·intro k hk
   have hk':k<len:=by simpa using hk
   obtain⟨⟨g0,g1,g2⟩,_⟩:=hf2 k hk'
   obtain⟨⟨z0,_,_⟩,_⟩:=hf2 0 (by omega)
   have hsp:=World.cell?_spot z0
   obtain⟨bb,oo,sp⟩:=a'
   rw[Nat.zero_mul] at hsp
   simp[Addr.add] at hsp
   subst hsp
   rw[WideShapes.add_plain] at g0 g1 g2
   refine⟨bb,oo,rfl,cell_lt g0,?_,?_,?_⟩
   ·simpa using g0
   ·simpa [Nat.add_assoc] using g1
   ·simpa [Nat.add_assoc] using g2
  ·rw[hx.1]
   congr 1
   rw[List.map_map]
   exact List.map_congr_left fun i hi=>(hf2 i (List.mem_range.1 hi)).2
theorem open_fracs_at {H:Type} {enc:TypeId×Value→H} {W:World} {fuel:Nat} {v:Value} {x:DataW H×List MemPlace} (hf:DataW.trod enc Tryz.prog W 0 (fun _=>true) true fuel 23 [v]=some x):
  ∃(a:Option Addr) (cap:Nat) (l:List Fr),v=.slice a l.length cap∧FrS W a l∧((x.1=.nil∧l=[])∨∃rest,x.1=.slice (l.map fd) rest):=by
 have hs:∃a n c,v=Value.slice a n c:=by
  rcases Deep.open_slice Tryz.underlying23 hf with ⟨hcs,_⟩ |⟨a',len,cap,m,n,D,Pl,hcs,_⟩
  ·exact⟨_,_,_,by simpa using hcs⟩
  ·exact⟨_,_,_,by simpa using hcs⟩
 obtain⟨a,n,c,rfl⟩:=hs
 obtain⟨a',cap',l,h1,h2,h3⟩:=open_fracs_of (enc:=enc) (W:=W) (a:=a) (len:=n) (cap:=c) (d:=x.1) (p:=x.2) ⟨fuel,hf⟩
 exact⟨a',cap',l,h1,h2,h3⟩
theorem bytesI:Tryz.prog.bytesOf 3=8:=by kernel_rfl
theorem sized_ints {H:Type} {ts:List TypeId} {ds:List (DataW H)} (h:(DataW.weightsEach Tryz.prog ts ds).all (·≤reachBytes)=true) {j:Nat} {l:List Int} {d:DataW H} (ht:ts[j]? =some 24) (hd:ds[j]? =some d) (hl:(d=.nil∧l=[])∨∃rest,d=.slice (l.map idt) rest):
  l.length≤140737488355328:=by
 rcases hl with ⟨_,rfl⟩ |⟨rest,rfl⟩
 ·simp
 have h1:=List.all_eq_true.1 h _ (DataW.weights_mem_each ht hd (((l.map (idt (H:=H))).length+rest.length)*Tryz.prog.bytesOf 3) (by simp[DataW.weights,Tryz.underlying24]))
 have h1':((l.map (idt (H:=H))).length+rest.length)*Tryz.prog.bytesOf 3≤reachBytes:=by simpa using h1
 rw[bytesI,List.length_map] at h1'
 simp only[reachBytes] at h1'
 omega
theorem sized_fracs' {H:Type} {ts:List TypeId} {ds:List (DataW H)} (h:(DataW.weightsEach Tryz.prog ts ds).all (·≤reachBytes)=true) {j:Nat} {l:List Fr} {d:DataW H} (ht:ts[j]? =some 23) (hd:ds[j]? =some d) (hl:(d=.nil∧l=[])∨∃rest,d=.slice (l.map fd) rest):
  l.length≤140737488355328∧∀f∈l,f.2.1.size≤140737488355328∧f.2.2.size≤140737488355328:=by
 rcases hl with ⟨_,rfl⟩ |⟨rest,rfl⟩
 ·exact⟨by simp,fun f hf=>by cases hf⟩
 ·exact sized_fracs h ht hd
end Go.Proofs.YtmbjmiioggfneaaGreatDoor

/- Rows of fractions that came in, opened, and their sizes. -/
namespace Go.Proofs.YtmbjmiioggfneaaGreatDoor
open Go.ChangeShapes Go.WideShapes Go.ChangeAt Go.RowKit
def LsD {H:Type} {α:Type} (one:DataW H→α→Prop) (d:DataW H) (L:List α):Prop:=(d=.nil∧L=[])∨∃(E rest:List (DataW H)),d=.slice E rest∧E.length=L.length∧∀k (h:k<L.length) (h':k<E.length),one E[k] L[k]
def FrcD {H:Type} (d:DataW H) (l:List Fr):Prop:=(d=.nil∧l=[])∨∃rest,d=.slice (l.map fd) rest
set_option maxRecDepth 100000 in
theorem trod_frows {H:Type} {enc:TypeId×Value→H} {W:World} {fuel:Nat} {cs:List Value} {x:DataW H×List MemPlace} (hf:DataW.trod enc Tryz.prog W 0 (fun _=>true) true fuel 22 cs=some x):
  ∃(a:Option Addr) (cap:Nat) (L:List (List Fr)),cs=[.slice a L.length cap]∧FsS W a L∧LsD FrcD x.1 L:=by
 rcases Deep.open_slice Tryz.underlying22 hf with ⟨hcs,hx⟩ |⟨a',len,cap,m,n,D,Pl,hcs,hb,hl,hm,hmm,hx,hel⟩
 ·exact⟨none,0,[],hcs,fun k hk=>absurd hk (by simp),.inl ⟨by rw[hx],rfl⟩⟩
 ·have hlm:len≤m:=by rw[hmm];split<;>omega
  rw[cellsFs] at hel
  have each:∀i,i<len→∃z:Option Addr×Nat×List Fr,W.cell? (a'.add (i*1))=some (.slice z.1 z.2.2.length z.2.1)∧(FrS W z.1 z.2.2∧z.2.2.length≤z.2.1)∧FrcD (D i) z.2.2:=by
   intro i hi
   obtain⟨cs',h1,h2⟩:=hel i (by omega)
   obtain⟨_,hlen,hcell⟩:=World.cells?_some h1
   have hcap:∀a n c,cs'=[Value.slice a n c]→n≤c:=fun a n c e=>by
    rcases Deep.open_slice Tryz.underlying23 h2 with ⟨hc,_⟩ |⟨a2,len2,cap2,m2,n2,D2,Pl2,hc,_,hl2,_⟩
    ·rw[hc] at e;cases e;exact Nat.le_refl _
    ·rw[hc] at e;cases e;exact hl2
   match cs',hlen with
   |[v],_=>
    obtain⟨b,c,l,e0,h3,h4⟩:=open_fracs_at h2
    subst e0
    have g0:=hcell 0 (by omega)
    rw[Deep.add_add] at g0
    exact⟨(b,c,l),by simpa using g0,⟨h3,hcap _ _ _ rfl⟩,h4⟩
  obtain⟨f,hf2⟩:=Deep.choose_lt (α:=Option Addr×Nat×List Fr) each
  refine⟨some a',cap,(List.range len).map fun i=>(f i).2.2,by rw[hcs];simp,?_,.inr ⟨(List.range len).map D,(List.range (m - len)).map fun j=>D (len+j),by rw[hx],by simp,?_⟩⟩
  ·intro k hk
   have hk':k<len:=by simpa using hk
   obtain⟨g0,⟨h3,h5⟩,_⟩:=hf2 k hk'
   obtain⟨z0,_⟩:=hf2 0 (by omega)
   have hsp:=World.cell?_spot z0
   obtain⟨bb,oo,sp⟩:=a'
   rw[Nat.zero_mul] at hsp
   simp[Addr.add] at hsp
   subst hsp
   rw[WideShapes.add_plain] at g0
   refine⟨bb,oo,(f k).1,(f k).2.1,rfl,cell_lt g0,?_,?_,?_⟩
   ·simpa using g0
   ·simpa using h3
   ·simpa using h5
  ·intro k hk hk'
   have hk2:k<len:=by simpa using hk
   simpa using (hf2 k hk2).2.2
set_option maxRecDepth 100000 in
theorem open_frows {H:Type} {enc:TypeId×Value→H} {W:World} {r:Reach} {b0:Nat} {v:Value} {d:DataW H} {p:List MemPlace} (hval:Value.okWide Tryz.prog W r b0 22 v) (h:DataW.Trod enc Tryz.prog W 0 (fun _=>true) true 22 v d p):
  ∃(a:Option Addr) (cap:Nat) (L:List (List Fr)),v=.slice a L.length cap∧FsS W a L∧LsD FrcD d L:=by
 obtain⟨a,len,cap,rfl⟩:=okWide_slice Tryz.underlying22 hval
 obtain⟨fuel,hf⟩:=h
 obtain⟨a',cap',L,hcs,hi,hd⟩:=trod_frows hf
 simp[Value.cells] at hcs
 obtain⟨rfl,rfl,rfl⟩:=hcs
 exact⟨a,cap,L,rfl,hi,hd⟩
theorem sized_part {H:Type} {t e:TypeId} (ht:Tryz.prog.underlying t=some (.slice e)) {E rest:List (DataW H)} (h:(DataW.weightsEach Tryz.prog [t] [.slice E rest]).all (·≤reachBytes)=true) {d:DataW H} (hd:d∈E):(DataW.weightsEach Tryz.prog [e] [d]).all (·≤reachBytes)=true:=by
 rw[List.all_eq_true]
 intro n hn
 have hn':n∈d.weights Tryz.prog e:=by simpa [DataW.weightsEach] using hn
 have:=List.all_eq_true.1 h n (by
  simp only[DataW.weightsEach,List.append_nil,DataW.weights,ht,List.mem_cons,List.mem_append]
  exact .inr (.inl (weights_all hd hn')))
 exact this
theorem sized_count {H:Type} {t e:TypeId} (ht:Tryz.prog.underlying t=some (.slice e)) {E rest:List (DataW H)} (h:(DataW.weightsEach Tryz.prog [t] [.slice E rest]).all (·≤reachBytes)=true):E.length*Tryz.prog.bytesOf e≤reachBytes:=by
 have:=List.all_eq_true.1 h ((E.length+rest.length)*Tryz.prog.bytesOf e) (by simp[DataW.weightsEach,DataW.weights,ht])
 have h2:(E.length+rest.length)*Tryz.prog.bytesOf e≤reachBytes:=by simpa using this
 exact Nat.le_trans (Nat.mul_le_mul_right _ (by omega)) h2
theorem bytesFs:Tryz.prog.bytesOf 23=24:=by kernel_rfl
theorem sized_rowsF {H:Type} {dR:DataW H} {R:List (List Fr)} (hwR:(DataW.weightsEach Tryz.prog [22] [dR]).all (·≤reachBytes)=true) (hR:LsD FrcD dR R):R.length≤140737488355328∧∀r∈R,r.length≤140737488355328∧∀f∈r,f.2.1.size≤140737488355328∧f.2.2.size≤140737488355328:=by
 rcases hR with ⟨_,rfl⟩ |⟨E,rest,rfl,he,hp⟩
 ·exact⟨by simp,fun x hx=>by cases hx⟩
 ·constructor
  ·have h1:=sized_count Tryz.underlying22 hwR
   rw[bytesFs,he] at h1
   simp only[reachBytes] at h1
   omega
  ·intro x hx
   obtain⟨k,hk,rfl⟩:=List.getElem_of_mem hx
   have h1:=sized_part Tryz.underlying22 hwR (List.getElem_mem (show k<E.length by omega))
   exact sized_fracs' h1 (j:=0) rfl rfl (hp k hk (by omega))
theorem sized_frows {H:Type} {ts:List TypeId} {ds:List (DataW H)} (h:(DataW.weightsEach Tryz.prog ts ds).all (·≤reachBytes)=true) {j:Nat} {L:List (List Fr)} {d:DataW H} (ht:ts[j]? =some 22) (hd:ds[j]? =some d) (hl:LsD FrcD d L):L.length≤140737488355328∧∀r∈L,r.length≤140737488355328∧∀f∈r,f.2.1.size≤140737488355328∧f.2.2.size≤140737488355328:=by
 refine sized_rowsF (List.all_eq_true.2 fun n hn=>?_) hl
 have hn':n∈d.weights Tryz.prog 22:=by simpa [DataW.weightsEach] using hn
 exact List.all_eq_true.1 h n (DataW.weights_mem_each ht hd n hn')
end Go.Proofs.YtmbjmiioggfneaaGreatDoor

/- Arguments that a call has left alone read as before. -/
namespace Go.Proofs.YtmbjmiioggfneaaGreatDoor
open Go.ChangeShapes Go.WideShapes Go.ChangeAt Go.RowKit
theorem below_all {H:Type} {enc:TypeId×Value→H} {P:Program} (hl:laidOutB P=true) {W W':World} (hb:Below W.heap.size W W'):∀ {ts:List TypeId} {vs:List Value} {ds:List (DataW H)} {ps:List MemPlace},
  (ts.all fun t=>P.readableRec t&&decide (t<P.types.size))=true→DataW.TrodAll enc P W 0 (fun _=>true) true ts vs ds ps→DataW.TrodAll enc P W' 0 (fun b=>decide (b<W.heap.size)) true ts vs ds ps
 |[],[],[],_,_,h=>h
 |t::ts,v::vs,d::ds,_,ht,⟨p,q,h,hr,e⟩=>by
  rw[List.all_cons,Bool.and_eq_true,Bool.and_eq_true] at ht
  refine⟨p,q,Below.trod hl ht.1.1 (of_decide_eq_true ht.1.2) h hb ?_,below_all hl hb ht.2 hr,e⟩
  obtain⟨m,hm⟩:=h
  exact DataW.trod_lt m _ _ _ hm
 |[],_::_,_,_,_,h=>by simp[DataW.TrodAll] at h
 |[],[],_::_,_,_,h=>by simp[DataW.TrodAll] at h
 |_::_,[],_,_,_,h=>by simp[DataW.TrodAll] at h
 |_::_,_::_,[],_,_,h=>by simp[DataW.TrodAll] at h
end Go.Proofs.YtmbjmiioggfneaaGreatDoor
