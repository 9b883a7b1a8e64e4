/- The answer's Back, the mathematics: the mean time until a state is come back to is one by its long-run share. -/
import Derived.Test.YtmbjmiioggfneaaGreatDoorCeyHCx
set_option linter.unusedVariables false
set_option linter.unusedSimpArgs false
namespace Go.Proofs.YtmbjmiioggfneaaGreatDoor
open Go.RowKit Go.Shelf
theorem spr_mid {l:List Nat} {x:Nat→Rat} (hd:l.Nodup) {m:Nat} (hm:m<l.length):∀k,k≤m→sprQ l x k (l.getD m 0)=0
 |0,_=>rfl
 |k+1,h=>by
  show (if l.getD m 0=l.getD k 0 then x k else sprQ l x k (l.getD m 0))=0
  rw[if_neg (fun e=>by have:=(getD_inj hd hm (by omega)).1 e;omega),spr_mid hd hm k (by omega)]
theorem spr_sums {n:Nat} {l:List Nat} {f x:Nat→Rat} (hd:l.Nodup) (hl:∀y∈l,y<n):∀m,m≤l.length→sumR (fun y=>f y*sprQ l x m y) n=sumR (fun c=>f (l.getD c 0)*x c) m
 |0,_=>by
  show _=(0:Rat)
  exact sumR_zero fun i _=>by show f i*0=0;rw[Rat.mul_zero]
 |m+1,h=>by
  have e:∀y,f y*sprQ l x (m+1) y=f y*sprQ l x m y+(if y=l.getD m 0 then f (l.getD m 0)*x m else 0):=fun y=>by
   show f y*(if y=l.getD m 0 then x m else sprQ l x m y)=_
   by_cases h9:y=l.getD m 0
   ·subst h9
    rw[if_pos rfl,if_pos rfl,spr_mid hd (by omega) m (Nat.le_refl _),Rat.mul_zero,Rat.zero_add]
   ·rw[if_neg h9,if_neg h9,Rat.add_zero]
  rw[sumR_congr fun y _=>e y,sumR_add,spr_sums hd hl m (by omega)]
  show _=sumR (fun c=>f (l.getD c 0)*x c) m+f (l.getD m 0)*x m
  rw[sumR_onlyJ (hl _ (getD_mem (show m<l.length by omega)))]
def bM (P:Nat→Nat→Rat) (l:List Nat) (k c:Nat):Rat:=if c<l.length then P (l.getD k 0) (l.getD c 0) - (if k=c then 1 else 0) else 0 - 1
def bkX (P:Nat→Nat→Rat) (l:List Nat) (k:Nat):Rat:=elm (bM P l) l.length k l.length
structure BkL (n:Nat) (P:Nat→Nat→Rat) (i:Nat) (l:List Nat):Prop where
 chn:Chn n P
 lt:i<n
 shut:stB n (cmsB n P) i=true
 com:CmL n P i (i::l)
theorem BkL.nd {n i:Nat} {P:Nat→Nat→Rat} {l:List Nat} (h:BkL n P i l):l.Nodup:=(List.nodup_cons.1 h.com.nd).2
theorem BkL.out {n i:Nat} {P:Nat→Nat→Rat} {l:List Nat} (h:BkL n P i l):i∉l:=(List.nodup_cons.1 h.com.nd).1
theorem BkL.all {n i:Nat} {P:Nat→Nat→Rat} {l:List Nat} (h:BkL n P i l) {x:Nat} (hx:x∈l):x<n∧cmsB n P i x=true∧cmsB n P x i=true:=by
 obtain⟨h1,h2⟩:=(h.com.all x).1 (List.mem_cons_of_mem _ hx)
 exact⟨h1,h2,stB_iff.1 h.shut x h1 h2⟩
theorem BkL.wt {n i:Nat} {P:Nat→Nat→Rat} {l:List Nat} (h:BkL n P i l):Wt l.length 0 (bM P l):=
 wt_hits h.chn h.nd (fun _ hx=>(h.all hx).1) (fun _ hx=>⟨i,h.lt,h.out,(h.all hx).2.2⟩) fun _ _ _ hc=>if_pos hc
theorem BkL.sol {n i:Nat} {P:Nat→Nat→Rat} {l:List Nat} (h:BkL n P i l) {k:Nat} (hk:k<l.length):bkX P l k=sumR (fun c=>P (l.getD k 0) (l.getD c 0)*bkX P l c) l.length+1:=by
 have h1:=h.wt.solves k hk
 have e1:bM P l k l.length=0 - 1:=if_neg (Nat.lt_irrefl _)
 have e2:sumR (fun j=>bM P l k j*bkX P l j) l.length=sumR (fun c=>P (l.getD k 0) (l.getD c 0)*bkX P l c) l.length - bkX P l k:=by
  rw[←sumR_one (bkX P l) hk,←sumR_sub]
  refine sumR_congr fun c hc'=>?_
  have e3:bM P l k c=P (l.getD k 0) (l.getD c 0) - (if k=c then 1 else 0):=if_pos hc'
  rw[e3]
  grind
 have h2:sumR (fun j=>bM P l k j*bkX P l j) l.length=bM P l k l.length:=h1
 rw[e1,e2] at h2
 generalize sumR (fun c=>P (l.getD k 0) (l.getD c 0)*bkX P l c) l.length=A at *
 generalize bkX P l k=C at *
 clear e2 e1 h1
 grind
theorem back_cramer {n i:Nat} {X:Nat→Nat→Fr} {l:List Nat} (h:BkL n (rowQ X) i l) (h4:l.length≤5):detQ l.length (mN X l)≠0∧∀k,k<l.length→detQ l.length (putC (mN X l) k fun _=>1)/detQ l.length (mN X l)=bkX (rowQ X) l k:=by
 have hw:=h.wt
 have e1:∀i j,j<l.length→mN X l i j= -bM (rowQ X) l i j:=fun i j hj=>by
  unfold mN bM
  rw[if_pos hj]
  grind
 have e2:detQ l.length (mN X l)=detQ l.length fun i j=> -bM (rowQ X) l i j:=detQ_congr fun i _ j hj=>e1 i j hj
 refine⟨by rw[e2];exact hw.det h4,fun k hk=>?_⟩
 have h9:=hw.cramer h4 (x:=bkX (rowQ X) l) (b:=fun _=>1) (fun i hi=>by
  have h1:=hw.solves i hi
  have h2:bM (rowQ X) l i l.length=0 - 1:=if_neg (Nat.lt_irrefl _)
  have h3:sumR (fun j=>bM (rowQ X) l i j*bkX (rowQ X) l j) l.length=bM (rowQ X) l i l.length:=h1
  have h4:sumR (fun j=> -bM (rowQ X) l i j*bkX (rowQ X) l j) l.length= -sumR (fun j=>bM (rowQ X) l i j*bkX (rowQ X) l j) l.length:=by
   rw[←sumR_negC]
   exact sumR_congr fun j _=>by rw[Rat.neg_mul]
  rw[h4,h3,h2]
  grind) hk
 rw[e2,←h9]
 congr 1
 refine detQ_congr fun i _ j hj=>?_
 unfold putC
 split
 ·rfl
 ·exact e1 i j hj
def bkS (P:Nat→Nat→Rat) (i:Nat) (l:List Nat) (k:Nat):Rat:=1+sumR (fun c=>P i (l.getD c 0)*bkX P l c) k
theorem bkS_succ (P:Nat→Nat→Rat) (i:Nat) (l:List Nat) (k:Nat):bkS P i l (k+1)=bkS P i l k+P i (l.getD k 0)*bkX P l k:=by
 show 1+(sumR _ k+_)=1+sumR _ k+_
 rw[Rat.add_assoc]
theorem back_share {n i:Nat} {P:Nat→Nat→Rat} {l:List Nat} (h:BkL n P i l):1/stQ P (clN n (cmsB n P) i) i=bkS P i l l.length:=by
 have hC:=cls_of h.lt h.shut
 have hst:=fun j (hj:j<n)=>hC.stays h.chn hj
 have hwh:=hC.whole h.chn
 have hoff:∀a,a<n→a∉i::l→stQ P (clN n (cmsB n P) i) a=0:=fun a ha hn=>stQ_off fun hm=>hn ((h.com.all a).2 ⟨ha,(clN_mem.1 hm).2.1⟩)
 obtain⟨π,hπ⟩:∃π:Nat→Rat,stQ P (clN n (cmsB n P) i)=π:=⟨_,rfl⟩
 rw[hπ] at hst hwh hoff⊢
 clear hπ hC
 have hlt:∀y∈l,y<n:=fun y hy=>(h.all hy).1
 obtain⟨H,hH⟩:∃H:Nat→Rat,H=sprQ l (bkX P l) l.length:=⟨_,rfl⟩
 have hE:∀a,sumR (fun y=>P a y*H y) n=sumR (fun c=>P a (l.getD c 0)*bkX P l c) l.length:=fun a=>by
  rw[hH];exact spr_sums h.nd hlt _ (Nat.le_refl _)
 have hHi:H i=0:=by rw[hH];exact sprQ_off h.out (Nat.le_refl _)
 have hHl:∀k,k<l.length→H (l.getD k 0)=1+sumR (fun y=>P (l.getD k 0) y*H y) n:=fun k hk=>by
  rw[hE,Rat.add_comm,←h.sol hk,hH]
  exact sprQ_on h.nd (Nat.le_refl _) hk
 have hi:1+sumR (fun y=>P i y*H y) n=bkS P i l l.length:=by rw[hE];rfl
 have q1:sumR (fun a=>π a*sumR (fun y=>P a y*H y) n) n=sumR (fun y=>π y*H y) n:=by
  rw[sumR_congr (g:=fun a=>sumR (fun y=>π a*(P a y*H y)) n) fun a _=>(sumR_mul _ _ _).symm,sumR_swap]
  refine sumR_congr fun y hy=>?_
  rw[←hst y hy,←sumR_mulR]
  exact sumR_congr fun a _=>(Rat.mul_assoc _ _ _).symm
 have q2:sumR (fun a=>π a*(1+sumR (fun y=>P a y*H y) n)) n=sumR (fun y=>π y*H y) n+π i*bkS P i l l.length:=by
  have e9:∀a,a<n→π a*(1+sumR (fun y=>P a y*H y) n)=π a*H a+(if a=i then π i*bkS P i l l.length else 0):=fun a ha=>by
   by_cases e:a=i
   ·subst e
    rw[if_pos rfl,hHi,hi,Rat.mul_zero,Rat.zero_add]
   ·rw[if_neg e,Rat.add_zero]
    by_cases hm:a∈l
    ·obtain⟨k,hk,rfl⟩:=getD_of hm
     rw[←hHl k hk]
    ·rw[hoff a ha (by simp only[List.mem_cons,not_or];exact⟨e,hm⟩),Rat.zero_mul,Rat.zero_mul]
  rw[sumR_congr e9,sumR_add,sumR_onlyJ h.lt]
 have q3:sumR (fun a=>π a*(1+sumR (fun y=>P a y*H y) n)) n=1+sumR (fun y=>π y*H y) n:=by
  rw[←q1,sumR_congr (g:=fun a=>π a+π a*sumR (fun y=>P a y*H y) n) fun a _=>by rw[Rat.mul_add,Rat.mul_one],sumR_add,hwh]
 have q4:π i*bkS P i l l.length=1:=by
  rw[q2] at q3
  generalize sumR (fun y=>π y*H y) n=A at *
  generalize π i*bkS P i l l.length=C at *
  clear q1 q2 hE hHl hi hHi hst hwh hoff
  grind
 have hne:π i≠0:=fun e=>by rw[e,Rat.zero_mul] at q4;exact absurd q4 (by decide)
 rw[←q4,Rat.div_def,Rat.mul_comm (π i),Rat.mul_assoc,Rat.mul_inv_cancel _ hne,Rat.mul_one]
theorem bkX_fit {n i:Nat} {X:Nat→Nat→Fr} {l:List Nat} (h:BkL n (rowQ X) i l) (hm:ChX n X) (h5:l.length≤5) {k:Nat} (hk:k<l.length):Fits 3505 (bkX (rowQ X) l k):=by
 obtain⟨T,hT0,hT,hTw⟩:=hm.den
 have hlt:∀c,c<l.length→l.getD c 0<n:=fun c hc=>(h.all (getD_mem hc)).1
 refine elm_six h5 (Nat.le_refl _) hT0 hT (fun a c ha _=>?_) (fun a c ha _=>?_) (fun j hj=>?_) hk (Nat.le_refl _)
 ·unfold bM
  split
  ·rename_i hc
   exact(hTw _ _ (hlt a ha) (hlt c hc)).sub (delta_whl T a c)
  ·exact(Whl.zero _).sub (Whl.one _)
 ·unfold bM
  split
  ·rename_i hc
   exact((h.chn.abs (hlt a ha) (hlt c hc)).sub (delta_abs a c)).up (by decide)
  ·exact(Abs.zero.sub Abs.one).up (by decide)
 ·have:=(h.wt.all j (by omega)).pivot hj
  grind
theorem bkS_fit {n i:Nat} {X:Nat→Nat→Fr} {l:List Nat} (h:BkL n (rowQ X) i l) (hm:ChX n X) (h5:l.length≤5) {k:Nat} (hk:k≤l.length):qw (bkS (rowQ X) i l k)≤50000:=by
 have h1:Fits (k*(701+3505+1)+1) (sumR (fun c=>rowQ X i (l.getD c 0)*bkX (rowQ X) l c) k):=fits_sumR fun c hc=>fits_tim (hm.fit h.lt (h.all (getD_mem (show c<l.length by omega))).1) (bkX_fit h hm h5 (by omega))
 have h2:=fits_qw (fits_add fits_one h1)
 show qw (1+_)≤_
 have:k*(701+3505+1)≤5*(701+3505+1):=Nat.mul_le_mul_right _ (by omega)
 omega
end Go.Proofs.YtmbjmiioggfneaaGreatDoor
