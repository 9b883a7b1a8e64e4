/- stillIn of package chain. -/
import Derived.Test.YtmbjmiioggfneaaGreatDoorChnDCxStlP
namespace Go.Proofs.YtmbjmiioggfneaaGreatDoor
open Go.RowKit Go.Shelf
theorem EqR.ofRow {U:World} {B S m:Nat} {f:Nat→Fr} (h:RowF U S (rF m f)) (hB:B≤S) (hm:m≤1000):EqR U B S m m f:=by
 have hl:(frC (rF m f)).length=m*3:=by rw[frC_length,rF_length,Nat.mul_comm]
 exact⟨hl,.inr ⟨S,m,_,rfl,hB,h,Nat.le_refl _,by unfold maxLen;omega,by rw[List.size_toArray];exact hl,by rw[List.toList_toArray,List.take_of_length_le (by omega)]⟩⟩
theorem EqS.swap {B n m G S k:Nat} {g c:Nat→Nat} {M:Nat→Nat→Fr} {U U':World} {f:Nat→Fr} (h:EqS B n m G g c M U) (hb:Below U.heap.size U U') (hr:RowF U' S (rF m f)) (hS:U.heap.size≤S) (hB:B≤U.heap.size) (hm:m≤1000):EqS B n m G (fun t=>if t=k then S else g t) (fun t=>if t=k then m else c t) (fun t=>if t=k then f else M t) (U'.setCell ⟨G,k,none⟩ (.slice (some ⟨S,0,none⟩) m m)):=by
 have h':=h.step hb
 have hset:=h'.top.set k (.slice (some ⟨S,0,none⟩) m m)
 refine⟨?_,fun t ht=>?_,fun t t' ht ht' e=>?_,h.gl⟩
 ·have e:((List.range n).map fun t=>Value.slice (some ⟨g t,0,none⟩) m (c t)).set k (.slice (some ⟨S,0,none⟩) m m)=(List.range n).map fun t=>Value.slice (some ⟨if t=k then S else g t,0,none⟩) m (if t=k then m else c t):=by
   refine List.ext_getElem (by simp) fun j h1 h2=>?_
   rw[List.getElem_set]
   by_cases e:k=j
   ·subst e;simp
   ·rw[if_neg e]
    simp only[List.getElem_map,List.getElem_range,if_neg (fun e'=>e e'.symm:¬j=k)]
  rw[e] at hset
  exact hset
 ·by_cases e:t=k
  ·subst e
   simp only[if_pos]
   exact owns_keep (EqR.ofRow hr (Nat.le_trans hB hS) hm) (KeepT.set h'.top (by decide) t _)
  ·simp only[if_neg e]
   exact owns_keep (h'.row t ht) (KeepT.set h'.top (by decide) k _)
 ·have e':(if t=k then S else g t)=(if t'=k then S else g t'):=e
  by_cases h1:t=k
  ·by_cases h2:t'=k
   ·rw[h1,h2]
   ·rw[if_pos h1,if_neg h2] at e'
    have:=(h.row t' ht').lt
    omega
  ·by_cases h2:t'=k
   ·rw[if_neg h1,if_pos h2] at e'
    have:=(h.row t ht).lt
    omega
   ·rw[if_neg h1,if_neg h2] at e'
    exact h.inj t t' ht ht' e'
def sNF (X:Nat→Nat→Fr) (l:List Nat) (k c:Nat):Fr:=if c<l.length then(if k=c then qF (frQ (X (l.getD c 0) (l.getD k 0)) - 1) else X (l.getD c 0) (l.getD k 0)) else qF 0
def sMF (X:Nat→Nat→Fr) (l:List Nat) (k c:Nat):Fr:=if k=l.length - 1 then qF 1 else sNF X l k c
theorem sMF_is (X:Nat→Nat→Fr) (l:List Nat):rowQ (sMF X l)=sM (rowQ X) l:=by
 funext k c
 show frQ (sMF X l k c)=_
 unfold sMF sM
 split
 ·rw[frQ_qF]
 ·unfold sNF
  split
  ·split
   ·rw[frQ_qF];rfl
   ·show _=frQ _ - 0
    grind
  ·rw[frQ_qF]
theorem sM_whl {N T:Nat} {P:Nat→Nat→Rat} {l:List Nat} (hw:∀i j,i<N→j<N→Whl T (P i j)) (hl:∀x∈l,x<N) (k c:Nat) (hk:k<l.length):Whl T (sM P l k c):=by
 show Whl T (if k=l.length - 1 then _ else if c<l.length then _ else _)
 split
 ·exact Whl.one T
 ·split
  ·rename_i h;exact(hw _ _ (hl _ (getD_mem h)) (hl _ (getD_mem hk))).sub (delta_whl T k c)
  ·exact Whl.zero T
theorem sM_abs {N:Nat} {P:Nat→Nat→Rat} {l:List Nat} (hc:Chn N P) (hl:∀x∈l,x<N) (k c:Nat) (hk:k<l.length):Abs 6 (sM P l k c):=by
 show Abs 6 (if k=l.length - 1 then _ else if c<l.length then _ else _)
 split
 ·exact Abs.one.up (by decide)
 ·split
  ·rename_i h;exact((hc.abs (hl _ (getD_mem h)) (hl _ (getD_mem hk))).sub (delta_abs k c)).up (by decide)
  ·exact Abs.zero.up (by decide)
theorem less_one {T:Nat} {q:Rat} (h0:0<T) (hT:Sh 700 T) (hw:Whl T q) (ha:Abs 1 q):Fits 701 (q - 1):=by
 exact fits_five h0 hT (hw.sub (Whl.one T)) ((ha.sub Abs.one).up (by decide))
theorem stX_long {n:Nat} {X:Nat→Nat→Fr} {l:List Nat} (hc:Cls n (rowQ X) l) (hm:ChX n X) {j:Nat} (hj:j≤l.length) {k c:Nat} (hk:k<l.length) (hcl:c≤l.length):Fits 3505 (elm (sM (rowQ X) l) j k c):=by
 obtain⟨T,hT0,hT,hTw⟩:=hm.den
 have h5:l.length≤5:=Nat.le_trans (nod_most hc.nd hc.lt) hm.five
 exact elm_six h5 hj hT0 hT (fun i c hi _=>sM_whl hTw hc.lt i c hi) (fun i c hi _=>sM_abs hm.chn hc.lt i c hi) (fun j' hj'=>hc.piv hm.chn j' (by omega)) hk hcl
theorem stX_fit {n:Nat} {X:Nat→Nat→Fr} {l:List Nat} (hc:Cls n (rowQ X) l) (hm:ChX n X) {k:Nat} (hk:k<l.length):Fits 3505 (stX (rowQ X) l k):=stX_long hc hm (Nat.le_refl _) hk (Nat.le_refl _)
theorem stQ_fit {n:Nat} {X:Nat→Nat→Fr} {l:List Nat} (hc:Cls n (rowQ X) l) (hm:ChX n X) (i:Nat):Fits 3505 (stQ (rowQ X) l i):=by
 by_cases e:i∈l
 ·obtain⟨k,hk,rfl⟩:=getD_of e
  rw[stQ_on hc hk]
  exact stX_fit hc hm hk
 ·rw[stQ_off e]
  exact fits_up fits_zero (by omega)
set_option maxRecDepth 100000 in
set_option maxHeartbeats 4000000 in
theorem chStill_in (a b:Option Addr) (ca cb N n:Nat) (X:Nat→Nat→Fr) (l:List Nat) (w:World) (hR:FsS w a (mF N X)) (hl:IntS w b (iL l)) (hn:l.length=n) (hc:Cls N (rowQ X) l) (hm:ChX N X):
  Calls Tryz.prog 44 #[.slice a N ca,.slice b n cb] w fun e w'=>∃S,e=.returned (.slice (some ⟨S,0,none⟩) n n)∧w.heap.size≤S∧RowF w' S (lF n (stX (rowQ X) l))∧Below w.heap.size w w':=by
 obtain⟨i0,hi0,hz0,hz1,hz2⟩:=info_parts Tryz.infoFracs
 have hn5:n≤5:=by have h1:=nod_most hc.nd hc.lt;have h2:=hm.five;omega
 have hn1:1≤n:=by rw[←hn];exact hc.ne
 have hx9:∀i c,i<n→c≤n→fz (sMF X l i c)≤40000:=fun i c hi hcn=>by
  obtain⟨T,hT0,hT,hTw⟩:=hm.den
  have hi':=hc.lt _ (getD_mem (show i<l.length by omega))
  have q1:=qw_one2
  have q0:=qw_zero
  unfold sMF
  split
  ·rw[fz_q];omega
  ·unfold sNF
   split
   ·rename_i hcl
    have hc':=hc.lt _ (getD_mem hcl)
    split
    ·rw[fz_q]
     have:=fits_qw (less_one hT0 hT (hTw _ _ hc' hi') (hm.chn.abs hc' hi'))
     exact Nat.le_trans this (by decide)
    ·exact Nat.le_trans (hm.few _ _ hc' hi') (by decide)
   ·rw[fz_q];omega
 have HSOL:Hid (∀(B G:Nat) (g c:Nat→Nat) (U:World),EqS B n (n+1) G g c (sMF X l) U→B≤U.heap.size→Calls Tryz.prog 79 #[.slice (some ⟨G,0,none⟩) n n] U fun e w'=>∃S,e=.returned (.slice (some ⟨S,0,none⟩) n n)∧U.heap.size≤S∧RowF w' S (lF n (stX (rowQ X) l))∧Below B U w'):=fun B G g c U hE hB=>by
  have h9:=chSolve_gen B n G n 3505 g c (sMF X l) U hE hB (fun k hk=>svK_long hx9 (fun k hk i c hi hcn=>by rw[sMF_is];exact stX_long hc hm (by omega) (by omega) (by omega)) (fun j hj=>by rw[sMF_is];exact hc.piv hm.chn j (by omega)) (by decide) hk) (by omega)
  rw[sMF_is] at h9
  have e9:(fun i=>elm (sM (rowQ X) l) n i n)=stX (rowQ X) l:=by rw[←hn];rfl
  rw[e9] at h9
  exact h9
 have HN:=hid hn
 have HR:=hid hR
 have HV:=hid hl
 have HLN:=hid hc.lt
 have HND:=hid hc.nd
 have HFEW:=hid hm.few
 have HO0:=hid (fun V:World=>fOf_q (k:=0) (w:=V) 0 0 rfl (by decide) (by rfl))
 have HO1:=hid (fun V:World=>fOf_q (k:=1) (w:=V) 1 1 rfl (by decide) (by rfl))
 have HRP:Hid (∀(g:Nat) (V:World),Box V g (sgn 1) (nu 1) (de 1)→Calls Tryz.prog 78 #[.slice (some ⟨g,0,none⟩) 1 1,.int .i64 ((n+1:Nat):Int)] V fun e w'=>∃G,e=.returned (.slice (some ⟨G,0,none⟩) (n+1) (n+1))∧V.heap.size≤G∧RowF w' G (lF (n+1) fun _=>1)∧Below V.heap.size V w'):=fun g V hx=>by
  have h9:=slRepeat_one g (n+1) (qF 1) V hx (by omega) (by omega)
  rw[show List.replicate (n+1) (qF 1)=lF (n+1) fun _=>1 from List.ext_getElem (by rw[lF_length];simp) fun i h1 h2=>by rw[lF_get];simp] at h9
  exact h9
 clear hR hl hn hc hm hx9
 go_enter Tryz.func44,Tryz.ntmps44
 go_upto_region 3 with (at_make;refine wpList_make_full _ rfl _ _ 22 rfl w.heap.size 23 i0 (.slice none 0 0) 1 Tryz.underlying22 hi0 hz0 hz1 .i64 .i64 _ _ n rfl rfl (by go_num) (by go_num) (by rw[hz2];omega) (by unfold maxLen;omega) (Nat.le_refl _) ?_;intro w2 hown2 hgrow2)
 have hb2:=block_of_own hown2
 rw[made_slices] at hb2
 have hB2:Below w.heap.size w w2:=(Below.refl _ w).grown hgrow2 (Nat.le_refl _) (fun k e=>by cases e)
 have HK0:Hid (HfS w n (n+1) w.heap.size 0 (fun _=>0) (fun _=>0) (sNF X l) w2):=by
  refine⟨?_,fun t h=>absurd h (by omega),fun t t' h=>absurd h (by omega),Nat.le_refl _,hB2⟩
  have e:tpV n 0 (n+1) (fun _=>0) (fun _=>0) (.slice none 0 0)=List.replicate n (.slice none 0 0):=List.ext_getElem (by simp[tpV]) fun i _ _=>by simp[tpV]
  rw[e]
  exact hb2
 clear hown2 hgrow2 hb2 hB2
 obtain⟨G,hG⟩:∃G,w.heap.size=G:=⟨_,rfl⟩
 rw[hG] at HK0
 simp only[hG]
 have HGE:=hid hG
 clear hG
 go_wp2_with fail
 go_loopw [15] (fun iv wr=>∃(k:Nat) (g c:Nat→Nat),k≤n∧iv=.int .i64 k∧Hid (HfS w n (n+1) G k g c (sNF X l) wr)) (fun iv _=>n - (intOf iv).toNat)
 case atStart=>exact⟨0,_,_,Nat.zero_le _,rfl,HK0⟩
 case round=>
  obtain⟨k,g,c,hk,rfl,HK1⟩:=hrel
  clear HK0
  by_cases hlt:k<n
  ·have hkl:k<l.length:=by rw[HN.out];exact hlt
   have hki:k<(iL l).length:=by rw[iL_length];exact hkl
   obtain⟨gl,ol,hbe,hgl,c0⟩:=HV.out k hki
   subst hbe
   rw[iL_get hkl] at c0
   have hlk:=HLN.out l[k] (List.getElem_mem hkl)
   have HLK:Hid (l.getD k 0=l[k]):=by show _=_;rw[List.getD_eq_getElem?_getD,List.getElem?_eq_getElem hkl];rfl
   have c0':=(HK1.out.bel.cell (p:=⟨gl,_,none⟩) hgl).trans c0
   obtain⟨lk,hlke⟩:∃x,l[k]=x:=⟨_,rfl⟩
   rw[hlke] at c0' hlk HLK
   have HLKE:=hid hlke
   clear c0 hlke
   have HK2:=hid HK1.out.into
   clear HK1
   obtain⟨Mk,hMk⟩:∃x,wr.heap.size=x:=⟨_,rfl⟩
   rw[hMk] at HK2
   clear hMk
   go_upto_region 6 with fail
   clear c0'
   go_loopw [22] (fun jv wr=>∃cc:Nat,cc≤n∧jv=.int .i64 cc∧∃v,Hid (HgS w n (n+1) G k Mk g c (sNF X l) v cc wr)) (fun jv _=>n - (intOf jv).toNat)
   case atStart=>exact⟨0,Nat.zero_le _,rfl,_,HK2⟩
   case round=>
    obtain⟨cc,hcc,rfl,v,HK⟩:=hrel
    clear HK2
    by_cases hlc:cc<n
    ·have hcl:cc<l.length:=by rw[HN.out];exact hlc
     have hci:cc<(iL l).length:=by rw[iL_length];exact hcl
     obtain⟨gl',ol',hbe,hgl',e0⟩:=HV.out cc hci
     cases hbe
     rw[iL_get hcl] at e0
     have hlcN:=HLN.out l[cc] (List.getElem_mem hcl)
     have e0':=(HK.out.bel.cell (p:=⟨gl,_,none⟩) hgl).trans e0
     obtain⟨qf,hqf⟩:∃f:Fr,sNF X l k cc=f:=⟨_,rfl⟩
     have HQF:=hid hqf
     have HLS:Hid (∀U:World,Below w.heap.size w U→Calls Tryz.prog 77 #[.slice a N ca,.int .i64 (l[cc]:Nat),.int .i64 (lk:Nat)] U fun e w'=>e=.returned (.agg #[.bool qf.1,.string qf.2.1,.string qf.2.2])∧Below U.heap.size U w'):=fun U hU=>by
      have h:=chLess_any a ca N l[cc] lk X U (HR.out.below hU) (Nat.le_trans (HFEW.out l[cc] lk hlcN hlk) (by decide)) hlcN hlk
      have e:lsF X l[cc] lk=sNF X l k cc:=by
       unfold lsF sNF
       rw[if_pos hcl,HLK.out,show l.getD cc 0=l[cc] by rw[List.getD_eq_getElem?_getD,List.getElem?_eq_getElem hcl];rfl]
       have hiff:(l[cc]=lk)↔k=cc:=by
        rw[←HLKE.out]
        exact⟨fun h=>(nodup_at HND.out hcl hkl h).symm,fun h=>by subst h;rfl⟩
       by_cases e1:k=cc
       ·rw[if_pos (hiff.2 e1),if_pos e1]
       ·rw[if_neg (fun h=>e1 (hiff.1 h)),if_neg e1]
      rw[e,hqf] at h
      exact h
     obtain⟨dv,nv,cv,rfl⟩:=HK.out.cur.slv
     generalize l[cc]=lc at *
     clear e0 hqf
     go_upto_region 8 with fail
     clear e0'
     replace HK:=hid (HK.out.step (Below.refl _ _).drew)
     refine wp_region_until 13 (fun (b:Bool) (u:World)=>b=false→u.cell? ⟨G,k,none⟩=some (.slice dv nv cv)) (by kernel_rfl) (fun _=>HK.out.cell hlt) (fun hSd=>?_)
     generalize wr.drew=u0 at *
     refine wpU_take (i:=0) (oi:=_) (v:=.slice (some ⟨G,0,none⟩) n n) (b:=false) rfl (by kernel_rfl) (by kernel_rfl) (by kernel_rfl) (by decide) (fun _ _ _ h=>h) (Or.inl ⟨by rfl,?_⟩) (by kernel_rfl) (by assumption) ?_
     ·intro u' hSu
      (try simp only[List.getElem_toArray,List.getElem_cons_zero])
      go_simp
     (try simp only[List.getElem_toArray,List.getElem_cons_zero])
     (try simp only[Act.put,List.setIfInBounds_toArray,List.set_cons_zero,List.set_cons_succ])
     refine wpU_take (i:=1) (oi:=_) (v:=.int .i64 (k:Nat)) (b:=false) rfl (by kernel_rfl) (by kernel_rfl) (by kernel_rfl) (by decide) (fun _ _ _ h=>h) (Or.inl ⟨by rfl,?_⟩) (by kernel_rfl) (by assumption) ?_
     ·intro u' hSu
      (try simp only[List.getElem_toArray,List.getElem_cons_zero,List.getElem_cons_succ])
      go_simp
     (try simp only[List.getElem_toArray,List.getElem_cons_zero,List.getElem_cons_succ])
     (try simp only[Act.put,List.setIfInBounds_toArray,List.set_cons_zero,List.set_cons_succ])
     refine wpU_take (i:=2) (oi:=_) (v:=.slice (some ⟨G,0,none⟩) n n) (b:=false) rfl (by kernel_rfl) (by kernel_rfl) (by kernel_rfl) (by decide) (fun _ _ _ h=>h) (Or.inl ⟨by rfl,?_⟩) (by kernel_rfl) (by assumption) ?_
     ·intro u' hSu
      (try simp only[List.getElem_toArray,List.getElem_cons_zero,List.getElem_cons_succ])
      go_simp
     (try simp only[List.getElem_toArray,List.getElem_cons_zero,List.getElem_cons_succ])
     (try simp only[Act.put,List.setIfInBounds_toArray,List.set_cons_zero,List.set_cons_succ])
     refine wpU_take (i:=3) (oi:=_) (v:=.int .i64 (k:Nat)) (b:=false) rfl (by kernel_rfl) (by kernel_rfl) (by kernel_rfl) (by decide) (fun _ _ _ h=>h) (Or.inl ⟨by rfl,?_⟩) (by kernel_rfl) (by assumption) ?_
     ·intro u' hSu
      (try simp only[List.getElem_toArray,List.getElem_cons_zero,List.getElem_cons_succ])
      go_simp
     (try simp only[List.getElem_toArray,List.getElem_cons_zero,List.getElem_cons_succ])
     (try simp only[Act.put,List.setIfInBounds_toArray,List.set_cons_zero,List.set_cons_succ])
     refine wpU_take (i:=4) (oi:=_) (v:=.pointer (some ⟨G,k,none⟩)) (b:=false) rfl (by kernel_rfl) (by kernel_rfl) (by kernel_rfl) (by decide) (fun _ _ _ h=>h) (Or.inl ⟨by rfl,?_⟩) (by kernel_rfl) (by assumption) ?_
     ·intro u' hSu
      (try simp only[List.getElem_toArray,List.getElem_cons_zero,List.getElem_cons_succ])
      go_simp
     (try simp only[List.getElem_toArray,List.getElem_cons_zero,List.getElem_cons_succ])
     (try simp only[Act.put,List.setIfInBounds_toArray,List.set_cons_zero,List.set_cons_succ])
     refine wpU_ahead (i:=5) (oi:=_) (v:=.slice dv nv cv) rfl (by kernel_rfl) (by kernel_rfl) (by kernel_rfl) (by decide) rfl (by kernel_rfl) (fun _ _ _ h=>h) (Or.inl ⟨by rfl,?_⟩) (by kernel_rfl) (by assumption) ?_
     ·intro u' hSu
      (try simp only[List.getElem_toArray,List.getElem_cons_zero,List.getElem_cons_succ])
      obtain hS9x:=hSu
      go_simp
     (try simp only[List.getElem_toArray,List.getElem_cons_zero,List.getElem_cons_succ])
     (try simp only[Act.put,List.setIfInBounds_toArray,List.set_cons_zero,List.set_cons_succ])
     refine wpU_take (i:=6) (oi:=_) (v:=.slice a N ca) (b:=false) rfl (by kernel_rfl) (by kernel_rfl) (by kernel_rfl) (by decide) (fun _ _ _ h=>h) (Or.inl ⟨by rfl,?_⟩) (by kernel_rfl) (by assumption) ?_
     ·intro u' hSu
      (try simp only[List.getElem_toArray,List.getElem_cons_zero,List.getElem_cons_succ])
      go_simp
     (try simp only[List.getElem_toArray,List.getElem_cons_zero,List.getElem_cons_succ])
     (try simp only[Act.put,List.setIfInBounds_toArray,List.set_cons_zero,List.set_cons_succ])
     refine wpU_take (i:=7) (oi:=_) (v:=.int .i64 (lc:Nat)) (b:=false) rfl (by kernel_rfl) (by kernel_rfl) (by kernel_rfl) (by decide) (fun _ _ _ h=>h) (Or.inl ⟨by rfl,?_⟩) (by kernel_rfl) (by assumption) ?_
     ·intro u' hSu
      (try simp only[List.getElem_toArray,List.getElem_cons_zero,List.getElem_cons_succ])
      go_simp
     (try simp only[List.getElem_toArray,List.getElem_cons_zero,List.getElem_cons_succ])
     (try simp only[Act.put,List.setIfInBounds_toArray,List.set_cons_zero,List.set_cons_succ])
     refine wpU_take (i:=8) (oi:=_) (v:=.int .i64 (lk:Nat)) (b:=false) rfl (by kernel_rfl) (by kernel_rfl) (by kernel_rfl) (by decide) (fun _ _ _ h=>h) (Or.inl ⟨by rfl,?_⟩) (by kernel_rfl) (by assumption) ?_
     ·intro u' hSu
      (try simp only[List.getElem_toArray,List.getElem_cons_zero,List.getElem_cons_succ])
      go_simp
     (try simp only[List.getElem_toArray,List.getElem_cons_zero,List.getElem_cons_succ])
     (try simp only[Act.put,List.setIfInBounds_toArray,List.set_cons_zero,List.set_cons_succ])
     refine wpU_ready (rs:=[9]) (by kernel_rfl) (by simp) (AllU.cons (b:=false) rfl (by kernel_rfl) ?_ (AllU.nil))
     ·intro K' hK'
      (try simp only[List.getElem_toArray,List.getElem_cons_zero,List.getElem_cons_succ])
      go_simp
      refine(HLS.out _ HK.out.bel).mono ?_
      rintro e u1 ⟨rfl,hb⟩
      replace HK:=hid (HK.out.step hb)
      refine hK'.out _ _ (fun _=>HK.out.cell hlt) (fun hSe=>?_)
      clear hK' K' hSd
      have hSd:=hSe
      clear hSe
      clear hb
      (try simp only[List.getElem_toArray,List.getElem_cons_zero,List.getElem_cons_succ])
      (try simp only[Act.put,List.setIfInBounds_toArray,List.set_cons_zero,List.set_cons_succ])
      refine wpU_ready (rs:=[10]) (by kernel_rfl) (by simp) (AllU.cons (b:=false) rfl (by kernel_rfl) ?_ (AllU.nil))
      ·intro K' hK'
       (try simp only[List.getElem_toArray,List.getElem_cons_zero,List.getElem_cons_succ])
       go_simp
       have hbA:=(Below.refl u1.heap.size u1).alloc (Nat.le_refl _) (FC qf.1 qf.2.1 qf.2.2)
       have HY:=hid (Box.new u1 qf.1 qf.2.1 qf.2.2)
       replace HK:=hid (HK.out.step hbA)
       clear hbA
       refine hK'.out _ _ (fun _=>HK.out.cell hlt) (fun hSe=>?_)
       clear hK' K' hSd
       have hSd:=hSe
       clear hSe
       obtain⟨gy,hgy⟩:∃x,u1.heap.size=x:=⟨_,rfl⟩
       obtain⟨Vy,hV⟩:∃x,u1.alloc (FC qf.1 qf.2.1 qf.2.2)=x:=⟨_,rfl⟩
       rw[hgy] at HY
       rw[hV] at HY HK hSd
       simp only[hV]
       simp only[hgy]
       clear hgy hV
       (try simp only[List.getElem_toArray,List.getElem_cons_zero,List.getElem_cons_succ])
       (try simp only[Act.put,List.setIfInBounds_toArray,List.set_cons_zero,List.set_cons_succ])
       refine wpU_ready (rs:=[11]) (by kernel_rfl) (by simp) (AllU.cons (b:=false) rfl (by kernel_rfl) ?_ (AllU.nil))
       ·intro K' hK'
        rw[if_pos (by rfl)]
        refine wp_append_fr _ _ rfl Mk (.slice dv nv cv) (rF cc (sNF X l k)) qf rfl HK.out.cur gy rfl HY.out (by rw[rF_length];omega) HK.out.mu ?_
        intro v2 V8 hr8 hg8
        obtain⟨d8,n8,c8,rfl⟩:=hr8.slv
        have HS8:Hid (V8.cell? ⟨G,k,none⟩=some (.slice dv nv cv)):=by
         show _=_
         rw[(HK.out.pre hg8).cell k (by rw[tpV_length];exact hlt)]
         simp[tpV]
        have HF8:Hid (V8.frozen? ⟨G,k,none⟩=false):=(HK.out.pre hg8).fz k
        have HKN:=hid (HK.out.push hg8 (by rw[HQF.out];exact hr8))
        refine hK'.out _ _ (fun _=>HS8.out) (fun hSe=>?_)
        clear hK' K' hSd hr8 hg8 HK HY
        have hSd:=hSe
        clear hSe
        (try simp only[List.getElem_toArray,List.getElem_cons_zero,List.getElem_cons_succ])
        (try simp only[Act.put,List.setIfInBounds_toArray,List.set_cons_zero,List.set_cons_succ])
        refine wpU_take (i:=12) (oi:=_) (v:=.pointer (some ⟨G,k,none⟩)) (b:=false) rfl (by kernel_rfl) (by kernel_rfl) (by kernel_rfl) (by decide) (fun _ _ _ h=>h) (Or.inl ⟨by rfl,?_⟩) (by kernel_rfl) (by assumption) ?_
        ·intro u' hSu
         (try simp only[List.getElem_toArray,List.getElem_cons_zero,List.getElem_cons_succ])
         go_simp
        (try simp only[List.getElem_toArray,List.getElem_cons_zero,List.getElem_cons_succ])
        (try simp only[Act.put,List.setIfInBounds_toArray,List.set_cons_zero,List.set_cons_succ])
        have q0:=HS8.out
        have q1:=HF8.out
        refine wpU_ready (rs:=[13]) (by kernel_rfl) (by simp) (AllU.cons (b:=true) rfl (by kernel_rfl) ?_ (AllU.nil))
        ·intro K' hK'
         (try simp only[List.getElem_toArray,List.getElem_cons_zero,List.getElem_cons_succ])
         go_simp
         refine hK'.out _ _ (fun e=>by cases e) (fun _=>wpU_done (by kernel_rfl) ?_ _)
         clear hK' K' hSd q0 q1 HS8 HF8
         go_wp2
         go_roundw
         case rel=>exact⟨cc+1,by omega,by go_num,.slice d8 n8 c8,HKN⟩
         case measure=>simp[intOf];omega
    ·obtain rfl:n=cc:=by omega
     obtain⟨dv,nv,cv,rfl⟩:=HK.out.cur.slv
     obtain⟨qf,hqf⟩:∃f:Fr,sNF X l k n=f:=⟨_,rfl⟩
     have HQF:=hid hqf
     have HOZ:Hid (∀U:World,Calls Tryz.prog 51 #[.int .i64 0] U fun e w'=>e=.returned (.agg #[.bool qf.1,.string qf.2.1,.string qf.2.2])∧Below U.heap.size U w'):=fun U=>by
      have e9:sNF X l k n=qF 0:=by
       show (if n<l.length then _ else _)=_
       rw[if_neg (by have:=HN.out;omega)]
      rw[←hqf,e9]
      exact HO0.out U
     clear hqf HO0
     have HO0:=HOZ
     clear HOZ
     go_upto_region 10 with fail
     replace HK:=hid (HK.out.step (Below.refl _ _).drew)
     refine wp_region_until 10 (fun (b:Bool) (u:World)=>b=false→u.cell? ⟨G,k,none⟩=some (.slice dv nv cv)) (by kernel_rfl) (fun _=>HK.out.cell hlt) (fun hSd=>?_)
     generalize wr.drew=u0 at *
     refine wpU_take (i:=0) (oi:=_) (v:=.slice (some ⟨G,0,none⟩) n n) (b:=false) rfl (by kernel_rfl) (by kernel_rfl) (by kernel_rfl) (by decide) (fun _ _ _ h=>h) (Or.inl ⟨by rfl,?_⟩) (by kernel_rfl) (by assumption) ?_
     ·intro u' hSu
      (try simp only[List.getElem_toArray,List.getElem_cons_zero])
      go_simp
     (try simp only[List.getElem_toArray,List.getElem_cons_zero])
     (try simp only[Act.put,List.setIfInBounds_toArray,List.set_cons_zero,List.set_cons_succ])
     refine wpU_take (i:=1) (oi:=_) (v:=.int .i64 (k:Nat)) (b:=false) rfl (by kernel_rfl) (by kernel_rfl) (by kernel_rfl) (by decide) (fun _ _ _ h=>h) (Or.inl ⟨by rfl,?_⟩) (by kernel_rfl) (by assumption) ?_
     ·intro u' hSu
      (try simp only[List.getElem_toArray,List.getElem_cons_zero,List.getElem_cons_succ])
      go_simp
     (try simp only[List.getElem_toArray,List.getElem_cons_zero,List.getElem_cons_succ])
     (try simp only[Act.put,List.setIfInBounds_toArray,List.set_cons_zero,List.set_cons_succ])
     refine wpU_take (i:=2) (oi:=_) (v:=.slice (some ⟨G,0,none⟩) n n) (b:=false) rfl (by kernel_rfl) (by kernel_rfl) (by kernel_rfl) (by decide) (fun _ _ _ h=>h) (Or.inl ⟨by rfl,?_⟩) (by kernel_rfl) (by assumption) ?_
     ·intro u' hSu
      (try simp only[List.getElem_toArray,List.getElem_cons_zero,List.getElem_cons_succ])
      go_simp
     (try simp only[List.getElem_toArray,List.getElem_cons_zero,List.getElem_cons_succ])
     (try simp only[Act.put,List.setIfInBounds_toArray,List.set_cons_zero,List.set_cons_succ])
     refine wpU_take (i:=3) (oi:=_) (v:=.int .i64 (k:Nat)) (b:=false) rfl (by kernel_rfl) (by kernel_rfl) (by kernel_rfl) (by decide) (fun _ _ _ h=>h) (Or.inl ⟨by rfl,?_⟩) (by kernel_rfl) (by assumption) ?_
     ·intro u' hSu
      (try simp only[List.getElem_toArray,List.getElem_cons_zero,List.getElem_cons_succ])
      go_simp
     (try simp only[List.getElem_toArray,List.getElem_cons_zero,List.getElem_cons_succ])
     (try simp only[Act.put,List.setIfInBounds_toArray,List.set_cons_zero,List.set_cons_succ])
     refine wpU_take (i:=4) (oi:=_) (v:=.pointer (some ⟨G,k,none⟩)) (b:=false) rfl (by kernel_rfl) (by kernel_rfl) (by kernel_rfl) (by decide) (fun _ _ _ h=>h) (Or.inl ⟨by rfl,?_⟩) (by kernel_rfl) (by assumption) ?_
     ·intro u' hSu
      (try simp only[List.getElem_toArray,List.getElem_cons_zero,List.getElem_cons_succ])
      go_simp
     (try simp only[List.getElem_toArray,List.getElem_cons_zero,List.getElem_cons_succ])
     (try simp only[Act.put,List.setIfInBounds_toArray,List.set_cons_zero,List.set_cons_succ])
     refine wpU_ahead (i:=5) (oi:=_) (v:=.slice dv nv cv) rfl (by kernel_rfl) (by kernel_rfl) (by kernel_rfl) (by decide) rfl (by kernel_rfl) (fun _ _ _ h=>h) (Or.inl ⟨by rfl,?_⟩) (by kernel_rfl) (by assumption) ?_
     ·intro u' hSu
      (try simp only[List.getElem_toArray,List.getElem_cons_zero,List.getElem_cons_succ])
      obtain hS9x:=hSu
      go_simp
     (try simp only[List.getElem_toArray,List.getElem_cons_zero,List.getElem_cons_succ])
     (try simp only[Act.put,List.setIfInBounds_toArray,List.set_cons_zero,List.set_cons_succ])
     refine wpU_ready (rs:=[6]) (by kernel_rfl) (by simp) (AllU.cons (b:=false) rfl (by kernel_rfl) ?_ (AllU.nil))
     ·intro K' hK'
      (try simp only[List.getElem_toArray,List.getElem_cons_zero,List.getElem_cons_succ])
      go_simp
      refine(HO0.out _).mono ?_
      rintro e u1 ⟨rfl,hb⟩
      replace HK:=hid (HK.out.step hb)
      refine hK'.out _ _ (fun _=>HK.out.cell hlt) (fun hSe=>?_)
      clear hK' K' hSd
      have hSd:=hSe
      clear hSe
      clear hb
      (try simp only[List.getElem_toArray,List.getElem_cons_zero,List.getElem_cons_succ])
      (try simp only[Act.put,List.setIfInBounds_toArray,List.set_cons_zero,List.set_cons_succ])
      refine wpU_ready (rs:=[7]) (by kernel_rfl) (by simp) (AllU.cons (b:=false) rfl (by kernel_rfl) ?_ (AllU.nil))
      ·intro K' hK'
       (try simp only[List.getElem_toArray,List.getElem_cons_zero,List.getElem_cons_succ])
       go_simp
       have hbA:=(Below.refl u1.heap.size u1).alloc (Nat.le_refl _) (FC qf.1 qf.2.1 qf.2.2)
       have HY:=hid (Box.new u1 qf.1 qf.2.1 qf.2.2)
       replace HK:=hid (HK.out.step hbA)
       clear hbA
       refine hK'.out _ _ (fun _=>HK.out.cell hlt) (fun hSe=>?_)
       clear hK' K' hSd
       have hSd:=hSe
       clear hSe
       obtain⟨gy,hgy⟩:∃x,u1.heap.size=x:=⟨_,rfl⟩
       obtain⟨Vy,hV⟩:∃x,u1.alloc (FC qf.1 qf.2.1 qf.2.2)=x:=⟨_,rfl⟩
       rw[hgy] at HY
       rw[hV] at HY HK hSd
       simp only[hV]
       simp only[hgy]
       clear hgy hV
       (try simp only[List.getElem_toArray,List.getElem_cons_zero,List.getElem_cons_succ])
       (try simp only[Act.put,List.setIfInBounds_toArray,List.set_cons_zero,List.set_cons_succ])
       refine wpU_ready (rs:=[8]) (by kernel_rfl) (by simp) (AllU.cons (b:=false) rfl (by kernel_rfl) ?_ (AllU.nil))
       ·intro K' hK'
        rw[if_pos (by rfl)]
        refine wp_append_fr _ _ rfl Mk (.slice dv nv cv) (rF n (sNF X l k)) qf rfl HK.out.cur gy rfl HY.out (by rw[rF_length];omega) HK.out.mu ?_
        intro v2 V8 hr8 hg8
        obtain⟨d8,n8,c8,rfl⟩:=hr8.slv
        have HS8:Hid (V8.cell? ⟨G,k,none⟩=some (.slice dv nv cv)):=by
         show _=_
         rw[(HK.out.pre hg8).cell k (by rw[tpV_length];exact hlt)]
         simp[tpV]
        have HF8:Hid (V8.frozen? ⟨G,k,none⟩=false):=(HK.out.pre hg8).fz k
        have HKN:=hid (HK.out.push hg8 (by rw[HQF.out];exact hr8))
        refine hK'.out _ _ (fun _=>HS8.out) (fun hSe=>?_)
        clear hK' K' hSd hr8 hg8 HK HY
        have hSd:=hSe
        clear hSe
        (try simp only[List.getElem_toArray,List.getElem_cons_zero,List.getElem_cons_succ])
        (try simp only[Act.put,List.setIfInBounds_toArray,List.set_cons_zero,List.set_cons_succ])
        refine wpU_take (i:=9) (oi:=_) (v:=.pointer (some ⟨G,k,none⟩)) (b:=false) rfl (by kernel_rfl) (by kernel_rfl) (by kernel_rfl) (by decide) (fun _ _ _ h=>h) (Or.inl ⟨by rfl,?_⟩) (by kernel_rfl) (by assumption) ?_
        ·intro u' hSu
         (try simp only[List.getElem_toArray,List.getElem_cons_zero,List.getElem_cons_succ])
         go_simp
        (try simp only[List.getElem_toArray,List.getElem_cons_zero,List.getElem_cons_succ])
        (try simp only[Act.put,List.setIfInBounds_toArray,List.set_cons_zero,List.set_cons_succ])
        have q0:=HS8.out
        have q1:=HF8.out
        refine wpU_ready (rs:=[10]) (by kernel_rfl) (by simp) (AllU.cons (b:=true) rfl (by kernel_rfl) ?_ (AllU.nil))
        ·intro K' hK'
         (try simp only[List.getElem_toArray,List.getElem_cons_zero,List.getElem_cons_succ])
         go_simp
         refine hK'.out _ _ (fun e=>by cases e) (fun _=>wpU_done (by kernel_rfl) ?_ _)
         clear hK' K' hSd q0 q1 HS8 HF8
         obtain⟨g',c',hd⟩:=HKN.out.done (by omega)
         have HD:=hid hd
         clear hd HKN
         go_wp2
         go_roundw
         case rel=>exact⟨k+1,g',c',by omega,by go_num,HD⟩
         case measure=>simp[intOf];omega
  ·obtain rfl:n=k:=by omega
   have HE:=hid HK1.out.all
   have HB1:=hid HK1.out.bel
   clear HK1
   go_wp2_with fail
   refine(HO1.out _).mono ?_
   rintro e w5 ⟨rfl,hb5⟩
   have HE5:=hid (HE.out.step hb5)
   have HX5:=hid (Box.new w5 (sgn 1) (nu 1) (de 1))
   have hA5:=(Below.refl w5.heap.size w5).alloc (Nat.le_refl _) (FC (sgn 1) (nu 1) (de 1))
   have HE6:=hid (HE5.out.step hA5)
   have HB5:=hid (HB1.out.trans (hb5.mono HB1.out.size))
   have HB6:=hid (HB5.out.trans (hA5.mono HB5.out.size))
   clear hb5 hA5 HE5 HE HB1
   have HNI:Hid ((n:Int)+1=((n+1:Nat):Int)):=by show _=_;omega
   generalize sgn 1=on at *
   generalize nu 1=ox at *
   generalize de 1=oy at *
   go_wp2_with fail
   generalize (w5.alloc (FC on ox oy))=w6 at *
   rw[HNI.out]
   refine(HRP.out _ _ HX5.out).mono ?_
   rintro e w7 ⟨S1,rfl,hS1,hr7,hb7⟩
   have HSW:=hid (HE6.out.swap (k:=n - 1) hb7 hr7 hS1 HB6.out.size (by omega))
   have HB7:=hid ((HB6.out.trans (hb7.mono HB6.out.size)).setCell (p:=⟨G,n - 1,none⟩) HE6.out.gl (.slice (some ⟨S1,0,none⟩) (n+1) (n+1)))
   have k0:=(HE6.out.step hb7).slice (show n - 1<n by omega)
   have f0:=(HE6.out.step hb7).top.fz (n - 1)
   have hsub:((n:Int) - 1)=((n - 1:Nat):Int):=by omega
   have HEM:Hid (∀t,t<n→(if t=n - 1 then(fun _=>qF 1) else sNF X l t)=sMF X l t):=fun t ht=>by
    funext c
    show _=if t=l.length - 1 then _ else _
    rw[HN.out]
    by_cases e9:t=n - 1
    ·rw[if_pos e9,if_pos e9]
    ·rw[if_neg e9,if_neg e9]
   have HEQ:=hid (HSW.out.congr HEM.out)
   clear HSW HEM hr7 hb7 hS1 HE6 HX5 HRP
   go_upto_region 13 with fail
   clear k0 f0
   generalize (w7.setCell ⟨G,n - 1,none⟩ (.slice (some ⟨S1,0,none⟩) (n+1) (n+1)))=w8 at *
   go_wp2_with fail
   refine(HSOL.out w.heap.size G _ _ _ HEQ.out HB7.out.size).mono ?_
   rintro e w9 ⟨S,rfl,hS,hr,hb⟩
   have HRS:=hid hr
   have HBS:=hid (HB7.out.trans hb)
   have HSS:Hid (w.heap.size≤S):=Nat.le_trans HB7.out.size hS
   clear hr hb hS
   go_wp2
   go_ret
   exact⟨S,rfl,HSS.out,HRS.out,HBS.out⟩
end Go.Proofs.YtmbjmiioggfneaaGreatDoor

/- classOf of package chain; slices.Index and Contains. -/
namespace Go.Proofs.YtmbjmiioggfneaaGreatDoor
open Go.RowKit Go.Shelf
def clN (n:Nat) (e:Nat→Nat→Bool) (i:Nat):List Nat:=(List.range n).filter fun j=>e i j&&e j i
def stB (n:Nat) (e:Nat→Nat→Bool) (i:Nat):Bool:=(List.range n).all fun j=>!e i j ||e j i
theorem clN_succ (n:Nat) (e:Nat→Nat→Bool) (i:Nat):clN (n+1) e i=clN n e i++if e i n&&e n i then[n] else[]:=by
 rw[clN,List.range_succ,List.filter_append]
 congr 1
 by_cases h:(e i n&&e n i)=true
 ·rw[if_pos h];simp[h]
 ·rw[if_neg h];simp[h]
theorem stB_succ (n:Nat) (e:Nat→Nat→Bool) (i:Nat):stB (n+1) e i=(stB n e i&&(!e i n ||e n i)):=by
 rw[stB,List.range_succ,List.all_append]
 simp[stB]
theorem clN_le (n:Nat) (e:Nat→Nat→Bool) (i:Nat):(clN n e i).length≤n:=Nat.le_trans (List.length_filter_le _ _) (by simp)
set_option maxRecDepth 100000 in
set_option maxHeartbeats 2000000 in
theorem chClass_any (B G n i:Nat) (Rw:Nat→Nat) (e:Nat→Nat→Bool) (w:World) (hM:BMt w B G n n Rw e) (hi:i<n) (hn:n≤10):
  Calls Tryz.prog 37 #[.slice (some ⟨G,0,none⟩) n n,.int .i64 (i:Nat)] w fun e' w'=>∃x,e'=.returned (.tuple #[x,.bool (stB n e i)])∧RwI w' w.heap.size x (iL (clN n e i))∧Below w.heap.size w w':=by
 have HM:=hid hM
 clear hM
 go_enter Tryz.func37,Tryz.ntmps37
 go_wp2_with fail
 go_loopw [4,5,9] (fun xv sv jv wr=>∃j:Nat,j≤n∧jv=.int .i64 j∧sv=.bool (stB j e i)∧Hid (RwI wr w.heap.size xv (iL (clN j e i)))∧Hid (Below w.heap.size w wr)) (fun _ _ jv _=>n - (intOf jv).toNat)
 case atStart=>exact⟨0,Nat.zero_le _,rfl,rfl,⟨rfl,.inl ⟨rfl,rfl⟩⟩,Below.refl _ _⟩
 case round=>
  obtain⟨j,hj,rfl,rfl,HR,HW⟩:=hrel
  by_cases hlt:j<n
  ·have m0:=(HM.out.below HW.out).slice hi hi
   have m1:=(HM.out.below HW.out).cell hi hi hlt
   have m2:=(HM.out.below HW.out).slice hlt hlt
   have m3:=(HM.out.below HW.out).cell hlt hlt hi
   have HC:=hid (clN_succ j e i)
   have HS:=hid (stB_succ j e i)
   have hle:=clN_le j e i
   generalize e i j=p at *
   generalize e j i=q at *
   cases p with
   |false=>
    have HC2:Hid (iL (clN (j+1) e i)=iL (clN j e i)):=by show _=_;rw[HC.out];simp
    have HS2:Hid (stB (j+1) e i=stB j e i):=by show _=_;rw[HS.out];simp
    clear HC HS
    go_wp2
    go_roundw
    case rel=>exact⟨j+1,by omega,by go_num,by rw[HS2.out],by rw[HC2.out];exact HR,HW⟩
    case measure=>simp[intOf];omega
   |true=>
    cases q with
    |false=>
     have HC2:Hid (iL (clN (j+1) e i)=iL (clN j e i)):=by show _=_;rw[HC.out];simp
     have HS2:Hid (stB (j+1) e i=false):=by show _=_;rw[HS.out];simp
     clear HC HS
     go_wp2
     go_roundw
     case rel=>exact⟨j+1,by omega,by go_num,by rw[HS2.out],by rw[HC2.out];exact HR,HW⟩
     case measure=>simp[intOf];omega
    |true=>
     have HC2:Hid (iL (clN (j+1) e i)=iL (clN j e i)++[((j:Nat):Int)]):=by show _=_;rw[HC.out,iL_append];rfl
     have HS2:Hid (stB (j+1) e i=stB j e i):=by show _=_;rw[HS.out];simp
     clear HC HS
     have HOWN:=hid HR.out.own
     have HRA:Hid (RwI (wr.alloc (.cells #[.int .i64 (j:Nat)] 3)) w.heap.size _ (iL (clN j e i))):=World.ownsRow.alloc HR.out _
     have HBA:=hid (HW.out.alloc HW.out.size (.cells #[.int .i64 (j:Nat)] 3))
     have HIA:=hid (new_int wr (j:Nat))
     go_wp2_with (at_builtin;refine wpList_append_ints rfl _ _ rfl w.heap.size _ (iL (clN j e i)) [((j:Nat):Int)] rfl HRA.out (some ⟨wr.heap.size,0,none⟩) 1 rfl HIA.out (fun e=>by cases e) (by rw[iL_length];simp;omega) HBA.out.size ?_;intro v' w3 hr3 hg3;have HB3:=hid (HBA.out.grown hg3 HBA.out.size HOWN.out);have HR3:Hid (RwI w3 w.heap.size v' (iL (clN (j+1) e i))):=(by rw[HC2.out];exact hr3))
     go_roundw
     case rel=>exact⟨j+1,by omega,by go_num,by rw[HS2.out],HR3,HB3⟩
     case measure=>simp[intOf];omega
  ·obtain rfl:n=j:=by omega
   go_wp2
   go_ret2
   exact⟨_,rfl,HR.out,HW.out⟩
def BoS' (w:World) (a:Option Addr) (l:List Bool):Prop:=∀k (h:k<l.length),∃g o,a=some ⟨g,o,none⟩∧g<w.heap.size∧w.cell? ⟨g,o+k,none⟩=some (.bool l[k])
theorem BoS'.below {w w':World} {a:Option Addr} {l:List Bool} (h:BoS' w a l) (hb:Below w.heap.size w w'):BoS' w' a l:=fun k hk=>by
 obtain⟨g,o,h1,h2,h3⟩:=h k hk
 exact⟨g,o,h1,Nat.lt_of_lt_of_le h2 hb.size,(hb.cell (p:=⟨g,_,none⟩) h2).trans h3⟩
def fstT:List Bool→Nat
 |[]=>0
 |true::_=>0
 |false::l=>fstT l+1
theorem fstT_spec:∀(l:List Bool),true∈l→∃hk:fstT l<l.length,l[fstT l]=true∧∀i (hi:i<l.length),i<fstT l→l[i]=false
 |true::l,_=>⟨Nat.succ_pos _,rfl,fun i _ h=>absurd h (Nat.not_lt_zero _)⟩
 |false::l,h=>by
  have h':true∈l:=by simpa using h
  obtain⟨hk,h1,h2⟩:=fstT_spec l h'
  refine⟨by simp only[fstT,List.length_cons];omega,by simpa [fstT] using h1,fun i hi hlt=>?_⟩
  cases i with
  |zero=>rfl
  |succ i=>simpa using h2 i (by simpa using hi) (by simpa [fstT] using hlt)
set_option maxRecDepth 100000 in
set_option maxHeartbeats 1000000 in
theorem slIndexBo_any (a:Option Addr) (ca n:Nat) (l:List Bool) (w:World) (h:BoS' w a l) (hl:l.length=n) (hn:n≤1000):
  Calls Tryz.prog 41 #[.slice a n ca,.bool true] w fun e w'=>w'=w∧((true∉l∧e=.returned (.int .i64 (-1)))∨(true∈l∧e=.returned (.int .i64 (fstT l:Nat)))):=by
 have HV:=hid h
 have HL:=hid hl
 clear h hl
 go_enter Tryz.func41,Tryz.ntmps41
 go_wp2_with fail
 go_loopw [8] (fun jv wr=>∃j:Nat,j≤n∧jv=.int .i64 j∧Hid (∀i (hi:i<l.length),i<j→l[i]=false)∧wr=w) (fun jv _=>n - (intOf jv).toNat)
 case atStart=>exact⟨0,Nat.zero_le _,rfl,(fun i _ h=>absurd h (by omega)),rfl⟩
 case round=>
  obtain⟨j,hj,rfl,HF,rfl⟩:=hrel
  by_cases hlt:j<n
  ·have hjl:j<l.length:=by rw[HL.out];exact hlt
   obtain⟨g,o,rfl,hg,c0⟩:=HV.out j hjl
   cases hb:l[j] with
   |true=>
    rw[hb] at c0
    have HT:Hid (true∈l∧fstT l=j):=by
     have hm:true∈l:=by rw[←hb];exact List.getElem_mem hjl
     obtain⟨hk,h1,h2⟩:=fstT_spec l hm
     refine⟨hm,?_⟩
     rcases Nat.lt_trichotomy (fstT l) j with h3 |h3 |h3
     ·rw[HF.out _ hk h3] at h1;cases h1
     ·exact h3
     ·rw[h2 j hjl h3] at hb;cases hb
    go_wp2
    go_ret
    exact⟨rfl,.inr ⟨HT.out.1,by rw[HT.out.2];rfl⟩⟩
   |false=>
    rw[hb] at c0
    have HF2:Hid (∀i (hi:i<l.length),i<j+1→l[i]=false):=fun i hi h=>by
     by_cases e:i=j
     ·subst e;exact hb
     ·exact HF.out i hi (by omega)
    go_wp2
    go_roundw
    case rel=>exact⟨j+1,by omega,by go_num,HF2,trivial⟩
    case measure=>simp[intOf];omega
  ·obtain rfl:n=j:=by omega
   have HT:Hid (true∉l):=fun h=>by
    obtain⟨i,hi,e⟩:=List.mem_iff_getElem.1 h
    have h9:=HF.out i hi (by rw[←HL.out];exact hi)
    rw[e] at h9
    cases h9
   go_wp2
   go_ret
   exact⟨rfl,.inl ⟨HT.out,rfl⟩⟩
set_option maxRecDepth 100000 in
set_option maxHeartbeats 1000000 in
theorem slContainsBo_any (a:Option Addr) (ca n:Nat) (l:List Bool) (w:World) (h:BoS' w a l) (hl:l.length=n) (hn:n≤1000):
  Calls Tryz.prog 42 #[.slice a n ca,.bool true] w fun e w'=>w'=w∧e=.returned (.bool (decide (true∈l))):=by
 have HI:=hid (slIndexBo_any a ca n l w h hl hn)
 go_enter Tryz.func42,Tryz.ntmps42
 go_wp2_with fail
 refine HI.out.mono ?_
 rintro e w1 ⟨rfl,h1⟩
 rcases h1 with ⟨h1,rfl⟩ |⟨h1,rfl⟩
 ·have HD:=hid (decide_eq_false h1)
  go_wp2
  go_ret
  exact⟨rfl,by rw[HD.out];rfl⟩
 ·have HD:=hid (decide_eq_true h1)
  generalize fstT l=f at *
  go_wp2
  go_ret
  exact⟨rfl,by rw[HD.out];rfl⟩
set_option maxRecDepth 100000 in
set_option maxHeartbeats 1000000 in
theorem slIndexI_at (a:Option Addr) (ca n k:Nat) (l:List Nat) (w:World) (h:IntS w a (iL l)) (hl:l.length=n) (hd:l.Nodup) (hk:k<l.length) (hn:n≤1000):
  Calls Tryz.prog 58 #[.slice a n ca,.int .i64 (l[k]:Nat)] w fun e w'=>w'=w∧e=.returned (.int .i64 (k:Nat)):=by
 have HV:=hid h
 have HL:=hid hl
 have HD:=hid hd
 obtain⟨x,hx⟩:∃x,l[k]=x:=⟨_,rfl⟩
 rw[hx]
 have HX:=hid hx
 clear h hl hd hx
 go_enter Tryz.func58,Tryz.ntmps58
 go_wp2_with fail
 go_loopw [8] (fun jv wr=>∃j:Nat,j≤k∧jv=.int .i64 j∧wr=w) (fun jv _=>n - (intOf jv).toNat)
 case atStart=>exact⟨0,Nat.zero_le _,rfl,rfl⟩
 case round=>
  obtain⟨j,hj,rfl,rfl⟩:=hrel
  have hlt:j<n:=by have:=HL.out;omega
  have hjl:j<l.length:=by omega
  have hji:j<(iL l).length:=by rw[iL_length];exact hjl
  obtain⟨g,o,rfl,hg,c0⟩:=HV.out j hji
  rw[iL_get hjl] at c0
  by_cases hjk:j=k
  ·subst hjk
   rw[HX.out] at c0
   go_wp2
   go_ret
   exact⟨rfl,rfl⟩
  ·have hne:¬((x:Int)=((l[j]:Nat):Int)):=fun e=>hjk (nodup_at HD.out hjl hk (by rw[HX.out];omega))
   generalize l[j]=y at *
   go_wp2
   go_roundw
   case rel=>exact⟨j+1,by omega,by go_num,trivial⟩
   case measure=>simp[intOf];omega
end Go.Proofs.YtmbjmiioggfneaaGreatDoor

/- Classes of package chain. -/
namespace Go.Proofs.YtmbjmiioggfneaaGreatDoor
open Go.RowKit Go.Shelf
theorem wpList_append_lr {w:World} {ops:Array Oper} {rest:List Oper} {o:Oper} {a:Act} {Q:Exit→Act→World→Prop} (hgd:o.guard=none) (s x:Operand)
  (ho:o.op=.call {callee:=.builtin .append,args:= #[s,x],argTypes:= #[35,35]}) (base:Nat) (v:Value) (P:List PL) (q:Value) (hq:SlV q) (hs:a.eval s=v) (hown:w.ownsRow base 24 1 v P.length (P.map (·.1))) (g:Nat) (hx:a.eval x=.slice (some ⟨g,0,none⟩) 1 1) (hg:w.cell? ⟨g,0,none⟩=some q) (hlen:P.length+1≤100000) (hbase:base≤w.heap.size)
  (h:∀v' w',w'.ownsRow base 24 1 v' (P.length+1) (P.map (·.1)++[q])→w.grownBy w' v.ownBlock→wpList Tryz.prog ops Q rest (a.put o.dst v') w'):wpList Tryz.prog ops Q (o::rest) a w:=by
 obtain⟨i0,hi0,hz0,hz1,hz2⟩:=info_parts Tryz.infoInts
 refine wpList_append_own _ hgd s x 35 ho base 24 i0 (.slice none 0 0) 1 24 Tryz.underlying35 hi0 hz0 hz1 hz2 rfl (by decide) v P.length _ hs hown ⟨g,0,none⟩ 1 1 [q] hx rfl ?_ ?_ (by unfold maxLen;omega) (by omega) hbase ?_
 ·intro j u hj
  match j,hj with
  |0,hj=>cases hj;exact hg
  |j+1,hj=>simp at hj
 ·intro u hu
  simp only[List.mem_cons,List.not_mem_nil,or_false] at hu
  subst hu
  obtain⟨_,_,_,rfl⟩:=hq
  rfl
 ·intro v' w' h1 h2 _
  exact h v' w' h1 h2
def RwB' (w:World) (B:Nat) (v:Value) (l:List Bool):Prop:=w.ownsRow B 4 1 v l.length (l.map Value.bool)
theorem RwB'.empty (w:World) (B:Nat):RwB' w B (.slice none 0 0) []:=⟨rfl,.inl ⟨rfl,rfl⟩⟩
theorem RwB'.bos {w:World} {B:Nat} {v:Value} {l:List Bool} (h:RwB' w B v l):∃d cd,v=.slice d l.length cd∧BoS' w d l∧l.length≤cd:=by
 rcases h.2 with ⟨h1,h2⟩ |⟨g,cap,cur,h1,h2,h3,h4,h5,h6,h7⟩
 ·exact⟨none,0,by rw[h1,h2],fun k hk=>absurd hk (by omega),by omega⟩
 ·refine⟨_,cap,h1,fun k hk=>⟨g,0,rfl,(Array.getElem?_eq_some_iff.1 h3).1,?_⟩,h4⟩
  have h8:=h
  rw[h1] at h8
  rw[Nat.zero_add,World.ownsRow.cellAt h8 k (by omega)]
  simp[hk]
theorem wpList_append_bo {w:World} {ops:Array Oper} {rest:List Oper} {o:Oper} {a:Act} {Q:Exit→Act→World→Prop} (hgd:o.guard=none) (s x:Operand)
  (ho:o.op=.call {callee:=.builtin .append,args:= #[s,x],argTypes:= #[36,36]}) (base:Nat) (v:Value) (l:List Bool) (q:Bool) (hs:a.eval s=v) (hown:RwB' w base v l) (g:Nat) (hx:a.eval x=.slice (some ⟨g,0,none⟩) 1 1) (hg:w.cell? ⟨g,0,none⟩=some (.bool q)) (hlen:l.length+1≤100000) (hbase:base≤w.heap.size)
  (h:∀v' w',RwB' w' base v' (l++[q])→w.grownBy w' v.ownBlock→wpList Tryz.prog ops Q rest (a.put o.dst v') w'):wpList Tryz.prog ops Q (o::rest) a w:=by
 obtain⟨i0,hi0,hz0,hz1,hz2⟩:=info_parts Tryz.infoBoolc
 refine wpList_append_own _ hgd s x 36 ho base 4 i0 (.bool false) 1 1 Tryz.underlying36 hi0 hz0 hz1 hz2 rfl (by decide) v l.length _ hs hown ⟨g,0,none⟩ 1 1 [.bool q] hx rfl ?_ ?_ (by unfold maxLen;omega) (by omega) hbase ?_
 ·intro j u hj
  match j,hj with
  |0,hj=>cases hj;exact hg
  |j+1,hj=>simp at hj
 ·intro u hu
  simp only[List.mem_cons,List.not_mem_nil,or_false] at hu
  subst hu
  rfl
 ·intro v' w' h1 h2 _
  refine h v' w' ?_ h2
  rw[RwB',List.length_append,List.map_append]
  exact h1
def lstN (n:Nat) (e:Nat→Nat→Bool) (i:Nat):List Nat:=(List.range i).filter fun k=>decide ((clN n e k).head? =some k)
theorem lstN_succ (n:Nat) (e:Nat→Nat→Bool) (i:Nat):lstN n e (i+1)=lstN n e i++if (clN n e i).head? =some i then[i] else[]:=by
 rw[lstN,List.range_succ,List.filter_append]
 congr 1
 by_cases h:(clN n e i).head? =some i
 ·rw[if_pos h];simp[h]
 ·rw[if_neg h];simp[h]
theorem lstN_le (n:Nat) (e:Nat→Nat→Bool) (i:Nat):(lstN n e i).length≤i:=Nat.le_trans (List.length_filter_le _ _) (by simp)
structure ClS (B n:Nat) (e:Nat→Nat→Bool) (i:Nat) (x y:Value) (Q:List PL) (U:World):Prop where
 row:OwL U B x Q
 cl:RwB' U B y ((lstN n e i).map (stB n e))
 val:Q.map (·.2)=(lstN n e i).map fun k=>iL (clN n e k)
theorem ClS.step {U U':World} {B n i:Nat} {e:Nat→Nat→Bool} {x y:Value} {Q:List PL} (h:ClS B n e i x y Q U) (hb:Below U.heap.size U U'):ClS B n e i x y Q U':=⟨h.row.keep (KeepT.below hb) (KeepT.below hb),owns_keep h.cl (KeepT.below hb),h.val⟩
theorem ClS.len {U:World} {B n i:Nat} {e:Nat→Nat→Bool} {x y:Value} {Q:List PL} (h:ClS B n e i x y Q U):Q.length=(lstN n e i).length:=by
 have:=congrArg List.length h.val
 simpa using this
theorem ClS.push {U U':World} {B n i:Nat} {e:Nat→Nat→Bool} {x y v' q:Value} {Q:List PL} {r:List Int} (h:ClS B n e i x y Q U) (hr:U'.ownsRow B 24 1 v' (Q.length+1) (Q.map (·.1)++[q])) (hg:U.grownBy U' x.ownBlock) (hq:RwI U B q r):OwL U' B v' (Q++[(q,r)])∧RwB' U' B y ((lstN n e i).map (stB n e)):=by
 have hk:KeepT 3 U U':=KeepT.grown hg (owns_typed h.row.1) (by decide)
 refine⟨⟨by rw[List.length_append,List.map_append];exact hr,fun p hp=>?_⟩,owns_keep h.cl (KeepT.grown hg (owns_typed h.row.1) (by decide))⟩
 rcases List.mem_append.1 hp with hp |hp
 ·exact owns_keep (h.row.2 p hp) hk
 ·rw[List.mem_singleton.1 hp]
  exact owns_keep hq hk
theorem ClS.done {U U':World} {B n i:Nat} {e:Nat→Nat→Bool} {x y v':Value} {Q:List PL} {q:Value} (hx:OwL U B x (Q++[(q,iL (clN n e i))])) (hy:RwB' U B y ((lstN n e i).map (stB n e))) (hv:Q.map (·.2)=(lstN n e i).map fun k=>iL (clN n e k)) (hs:lstN n e (i+1)=lstN n e i++[i]) (hr:RwB' U' B v' ((lstN n e i).map (stB n e)++[stB n e i])) (hg:U.grownBy U' y.ownBlock):ClS B n e (i+1) x v' (Q++[(q,iL (clN n e i))]) U':=
 ⟨hx.keep (KeepT.grown hg (owns_typed hy) (by decide)) (KeepT.grown hg (owns_typed hy) (by decide)),by rw[hs,List.map_append];exact hr,by rw[hs,List.map_append,List.map_append,hv];rfl⟩
set_option maxRecDepth 100000 in
set_option maxHeartbeats 4000000 in
theorem chClasses_any (a:Option Addr) (ca n:Nat) (X:Nat→Nat→Fr) (w:World) (hR:FsS w a (mF n X)) (hm:ChX n X):
  Calls Tryz.prog 15 #[.slice a n ca] w fun e' w'=>∃x y Q B,e'=.returned (.tuple #[x,y,.int .i64 0])∧w.heap.size≤B∧ClS B n (cmsB n (rowQ X)) n x y Q w'∧Below w.heap.size w w':=by
 have h1:=hm.one
 have h5:=hm.five
 have HCK:=hid (fun (U:World) (hU:FsS U a (mF n X))=>chCheck_yes a ca n (mF n X) U hU hm.ok h1 (by omega))
 have HCO:=hid (fun (U:World) (hU:FsS U a (mF n X))=>chComes_any a ca n (mF n X) (rowQ X) U hU (mF_length n X) hm.lst (by omega))
 have HME:Hid (∀i,i<n→i∈clN n (cmsB n (rowQ X)) i):=fun i hi=>List.mem_filter.2 ⟨List.mem_range.2 hi,by rw[cms_self];rfl⟩
 have HR:=hid hR
 clear hR hm
 generalize cmsB n (rowQ X)=e at *
 go_enter Tryz.func15,Tryz.ntmps15
 go_wp2_with fail
 refine(HCK.out _ HR.out).mono ?_
 rintro e1 w1 ⟨rfl,hb1⟩
 have HB1:=hid hb1
 clear hb1 HCK
 go_wp2_with fail
 refine(HCO.out _ (HR.out.below HB1.out)).mono ?_
 rintro e1 w3 ⟨G,Rw,rfl,hm3,hb3⟩
 have HB3:=hid (HB1.out.trans (hb3.mono HB1.out.size))
 have HM3:=hid hm3
 clear hb3 hm3 HCO
 have HK0:Hid (ClS w3.heap.size n e 0 (.slice none 0 0) (.slice none 0 0) [] w3):=⟨OwL.nil _ _,RwB'.empty _ _,rfl⟩
 go_wp2_with fail
 go_loopw [2,3,19] (fun xv yv iv wr=>∃(i:Nat) (Q:List PL),i≤n∧iv=.int .i64 i∧Hid (ClS w3.heap.size n e i xv yv Q wr)∧Hid (Below w3.heap.size w3 wr)) (fun _ _ iv _=>n - (intOf iv).toNat)
 case atStart=>exact⟨0,[],Nat.zero_le _,rfl,HK0,Below.refl _ _⟩
 case round=>
  obtain⟨i,Q,hi,rfl,HK,HB⟩:=hrel
  clear HK0
  by_cases hlt:i<n
  ·have HCL:=hid (chClass_any _ G n i Rw e wr (HM3.out.below HB.out) hlt (by omega))
   go_wp2_with fail
   refine HCL.out.mono ?_
   rintro e1 w4 ⟨v,rfl,hr4,hb4⟩
   have hsz:=HB.out.size
   replace HK:=hid (HK.out.step hb4)
   replace HB:=hid (HB.out.trans (hb4.mono HB.out.size))
   have HR4:Hid (RwI w4 w3.heap.size v (iL (clN n e i))):=hr4.lower hsz
   clear hr4 hb4 HCL hsz
   have hm:=HME.out i hlt
   have hpos:=List.length_pos_of_mem hm
   obtain⟨dv,cv,rfl,hiv⟩:=RwI.ints HR4.out
   have hk0:0<(iL (clN n e i)).length:=by rw[iL_length];exact hpos
   obtain⟨gv,ov,rfl,hgv,c0⟩:=hiv 0 hk0
   rw[iL_get hpos,Nat.add_zero] at c0
   have HHD:Hid ((clN n e i).head? =some (clN n e i)[0]):=by show _=_;rw[List.head?_eq_getElem?,List.getElem?_eq_getElem hpos]
   have HST:=hid (lstN_succ n e i)
   have HQL:=hid HK.out.len
   have hql:=lstN_le n e i
   rw[iL_length] at HR4⊢
   generalize (clN n e i)[0]=f0 at *
   obtain⟨m,hcl⟩:∃m,(clN n e i).length=m:=⟨_,rfl⟩
   rw[hcl] at HR4 hpos
   simp only[hcl]
   clear hcl hiv hm hk0
   by_cases hf:f0=i
   ·subst hf
    have HLS:Hid (lstN n e (f0+1)=lstN n e f0++[f0]):=by show _=_;rw[HST.out,if_pos HHD.out]
    obtain⟨dx,cx,rfl, -⟩:=owns_slice HK.out.row.1
    obtain⟨dy,cy,hye, -, -⟩:=HK.out.cl.bos
    obtain⟨BL,hBL⟩:∃BL,(lstN n e f0).map (stB n e)=BL:=⟨_,rfl⟩
    rw[hBL] at hye
    have HBLE:=hid hBL
    have hBLl:BL.length≤n:=by rw[←hBL,List.length_map];omega
    clear hBL
    subst hye
    have hAL:=(Below.refl w4.heap.size w4).alloc (Nat.le_refl _) (.cells #[.slice (some ⟨gv,ov,none⟩) m cv] 24)
    have hone:(w4.alloc (.cells #[.slice (some ⟨gv,ov,none⟩) m cv] 24)).heap[w4.heap.size]? =some (.cells #[.slice (some ⟨gv,ov,none⟩) m cv] 24 (0,0)):=heap_alloc_new w4 _
    have HC1:Hid ((w4.alloc (.cells #[.slice (some ⟨gv,ov,none⟩) m cv] 24)).cell? ⟨w4.heap.size,0,none⟩=some (.slice (some ⟨gv,ov,none⟩) m cv)):=by
     show _=_
     rw[cell_of_row _ _ _ _ _ (0,0) hone]
     rfl
    have HK5:=hid (HK.out.step hAL)
    have HR5:=hid (HR4.out.below hAL)
    have HB5:=hid (HB.out.trans (hAL.mono HB.out.size))
    have HV5:=hid HK.out.val
    have hQ:Q.length+1≤100000:=by have:=HQL.out;omega
    have HLL:Hid (BL.length+1≤100000):=by show _≤_;omega
    have HSLV:Hid (SlV (.slice (some ⟨gv,ov,none⟩) m cv)):=⟨_,_,_,rfl⟩
    clear hAL hone HK HB HR4 HHD HST
    generalize hbv:stB n e f0=bv at *
    have HBV:=hid hbv
    clear hbv
    go_wp2_with (first
     |(at_builtin;refine wpList_append_lr rfl _ _ rfl w3.heap.size (.slice dx Q.length cx) Q (.slice (some ⟨gv,ov,none⟩) m cv) HSLV.out rfl HK5.out.row.1 w4.heap.size rfl HC1.out hQ HB5.out.size ?_;intro v6 w6 hr6 hg6;obtain⟨h6a,h6b⟩:=HK5.out.push hr6 hg6 HR5.out;have HB6:=hid (HB5.out.grown hg6 HB5.out.size (fun k e=>owns_from HK5.out.row.1 k e));have HX7:=hid (h6a.keep (KeepT.below ((Below.refl w6.heap.size w6).alloc (Nat.le_refl _) (.cells #[.bool bv] 4))) (KeepT.below ((Below.refl w6.heap.size w6).alloc (Nat.le_refl _) (.cells #[.bool bv] 4))));have HY7:Hid (RwB' (w6.alloc (.cells #[.bool bv] 4)) w3.heap.size (.slice dy BL.length cy) BL):=(by rw[HBLE.out] at h6b;exact owns_keep h6b (KeepT.below ((Below.refl w6.heap.size w6).alloc (Nat.le_refl _) (.cells #[.bool bv] 4))));have HB7:=hid (HB6.out.alloc HB6.out.size (.cells #[.bool bv] 4));have HC7:Hid ((w6.alloc (.cells #[.bool bv] 4)).cell? ⟨w6.heap.size,0,none⟩=some (.bool bv)):=(by show _=_;rw[cell_of_row _ _ _ _ _ (0,0) (heap_alloc_new w6 (.cells #[.bool bv] 4))];rfl);clear h6a h6b hr6 hg6)
     |(at_builtin;refine wpList_append_bo rfl _ _ rfl w3.heap.size (.slice dy BL.length cy) BL bv rfl HY7.out w6.heap.size rfl HC7.out HLL.out HB7.out.size ?_;intro v8 w8 hr8 hg8;have HK8:Hid (ClS w3.heap.size n e (f0+1) v6 v8 (Q++[(.slice (some ⟨gv,ov,none⟩) m cv,iL (clN n e f0))]) w8):=ClS.done HX7.out (by rw[HBLE.out];exact HY7.out) HV5.out HLS.out (by rw[HBLE.out,HBV.out];exact hr8) hg8;have HB8:=hid (HB7.out.grown hg8 HB7.out.size (fun k e=>owns_from HY7.out k e));clear hr8 hg8))
    go_roundw
    case rel=>exact⟨f0+1,_,by omega,by go_num,HK8,HB8⟩
    case measure=>simp[intOf];omega
   ·have hne:¬((f0:Int)=(i:Int)):=by omega
    have HLS:Hid (lstN n e (i+1)=lstN n e i):=by
     show _=_
     rw[HST.out,if_neg (by rw[HHD.out];exact fun e=>hf (Option.some.inj e)),List.append_nil]
    have HKN:Hid (ClS w3.heap.size n e (i+1) u2 u3 Q w4):=⟨HK.out.row,by rw[HLS.out];exact HK.out.cl,by rw[HLS.out];exact HK.out.val⟩
    go_wp2
    go_roundw
    case rel=>exact⟨i+1,Q,by omega,by go_num,HKN,HB⟩
    case measure=>simp[intOf];omega
  ·obtain rfl:n=i:=by omega
   have HBF:=hid (HB3.out.trans (HB.out.mono HB3.out.size))
   go_wp2
   go_ret3
   exact⟨_,_,Q,_,rfl,HB3.out.size,HK.out,HBF.out⟩
end Go.Proofs.YtmbjmiioggfneaaGreatDoor

/- Chains, plainly: classes that nothing leaves; one there is. -/
namespace Go.Proofs.YtmbjmiioggfneaaGreatDoor
theorem clN_mem {n:Nat} {e:Nat→Nat→Bool} {i j:Nat}:j∈clN n e i↔j<n∧e i j=true∧e j i=true:=by
 rw[clN,List.mem_filter,List.mem_range,Bool.and_eq_true]
theorem clN_nodup (n:Nat) (e:Nat→Nat→Bool) (i:Nat):(clN n e i).Nodup:=List.Pairwise.filter _ List.nodup_range
theorem stB_iff {n:Nat} {e:Nat→Nat→Bool} {i:Nat}:stB n e i=true↔∀j,j<n→e i j=true→e j i=true:=by
 rw[stB,List.all_eq_true]
 constructor
 ·intro h j hj hp
  have:=h j (List.mem_range.2 hj)
  rw[hp] at this
  simpa using this
 ·intro h j hj
  cases hp:e i j with
  |false=>rfl
  |true=>rw[h j (List.mem_range.1 hj) hp];rfl
theorem cls_of {n:Nat} {P:Nat→Nat→Rat} {i:Nat} (hi:i<n) (h:stB n (cmsB n P) i=true):Cls n P (clN n (cmsB n P) i):=by
 have hs:=stB_iff.1 h
 refine⟨clN_nodup _ _ _,fun x hx=>(clN_mem.1 hx).1,List.length_pos_of_mem (clN_mem.2 ⟨hi,cms_self _ _ _,cms_self _ _ _⟩),fun x hx y hy hp=>?_,fun x hx y hy=>?_⟩
 ·obtain⟨h1,h2,h3⟩:=clN_mem.1 hx
  have h4:=cms_trans h1 h2 (cms_step n P hp)
  exact clN_mem.2 ⟨hy,h4,hs y hy h4⟩
 ·obtain⟨h1,h2,h3⟩:=clN_mem.1 hx
  obtain⟨q1,q2,q3⟩:=clN_mem.1 hy
  exact cms_trans hi h3 q2
theorem clN_same {n:Nat} {P:Nat→Nat→Rat} {i j:Nat} (hi:i<n) (hj:j∈clN n (cmsB n P) i):clN n (cmsB n P) j=clN n (cmsB n P) i:=by
 obtain⟨h1,h2,h3⟩:=clN_mem.1 hj
 refine List.filter_congr fun x hx=>?_
 have hxn:=List.mem_range.1 hx
 have e1:cmsB n P j x=cmsB n P i x:=by
  cases q:cmsB n P i x with
  |true=>exact cms_trans hi h3 q
  |false=>
   cases q2:cmsB n P j x with
   |false=>rfl
   |true=>rw[cms_trans h1 h2 q2] at q;cases q
 have e2:cmsB n P x j=cmsB n P x i:=by
  cases q:cmsB n P x i with
  |true=>exact cms_trans hi q h2
  |false=>
   cases q2:cmsB n P x j with
   |false=>rfl
   |true=>rw[cms_trans h1 q2 h3] at q;cases q
 rw[e1,e2]
theorem stB_same {n:Nat} {P:Nat→Nat→Rat} {i j:Nat} (hi:i<n) (hj:j∈clN n (cmsB n P) i) (h:stB n (cmsB n P) i=true):stB n (cmsB n P) j=true:=by
 obtain⟨h1,h2,h3⟩:=clN_mem.1 hj
 refine stB_iff.2 fun x hx hp=>?_
 exact cms_trans hi (stB_iff.1 h x hx (cms_trans h1 h2 hp)) h2
theorem stB_some {n:Nat} {P:Nat→Nat→Rat}:∀(c i:Nat),i<n→((List.range n).filter (cmsB n P i)).length≤c→∃j,j<n∧stB n (cmsB n P) j=true
 |c,i,hi,hc=>by
  by_cases h:stB n (cmsB n P) i=true
  ·exact⟨i,hi,h⟩
  ·have hx:∃x,x<n∧cmsB n P i x=true∧cmsB n P x i=false:=by
    refine Classical.byContradiction fun hno=>h (stB_iff.2 fun x hxn hp=>?_)
    cases q:cmsB n P x i with
    |true=>rfl
    |false=>exact absurd ⟨x,hxn,hp,q⟩ hno
   obtain⟨x,hxn,h1,h2⟩:=hx
   have hlt:((List.range n).filter (cmsB n P x)).length<((List.range n).filter (cmsB n P i)).length:=by
    have hsub:((List.range n).filter (cmsB n P x)++[i]).length≤((List.range n).filter (cmsB n P i)).length:=by
     have hnd:((List.range n).filter (cmsB n P x)++[i]).Nodup:=by
      rw[List.nodup_append]
      refine⟨List.Pairwise.filter _ List.nodup_range,by simp,fun a ha b hb e=>?_⟩
      rw[List.mem_singleton.1 hb] at e
      subst e
      rw[(List.mem_filter.1 ha).2] at h2
      cases h2
     exact List.Nodup.length_le_of_subset hnd fun a ha=>by
      rcases List.mem_append.1 ha with ha |ha
      ·exact List.mem_filter.2 ⟨(List.mem_filter.1 ha).1,cms_trans hxn h1 (List.mem_filter.1 ha).2⟩
      ·rw[List.mem_singleton.1 ha]
       exact List.mem_filter.2 ⟨List.mem_range.2 hi,cms_self _ _ _⟩
    rw[List.length_append] at hsub
    simp at hsub
    omega
   match c with
   |0=>omega
   |c+1=>exact stB_some c x hxn (by omega)
theorem lstN_mem {n:Nat} {e:Nat→Nat→Bool} {k:Nat}:k∈lstN n e n↔k<n∧(clN n e k).head? =some k:=by
 rw[lstN,List.mem_filter,List.mem_range,decide_eq_true_iff]
theorem lst_of {n:Nat} {P:Nat→Nat→Rat} {i:Nat} (hi:i<n):∃k,k∈lstN n (cmsB n P) n∧k∈clN n (cmsB n P) i:=by
 have hm:i∈clN n (cmsB n P) i:=clN_mem.2 ⟨hi,cms_self _ _ _,cms_self _ _ _⟩
 have hpos:=List.length_pos_of_mem hm
 have h0:(clN n (cmsB n P) i)[0]∈clN n (cmsB n P) i:=List.getElem_mem hpos
 refine⟨(clN n (cmsB n P) i)[0],lstN_mem.2 ⟨(clN_mem.1 h0).1,?_⟩,h0⟩
 rw[clN_same hi h0,List.head?_eq_getElem?,List.getElem?_eq_getElem hpos]
theorem lstN_nodup (n:Nat) (e:Nat→Nat→Bool) (i:Nat):(lstN n e i).Nodup:=List.Pairwise.filter _ List.nodup_range
end Go.Proofs.YtmbjmiioggfneaaGreatDoor
