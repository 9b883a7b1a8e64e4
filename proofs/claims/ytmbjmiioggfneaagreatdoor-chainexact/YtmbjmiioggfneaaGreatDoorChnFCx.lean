/- hitsFrom of package chain: equations that are made row by row. -/
import Derived.Test.YtmbjmiioggfneaaGreatDoorChnXCxAnyU
namespace Go.Proofs.YtmbjmiioggfneaaGreatDoor
open Go.RowKit Go.Shelf
theorem nodup_at {l:List Nat} (h:l.Nodup) {i j:Nat} (hi:i<l.length) (hj:j<l.length) (e:l[i]=l[j]):i=j:=by
 rcases Nat.lt_trichotomy i j with h1 |h1 |h1
 ·exact absurd e (List.pairwise_iff_getElem.1 h i j hi hj h1)
 ·exact h1
 ·exact absurd e.symm (List.pairwise_iff_getElem.1 h j i hj hi h1)
theorem lF_snoc (j:Nat) (f:Nat→Rat):lF (j+1) f=lF j f++[qF (f j)]:=by simp[lF,List.range_succ]
theorem rF_snoc (j:Nat) (f:Nat→Fr):rF (j+1) f=rF j f++[f j]:=by simp[rF,List.range_succ]
def tpV (n k m:Nat) (g c:Nat→Nat) (v:Value):List Value:=(List.range n).map fun t=>if t<k then .slice (some ⟨g t,0,none⟩) m (c t) else if t=k then v else .slice none 0 0
theorem tpV_length (n k m:Nat) (g c:Nat→Nat) (v:Value):(tpV n k m g c v).length=n:=by simp[tpV]
theorem tpV_set (n k m:Nat) (g c:Nat→Nat) (v v':Value):(tpV n k m g c v).set k v'=tpV n k m g c v':=by
 refine List.ext_getElem (by rw[List.length_set,tpV_length,tpV_length]) fun j h1 h2=>?_
 rw[List.getElem_set]
 by_cases e:k=j
 ·subst e;simp[tpV]
 ·rw[if_neg e]
  simp only[tpV,List.getElem_map,List.getElem_range]
  by_cases h:j<k
  ·rw[if_pos h,if_pos h]
  ·rw[if_neg h,if_neg h,if_neg (fun e'=>e e'.symm),if_neg (fun e'=>e e'.symm)]
structure HfS (w:World) (n m G k:Nat) (g c:Nat→Nat) (M:Nat→Nat→Fr) (U:World):Prop where
 top:RowV U G (tpV n k m g c (.slice none 0 0))
 row:∀t,t<k→EqR U w.heap.size (g t) m (c t) (M t)
 inj:∀t t',t<k→t'<k→g t=g t'→t=t'
 gl:w.heap.size≤G
 bel:Below w.heap.size w U
structure HgS (w:World) (n m G k Mk:Nat) (g c:Nat→Nat) (M:Nat→Nat→Fr) (v:Value) (j:Nat) (U:World):Prop where
 top:RowV U G (tpV n k m g c v)
 row:∀t,t<k→EqR U w.heap.size (g t) m (c t) (M t)∧g t<Mk
 inj:∀t t',t<k→t'<k→g t=g t'→t=t'
 cur:RwF U Mk v (rF j (M k))
 gl:w.heap.size≤G
 gm:G<Mk
 mu:Mk≤U.heap.size
 bel:Below w.heap.size w U
theorem HfS.step {w U U':World} {n m G k:Nat} {g c:Nat→Nat} {M:Nat→Nat→Fr} (h:HfS w n m G k g c M U) (hb:Below U.heap.size U U'):HfS w n m G k g c M U':=⟨h.top.below hb h.top.lt,fun t ht=>(h.row t ht).below hb,h.inj,h.gl,h.bel.trans (hb.mono h.bel.size)⟩
theorem HgS.step {w U U':World} {n m G k Mk j:Nat} {g c:Nat→Nat} {M:Nat→Nat→Fr} {v:Value} (h:HgS w n m G k Mk g c M v j U) (hb:Below U.heap.size U U'):HgS w n m G k Mk g c M v j U':=⟨h.top.below hb h.top.lt,fun t ht=>⟨(h.row t ht).1.below hb,(h.row t ht).2⟩,h.inj,h.cur.below hb,h.gl,h.gm,Nat.le_trans h.mu hb.size,h.bel.trans (hb.mono h.bel.size)⟩
theorem HgS.cell {w U:World} {n m G k Mk j:Nat} {g c:Nat→Nat} {M:Nat→Nat→Fr} {v:Value} (h:HgS w n m G k Mk g c M v j U) (hk:k<n):U.cell? ⟨G,k,none⟩=some v:=by
 rw[h.top.cell k (by rw[tpV_length];exact hk)]
 simp[tpV]
theorem HfS.into {w U:World} {n m G k:Nat} {g c:Nat→Nat} {M:Nat→Nat→Fr} (h:HfS w n m G k g c M U):HgS w n m G k U.heap.size g c M (.slice none 0 0) 0 U:=⟨h.top,fun t ht=>⟨h.row t ht,(h.row t ht).lt⟩,h.inj,RwF.empty _ _,h.gl,h.top.lt,Nat.le_refl _,h.bel⟩
theorem HgS.pre {w U U':World} {n m G k Mk j:Nat} {g c:Nat→Nat} {M:Nat→Nat→Fr} {v:Value} (h:HgS w n m G k Mk g c M v j U) (hg:U.grownBy U' v.ownBlock):RowV U' G (tpV n k m g c v):=(hg.block G h.top.lt fun e=>by have h1:=h.cur.own G e.symm;have h2:=h.gm;omega).trans h.top
theorem HgS.push {w U U':World} {n m G k Mk j:Nat} {g c:Nat→Nat} {M:Nat→Nat→Fr} {v v':Value} (h:HgS w n m G k Mk g c M v j U) (hg:U.grownBy U' v.ownBlock) (hr:RwF U' Mk v' (rF j (M k)++[M k j])):HgS w n m G k Mk g c M v' (j+1) (U'.setCell ⟨G,k,none⟩ v'):=by
 have ht:=h.pre hg
 have hset:=ht.set k v'
 rw[tpV_set] at hset
 refine⟨hset,fun t htk=>?_,h.inj,?_,h.gl,h.gm,Nat.le_trans h.mu (Nat.le_trans hg.size (by simp[World.setCell])),?_⟩
 ·have h1:=h.row t htk
  have hne:v.ownBlock≠some (g t):=fun e=>by have:=h.cur.own (g t) e;omega
  have h2:EqR U' w.heap.size (g t) m (c t) (M t):=World.ownsRow.kept h1.1 hg (.inr fun e=>hne e.symm)
  exact⟨owns_keep h2 (KeepT.set ht (by decide) k _),h1.2⟩
 ·rw[rF_snoc]
  exact hr.off G k v' h.gm
 ·exact(h.bel.grown hg h.bel.size (fun x e=>Nat.le_trans (Nat.le_trans h.gl (Nat.le_of_lt h.gm)) (h.cur.own x e))).setCell (p:=⟨G,k,none⟩) h.gl _
theorem HgS.done {w U:World} {n m G k Mk:Nat} {g c:Nat→Nat} {M:Nat→Nat→Fr} {v:Value} (h:HgS w n m G k Mk g c M v m U) (hm:1≤m):∃g' c':Nat→Nat,HfS w n m G (k+1) g' c' M U:=by
 have hl:=rF_length m (M k)
 obtain⟨gk,ck,e,_,_,_⟩:=h.cur.some' (by omega)
 rw[hl] at e
 subst e
 have hE:EqR U Mk gk m ck (M k):=EqR.of h.cur
 have hlow:=hE.block.1
 refine⟨fun t=>if t=k then gk else g t,fun t=>if t=k then ck else c t,?_,fun t ht=>?_,fun t t' ht ht' e=>?_,h.gl,h.bel⟩
 ·have e:tpV n k m g c (.slice (some ⟨gk,0,none⟩) m ck)=tpV n (k+1) m (fun t=>if t=k then gk else g t) (fun t=>if t=k then ck else c t) (.slice none 0 0):=by
   refine List.map_congr_left fun t _=>?_
   by_cases h1:t<k
   ·have hne:¬t=k:=by omega
    rw[if_pos h1,if_pos (by omega)]
    simp only[if_neg hne]
   ·rw[if_neg h1]
    by_cases h2:t=k
    ·rw[if_pos h2,if_pos (by omega)]
     simp only[if_pos h2]
    ·rw[if_neg h2,if_neg (by omega),ite_self]
  rw[←e]
  exact h.top
 ·by_cases h2:t=k
  ·subst h2
   simp only[if_pos]
   exact EqR.of (h.cur.lower (Nat.le_trans h.gl (Nat.le_of_lt h.gm)))
  ·simp only[if_neg h2]
   exact(h.row t (by omega)).1
 ·have e':(if t=k then gk else g t)=(if t'=k then gk else g t'):=e
  by_cases h1:t=k
  ·by_cases h2:t'=k
   ·rw[h1,h2]
   ·rw[if_pos h1,if_neg h2] at e'
    have:=(h.row t' (by omega)).2
    omega
  ·by_cases h2:t'=k
   ·rw[if_neg h1,if_pos h2] at e'
    have:=(h.row t (by omega)).2
    omega
   ·rw[if_neg h1,if_neg h2] at e'
    exact h.inj t t' (by omega) (by omega) e'
theorem HfS.all {w U:World} {n m G:Nat} {g c:Nat→Nat} {M:Nat→Nat→Fr} (h:HfS w n m G n g c M U):EqS w.heap.size n m G g c M U:=by
 refine⟨?_,h.row,h.inj,h.gl⟩
 have e:tpV n n m g c (.slice none 0 0)=(List.range n).map fun k=>Value.slice (some ⟨g k,0,none⟩) m (c k):=List.map_congr_left fun t ht=>if_pos (List.mem_range.1 ht)
 have:=h.top
 rw[e] at this
 exact this
def hM (P:Nat→Nat→Rat) (l s:List Nat) (k c:Nat):Rat:=if c<l.length then P (l.getD k 0) (l.getD c 0) - (if k=c then 1 else 0) else 0 - lsm (P (l.getD k 0)) s
def hMF (X:Nat→Nat→Fr) (l s:List Nat) (k c:Nat):Fr:=if c<l.length then(if k=c then qF (frQ (X (l.getD k 0) (l.getD c 0)) - 1) else X (l.getD k 0) (l.getD c 0)) else qF (0 - lsm (rowQ X (l.getD k 0)) s)
theorem hMF_is (X:Nat→Nat→Fr) (l s:List Nat):rowQ (hMF X l s)=hM (rowQ X) l s:=by
 funext k c
 show frQ (hMF X l s k c)=_
 unfold hMF hM
 split
 ·split
  ·rw[frQ_qF];rfl
  ·show _=frQ _ - 0
   grind
 ·rw[frQ_qF]
theorem lsm_whl {D:Nat} {f:Nat→Rat}:∀ {s:List Nat},(∀x∈s,Whl D (f x))→Whl D (lsm f s)
 |[],_=>Whl.zero D
 |_::_,h=>(h _ List.mem_cons_self).add (lsm_whl fun y hy=>h y (List.mem_cons_of_mem _ hy))
theorem lsm_abs {f:Nat→Rat}:∀ {s:List Nat},(∀x∈s,Abs 1 (f x))→Abs s.length (lsm f s)
 |[],_=>Abs.zero
 |x::s,h=>by
  have h1:=(h x List.mem_cons_self).add (lsm_abs fun y hy=>h y (List.mem_cons_of_mem _ hy))
  rw[List.length_cons,Nat.add_comm]
  exact h1
theorem delta_whl (D k c:Nat):Whl D (if k=c then(1:Rat) else 0):=by
 split
 ·exact Whl.one D
 ·exact Whl.zero D
theorem delta_abs (k c:Nat):Abs 1 (if k=c then(1:Rat) else 0):=by
 split
 ·exact Abs.one
 ·exact Abs.zero.up (by decide)
theorem hM_whl {N T:Nat} {P:Nat→Nat→Rat} {l s:List Nat} (hw:∀i j,i<N→j<N→Whl T (P i j)) (hl:∀x∈l,x<N) (hs:∀x∈s,x<N) (k c:Nat) (hk:k<l.length):Whl T (hM P l s k c):=by
 have hk':=hl _ (getD_mem hk)
 show Whl T (if c<l.length then _ else _)
 by_cases h:c<l.length
 ·rw[if_pos h];exact(hw _ _ hk' (hl _ (getD_mem h))).sub (delta_whl T k c)
 ·rw[if_neg h];exact(Whl.zero T).sub (lsm_whl fun x hx=>hw _ x hk' (hs x hx))
theorem hM_abs {N:Nat} {P:Nat→Nat→Rat} {l s:List Nat} (hc:Chn N P) (hl:∀x∈l,x<N) (hs:∀x∈s,x<N) (h5:s.length≤5) (k c:Nat) (hk:k<l.length):Abs 6 (hM P l s k c):=by
 have hk':=hl _ (getD_mem hk)
 show Abs 6 (if c<l.length then _ else _)
 by_cases h:c<l.length
 ·rw[if_pos h];exact((hc.abs hk' (hl _ (getD_mem h))).sub (delta_abs k c)).up (by decide)
 ·rw[if_neg h];exact(Abs.zero.sub (lsm_abs fun x hx=>hc.abs hk' (hs x hx))).up (by omega)
theorem lsm_long {n T i:Nat} {X:Nat→Nat→Fr} {s:List Nat} (hc:Chn n (rowQ X)) (h0:0<T) (hT:Sh 700 T) (hw:∀i j,i<n→j<n→Whl T (rowQ X i j)) (hi:i<n) (hs:∀x∈s,x<n) (h5:s.length≤5):Fits 701 (lsm (rowQ X i) s):=by
 exact fits_five h0 hT (lsm_whl fun x hx=>hw i x hi (hs x hx)) ((lsm_abs fun x hx=>hc.abs hi (hs x hx)).up h5)
theorem fsum_lsm (f:Nat→Fr):∀s:List Nat,fsum (s.map f)=lsm (fun x=>frQ (f x)) s:=fun s=>by
 have key:∀(s:List Nat) (z:Rat),(s.map f).foldl (fun s f=>s+frv f) z=z+lsm (fun x=>frQ (f x)) s:=fun s=>by
  induction s with
  |nil=>intro z;show z=z+0;grind
  |cons x s ih=>
   intro z
   rw[List.map_cons,List.foldl_cons,ih,show frv (f x)=frQ (f x) from rfl,lsm]
   grind
 rw[fsum,key,Rat.zero_add]
set_option maxRecDepth 100000 in
set_option maxHeartbeats 4000000 in
theorem chHits_from (a b d:Option Addr) (ca cb cd N n:Nat) (X:Nat→Nat→Fr) (l s:List Nat) (w:World) (hR:FsS w a (mF N X)) (hl:IntS w b (iL l)) (hs:IntS w d (iL s)) (hn:l.length=n) (hlN:∀x∈l,x<N) (hsN:∀x∈s,x<N) (hnd:l.Nodup) (hm:ChX N X) (hp:∀j,j<n→elm (hM (rowQ X) l s) j j j≠0) (h4:n≤4) (hs5:s.length≤5):
  Calls Tryz.prog 50 #[.slice a N ca,.slice b n cb,.slice d s.length cd] w fun e w'=>∃S,e=.returned (.slice (some ⟨S,0,none⟩) n n)∧w.heap.size≤S∧RowF w' S (lF n fun i=>elm (hM (rowQ X) l s) n i n)∧Below w.heap.size w w':=by
 obtain⟨i0,hi0,hz0,hz1,hz2⟩:=info_parts Tryz.infoFracs
 obtain⟨T,hT0,hT,hTw⟩:=hm.den
 have hlng:∀i (hi:i<N) t,Fits 701 (lsm (rowQ X i) (s.take t)):=fun i hi t=>lsm_long hm.chn hT0 hT hTw hi (fun x hx=>hsN x (List.mem_of_mem_take hx)) (by rw[List.length_take];omega)
 have HLNG:=hid hlng
 have HSOL:Hid (∀(B G:Nat) (g c:Nat→Nat) (U:World) (hE:EqS B n (n+1) G g c (hMF X l s) U) (hB:B≤U.heap.size),Calls Tryz.prog 79 #[.slice (some ⟨G,0,none⟩) n n] U fun e w'=>∃S,e=.returned (.slice (some ⟨S,0,none⟩) n n)∧U.heap.size≤S∧RowF w' S (lF n fun i=>elm (hM (rowQ X) l s) n i n)∧Below B U w'):=fun B G g c U hE hB=>by
  have h9:=chSolve_gen B n G n 3505 g c (hMF X l s) U hE hB (fun k hk=>svK_long (fun i c hi hc=>?_) (fun k hk i c hi hc=>by rw[hMF_is];exact elm_six (by omega) hk hT0 hT (fun i c hi _=>hM_whl hTw hlN hsN i c (by omega)) (fun i c hi _=>hM_abs hm.chn hlN hsN hs5 i c (by omega)) (fun j hj=>hp j (by omega)) hi hc) (fun j hj=>by rw[hMF_is];exact hp j hj) (by decide) hk) (by omega)
  ·rw[hMF_is] at h9
   exact h9
  ·have hi':=hlN _ (getD_mem (show i<l.length by omega))
   unfold hMF
   split
   ·rename_i hcl
    have hc':=hlN _ (getD_mem hcl)
    split
    ·rw[fz_q]
     have h8:Fits 701 (frQ (X (l.getD i 0) (l.getD c 0)) - 1):=by
      exact fits_five hT0 hT ((hTw _ _ hi' hc').sub (Whl.one T)) (((hm.chn.abs hi' hc').sub Abs.one).up (by decide))
     have:=fits_qw h8
     omega
    ·have:=hm.few _ _ hi' hc'
     omega
   ·rw[fz_q,show (0:Rat) - lsm (rowQ X (l.getD i 0)) s= -lsm (rowQ X (l.getD i 0)) s by grind]
    have h8:=hlng _ hi' s.length
    rw[List.take_length] at h8
    have:=fits_qw (fits_neg h8)
    omega
 have HN:=hid hn
 have HR:=hid hR
 have HV:=hid hl
 have HVS:=hid hs
 have HLN:=hid hlN
 have HSN:=hid hsN
 have HND:=hid hnd
 have HFEW:=hid hm.few
 have HO0:=hid (fun V:World=>fOf_q (k:=0) (w:=V) 0 0 rfl (by decide) (by rfl))
 clear hR hl hs hn hlN hsN hnd hm hp hlng hTw hT hT0
 go_enter Tryz.func50,Tryz.ntmps50
 go_upto_region 3 with (at_make;refine wpList_make_full _ rfl _ _ 22 rfl w.heap.size 23 i0 (.slice none 0 0) 1 Tryz.underlying22 hi0 hz0 hz1 .i64 .i64 _ _ n rfl rfl (by go_num) (by go_num) (by rw[hz2];omega) (by unfold maxLen;omega) (Nat.le_refl _) ?_;intro w2 hown2 hgrow2)
 have hb2:=block_of_own hown2
 rw[made_slices] at hb2
 have hB2:Below w.heap.size w w2:=(Below.refl _ w).grown hgrow2 (Nat.le_refl _) (fun k e=>by cases e)
 have HK0:Hid (HfS w n (n+1) w.heap.size 0 (fun _=>0) (fun _=>0) (hMF X l s) w2):=by
  refine⟨?_,fun t h=>absurd h (by omega),fun t t' h=>absurd h (by omega),Nat.le_refl _,hB2⟩
  have e:tpV n 0 (n+1) (fun _=>0) (fun _=>0) (.slice none 0 0)=List.replicate n (.slice none 0 0):=List.ext_getElem (by simp[tpV]) fun i _ _=>by simp[tpV]
  rw[e]
  exact hb2
 clear hown2 hgrow2 hb2 hB2
 obtain⟨G,hG⟩:∃G,w.heap.size=G:=⟨_,rfl⟩
 rw[hG] at HK0
 simp only[hG]
 have HGE:=hid hG
 clear hG
 go_wp2_with fail
 go_loopw [20] (fun iv wr=>∃(k:Nat) (g c:Nat→Nat),k≤n∧iv=.int .i64 k∧Hid (HfS w n (n+1) G k g c (hMF X l s) wr)) (fun iv _=>n - (intOf iv).toNat)
 case atStart=>exact⟨0,_,_,Nat.zero_le _,rfl,HK0⟩
 case round=>
  obtain⟨k,g,c,hk,rfl,HK1⟩:=hrel
  clear HK0
  by_cases hlt:k<n
  ·have hkl:k<l.length:=by rw[HN.out];exact hlt
   have hki:k<(iL l).length:=by rw[iL_length];exact hkl
   obtain⟨gl,ol,hbe,hgl,c0⟩:=HV.out k hki
   subst hbe
   rw[iL_get hkl] at c0
   have hlk:=HLN.out l[k] (List.getElem_mem hkl)
   have HLK:Hid (l.getD k 0=l[k]):=by show _=_;rw[List.getD_eq_getElem?_getD,List.getElem?_eq_getElem hkl];rfl
   have c0':=(HK1.out.bel.cell (p:=⟨gl,_,none⟩) hgl).trans c0
   obtain⟨lk,hlke⟩:∃x,l[k]=x:=⟨_,rfl⟩
   rw[hlke] at c0' hlk HLK
   have HLKE:=hid hlke
   clear c0 hlke
   have HK2:=hid HK1.out.into
   clear HK1
   obtain⟨Mk,hMk⟩:∃x,wr.heap.size=x:=⟨_,rfl⟩
   rw[hMk] at HK2
   clear hMk
   go_upto_region 6 with fail
   clear c0'
   go_loopw [27] (fun jv wr=>∃cc:Nat,cc≤n∧jv=.int .i64 cc∧∃v,Hid (HgS w n (n+1) G k Mk g c (hMF X l s) v cc wr)) (fun jv _=>n - (intOf jv).toNat)
   case atStart=>exact⟨0,Nat.zero_le _,rfl,_,HK2⟩
   case round=>
    obtain⟨cc,hcc,rfl,v,HK⟩:=hrel
    clear HK2
    by_cases hlc:cc<n
    ·have hcl:cc<l.length:=by rw[HN.out];exact hlc
     have hci:cc<(iL l).length:=by rw[iL_length];exact hcl
     obtain⟨gl',ol',hbe,hgl',e0⟩:=HV.out cc hci
     cases hbe
     rw[iL_get hcl] at e0
     have hlcN:=HLN.out l[cc] (List.getElem_mem hcl)
     have e0':=(HK.out.bel.cell (p:=⟨gl,_,none⟩) hgl).trans e0
     obtain⟨qf,hqf⟩:∃f:Fr,hMF X l s k cc=f:=⟨_,rfl⟩
     have HQF:=hid hqf
     have HLS:Hid (∀U:World,Below w.heap.size w U→Calls Tryz.prog 77 #[.slice a N ca,.int .i64 (lk:Nat),.int .i64 (l[cc]:Nat)] U fun e w'=>e=.returned (.agg #[.bool qf.1,.string qf.2.1,.string qf.2.2])∧Below U.heap.size U w'):=fun U hU=>by
      have h:=chLess_any a ca N lk l[cc] X U (HR.out.below hU) (Nat.le_trans (HFEW.out lk l[cc] hlk hlcN) (by decide)) hlk hlcN
      have e:lsF X lk l[cc]=hMF X l s k cc:=by
       unfold lsF hMF
       rw[if_pos hcl,HLK.out,show l.getD cc 0=l[cc] by rw[List.getD_eq_getElem?_getD,List.getElem?_eq_getElem hcl];rfl]
       have hiff:(lk=l[cc])↔k=cc:=by
        rw[←HLKE.out]
        exact⟨fun h=>nodup_at HND.out hkl hcl h,fun h=>by subst h;rfl⟩
       by_cases e1:k=cc
       ·rw[if_pos (hiff.2 e1),if_pos e1]
       ·rw[if_neg (fun h=>e1 (hiff.1 h)),if_neg e1]
      rw[e,hqf] at h
      exact h
     obtain⟨dv,nv,cv,rfl⟩:=HK.out.cur.slv
     generalize l[cc]=lc at *
     clear e0 hqf
     go_upto_region 8 with fail
     clear e0'
     replace HK:=hid (HK.out.step (Below.refl _ _).drew)
     refine wp_region_until 13 (fun (b:Bool) (u:World)=>b=false→u.cell? ⟨G,k,none⟩=some (.slice dv nv cv)) (by kernel_rfl) (fun _=>HK.out.cell hlt) (fun hSd=>?_)
     generalize wr.drew=u0 at *
     refine wpU_take (i:=0) (oi:=_) (v:=.slice (some ⟨G,0,none⟩) n n) (b:=false) rfl (by kernel_rfl) (by kernel_rfl) (by kernel_rfl) (by decide) (fun _ _ _ h=>h) (Or.inl ⟨by rfl,?_⟩) (by kernel_rfl) (by assumption) ?_
     ·intro u' hSu
      (try simp only[List.getElem_toArray,List.getElem_cons_zero])
      go_simp
     (try simp only[List.getElem_toArray,List.getElem_cons_zero])
     (try simp only[Act.put,List.setIfInBounds_toArray,List.set_cons_zero,List.set_cons_succ])
     refine wpU_take (i:=1) (oi:=_) (v:=.int .i64 (k:Nat)) (b:=false) rfl (by kernel_rfl) (by kernel_rfl) (by kernel_rfl) (by decide) (fun _ _ _ h=>h) (Or.inl ⟨by rfl,?_⟩) (by kernel_rfl) (by assumption) ?_
     ·intro u' hSu
      (try simp only[List.getElem_toArray,List.getElem_cons_zero,List.getElem_cons_succ])
      go_simp
     (try simp only[List.getElem_toArray,List.getElem_cons_zero,List.getElem_cons_succ])
     (try simp only[Act.put,List.setIfInBounds_toArray,List.set_cons_zero,List.set_cons_succ])
     refine wpU_take (i:=2) (oi:=_) (v:=.slice (some ⟨G,0,none⟩) n n) (b:=false) rfl (by kernel_rfl) (by kernel_rfl) (by kernel_rfl) (by decide) (fun _ _ _ h=>h) (Or.inl ⟨by rfl,?_⟩) (by kernel_rfl) (by assumption) ?_
     ·intro u' hSu
      (try simp only[List.getElem_toArray,List.getElem_cons_zero,List.getElem_cons_succ])
      go_simp
     (try simp only[List.getElem_toArray,List.getElem_cons_zero,List.getElem_cons_succ])
     (try simp only[Act.put,List.setIfInBounds_toArray,List.set_cons_zero,List.set_cons_succ])
     refine wpU_take (i:=3) (oi:=_) (v:=.int .i64 (k:Nat)) (b:=false) rfl (by kernel_rfl) (by kernel_rfl) (by kernel_rfl) (by decide) (fun _ _ _ h=>h) (Or.inl ⟨by rfl,?_⟩) (by kernel_rfl) (by assumption) ?_
     ·intro u' hSu
      (try simp only[List.getElem_toArray,List.getElem_cons_zero,List.getElem_cons_succ])
      go_simp
     (try simp only[List.getElem_toArray,List.getElem_cons_zero,List.getElem_cons_succ])
     (try simp only[Act.put,List.setIfInBounds_toArray,List.set_cons_zero,List.set_cons_succ])
     refine wpU_take (i:=4) (oi:=_) (v:=.pointer (some ⟨G,k,none⟩)) (b:=false) rfl (by kernel_rfl) (by kernel_rfl) (by kernel_rfl) (by decide) (fun _ _ _ h=>h) (Or.inl ⟨by rfl,?_⟩) (by kernel_rfl) (by assumption) ?_
     ·intro u' hSu
      (try simp only[List.getElem_toArray,List.getElem_cons_zero,List.getElem_cons_succ])
      go_simp
     (try simp only[List.getElem_toArray,List.getElem_cons_zero,List.getElem_cons_succ])
     (try simp only[Act.put,List.setIfInBounds_toArray,List.set_cons_zero,List.set_cons_succ])
     refine wpU_ahead (i:=5) (oi:=_) (v:=.slice dv nv cv) rfl (by kernel_rfl) (by kernel_rfl) (by kernel_rfl) (by decide) rfl (by kernel_rfl) (fun _ _ _ h=>h) (Or.inl ⟨by rfl,?_⟩) (by kernel_rfl) (by assumption) ?_
     ·intro u' hSu
      (try simp only[List.getElem_toArray,List.getElem_cons_zero,List.getElem_cons_succ])
      obtain hS9x:=hSu
      go_simp
     (try simp only[List.getElem_toArray,List.getElem_cons_zero,List.getElem_cons_succ])
     (try simp only[Act.put,List.setIfInBounds_toArray,List.set_cons_zero,List.set_cons_succ])
     refine wpU_take (i:=6) (oi:=_) (v:=.slice a N ca) (b:=false) rfl (by kernel_rfl) (by kernel_rfl) (by kernel_rfl) (by decide) (fun _ _ _ h=>h) (Or.inl ⟨by rfl,?_⟩) (by kernel_rfl) (by assumption) ?_
     ·intro u' hSu
      (try simp only[List.getElem_toArray,List.getElem_cons_zero,List.getElem_cons_succ])
      go_simp
     (try simp only[List.getElem_toArray,List.getElem_cons_zero,List.getElem_cons_succ])
     (try simp only[Act.put,List.setIfInBounds_toArray,List.set_cons_zero,List.set_cons_succ])
     refine wpU_take (i:=7) (oi:=_) (v:=.int .i64 (lk:Nat)) (b:=false) rfl (by kernel_rfl) (by kernel_rfl) (by kernel_rfl) (by decide) (fun _ _ _ h=>h) (Or.inl ⟨by rfl,?_⟩) (by kernel_rfl) (by assumption) ?_
     ·intro u' hSu
      (try simp only[List.getElem_toArray,List.getElem_cons_zero,List.getElem_cons_succ])
      go_simp
     (try simp only[List.getElem_toArray,List.getElem_cons_zero,List.getElem_cons_succ])
     (try simp only[Act.put,List.setIfInBounds_toArray,List.set_cons_zero,List.set_cons_succ])
     refine wpU_take (i:=8) (oi:=_) (v:=.int .i64 (lc:Nat)) (b:=false) rfl (by kernel_rfl) (by kernel_rfl) (by kernel_rfl) (by decide) (fun _ _ _ h=>h) (Or.inl ⟨by rfl,?_⟩) (by kernel_rfl) (by assumption) ?_
     ·intro u' hSu
      (try simp only[List.getElem_toArray,List.getElem_cons_zero,List.getElem_cons_succ])
      go_simp
     (try simp only[List.getElem_toArray,List.getElem_cons_zero,List.getElem_cons_succ])
     (try simp only[Act.put,List.setIfInBounds_toArray,List.set_cons_zero,List.set_cons_succ])
     refine wpU_ready (rs:=[9]) (by kernel_rfl) (by simp) (AllU.cons (b:=false) rfl (by kernel_rfl) ?_ (AllU.nil))
     ·intro K' hK'
      (try simp only[List.getElem_toArray,List.getElem_cons_zero,List.getElem_cons_succ])
      go_simp
      refine(HLS.out _ HK.out.bel).mono ?_
      rintro e u1 ⟨rfl,hb⟩
      replace HK:=hid (HK.out.step hb)
      refine hK'.out _ _ (fun _=>HK.out.cell hlt) (fun hSe=>?_)
      clear hK' K' hSd
      have hSd:=hSe
      clear hSe
      clear hb
      (try simp only[List.getElem_toArray,List.getElem_cons_zero,List.getElem_cons_succ])
      (try simp only[Act.put,List.setIfInBounds_toArray,List.set_cons_zero,List.set_cons_succ])
      refine wpU_ready (rs:=[10]) (by kernel_rfl) (by simp) (AllU.cons (b:=false) rfl (by kernel_rfl) ?_ (AllU.nil))
      ·intro K' hK'
       (try simp only[List.getElem_toArray,List.getElem_cons_zero,List.getElem_cons_succ])
       go_simp
       have hbA:=(Below.refl u1.heap.size u1).alloc (Nat.le_refl _) (FC qf.1 qf.2.1 qf.2.2)
       have HY:=hid (Box.new u1 qf.1 qf.2.1 qf.2.2)
       replace HK:=hid (HK.out.step hbA)
       clear hbA
       refine hK'.out _ _ (fun _=>HK.out.cell hlt) (fun hSe=>?_)
       clear hK' K' hSd
       have hSd:=hSe
       clear hSe
       obtain⟨gy,hgy⟩:∃x,u1.heap.size=x:=⟨_,rfl⟩
       obtain⟨Vy,hV⟩:∃x,u1.alloc (FC qf.1 qf.2.1 qf.2.2)=x:=⟨_,rfl⟩
       rw[hgy] at HY
       rw[hV] at HY HK hSd
       simp only[hV]
       simp only[hgy]
       clear hgy hV
       (try simp only[List.getElem_toArray,List.getElem_cons_zero,List.getElem_cons_succ])
       (try simp only[Act.put,List.setIfInBounds_toArray,List.set_cons_zero,List.set_cons_succ])
       refine wpU_ready (rs:=[11]) (by kernel_rfl) (by simp) (AllU.cons (b:=false) rfl (by kernel_rfl) ?_ (AllU.nil))
       ·intro K' hK'
        rw[if_pos (by rfl)]
        refine wp_append_fr _ _ rfl Mk (.slice dv nv cv) (rF cc (hMF X l s k)) qf rfl HK.out.cur gy rfl HY.out (by rw[rF_length];omega) HK.out.mu ?_
        intro v2 V8 hr8 hg8
        obtain⟨d8,n8,c8,rfl⟩:=hr8.slv
        have HS8:Hid (V8.cell? ⟨G,k,none⟩=some (.slice dv nv cv)):=by
         show _=_
         rw[(HK.out.pre hg8).cell k (by rw[tpV_length];exact hlt)]
         simp[tpV]
        have HF8:Hid (V8.frozen? ⟨G,k,none⟩=false):=(HK.out.pre hg8).fz k
        have HKN:=hid (HK.out.push hg8 (by rw[HQF.out];exact hr8))
        refine hK'.out _ _ (fun _=>HS8.out) (fun hSe=>?_)
        clear hK' K' hSd hr8 hg8 HK HY
        have hSd:=hSe
        clear hSe
        (try simp only[List.getElem_toArray,List.getElem_cons_zero,List.getElem_cons_succ])
        (try simp only[Act.put,List.setIfInBounds_toArray,List.set_cons_zero,List.set_cons_succ])
        refine wpU_take (i:=12) (oi:=_) (v:=.pointer (some ⟨G,k,none⟩)) (b:=false) rfl (by kernel_rfl) (by kernel_rfl) (by kernel_rfl) (by decide) (fun _ _ _ h=>h) (Or.inl ⟨by rfl,?_⟩) (by kernel_rfl) (by assumption) ?_
        ·intro u' hSu
         (try simp only[List.getElem_toArray,List.getElem_cons_zero,List.getElem_cons_succ])
         go_simp
        (try simp only[List.getElem_toArray,List.getElem_cons_zero,List.getElem_cons_succ])
        (try simp only[Act.put,List.setIfInBounds_toArray,List.set_cons_zero,List.set_cons_succ])
        have q0:=HS8.out
        have q1:=HF8.out
        refine wpU_ready (rs:=[13]) (by kernel_rfl) (by simp) (AllU.cons (b:=true) rfl (by kernel_rfl) ?_ (AllU.nil))
        ·intro K' hK'
         (try simp only[List.getElem_toArray,List.getElem_cons_zero,List.getElem_cons_succ])
         go_simp
         refine hK'.out _ _ (fun e=>by cases e) (fun _=>wpU_done (by kernel_rfl) ?_ _)
         clear hK' K' hSd q0 q1 HS8 HF8
         go_wp2
         go_roundw
         case rel=>exact⟨cc+1,by omega,by go_num,.slice d8 n8 c8,HKN⟩
         case measure=>simp[intOf];omega
    ·obtain rfl:n=cc:=by omega
     go_upto_region 12 with fail
     obtain⟨dv,nv,cv,rfl⟩:=HK.out.cur.slv
     have HT0:Hid (∃x,x=wr.heap.size):=⟨_,rfl⟩
     obtain⟨M2,hM2⟩:=HT0.out
     have HM2:Hid (M2≤wr.heap.size):=Nat.le_of_eq hM2
     have HMM:Hid (w.heap.size≤M2):=by rw[hM2];exact HK.out.bel.size
     have HKB:Hid (∀U:World,Below M2 wr U→HgS w n (n+1) G k Mk g c (hMF X l s) (.slice dv nv cv) n U):=fun U hU=>HK.out.step (by rw[←hM2];exact hU)
     have HBW:Hid (∀U:World,Below M2 wr U→Below w.heap.size w U):=fun U hU=>HK.out.bel.trans (hU.mono HMM.out)
     clear HK HT0 hM2
     obtain⟨W0,hW0⟩:∃x,x=wr:=⟨_,rfl⟩
     rw[←hW0] at HKB HBW HM2
     have HB00:Hid (Below M2 W0 wr):=by rw[←hW0];exact Below.refl _ _
     clear hW0
     go_loopw [12,47] (fun tv jv wr=>∃t:Nat,t≤s.length∧jv=.int .i64 t∧Hid (RwF wr M2 tv ((s.take t).map (X lk)))∧Hid (Below M2 W0 wr)) (fun _ jv _=>s.length - (intOf jv).toNat)
     case atStart=>exact⟨0,Nat.zero_le _,rfl,RwF.empty _ _,HB00⟩
     case round=>
      obtain⟨t,ht,rfl,HT,HB0⟩:=hrel
      clear HB00
      by_cases hlts:t<s.length
      ·have hti:t<(iL s).length:=by rw[iL_length];exact hlts
       obtain⟨g3,o3,rfl,hg3,t0⟩:=HVS.out t hti
       rw[iL_get hlts] at t0
       have hst:=HSN.out s[t] (List.getElem_mem hlts)
       have HBB:=hid (HBW.out _ HB0.out)
       have t0':=(HBB.out.cell (p:=⟨g3,_,none⟩) hg3).trans t0
       obtain⟨g4,o4,gr,or_,cr,hae,hg4,hgr,x0,x1,x2,x3⟩:=(HR.out.below HBB.out).at hlk hst
       subst hae
       have HTK:Hid (((s.take (t+1)).map (X lk))=((s.take t).map (X lk))++[X lk s[t]]):=by
        show _=_
        rw[List.take_succ_eq_append_getElem hlts,List.map_append];rfl
       generalize s[t]=st at *
       generalize hz:X lk st=zz at *
       obtain⟨an,ax,ay⟩:=zz
       simp only at x1 x2 x3
       obtain⟨dt,nt,ct,rfl⟩:=HT.out.slv
       have HBA:Hid (Below M2 W0 (wr.alloc (FC an ax ay))):=HB0.out.alloc (Nat.le_trans HM2.out HB0.out.size) _
       have HTA:=hid (HT.out.below ((Below.refl wr.heap.size wr).alloc (Nat.le_refl _) (FC an ax ay)))
       have HXA:=hid (Box.new wr an ax ay)
       have HSZ:Hid (M2≤(wr.alloc (FC an ax ay)).heap.size):=Nat.le_trans HM2.out HBA.out.size
       have HLT:Hid (((s.take t).map (X lk)).length+1≤100000):=by show _≤_;simp;omega
       clear t0 HT HB0 HBB hz
       go_wp2_with (at_builtin;refine wpList_append_fr rfl _ _ rfl M2 (.slice dt nt ct) ((s.take t).map (X lk)) (an,ax,ay) rfl HTA.out wr.heap.size rfl HXA.out HLT.out HSZ.out ?_;intro v3 w3 hr3 hg3';have HB3:=hid (HBA.out.grown hg3' HSZ.out (fun x e=>HTA.out.own x e));have HR3:Hid (RwF w3 M2 v3 ((s.take (t+1)).map (X lk))):=(by rw[HTK.out];exact hr3))
       go_roundw
       case rel=>exact⟨t+1,by omega,by go_num,HR3,HB3⟩
       case measure=>simp[intOf];omega
      ·obtain rfl:t=s.length:=by omega
       rw[List.take_length] at HT
       have HK:=hid (HKB.out _ HB0.out)
       obtain⟨dt,ct,hte,hTf⟩:=HT.out.fr
       rw[List.length_map] at hte
       subst hte
       have HQ0:Hid (hMF X l s k n=qF (0 - lsm (rowQ X lk) s)):=by
        show (if n<l.length then _ else _)=_
        rw[if_neg (by have:=HN.out;omega),HLK.out]
       obtain⟨qf,hqf⟩:∃f:Fr,hMF X l s k n=f:=⟨_,rfl⟩
       have HQF:=hid hqf
       have hls:Fits 701 (lsm (rowQ X lk) s):=by have h8:=HLNG.out lk hlk s.length;rw[List.take_length] at h8;exact h8
       have HSM:Hid (∀U:World,FrS U dt (s.map (X lk))→Calls Tryz.prog 64 #[.slice dt s.length ct] U fun e w'=>e=.returned (.agg #[.bool (sgn (lsm (rowQ X lk) s)),.string (nu (lsm (rowQ X lk) s)),.string (de (lsm (rowQ X lk) s))])∧Below U.heap.size U w'):=fun U hU=>by
        have h:=fSum_cw dt ct (s.map (X lk)) U hU (fun i hi=>by
         have hi':i<s.length:=by simpa using hi
         have e:(s.map (X lk))[i]=X lk s[i]:=by simp
         rw[e]
         exact Nat.le_trans (HFEW.out lk s[i] hlk (HSN.out _ (List.getElem_mem hi'))) (by decide)) (fun i hi=>by
         rw[←List.map_take,fsum_lsm]
         have:=fits_qw (HLNG.out lk hlk i)
         exact Nat.le_trans this (by decide)) (by simp;omega)
        rw[List.length_map,fsum_lsm] at h
        exact h
       have HSB:Hid (∀U:World,Calls Tryz.prog 83 #[.agg #[.bool (sgn 0),.string (nu 0),.string (de 0)],.agg #[.bool (sgn (lsm (rowQ X lk) s)),.string (nu (lsm (rowQ X lk) s)),.string (de (lsm (rowQ X lk) s))]] U fun e w'=>e=.returned (.agg #[.bool qf.1,.string qf.2.1,.string qf.2.2])∧Below U.heap.size U w'):=fun U=>by
        have h:=fSub_q (w:=U) (0 - lsm (rowQ X lk) s) (val_own 0) (val_own (lsm (rowQ X lk) s)) rfl (by have:=qw_zero;rw[own_size];omega) (by rw[own_size];have:=fits_qw hls;omega)
        rw[←hqf,HQ0.out]
        exact h
       replace HT:=hid hTf
       clear hTf hqf HQ0 hls HB0
       generalize sgn (lsm (rowQ X lk) s)=en at *
       generalize nu (lsm (rowQ X lk) s)=ex at *
       generalize de (lsm (rowQ X lk) s)=ey at *
       generalize sgn 0=zn at *
       generalize nu 0=zx at *
       generalize de 0=zy at *
       go_upto_region 16 with fail
       replace HK:=hid (HK.out.step (Below.refl _ _).drew)
       replace HT:=hid (HT.out.below (Below.refl _ _).drew)
       refine wp_region_until 13 (fun (b:Bool) (u:World)=>b=false→u.cell? ⟨G,k,none⟩=some (.slice dv nv cv)) (by kernel_rfl) (fun _=>HK.out.cell hlt) (fun hSd=>?_)
       generalize wr.drew=u0 at *
       refine wpU_take (i:=0) (oi:=_) (v:=.slice (some ⟨G,0,none⟩) n n) (b:=false) rfl (by kernel_rfl) (by kernel_rfl) (by kernel_rfl) (by decide) (fun _ _ _ h=>h) (Or.inl ⟨by rfl,?_⟩) (by kernel_rfl) (by assumption) ?_
       ·intro u' hSu
        (try simp only[List.getElem_toArray,List.getElem_cons_zero])
        go_simp
       (try simp only[List.getElem_toArray,List.getElem_cons_zero])
       (try simp only[Act.put,List.setIfInBounds_toArray,List.set_cons_zero,List.set_cons_succ])
       refine wpU_take (i:=1) (oi:=_) (v:=.int .i64 (k:Nat)) (b:=false) rfl (by kernel_rfl) (by kernel_rfl) (by kernel_rfl) (by decide) (fun _ _ _ h=>h) (Or.inl ⟨by rfl,?_⟩) (by kernel_rfl) (by assumption) ?_
       ·intro u' hSu
        (try simp only[List.getElem_toArray,List.getElem_cons_zero,List.getElem_cons_succ])
        go_simp
       (try simp only[List.getElem_toArray,List.getElem_cons_zero,List.getElem_cons_succ])
       (try simp only[Act.put,List.setIfInBounds_toArray,List.set_cons_zero,List.set_cons_succ])
       refine wpU_take (i:=2) (oi:=_) (v:=.slice (some ⟨G,0,none⟩) n n) (b:=false) rfl (by kernel_rfl) (by kernel_rfl) (by kernel_rfl) (by decide) (fun _ _ _ h=>h) (Or.inl ⟨by rfl,?_⟩) (by kernel_rfl) (by assumption) ?_
       ·intro u' hSu
        (try simp only[List.getElem_toArray,List.getElem_cons_zero,List.getElem_cons_succ])
        go_simp
       (try simp only[List.getElem_toArray,List.getElem_cons_zero,List.getElem_cons_succ])
       (try simp only[Act.put,List.setIfInBounds_toArray,List.set_cons_zero,List.set_cons_succ])
       refine wpU_take (i:=3) (oi:=_) (v:=.int .i64 (k:Nat)) (b:=false) rfl (by kernel_rfl) (by kernel_rfl) (by kernel_rfl) (by decide) (fun _ _ _ h=>h) (Or.inl ⟨by rfl,?_⟩) (by kernel_rfl) (by assumption) ?_
       ·intro u' hSu
        (try simp only[List.getElem_toArray,List.getElem_cons_zero,List.getElem_cons_succ])
        go_simp
       (try simp only[List.getElem_toArray,List.getElem_cons_zero,List.getElem_cons_succ])
       (try simp only[Act.put,List.setIfInBounds_toArray,List.set_cons_zero,List.set_cons_succ])
       refine wpU_take (i:=4) (oi:=_) (v:=.pointer (some ⟨G,k,none⟩)) (b:=false) rfl (by kernel_rfl) (by kernel_rfl) (by kernel_rfl) (by decide) (fun _ _ _ h=>h) (Or.inl ⟨by rfl,?_⟩) (by kernel_rfl) (by assumption) ?_
       ·intro u' hSu
        (try simp only[List.getElem_toArray,List.getElem_cons_zero,List.getElem_cons_succ])
        go_simp
       (try simp only[List.getElem_toArray,List.getElem_cons_zero,List.getElem_cons_succ])
       (try simp only[Act.put,List.setIfInBounds_toArray,List.set_cons_zero,List.set_cons_succ])
       refine wpU_ahead (i:=5) (oi:=_) (v:=.slice dv nv cv) rfl (by kernel_rfl) (by kernel_rfl) (by kernel_rfl) (by decide) rfl (by kernel_rfl) (fun _ _ _ h=>h) (Or.inl ⟨by rfl,?_⟩) (by kernel_rfl) (by assumption) ?_
       ·intro u' hSu
        (try simp only[List.getElem_toArray,List.getElem_cons_zero,List.getElem_cons_succ])
        obtain hS9x:=hSu
        go_simp
       (try simp only[List.getElem_toArray,List.getElem_cons_zero,List.getElem_cons_succ])
       (try simp only[Act.put,List.setIfInBounds_toArray,List.set_cons_zero,List.set_cons_succ])
       refine wpU_take (i:=7) (oi:=_) (v:=.slice dt s.length ct) (b:=false) rfl (by kernel_rfl) (by kernel_rfl) (by kernel_rfl) (by decide) (fun _ _ _ h=>h) (Or.inl ⟨by rfl,?_⟩) (by kernel_rfl) (by assumption) ?_
       ·intro u' hSu
        (try simp only[List.getElem_toArray,List.getElem_cons_zero,List.getElem_cons_succ])
        go_simp
       (try simp only[List.getElem_toArray,List.getElem_cons_zero,List.getElem_cons_succ])
       (try simp only[Act.put,List.setIfInBounds_toArray,List.set_cons_zero,List.set_cons_succ])
       refine wpU_ready (rs:=[6]) (by kernel_rfl) (by simp) (AllU.cons (b:=false) rfl (by kernel_rfl) ?_ (AllU.nil))
       ·intro K' hK'
        (try simp only[List.getElem_toArray,List.getElem_cons_zero,List.getElem_cons_succ])
        go_simp
        refine(HO0.out _).mono ?_
        rintro e u1 ⟨rfl,hb⟩
        replace HK:=hid (HK.out.step hb)
        replace HT:=hid (HT.out.below hb)
        refine hK'.out _ _ (fun _=>HK.out.cell hlt) (fun hSe=>?_)
        clear hK' K' hSd
        have hSd:=hSe
        clear hSe
        clear hb
        (try simp only[List.getElem_toArray,List.getElem_cons_zero,List.getElem_cons_succ])
        (try simp only[Act.put,List.setIfInBounds_toArray,List.set_cons_zero,List.set_cons_succ])
        refine wpU_ready (rs:=[8]) (by kernel_rfl) (by simp) (AllU.cons (b:=false) rfl (by kernel_rfl) ?_ (AllU.nil))
        ·intro K' hK'
         (try simp only[List.getElem_toArray,List.getElem_cons_zero,List.getElem_cons_succ])
         go_simp
         refine(HSM.out _ HT.out).mono ?_
         rintro e u2 ⟨rfl,hb⟩
         replace HK:=hid (HK.out.step hb)
         replace HT:=hid (HT.out.below hb)
         refine hK'.out _ _ (fun _=>HK.out.cell hlt) (fun hSe=>?_)
         clear hK' K' hSd
         have hSd:=hSe
         clear hSe
         clear hb
         (try simp only[List.getElem_toArray,List.getElem_cons_zero,List.getElem_cons_succ])
         (try simp only[Act.put,List.setIfInBounds_toArray,List.set_cons_zero,List.set_cons_succ])
         refine wpU_ready (rs:=[9]) (by kernel_rfl) (by simp) (AllU.cons (b:=false) rfl (by kernel_rfl) ?_ (AllU.nil))
         ·intro K' hK'
          (try simp only[List.getElem_toArray,List.getElem_cons_zero,List.getElem_cons_succ])
          go_simp
          refine(HSB.out _).mono ?_
          rintro e u3 ⟨rfl,hb⟩
          replace HK:=hid (HK.out.step hb)
          replace HT:=hid (HT.out.below hb)
          refine hK'.out _ _ (fun _=>HK.out.cell hlt) (fun hSe=>?_)
          clear hK' K' hSd
          have hSd:=hSe
          clear hSe
          clear hb
          (try simp only[List.getElem_toArray,List.getElem_cons_zero,List.getElem_cons_succ])
          (try simp only[Act.put,List.setIfInBounds_toArray,List.set_cons_zero,List.set_cons_succ])
          clear HT
          refine wpU_ready (rs:=[10]) (by kernel_rfl) (by simp) (AllU.cons (b:=false) rfl (by kernel_rfl) ?_ (AllU.nil))
          ·intro K' hK'
           (try simp only[List.getElem_toArray,List.getElem_cons_zero,List.getElem_cons_succ])
           go_simp
           have hbA:=(Below.refl u3.heap.size u3).alloc (Nat.le_refl _) (FC qf.1 qf.2.1 qf.2.2)
           have HY:=hid (Box.new u3 qf.1 qf.2.1 qf.2.2)
           replace HK:=hid (HK.out.step hbA)
           clear hbA
           refine hK'.out _ _ (fun _=>HK.out.cell hlt) (fun hSe=>?_)
           clear hK' K' hSd
           have hSd:=hSe
           clear hSe
           obtain⟨gy,hgy⟩:∃x,u3.heap.size=x:=⟨_,rfl⟩
           obtain⟨Vy,hV⟩:∃x,u3.alloc (FC qf.1 qf.2.1 qf.2.2)=x:=⟨_,rfl⟩
           rw[hgy] at HY
           rw[hV] at HY HK hSd
           simp only[hV]
           simp only[hgy]
           clear hgy hV
           (try simp only[List.getElem_toArray,List.getElem_cons_zero,List.getElem_cons_succ])
           (try simp only[Act.put,List.setIfInBounds_toArray,List.set_cons_zero,List.set_cons_succ])
           refine wpU_ready (rs:=[11]) (by kernel_rfl) (by simp) (AllU.cons (b:=false) rfl (by kernel_rfl) ?_ (AllU.nil))
           ·intro K' hK'
            rw[if_pos (by rfl)]
            refine wp_append_fr _ _ rfl Mk (.slice dv nv cv) (rF n (hMF X l s k)) qf rfl HK.out.cur gy rfl HY.out (by rw[rF_length];omega) HK.out.mu ?_
            intro v2 V8 hr8 hg8
            obtain⟨d8,n8,c8,rfl⟩:=hr8.slv
            have HS8:Hid (V8.cell? ⟨G,k,none⟩=some (.slice dv nv cv)):=by
             show _=_
             rw[(HK.out.pre hg8).cell k (by rw[tpV_length];exact hlt)]
             simp[tpV]
            have HF8:Hid (V8.frozen? ⟨G,k,none⟩=false):=(HK.out.pre hg8).fz k
            have HKN:=hid (HK.out.push hg8 (by rw[HQF.out];exact hr8))
            refine hK'.out _ _ (fun _=>HS8.out) (fun hSe=>?_)
            clear hK' K' hSd hr8 hg8 HK HY
            have hSd:=hSe
            clear hSe
            (try simp only[List.getElem_toArray,List.getElem_cons_zero,List.getElem_cons_succ])
            (try simp only[Act.put,List.setIfInBounds_toArray,List.set_cons_zero,List.set_cons_succ])
            refine wpU_take (i:=12) (oi:=_) (v:=.pointer (some ⟨G,k,none⟩)) (b:=false) rfl (by kernel_rfl) (by kernel_rfl) (by kernel_rfl) (by decide) (fun _ _ _ h=>h) (Or.inl ⟨by rfl,?_⟩) (by kernel_rfl) (by assumption) ?_
            ·intro u' hSu
             (try simp only[List.getElem_toArray,List.getElem_cons_zero,List.getElem_cons_succ])
             go_simp
            (try simp only[List.getElem_toArray,List.getElem_cons_zero,List.getElem_cons_succ])
            (try simp only[Act.put,List.setIfInBounds_toArray,List.set_cons_zero,List.set_cons_succ])
            have q0:=HS8.out
            have q1:=HF8.out
            refine wpU_ready (rs:=[13]) (by kernel_rfl) (by simp) (AllU.cons (b:=true) rfl (by kernel_rfl) ?_ (AllU.nil))
            ·intro K' hK'
             (try simp only[List.getElem_toArray,List.getElem_cons_zero,List.getElem_cons_succ])
             go_simp
             refine hK'.out _ _ (fun e=>by cases e) (fun _=>wpU_done (by kernel_rfl) ?_ _)
             clear hK' K' hSd q0 q1 HS8 HF8
             obtain⟨g',c',hd⟩:=HKN.out.done (by omega)
             have HD:=hid hd
             clear hd HKN
             go_wp2
             go_roundw
             case rel=>exact⟨k+1,g',c',by omega,by go_num,HD⟩
             case measure=>simp[intOf];omega
  ·obtain rfl:n=k:=by omega
   have HE:=hid HK1.out.all
   go_wp2_with fail
   refine(HSOL.out w.heap.size G g c _ HE.out HK1.out.bel.size).mono ?_
   rintro e w5 ⟨S,rfl,hS,hr,hb⟩
   have HRS:=hid hr
   have HBS:=hid (HK1.out.bel.trans hb)
   have HSS:Hid (w.heap.size≤S):=Nat.le_trans HK1.out.bel.size hS
   clear hr hb hS
   go_wp2
   go_ret
   exact⟨S,rfl,HSS.out,HRS.out,HBS.out⟩
end Go.Proofs.YtmbjmiioggfneaaGreatDoor
