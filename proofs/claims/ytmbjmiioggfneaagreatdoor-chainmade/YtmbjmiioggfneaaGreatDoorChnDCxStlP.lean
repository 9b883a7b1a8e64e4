/- comesTo of package chain. -/
import Derived.Test.YtmbjmiioggfneaaGreatDoorRegTCxNum
import Derived.Test.YtmbjmiioggfneaaGreatDoorHidACxChnB
import Derived.Test.YtmbjmiioggfneaaGreatDoorChnFCx
namespace Go.Proofs.YtmbjmiioggfneaaGreatDoor
open Go.RowKit Go.Shelf
def e1B (P:Nat→Nat→Rat) (i j v u:Nat):Bool:=if v<i∨(v=i∧u<j) then stepB P v u else false
theorem e1B_put (P:Nat→Nat→Rat) (i j v u:Nat):e1B P i (j+1) v u=if v=i∧u=j then stepB P i j else e1B P i j v u:=by
 by_cases h:v=i∧u=j
 ·rw[if_pos h,h.1,h.2];exact if_pos (.inr ⟨rfl,by omega⟩)
 ·rw[if_neg h]
  show (if _ then _ else _)=(if _ then _ else _)
  by_cases h1:v<i∨(v=i∧u<j)
  ·rw[if_pos h1,if_pos (by omega)]
  ·rw[if_neg h1,if_neg (by omega)]
theorem e1B_row (P:Nat→Nat→Rat) (i v u:Nat):(if v=i then false else e1B P i 0 v u)=e1B P i 0 v u:=by
 by_cases h:v=i
 ·rw[if_pos h];exact(if_neg (by omega)).symm
 ·rw[if_neg h]
theorem e1B_next {P:Nat→Nat→Rat} {i n v u:Nat} (hu:u<n):e1B P i n v u=e1B P (i+1) 0 v u:=by
 show (if _ then _ else _)=(if _ then _ else _)
 by_cases h1:v<i∨(v=i∧u<n)
 ·rw[if_pos h1,if_pos (by omega)]
 ·rw[if_neg h1,if_neg (by omega)]
def e2B (R:Nat→Nat→Bool) (t i j v u:Nat):Bool:=if v<i∨(v=i∧u<j) then wsh R (t+1) v u else wsh R t v u
theorem e2B_put (R:Nat→Nat→Bool) (t i j v u:Nat):e2B R t i (j+1) v u=if v=i∧u=j then wsh R (t+1) i j else e2B R t i j v u:=by
 by_cases h:v=i∧u=j
 ·rw[if_pos h,h.1,h.2];exact if_pos (.inr ⟨rfl,by omega⟩)
 ·rw[if_neg h]
  show (if _ then _ else _)=(if _ then _ else _)
  by_cases h1:v<i∨(v=i∧u<j)
  ·rw[if_pos h1,if_pos (by omega)]
  ·rw[if_neg h1,if_neg (by omega)]
theorem e2B_here (R:Nat→Nat→Bool) (t i j:Nat):e2B R t i j i j=wsh R t i j:=if_neg (by omega)
theorem e2B_col (R:Nat→Nat→Bool) (t i j v:Nat):e2B R t i j v t=wsh R t v t:=by
 show (if _ then _ else _)=_
 rw[wsh_col]
 exact ite_self _
theorem e2B_row (R:Nat→Nat→Bool) (t i j u:Nat):e2B R t i j t u=wsh R t t u:=by
 show (if _ then _ else _)=_
 rw[wsh_row]
 exact ite_self _
theorem e2B_next {R:Nat→Nat→Bool} {t i n v u:Nat} (hu:u<n):e2B R t i n v u=e2B R t (i+1) 0 v u:=by
 show (if _ then _ else _)=(if _ then _ else _)
 by_cases h1:v<i∨(v=i∧u<n)
 ·rw[if_pos h1,if_pos (by omega)]
 ·rw[if_neg h1,if_neg (by omega)]
theorem e2B_zero {R:Nat→Nat→Bool} {t v u:Nat}:e2B R t 0 0 v u=wsh R t v u:=if_neg (by omega)
theorem e2B_all {R:Nat→Nat→Bool} {t n v u:Nat} (hv:v<n):e2B R t n 0 v u=wsh R (t+1) v u:=if_pos (.inl hv)
structure CmS (w:World) (G n c gN:Nat) (Rw:Nat→Nat) (e:Nat→Nat→Bool) (zn:Bool) (zx zy:ByteArray) (U:World):Prop where
 mat:BMt U w.heap.size G n c Rw e
 bx:Box U gN zn zx zy
 bel:Below w.heap.size w U
theorem CmS.step {w U U':World} {G n c gN:Nat} {Rw:Nat→Nat} {e:Nat→Nat→Bool} {zn:Bool} {zx zy:ByteArray} (h:CmS w G n c gN Rw e zn zx zy U) (hb:Below U.heap.size U U'):CmS w G n c gN Rw e zn zx zy U':=⟨h.mat.below hb,h.bx.below hb h.bx.lt,h.bel.trans (hb.mono h.bel.size)⟩
theorem CmS.drew {w U:World} {G n c gN:Nat} {Rw:Nat→Nat} {e:Nat→Nat→Bool} {zn:Bool} {zx zy:ByteArray} (h:CmS w G n c gN Rw e zn zx zy U):CmS w G n c gN Rw e zn zx zy U.drew:=h.step (Below.refl _ _).drew
theorem CmS.congr {w U:World} {G n c gN:Nat} {Rw:Nat→Nat} {e e':Nat→Nat→Bool} {zn:Bool} {zx zy:ByteArray} (h:CmS w G n c gN Rw e zn zx zy U) (he:∀v u,v<c→u<n→e v u=e' v u):CmS w G n c gN Rw e' zn zx zy U:=⟨h.mat.congr he,h.bx,h.bel⟩
theorem BMt.off {W:World} {B G n c g:Nat} {Rw:Nat→Nat} {e:Nat→Nat→Bool} {nn:Bool} {x y:ByteArray} (h:BMt W B G n c Rw e) (hb:Box W g nn x y):G≠g∧∀v,v<c→v<n→Rw v≠g:=by
 refine⟨fun e=>?_,fun v hc hv e=>?_⟩
 ·have h1:=h.top
  rw[e,hb] at h1
  have h2:=Option.some.inj h1
  injection h2 with _ h4
  exact absurd h4 (by decide)
 ·have h1:=h.row v hc hv
  rw[RowBo,e,hb] at h1
  have h2:=Option.some.inj h1
  injection h2 with _ h4
  exact absurd h4 (by decide)
theorem CmS.set {w U:World} {G n c gN:Nat} {Rw:Nat→Nat} {e e':Nat→Nat→Bool} {zn:Bool} {zx zy:ByteArray} (h:CmS w G n c gN Rw e zn zx zy U) {v u:Nat} {b:Bool} (hv:v<n) (hc:v<c) (he:∀v' u',v'<n→u'<n→e' v' u'=if v'=v∧u'=u then b else e v' u'):CmS w G n c gN Rw e' zn zx zy (U.setCell ⟨Rw v,u,none⟩ (.bool b)):=
 ⟨h.mat.set hv hc he,h.bx.away _ _ _ fun e=>(h.mat.off h.bx).2 v hc hv e.symm,h.bel.setCell (p:=⟨Rw v,u,none⟩) (h.mat.low v hc) _⟩
theorem CmS.more {w U U1:World} {G n c gN g:Nat} {Rw:Nat→Nat} {e:Nat→Nat→Bool} {zn:Bool} {zx zy:ByteArray} (h:CmS w G n c gN Rw e zn zx zy U) (hb:Below U.heap.size U U1) (hg:U.heap.size≤g) (hr:RowBo U1 g (List.replicate n false)) (hc:c<n):CmS w G n (c+1) gN (fun x=>if x=c then g else Rw x) (fun v u=>if v=c then false else e v u) zn zx zy (U1.setCell ⟨G,c,none⟩ (.slice (some ⟨g,0,none⟩) n n)):=
 ⟨h.mat.more hb hg h.bel.size hr hc,(h.bx.below hb h.bx.lt).away _ _ _ fun e=>(h.mat.off h.bx).1 e.symm,(h.step hb).bel.setCell (p:=⟨G,c,none⟩) h.mat.gl _⟩
theorem topB_none (n:Nat):topB n 0 (fun _=>0)=List.replicate n (.slice none 0 0):=List.ext_getElem (by simp[topB]) fun i _ _=>by simp[topB]
theorem topB_open {W:World} {B G n c:Nat} {R:Nat→Nat} {e:Nat→Nat→Bool} (h:BMt W B G n c R e) (hc:c<n):W.cell? ⟨G,c,none⟩=some (.slice none 0 0):=by
 rw[cell_of_row W G c _ _ (0,0) h.top,List.getElem?_toArray,List.getElem?_eq_getElem (by rw[topB_length];exact hc)]
 simp[topB]
set_option maxRecDepth 100000 in
set_option maxHeartbeats 8000000 in
theorem chComes_any (a:Option Addr) (ca n:Nat) (R:List (List Fr)) (P:Nat→Nat→Rat) (w:World) (hR:FsS w a R) (hRl:R.length=n) (hP:∀i (h:i<R.length),Lst n (P i) R[i]) (hn:n≤10):
  Calls Tryz.prog 36 #[.slice a n ca] w fun e w'=>∃(G:Nat) (Rw:Nat→Nat),e=.returned (.slice (some ⟨G,0,none⟩) n n)∧BMt w' w.heap.size G n n Rw (cmsB n P)∧Below w.heap.size w w':=by
 obtain⟨i0,hi0,hz0,hz1,hz2⟩:=info_parts Tryz.infoBoolsc
 obtain⟨i1,hi1,hy0,hy1,hy2⟩:=info_parts Tryz.infoBoolc
 have HFR:=hid hR
 have HRL:=hid hRl
 have HPP:=hid hP
 clear hR hRl hP
 have HO0:=hid (fun V:World=>fOf_q (k:=0) (w:=V) 0 0 rfl (by decide) (by rfl))
 have HCMP:Hid (∀(i j:Nat) (hi:i<R.length) (hj:j<R[i].length) (V:World),Calls Tryz.prog 60 #[.agg #[.bool R[i][j].1,.string R[i][j].2.1,.string R[i][j].2.2],.agg #[.bool (sgn 0),.string (nu 0),.string (de 0)]] V fun e w'=>e=.returned (.int .i64 (cmpQ (P i j) 0))∧Below V.heap.size V w'):=fun i j hi hj V=>fCmp_q (cmpQ (P i j) 0) ((HPP.out i hi).is j hj) (val_own 0) rfl (by have:=(HPP.out i hi).size j hj;omega) (by have:=qw_zero;rw[own_size];omega)
 generalize sgn 0=zn at *
 generalize nu 0=zx at *
 generalize de 0=zy at *
 go_enter Tryz.func36,Tryz.ntmps36
 go_wp2_with fail
 refine(HO0.out _).mono ?_
 rintro e w0 ⟨rfl,hb0⟩
 have HB0:=hid (hb0.alloc hb0.size (FC zn zx zy))
 have HX0:=hid (Box.new w0 zn zx zy)
 clear hb0
 go_wp2_with (first |(at_make;refine wpList_make_full _ rfl _ _ 59 rfl w.heap.size 36 i0 (.slice none 0 0) 1 Tryz.underlying59 hi0 hz0 hz1 .i64 .i64 _ _ n rfl rfl (by go_num) (by go_num) (by rw[hz2];omega) (by unfold maxLen;omega) HB0.out.size ?_;intro w2 hown2 hgrow2))
 have hb2:=block_of_own hown2
 rw[made_slices] at hb2
 have hB2:Below (w0.alloc (FC zn zx zy)).heap.size (w0.alloc (FC zn zx zy)) w2:=(Below.refl _ _).grown hgrow2 (Nat.le_refl _) (fun k e=>by cases e)
 have HS0:Hid ((w0.alloc (FC zn zx zy)).heap.size=w0.heap.size+1):=by show _=_;simp
 rw[HS0.out] at hb2
 have HK0:Hid (CmS w (w0.heap.size+1) n 0 w0.heap.size (fun _=>0) (e1B P 0 0) zn zx zy w2):=⟨⟨by rw[topB_none];exact hb2,fun v h=>absurd h (by omega),fun v v' h=>absurd h (by omega),fun v h=>absurd h (by omega),by rw[←HS0.out];exact HB0.out.size⟩,HX0.out.below hB2 HX0.out.lt,HB0.out.trans (hB2.mono HB0.out.size)⟩
 clear hown2 hgrow2 hb2 hB2 HB0 HX0 HS0
 generalize w0.heap.size=gN at *
 obtain⟨G,hGe⟩:∃G,G=gN+1:=⟨_,rfl⟩
 simp only[←hGe] at HK0⊢
 clear hGe
 go_loopw [18] (fun iv wr=>∃(i:Nat) (Rw:Nat→Nat),i≤n∧iv=.int .i64 i∧Hid (CmS w G n i gN Rw (e1B P i 0) zn zx zy wr)) (fun iv _=>n - (intOf iv).toNat)
 case atStart=>exact⟨0,_,Nat.zero_le _,rfl,HK0⟩
 case round=>
  obtain⟨i,Rw0,hi,rfl,HK⟩:=hrel
  clear HK0
  by_cases hlt:i<n
  ·have hiR:i<R.length:=by rw[HRL.out];exact hlt
   obtain⟨gc,oc,bc,cr,rfl,hgc,c0,hrow,hcr⟩:=HFR.out i hiR
   have c0':=(HK.out.bel.cell (p:=⟨gc,_,none⟩) hgc).trans c0
   rw[(HPP.out i hiR).len] at c0'
   have ft:=HK.out.mat.fzt i
   have HLEN:Hid (R[i].length=n):=(HPP.out i hiR).len
   have HROW:=hid hrow
   have HLB:Hid (w.heap.size≤wr.heap.size):=HK.out.bel.size
   clear c0 hrow
   go_wp2_with (first |(at_make;refine wpList_make_full _ rfl _ _ 36 rfl w.heap.size 4 i1 (.bool false) 1 Tryz.underlying36 hi1 hy0 hy1 .i64 .i64 _ _ n rfl rfl (by go_num) (by go_num) (by rw[hy2];omega) (by unfold maxLen;omega) HLB.out ?_;intro w2 hown2 hgrow2;have hB2:Below wr.heap.size wr w2:=(Below.refl _ _).grown hgrow2 (Nat.le_refl _) (fun k e=>by cases e);have ft2:=(HK.out.mat.below hB2).fzt i;have kt2:w2.cell? ⟨G,i,none⟩=some (.slice none 0 0):=(hB2.cell (p:=⟨G,i,none⟩) HK.out.mat.lt).trans (topB_open HK.out.mat hlt)))
   have hb2:=block_of_own hown2
   rw[made_boolc] at hb2
   have HK1:=hid ((HK.out.more hB2 (Nat.le_refl _) hb2 hlt).congr fun v u _ _=>e1B_row P i v u)
   clear hown2 hgrow2 hb2 hB2 ft2 kt2 HK ft c0' HLB
   generalize (fun x=>if x=i then wr.heap.size else Rw0 x)=Rw at *
   generalize (w2.setCell ⟨G,i,none⟩ (.slice (some ⟨wr.heap.size,0,none⟩) n n))=W3 at *
   go_loopw [31] (fun jv wr2=>∃j:Nat,j≤n∧jv=.int .i64 j∧Hid (CmS w G n (i+1) gN Rw (e1B P i j) zn zx zy wr2)) (fun jv _=>n - (intOf jv).toNat)
   case atStart=>exact⟨0,Nat.zero_le _,rfl,HK1⟩
   case round=>
    obtain⟨j,hj,rfl,HK2⟩:=hrel
    clear HK1
    by_cases hlj:j<n
    ·have hjR:j<R[i].length:=by rw[HLEN.out];exact hlj
     obtain⟨gr,or_,rfl,hgr,b0,b1,b2⟩:=HROW.out j hjR
     have HCM:=hid (HCMP.out i j hiR hjR)
     have b0':=(HK2.out.bel.cell (p:=⟨gr,_,none⟩) hgr).trans b0
     have b1':=(HK2.out.bel.cell (p:=⟨gr,_,none⟩) hgr).trans b1
     have b2':=(HK2.out.bel.cell (p:=⟨gr,_,none⟩) hgr).trans b2
     clear b0 b1 b2
     generalize R[i][j].1=an at *
     generalize R[i][j].2.1=ax at *
     generalize R[i][j].2.2=ay at *
     have hA:=(Below.refl wr.heap.size wr).alloc (Nat.le_refl _) (FC an ax ay)
     have HK:Hid (CmS w G n (i+1) gN Rw (e1B P i j) zn zx zy (wr.alloc (FC an ax ay)).drew):=(HK2.out.step hA).drew
     have HX:Hid (Box (wr.alloc (FC an ax ay)).drew wr.heap.size an ax ay):=Box.new wr an ax ay
     clear hA HK2
     go_upto_region 10 with fail
     clear b0' b1' b2'
     generalize (wr.alloc (FC an ax ay))=W4 at *
     generalize wr.heap.size=gF at *
     have HELD:Hid (∀(u:World) {e:Nat→Nat→Bool},CmS w G n (i+1) gN Rw e zn zx zy u→Box u gF an ax ay→u.cell? ⟨G,i,none⟩=some (.slice (some ⟨Rw i,0,none⟩) n n)∧u.cell? ⟨gF,0,none⟩=some (.bool an)∧u.cell? ⟨gF,1,none⟩=some (.string ax)∧u.cell? ⟨gF,2,none⟩=some (.string ay)∧u.cell? ⟨gN,0,none⟩=some (.bool zn)∧u.cell? ⟨gN,1,none⟩=some (.string zx)∧u.cell? ⟨gN,2,none⟩=some (.string zy)):=fun u _ h1 h2=>⟨h1.mat.slice hlt (by omega),h2.c0,h2.c1,h2.c2,h1.bx.c0,h1.bx.c1,h1.bx.c2⟩
     by_cases hij:i=j
     ·subst hij
      have HSTP:Hid (stepB P i i=true):=by show _=_;simp[stepB]
      refine wp_region_held_drew (S:=fun u=>u.cell? ⟨G,i,none⟩=some (.slice (some ⟨Rw i,0,none⟩) n n)∧u.cell? ⟨gF,0,none⟩=some (.bool an)∧u.cell? ⟨gF,1,none⟩=some (.string ax)∧u.cell? ⟨gF,2,none⟩=some (.string ay)∧u.cell? ⟨gN,0,none⟩=some (.bool zn)∧u.cell? ⟨gN,1,none⟩=some (.string zx)∧u.cell? ⟨gN,2,none⟩=some (.string zy)) (by kernel_rfl) (HELD.out _ HK.out HX.out) (fun hSd=>?_)
      generalize W4.drew=u0 at *
      refine tkB 0 (.slice (some ⟨G,0,none⟩) n n) ?_
      try simp only[gE,aP]
      refine tkB 1 (.int .i64 (i:Nat)) ?_
      try simp only[gE,aP]
      refine tkB 2 (.pointer (some ⟨G,i,none⟩)) ?_
      try simp only[gE,aP]
      refine tkB 3 (.slice (some ⟨Rw i,0,none⟩) n n) ?_
      try simp only[gE,aP]
      refine tkB 4 (.int .i64 (i:Nat)) ?_
      try simp only[gE,aP]
      refine tkB 5 (.int .i64 (i:Nat)) ?_
      try simp only[gE,aP]
      refine tkB 6 (.int .i64 (i:Nat)) ?_
      try simp only[gE,aP]
      refine tkB 7 (.bool true) ?_
      try simp only[gE,aP]
      refine tkB 8 (.bool true) ?_
      try simp only[gE,aP]
      refine wpAnyH_take (i:=9) (oi:=_) (v:=undef) rfl (by kernel_rfl) (by kernel_rfl) (by kernel_rfl) (fun _ _ _ h=>h) (Or.inr ⟨by rfl,rfl⟩) (by assumption) ?_
      try simp only[gE,aP]
      refine wpAnyH_take (i:=10) (oi:=_) (v:=undef) rfl (by kernel_rfl) (by kernel_rfl) (by kernel_rfl) (fun _ _ _ h=>h) (Or.inr ⟨by rfl,rfl⟩) (by assumption) ?_
      try simp only[gE,aP]
      refine wpAnyH_take (i:=11) (oi:=_) (v:=undef) rfl (by kernel_rfl) (by kernel_rfl) (by kernel_rfl) (fun _ _ _ h=>h) (Or.inr ⟨by rfl,rfl⟩) (by assumption) ?_
      try simp only[gE,aP]
      refine wpAnyH_take (i:=12) (oi:=_) (v:=undef) rfl (by kernel_rfl) (by kernel_rfl) (by kernel_rfl) (fun _ _ _ h=>h) (Or.inr ⟨by rfl,rfl⟩) (by assumption) ?_
      try simp only[gE,aP]
      refine tkB 13 (.bool true) ?_
      try simp only[gE,aP]
      refine tkB 14 (.pointer (some ⟨Rw i,i,none⟩)) ?_
      try simp only[gE,aP]
      have f9:=(HK.out.mat.row i (by omega) hlt).fz i
      have k9:=HK.out.mat.cell hlt (by omega) hlj
      refine rdA [15] (cA ?_ AllReadyH.nil)
      ·intro K' hK'
       go_simp
       have HK9:=hid (HK.out.set (e':=e1B P i (i+1)) (b:=true) hlt (by omega) fun v u _ _=>(e1B_put P i i v u).trans (by rw[HSTP.out]))
       have HX9:=hid (HX.out.away (Rw i) i (.bool true) fun e=>(HK.out.mat.off HX.out).2 i (by omega) hlt e.symm)
       refine hK'.out _ _ (HELD.out _ HK9.out HX9.out) (fun _=>wpAnyH_done (by kernel_rfl) ?_ _)
       clear hK' K' hSd f9 k9 HK HX HX9
       go_wp2
       go_roundw
       case rel=>exact⟨i+1,by omega,by go_num,HK9⟩
       case measure=>simp[intOf];omega
     ·have hii:¬((i:Int)=(j:Int)):=by omega
      obtain⟨bv,hbv⟩:∃b,b=decide (0<cmpQ (P i j) 0):=⟨_,rfl⟩
      have HBV:Hid (decide (0<cmpQ (P i j) 0)=bv):=hbv.symm
      have HSTP:Hid (stepB P i j=bv):=by
       show _=_
       rw[hbv,stepB,decide_eq_false hij,Bool.false_or]
       exact decide_eq_decide.2 cmpQ_pos.symm
      clear hbv
      refine wp_region_held_drew (S:=fun u=>u.cell? ⟨G,i,none⟩=some (.slice (some ⟨Rw i,0,none⟩) n n)∧u.cell? ⟨gF,0,none⟩=some (.bool an)∧u.cell? ⟨gF,1,none⟩=some (.string ax)∧u.cell? ⟨gF,2,none⟩=some (.string ay)∧u.cell? ⟨gN,0,none⟩=some (.bool zn)∧u.cell? ⟨gN,1,none⟩=some (.string zx)∧u.cell? ⟨gN,2,none⟩=some (.string zy)) (by kernel_rfl) (HELD.out _ HK.out HX.out) (fun hSd=>?_)
      generalize W4.drew=u0 at *
      generalize cmpQ (P i j) 0=cv at *
      refine tkB 0 (.slice (some ⟨G,0,none⟩) n n) ?_
      try simp only[gE,aP]
      refine tkB 1 (.int .i64 (i:Nat)) ?_
      try simp only[gE,aP]
      refine tkB 2 (.pointer (some ⟨G,i,none⟩)) ?_
      try simp only[gE,aP]
      refine tkB 3 (.slice (some ⟨Rw i,0,none⟩) n n) ?_
      try simp only[gE,aP]
      refine tkB 4 (.int .i64 (j:Nat)) ?_
      try simp only[gE,aP]
      refine tkB 5 (.int .i64 (i:Nat)) ?_
      try simp only[gE,aP]
      refine tkB 6 (.int .i64 (j:Nat)) ?_
      try simp only[gE,aP]
      refine tkB 7 (.bool false) ?_
      try simp only[gE,aP]
      refine tkB 8 (.bool false) ?_
      try simp only[gE,aP]
      refine tkB 9 (.agg #[.bool an,.string ax,.string ay]) ?_
      try simp only[gE,aP]
      refine tkB 10 (.agg #[.bool zn,.string zx,.string zy]) ?_
      try simp only[gE,aP]
      refine rdA [11] (cA ?_ AllReadyH.nil)
      ·intro K' hK'
       go_simp
       refine(HCM.out _).mono ?_
       rintro e u1 ⟨rfl,hb⟩
       replace HX:=hid (HX.out.below hb HX.out.lt)
       replace HK:=hid (HK.out.step hb)
       refine hK'.out _ _ (HELD.out _ HK.out HX.out) (fun hSe=>?_)
       clear hK' K' hSd hb
       have hSd:=hSe
       clear hSe
       try simp only[gE,aP]
       refine tkA 12 (.bool bv) ?_ ?_
       ·intro u' hSu
        go_simp
        (try simp only[HBV.out])
       try simp only[gE,aP]
       refine tkB 13 (.bool bv) ?_
       try simp only[gE,aP]
       refine tkB 14 (.pointer (some ⟨Rw i,j,none⟩)) ?_
       try simp only[gE,aP]
       have f9:=(HK.out.mat.row i (by omega) hlt).fz j
       have k9:=HK.out.mat.cell hlt (by omega) hlj
       refine rdA [15] (cA ?_ AllReadyH.nil)
       ·intro K' hK'
        go_simp
        have HK9:=hid (HK.out.set (e':=e1B P i (j+1)) (b:=bv) hlt (by omega) fun v u _ _=>(e1B_put P i j v u).trans (by rw[HSTP.out]))
        have HX9:=hid (HX.out.away (Rw i) j (.bool bv) fun e=>(HK.out.mat.off HX.out).2 i (by omega) hlt e.symm)
        refine hK'.out _ _ (HELD.out _ HK9.out HX9.out) (fun _=>wpAnyH_done (by kernel_rfl) ?_ _)
        clear hK' K' hSd f9 k9 HK HX HX9
        go_wp2
        go_roundw
        case rel=>exact⟨j+1,by omega,by go_num,HK9⟩
        case measure=>simp[intOf];omega
    ·obtain rfl:j=n:=by omega
     have HK3:=hid (HK2.out.congr fun v u _ hu=>e1B_next hu)
     clear HK2
     go_wp2
     go_roundw
     case rel=>exact⟨i+1,Rw,by omega,by go_num,HK3⟩
     case measure=>simp[intOf];omega
  ·obtain rfl:n=i:=by omega
   have HK1:=hid (HK.out.congr (e':=wsh (stepB P) 0) fun v u hv _=>if_pos (.inl hv))
   clear HK HCMP HPP HFR
   go_upto_region 14 with fail
   go_loopw [55] (fun iv wr=>∃t:Nat,t≤n∧iv=.int .i64 t∧Hid (CmS w G n n gN Rw0 (wsh (stepB P) t) zn zx zy wr)) (fun iv _=>n - (intOf iv).toNat)
   case atStart=>exact⟨0,Nat.zero_le _,rfl,HK1⟩
   case round=>
    obtain⟨t,ht,rfl,HK2⟩:=hrel
    clear HK1
    by_cases hlt:t<n
    ·have HK3:=hid (HK2.out.congr (e':=e2B (stepB P) t 0 0) fun v u _ _=>e2B_zero.symm)
     clear HK2
     go_upto_region 17 with fail
     go_loopw [60] (fun iv wr=>∃i:Nat,i≤n∧iv=.int .i64 i∧Hid (CmS w G n n gN Rw0 (e2B (stepB P) t i 0) zn zx zy wr)) (fun iv _=>n - (intOf iv).toNat)
     case atStart=>exact⟨0,Nat.zero_le _,rfl,HK3⟩
     case round=>
      obtain⟨i,hi,rfl,HK4⟩:=hrel
      clear HK3
      by_cases hli:i<n
      ·go_upto_region 20 with fail
       go_loopw [65] (fun jv wr=>∃j:Nat,j≤n∧jv=.int .i64 j∧Hid (CmS w G n n gN Rw0 (e2B (stepB P) t i j) zn zx zy wr)) (fun jv _=>n - (intOf jv).toNat)
       case atStart=>exact⟨0,Nat.zero_le _,rfl,HK4⟩
       case round=>
        obtain⟨j,hj,rfl,HK⟩:=hrel
        clear HK4
        by_cases hlj:j<n
        ·go_upto_region 22 with fail
         replace HK:=hid HK.out.drew
         obtain⟨u0,hu0⟩:∃u,u=wr.drew:=⟨_,rfl⟩
         refine wp_region_held_drew (S:=fun u=>u.cell? ⟨G,i,none⟩=some (.slice (some ⟨Rw0 i,0,none⟩) n n)∧u.cell? ⟨G,t,none⟩=some (.slice (some ⟨Rw0 t,0,none⟩) n n)) (by kernel_rfl) ⟨HK.out.mat.slice hli hli,HK.out.mat.slice hlt hlt⟩ (fun hSd=>?_)
         simp only[←hu0] at *
         clear hu0
         have c0:=HK.out.mat.cell hli hli hlj
         have c1:=HK.out.mat.cell hli hli hlt
         have c2:=HK.out.mat.cell hlt hlt hlj
         have f9:=(HK.out.mat.row i hli hli).fz j
         rw[e2B_here] at c0
         rw[e2B_col] at c1
         rw[e2B_row] at c2
         have HSTP:Hid (wsh (stepB P) (t+1) i j=(wsh (stepB P) t i j ||wsh (stepB P) t i t&&wsh (stepB P) t t j)):=rfl
         generalize wsh (stepB P) t i j=x at *
         generalize wsh (stepB P) t i t=y at *
         generalize wsh (stepB P) t t j=z at *
         cases x with
         |true=>
          simp only[Bool.true_or] at HSTP
          refine tkB 0 (.slice (some ⟨G,0,none⟩) n n) ?_
          try simp only[gE,aP]
          refine tkB 1 (.int .i64 (i:Nat)) ?_
          try simp only[gE,aP]
          refine tkB 2 (.pointer (some ⟨G,i,none⟩)) ?_
          try simp only[gE,aP]
          refine tkB 3 (.slice (some ⟨Rw0 i,0,none⟩) n n) ?_
          try simp only[gE,aP]
          refine tkB 4 (.int .i64 (j:Nat)) ?_
          try simp only[gE,aP]
          refine tkB 5 (.slice (some ⟨G,0,none⟩) n n) ?_
          try simp only[gE,aP]
          refine tkB 6 (.int .i64 (i:Nat)) ?_
          try simp only[gE,aP]
          refine tkB 7 (.pointer (some ⟨G,i,none⟩)) ?_
          try simp only[gE,aP]
          refine tkB 8 (.slice (some ⟨Rw0 i,0,none⟩) n n) ?_
          try simp only[gE,aP]
          refine tkB 9 (.int .i64 (j:Nat)) ?_
          try simp only[gE,aP]
          refine tkB 10 (.pointer (some ⟨Rw0 i,j,none⟩)) ?_
          try simp only[gE,aP]
          refine rdA [11] (cA ?_ AllReadyH.nil)
          ·intro K' hK'
           go_simp
           refine hK'.out _ _ ⟨HK.out.mat.slice hli hli,HK.out.mat.slice hlt hlt⟩ (fun hSe=>?_)
           clear hK' K' hSd
           have hSd:=hSe
           clear hSe
           try simp only[gE,aP]
           refine tkB 12 (.bool true) ?_
           try simp only[gE,aP]
           refine wpAnyH_take (i:=13) (oi:=_) (v:=undef) rfl (by kernel_rfl) (by kernel_rfl) (by kernel_rfl) (fun _ _ _ h=>h) (Or.inr ⟨by rfl,rfl⟩) (by assumption) ?_
           try simp only[gE,aP]
           refine wpAnyH_take (i:=14) (oi:=_) (v:=undef) rfl (by kernel_rfl) (by kernel_rfl) (by kernel_rfl) (fun _ _ _ h=>h) (Or.inr ⟨by rfl,rfl⟩) (by assumption) ?_
           try simp only[gE,aP]
           refine wpAnyH_take (i:=15) (oi:=_) (v:=undef) rfl (by kernel_rfl) (by kernel_rfl) (by kernel_rfl) (fun _ _ _ h=>h) (Or.inr ⟨by rfl,rfl⟩) (by assumption) ?_
           try simp only[gE,aP]
           refine wpAnyH_take (i:=16) (oi:=_) (v:=undef) rfl (by kernel_rfl) (by kernel_rfl) (by kernel_rfl) (fun _ _ _ h=>h) (Or.inr ⟨by rfl,rfl⟩) (by assumption) ?_
           try simp only[gE,aP]
           refine wpAnyH_take (i:=17) (oi:=_) (v:=undef) rfl (by kernel_rfl) (by kernel_rfl) (by kernel_rfl) (fun _ _ _ h=>h) (Or.inr ⟨by rfl,rfl⟩) (by assumption) ?_
           try simp only[gE,aP]
           refine wpAnyH_take (i:=18) (oi:=_) (v:=undef) rfl (by kernel_rfl) (by kernel_rfl) (by kernel_rfl) (fun _ _ _ h=>h) (Or.inr ⟨by rfl,rfl⟩) (by assumption) ?_
           try simp only[gE,aP]
           refine wpAnyH_take (i:=19) (oi:=_) (v:=undef) rfl (by kernel_rfl) (by kernel_rfl) (by kernel_rfl) (fun _ _ _ h=>h) (Or.inr ⟨by rfl,rfl⟩) (by assumption) ?_
           try simp only[gE,aP]
           refine wpAnyH_take (i:=20) (oi:=_) (v:=undef) rfl (by kernel_rfl) (by kernel_rfl) (by kernel_rfl) (fun _ _ _ h=>h) (Or.inr ⟨by rfl,rfl⟩) (by assumption) ?_
           try simp only[gE,aP]
           refine wpAnyH_take (i:=21) (oi:=_) (v:=undef) rfl (by kernel_rfl) (by kernel_rfl) (by kernel_rfl) (fun _ _ _ h=>h) (Or.inr ⟨by rfl,rfl⟩) (by assumption) ?_
           try simp only[gE,aP]
           refine wpAnyH_take (i:=22) (oi:=_) (v:=undef) rfl (by kernel_rfl) (by kernel_rfl) (by kernel_rfl) (fun _ _ _ h=>h) (Or.inr ⟨by rfl,rfl⟩) (by assumption) ?_
           try simp only[gE,aP]
           refine wpAnyH_take (i:=23) (oi:=_) (v:=undef) rfl (by kernel_rfl) (by kernel_rfl) (by kernel_rfl) (fun _ _ _ h=>h) (Or.inr ⟨by rfl,rfl⟩) (by assumption) ?_
           try simp only[gE,aP]
           refine wpAnyH_take (i:=24) (oi:=_) (v:=undef) rfl (by kernel_rfl) (by kernel_rfl) (by kernel_rfl) (fun _ _ _ h=>h) (Or.inr ⟨by rfl,rfl⟩) (by assumption) ?_
           try simp only[gE,aP]
           refine wpAnyH_take (i:=25) (oi:=_) (v:=undef) rfl (by kernel_rfl) (by kernel_rfl) (by kernel_rfl) (fun _ _ _ h=>h) (Or.inr ⟨by rfl,rfl⟩) (by assumption) ?_
           try simp only[gE,aP]
           refine wpAnyH_take (i:=26) (oi:=_) (v:=undef) rfl (by kernel_rfl) (by kernel_rfl) (by kernel_rfl) (fun _ _ _ h=>h) (Or.inr ⟨by rfl,rfl⟩) (by assumption) ?_
           try simp only[gE,aP]
           refine wpAnyH_take (i:=27) (oi:=_) (v:=undef) rfl (by kernel_rfl) (by kernel_rfl) (by kernel_rfl) (fun _ _ _ h=>h) (Or.inr ⟨by rfl,rfl⟩) (by assumption) ?_
           try simp only[gE,aP]
           refine wpAnyH_take (i:=28) (oi:=_) (v:=undef) rfl (by kernel_rfl) (by kernel_rfl) (by kernel_rfl) (fun _ _ _ h=>h) (Or.inr ⟨by rfl,rfl⟩) (by assumption) ?_
           try simp only[gE,aP]
           refine tkB 29 (.bool true) ?_
           try simp only[gE,aP]
           refine tkB 30 (.pointer (some ⟨Rw0 i,j,none⟩)) ?_
           try simp only[gE,aP]
           refine rdA [31] (cA ?_ AllReadyH.nil)
           ·intro K' hK'
            go_simp
            have HK9:=hid (HK.out.set (e':=e2B (stepB P) t i (j+1)) (b:=true) hli hli fun v u _ _=>(e2B_put (stepB P) t i j v u).trans (by rw[HSTP.out]))
            refine hK'.out _ _ ⟨HK9.out.mat.slice hli hli,HK9.out.mat.slice hlt hlt⟩ (fun _=>wpAnyH_done (by kernel_rfl) ?_ _)
            clear hK' K' hSd f9 c0 c1 c2 HK
            go_wp2
            go_roundw
            case rel=>exact⟨j+1,by omega,by go_num,HK9⟩
            case measure=>simp[intOf];omega
         |false=>
          cases y with
          |false=>
           simp only[Bool.false_or,Bool.false_and] at HSTP
           refine tkB 0 (.slice (some ⟨G,0,none⟩) n n) ?_
           try simp only[gE,aP]
           refine tkB 1 (.int .i64 (i:Nat)) ?_
           try simp only[gE,aP]
           refine tkB 2 (.pointer (some ⟨G,i,none⟩)) ?_
           try simp only[gE,aP]
           refine tkB 3 (.slice (some ⟨Rw0 i,0,none⟩) n n) ?_
           try simp only[gE,aP]
           refine tkB 4 (.int .i64 (j:Nat)) ?_
           try simp only[gE,aP]
           refine tkB 5 (.slice (some ⟨G,0,none⟩) n n) ?_
           try simp only[gE,aP]
           refine tkB 6 (.int .i64 (i:Nat)) ?_
           try simp only[gE,aP]
           refine tkB 7 (.pointer (some ⟨G,i,none⟩)) ?_
           try simp only[gE,aP]
           refine tkB 8 (.slice (some ⟨Rw0 i,0,none⟩) n n) ?_
           try simp only[gE,aP]
           refine tkB 9 (.int .i64 (j:Nat)) ?_
           try simp only[gE,aP]
           refine tkB 10 (.pointer (some ⟨Rw0 i,j,none⟩)) ?_
           try simp only[gE,aP]
           refine rdA [11] (cA ?_ AllReadyH.nil)
           ·intro K' hK'
            go_simp
            refine hK'.out _ _ ⟨HK.out.mat.slice hli hli,HK.out.mat.slice hlt hlt⟩ (fun hSe=>?_)
            clear hK' K' hSd
            have hSd:=hSe
            clear hSe
            try simp only[gE,aP]
            refine tkB 12 (.bool false) ?_
            try simp only[gE,aP]
            refine tkB 13 (.slice (some ⟨G,0,none⟩) n n) ?_
            try simp only[gE,aP]
            refine tkB 14 (.int .i64 (i:Nat)) ?_
            try simp only[gE,aP]
            refine tkB 15 (.pointer (some ⟨G,i,none⟩)) ?_
            try simp only[gE,aP]
            refine tkB 16 (.slice (some ⟨Rw0 i,0,none⟩) n n) ?_
            try simp only[gE,aP]
            refine tkB 17 (.int .i64 (t:Nat)) ?_
            try simp only[gE,aP]
            refine tkB 18 (.pointer (some ⟨Rw0 i,t,none⟩)) ?_
            try simp only[gE,aP]
            refine rdA [19] (cA ?_ AllReadyH.nil)
            ·intro K' hK'
             go_simp
             refine hK'.out _ _ ⟨HK.out.mat.slice hli hli,HK.out.mat.slice hlt hlt⟩ (fun hSe=>?_)
             clear hK' K' hSd
             have hSd:=hSe
             clear hSe
             try simp only[gE,aP]
             refine tkB 20 (.bool false) ?_
             try simp only[gE,aP]
             refine wpAnyH_take (i:=21) (oi:=_) (v:=undef) rfl (by kernel_rfl) (by kernel_rfl) (by kernel_rfl) (fun _ _ _ h=>h) (Or.inr ⟨by rfl,rfl⟩) (by assumption) ?_
             try simp only[gE,aP]
             refine wpAnyH_take (i:=22) (oi:=_) (v:=undef) rfl (by kernel_rfl) (by kernel_rfl) (by kernel_rfl) (fun _ _ _ h=>h) (Or.inr ⟨by rfl,rfl⟩) (by assumption) ?_
             try simp only[gE,aP]
             refine wpAnyH_take (i:=23) (oi:=_) (v:=undef) rfl (by kernel_rfl) (by kernel_rfl) (by kernel_rfl) (fun _ _ _ h=>h) (Or.inr ⟨by rfl,rfl⟩) (by assumption) ?_
             try simp only[gE,aP]
             refine wpAnyH_take (i:=24) (oi:=_) (v:=undef) rfl (by kernel_rfl) (by kernel_rfl) (by kernel_rfl) (fun _ _ _ h=>h) (Or.inr ⟨by rfl,rfl⟩) (by assumption) ?_
             try simp only[gE,aP]
             refine wpAnyH_take (i:=25) (oi:=_) (v:=undef) rfl (by kernel_rfl) (by kernel_rfl) (by kernel_rfl) (fun _ _ _ h=>h) (Or.inr ⟨by rfl,rfl⟩) (by assumption) ?_
             try simp only[gE,aP]
             refine wpAnyH_take (i:=26) (oi:=_) (v:=undef) rfl (by kernel_rfl) (by kernel_rfl) (by kernel_rfl) (fun _ _ _ h=>h) (Or.inr ⟨by rfl,rfl⟩) (by assumption) ?_
             try simp only[gE,aP]
             refine wpAnyH_take (i:=27) (oi:=_) (v:=undef) rfl (by kernel_rfl) (by kernel_rfl) (by kernel_rfl) (fun _ _ _ h=>h) (Or.inr ⟨by rfl,rfl⟩) (by assumption) ?_
             try simp only[gE,aP]
             refine tkB 28 (.bool false) ?_
             try simp only[gE,aP]
             refine tkB 29 (.bool false) ?_
             try simp only[gE,aP]
             refine tkB 30 (.pointer (some ⟨Rw0 i,j,none⟩)) ?_
             try simp only[gE,aP]
             refine rdA [31] (cA ?_ AllReadyH.nil)
             ·intro K' hK'
              go_simp
              have HK9:=hid (HK.out.set (e':=e2B (stepB P) t i (j+1)) (b:=false) hli hli fun v u _ _=>(e2B_put (stepB P) t i j v u).trans (by rw[HSTP.out]))
              refine hK'.out _ _ ⟨HK9.out.mat.slice hli hli,HK9.out.mat.slice hlt hlt⟩ (fun _=>wpAnyH_done (by kernel_rfl) ?_ _)
              clear hK' K' hSd f9 c0 c1 c2 HK
              go_wp2
              go_roundw
              case rel=>exact⟨j+1,by omega,by go_num,HK9⟩
              case measure=>simp[intOf];omega
          |true=>
           simp only[Bool.false_or,Bool.true_and] at HSTP
           refine tkB 0 (.slice (some ⟨G,0,none⟩) n n) ?_
           try simp only[gE,aP]
           refine tkB 1 (.int .i64 (i:Nat)) ?_
           try simp only[gE,aP]
           refine tkB 2 (.pointer (some ⟨G,i,none⟩)) ?_
           try simp only[gE,aP]
           refine tkB 3 (.slice (some ⟨Rw0 i,0,none⟩) n n) ?_
           try simp only[gE,aP]
           refine tkB 4 (.int .i64 (j:Nat)) ?_
           try simp only[gE,aP]
           refine tkB 5 (.slice (some ⟨G,0,none⟩) n n) ?_
           try simp only[gE,aP]
           refine tkB 6 (.int .i64 (i:Nat)) ?_
           try simp only[gE,aP]
           refine tkB 7 (.pointer (some ⟨G,i,none⟩)) ?_
           try simp only[gE,aP]
           refine tkB 8 (.slice (some ⟨Rw0 i,0,none⟩) n n) ?_
           try simp only[gE,aP]
           refine tkB 9 (.int .i64 (j:Nat)) ?_
           try simp only[gE,aP]
           refine tkB 10 (.pointer (some ⟨Rw0 i,j,none⟩)) ?_
           try simp only[gE,aP]
           refine rdA [11] (cA ?_ AllReadyH.nil)
           ·intro K' hK'
            go_simp
            refine hK'.out _ _ ⟨HK.out.mat.slice hli hli,HK.out.mat.slice hlt hlt⟩ (fun hSe=>?_)
            clear hK' K' hSd
            have hSd:=hSe
            clear hSe
            try simp only[gE,aP]
            refine tkB 12 (.bool false) ?_
            try simp only[gE,aP]
            refine tkB 13 (.slice (some ⟨G,0,none⟩) n n) ?_
            try simp only[gE,aP]
            refine tkB 14 (.int .i64 (i:Nat)) ?_
            try simp only[gE,aP]
            refine tkB 15 (.pointer (some ⟨G,i,none⟩)) ?_
            try simp only[gE,aP]
            refine tkB 16 (.slice (some ⟨Rw0 i,0,none⟩) n n) ?_
            try simp only[gE,aP]
            refine tkB 17 (.int .i64 (t:Nat)) ?_
            try simp only[gE,aP]
            refine tkB 18 (.pointer (some ⟨Rw0 i,t,none⟩)) ?_
            try simp only[gE,aP]
            refine rdA [19] (cA ?_ AllReadyH.nil)
            ·intro K' hK'
             go_simp
             refine hK'.out _ _ ⟨HK.out.mat.slice hli hli,HK.out.mat.slice hlt hlt⟩ (fun hSe=>?_)
             clear hK' K' hSd
             have hSd:=hSe
             clear hSe
             try simp only[gE,aP]
             refine tkB 20 (.bool true) ?_
             try simp only[gE,aP]
             refine tkB 21 (.slice (some ⟨G,0,none⟩) n n) ?_
             try simp only[gE,aP]
             refine tkB 22 (.int .i64 (t:Nat)) ?_
             try simp only[gE,aP]
             refine tkB 23 (.pointer (some ⟨G,t,none⟩)) ?_
             try simp only[gE,aP]
             refine tkB 24 (.slice (some ⟨Rw0 t,0,none⟩) n n) ?_
             try simp only[gE,aP]
             refine tkB 25 (.int .i64 (j:Nat)) ?_
             try simp only[gE,aP]
             refine tkB 26 (.pointer (some ⟨Rw0 t,j,none⟩)) ?_
             try simp only[gE,aP]
             refine rdA [27] (cA ?_ AllReadyH.nil)
             ·intro K' hK'
              go_simp
              refine hK'.out _ _ ⟨HK.out.mat.slice hli hli,HK.out.mat.slice hlt hlt⟩ (fun hSe=>?_)
              clear hK' K' hSd
              have hSd:=hSe
              clear hSe
              try simp only[gE,aP]
              refine tkB 28 (.bool z) ?_
              try simp only[gE,aP]
              refine tkB 29 (.bool z) ?_
              try simp only[gE,aP]
              refine tkB 30 (.pointer (some ⟨Rw0 i,j,none⟩)) ?_
              try simp only[gE,aP]
              refine rdA [31] (cA ?_ AllReadyH.nil)
              ·intro K' hK'
               go_simp
               have HK9:=hid (HK.out.set (e':=e2B (stepB P) t i (j+1)) (b:=z) hli hli fun v u _ _=>(e2B_put (stepB P) t i j v u).trans (by rw[HSTP.out]))
               refine hK'.out _ _ ⟨HK9.out.mat.slice hli hli,HK9.out.mat.slice hlt hlt⟩ (fun _=>wpAnyH_done (by kernel_rfl) ?_ _)
               clear hK' K' hSd f9 c0 c1 c2 HK
               go_wp2
               go_roundw
               case rel=>exact⟨j+1,by omega,by go_num,HK9⟩
               case measure=>simp[intOf];omega
        ·obtain rfl:n=j:=by omega
         have HK5:=hid (HK.out.congr fun v u _ hu=>e2B_next hu)
         clear HK
         go_wp2
         go_roundw
         case rel=>exact⟨i+1,by omega,by go_num,HK5⟩
         case measure=>simp[intOf];omega
      ·obtain rfl:n=i:=by omega
       have HK5:=hid (HK4.out.congr fun v u hv _=>e2B_all hv)
       clear HK4
       go_wp2
       go_roundw
       case rel=>exact⟨t+1,by omega,by go_num,HK5⟩
       case measure=>simp[intOf];omega
    ·obtain rfl:n=t:=by omega
     go_wp2
     go_ret
     exact⟨G,Rw0,rfl,HK2.out.mat,HK2.out.bel⟩
end Go.Proofs.YtmbjmiioggfneaaGreatDoor

/- Hits of package chain. -/
namespace Go.Proofs.YtmbjmiioggfneaaGreatDoor
open Go.RowKit Go.Shelf
theorem opN_mem {n:Nat} {e:Nat→Nat→Bool} {S:List Nat} {i:Nat}:i∈opN n e S↔i<n∧(∃j∈S,e i j=true)∧i∉S:=by
 rw[opN,List.mem_filter,List.mem_range,opB,Bool.and_eq_true,List.any_eq_true,Bool.not_eq_true',List.any_eq_false]
 constructor
 ·rintro⟨h1,h2,h3⟩
  exact⟨h1,h2,fun h=>h3 i h (by simp)⟩
 ·rintro⟨h1,h2,h3⟩
  exact⟨h1,h2,fun x hx h=>h3 (by rw[of_decide_eq_true h];exact hx)⟩
theorem opN_nodup (n:Nat) (e:Nat→Nat→Bool) (S:List Nat):(opN n e S).Nodup:=List.Pairwise.filter _ List.nodup_range
theorem lsm_const:∀l:List Nat,lsm (fun _=>1) l=(l.length:Rat)
 |[]=>rfl
 |x::l=>by rw[lsm,lsm_const l,List.length_cons,Rat.natCast_add,Rat.add_comm];rfl
theorem sumR_const:∀n:Nat,sumR (fun _=>1) n=(n:Rat)
 |0=>rfl
 |n+1=>by rw[sumR,sumR_const n,Rat.natCast_add];rfl
theorem nod_most {n:Nat} {l:List Nat} (h:l.Nodup) (hl:∀x∈l,x<n):l.length≤n:=by
 have h1:=lsm_le (n:=n) (f:=fun _=>1) (fun _ _=>by decide) h hl
 rw[lsm_const,sumR_const] at h1
 exact_mod_cast h1
theorem sprQ_on {l:List Nat} {x:Nat→Rat} (hn:l.Nodup):∀ {m k:Nat},m≤l.length→k<m→sprQ l x m (l.getD k 0)=x k
 |m+1,k,hm,hk=>by
  show (if l.getD k 0=l.getD m 0 then x m else _)=_
  by_cases e:k=m
  ·rw[e,if_pos rfl]
  ·rw[if_neg fun h=>e ?_]
   ·exact sprQ_on hn (by omega) (by omega)
   ·have h1:l.getD k 0=l[k]'(by omega):=by rw[List.getD_eq_getElem?_getD,List.getElem?_eq_getElem (by omega)];rfl
    have h2:l.getD m 0=l[m]'(by omega):=by rw[List.getD_eq_getElem?_getD,List.getElem?_eq_getElem (by omega)];rfl
    exact nodup_at hn (by omega) (by omega) (by rw[←h1,←h2];exact h)
theorem sprQ_off {l:List Nat} {x:Nat→Rat} {i:Nat} (hi:i∉l):∀ {m:Nat},m≤l.length→sprQ l x m i=0
 |0,_=>rfl
 |m+1,hm=>by
  show (if i=l.getD m 0 then x m else _)=_
  rw[if_neg fun h=>hi (by rw[h];exact getD_mem (by omega))]
  exact sprQ_off hi (by omega)
def hitQ (n:Nat) (P:Nat→Nat→Rat) (S:List Nat) (t i:Nat):Rat:=if i∈S.take t then 1 else sprQ (opN n (cmsB n P) S) (fun k=>elm (hM P (opN n (cmsB n P) S) S) (opN n (cmsB n P) S).length k (opN n (cmsB n P) S).length) (opN n (cmsB n P) S).length i
theorem hM_wt {n:Nat} {P:Nat→Nat→Rat} {S:List Nat} (hc:Chn n P) (hS:∀x∈S,x<n):Wt (opN n (cmsB n P) S).length 0 (hM P (opN n (cmsB n P) S) S):=
 wt_hits hc (opN_nodup _ _ _) (fun x hx=>(opN_mem.1 hx).1) (fun x hx=>by
  obtain⟨_,⟨j,hj,hc⟩,_⟩:=opN_mem.1 hx
  exact⟨j,hS j hj,fun e=>(opN_mem.1 e).2.2 hj,hc⟩) fun k _ c hc'=>if_pos hc'
theorem opN_four {P:Nat→Nat→Rat} {n:Nat} {S:List Nat} (hn:n≤5) (hS:∀x∈S,x<n) (hd:S.Nodup):(opN n (cmsB n P) S).length≤4∧S.length≤5:=by
 have h1:((opN n (cmsB n P) S)++S).Nodup:=by
  rw[List.nodup_append]
  exact⟨opN_nodup _ _ _,hd,fun x hx y hy e=>(opN_mem.1 hx).2.2 (by rw[e];exact hy)⟩
 have h2:=nod_most h1 fun x hx=>by
  rcases List.mem_append.1 hx with h |h
  ·exact(opN_mem.1 h).1
  ·exact hS x h
 rw[List.length_append] at h2
 by_cases h:(opN n (cmsB n P) S).length=0
 ·omega
 ·have h3:∃x,x∈opN n (cmsB n P) S:=List.exists_mem_of_length_pos (by omega)
  obtain⟨x,hx⟩:=h3
  obtain⟨_,⟨j,hj,_⟩,_⟩:=opN_mem.1 hx
  have:=List.length_pos_of_mem hj
  omega
set_option maxRecDepth 100000 in
set_option maxHeartbeats 2000000 in
theorem chHits_any (a b:Option Addr) (ca cb n:Nat) (X:Nat→Nat→Fr) (S:List Nat) (w:World) (hR:FsS w a (mF n X)) (hS:IntS w b (iL S)) (hm:ChX n X) (hr:S.Pairwise (·<·)) (hb:∀x∈S,x<n):
  Calls Tryz.prog 20 #[.slice a n ca,.slice b S.length cb] w fun e w'=>∃G,e=.returned (.tuple #[.slice (some ⟨G,0,none⟩) n n,.int .i64 0])∧w.heap.size≤G∧RowF w' G (lF n (hitQ n (rowQ X) S S.length))∧Below w.heap.size w w':=by
 have hd:S.Nodup:=hr.imp fun h=>Nat.ne_of_lt h
 have h4:=opN_four (P:=rowQ X) hm.five hb hd
 have h1:=hm.one
 have h5:=hm.five
 have hw:=hM_wt hm.chn hb
 have HCK:=hid (fun (U:World) (hU:FsS U a (mF n X))=>chCheck_yes a ca n (mF n X) U hU hm.ok h1 (by omega))
 have HRI:=hid (fun (U:World) (hU:IntS U b (iL S))=>chRises_yes b cb n S U hU hr hb (by omega) (by omega))
 have HCO:=hid (fun (U:World) (hU:FsS U a (mF n X))=>chComes_any a ca n (mF n X) (rowQ X) U hU (mF_length n X) hm.lst (by omega))
 have HCG:=hid (fun (B G:Nat) (Rw:Nat→Nat) (U:World) (hM:BMt U B G n n Rw (cmsB n (rowQ X))) (hU:IntS U b (iL S))=>chComing_any B G n cb Rw (cmsB n (rowQ X)) b S U hM hU hb (by omega) (by omega))
 have HHF:=hid (fun (d:Option Addr) (cd:Nat) (U:World) (hU:FsS U a (mF n X)) (hl:IntS U d (iL (opN n (cmsB n (rowQ X)) S))) (hs:IntS U b (iL S))=>chHits_from a d b ca cd cb n (opN n (cmsB n (rowQ X)) S).length X (opN n (cmsB n (rowQ X)) S) S U hU hl hs rfl (fun x hx=>(opN_mem.1 hx).1) hb (opN_nodup _ _ _) hm (fun j hj=>by have:=(hw.all j (by omega)).pivot hj;grind) h4.1 h4.2)
 have HSP:=hid (fun (d e:Option Addr) (cd ce:Nat) (U:World) (hl:IntS U d (iL (opN n (cmsB n (rowQ X)) S))) (x:Nat→Rat) (hx:FrS U e (lF (opN n (cmsB n (rowQ X)) S).length x))=>chSpread_any d e cd ce n (opN n (cmsB n (rowQ X)) S).length (opN n (cmsB n (rowQ X)) S) x U hl hx rfl (fun x hx=>(opN_mem.1 hx).1) h1 (by omega) (by omega))
 have HH0:Hid ((lF n (sprQ (opN n (cmsB n (rowQ X)) S) (fun k=>elm (hM (rowQ X) (opN n (cmsB n (rowQ X)) S) S) (opN n (cmsB n (rowQ X)) S).length k (opN n (cmsB n (rowQ X)) S).length) (opN n (cmsB n (rowQ X)) S).length))=lF n (hitQ n (rowQ X) S 0)):=lF_congr fun i _=>by
  show _=if i∈S.take 0 then _ else _
  rw[if_neg (by simp)]
 have HO1:=hid (fun V:World=>fOf_q (k:=1) (w:=V) 1 1 rfl (by decide) (by rfl))
 have HHS:Hid (∀t (ht:t<S.length),(lF n (hitQ n (rowQ X) S t)).set S[t] (qF 1)=lF n (hitQ n (rowQ X) S (t+1))):=fun t ht=>by
  rw[lF_set]
  refine lF_congr fun i _=>?_
  show (if i=S[t] then 1 else if i∈S.take t then 1 else _)=if i∈S.take (t+1) then 1 else _
  rw[List.take_succ_eq_append_getElem ht]
  by_cases e:i=S[t]
  ·rw[if_pos e,if_pos (List.mem_append_right _ (List.mem_singleton.2 e))]
  ·rw[if_neg e]
   by_cases e2:i∈S.take t
   ·rw[if_pos e2,if_pos (List.mem_append_left _ e2)]
   ·rw[if_neg e2,if_neg fun h=>(List.mem_append.1 h).elim e2 fun h=>e (List.mem_singleton.1 h)]
 have HR:=hid hR
 have HV:=hid hS
 have HB:=hid hb
 clear hR hS hr hb hd hw hm
 generalize hope:(opN n (cmsB n (rowQ X)) S)=op at *
 clear hope
 obtain⟨h4,hS5⟩:=h4
 generalize hitQ n (rowQ X) S=hq at *
 generalize hxx:(fun k=>elm (hM (rowQ X) op S) op.length k op.length)=xx at *
 clear hxx
 go_enter Tryz.func20,Tryz.ntmps20
 go_wp2_with fail
 refine(HCK.out _ HR.out).mono ?_
 rintro e w1 ⟨rfl,hb1⟩
 have HB1:=hid hb1
 clear hb1 HCK
 go_wp2_with fail
 refine(HRI.out _ (HV.out.below HB1.out)).mono ?_
 rintro e w2 ⟨rfl,hb2⟩
 have HB2:=hid (HB1.out.trans (hb2.mono HB1.out.size))
 clear hb2 HRI HB1
 go_wp2_with fail
 refine(HCO.out _ (HR.out.below HB2.out)).mono ?_
 rintro e w3 ⟨G,Rw,rfl,hm3,hb3⟩
 have HB3:=hid (HB2.out.trans (hb3.mono HB2.out.size))
 have HM3:=hid hm3
 clear hb3 hm3 HCO
 go_wp2_with fail
 refine(HCG.out _ G Rw _ HM3.out (HV.out.below HB3.out)).mono ?_
 rintro e w4 ⟨x,rfl,hr4,hb4⟩
 obtain⟨d4,c4,rfl,hi4⟩:=RwI.ints hr4
 rw[iL_length] at hr4⊢
 have HB4:=hid (HB3.out.trans (hb4.mono HB3.out.size))
 have HI4:=hid hi4
 clear hb4 hi4 hr4 HCG HM3
 generalize op.length=m at *
 go_wp2_with fail
 refine(HHF.out d4 c4 _ (HR.out.below HB4.out) HI4.out (HV.out.below HB4.out)).mono ?_
 rintro e w5 ⟨S5,rfl,hS5',hr5,hb5⟩
 have HB5:=hid (HB4.out.trans (hb5.mono HB4.out.size))
 have HI5:=hid (HI4.out.below hb5)
 have HR5:=hid hr5
 clear hb5 hr5 hS5' HHF HI4
 go_wp2_with fail
 refine(HSP.out d4 (some ⟨S5,0,none⟩) c4 m _ HI5.out xx HR5.out.fr).mono ?_
 rintro e w6 ⟨G6,rfl,hG6,hr6,hb6⟩
 rw[HH0.out] at hr6
 have HG6:Hid (w.heap.size≤G6):=Nat.le_trans HB5.out.size hG6
 have HK0:Hid (MF w G6 (lF n (hq 0)) w6):=⟨hr6,HB5.out.trans (hb6.mono HB5.out.size)⟩
 clear hb6 hr6 hG6 HSP HR5 HI5 HH0
 go_wp2_with fail
 go_loopw [35] (fun iv wr=>∃t:Nat,t≤S.length∧iv=.int .i64 t∧Hid (MF w G6 (lF n (hq t)) wr)) (fun iv _=>S.length - (intOf iv).toNat)
 case atStart=>exact⟨0,Nat.zero_le _,rfl,HK0⟩
 case round=>
  obtain⟨t,ht,rfl,HK⟩:=hrel
  clear HK0
  by_cases hlt:t<S.length
  ·have hti:t<(iL S).length:=by rw[iL_length];exact hlt
   obtain⟨g,o,rfl,hg,c0⟩:=(HV.out.below HK.out.bel) t hti
   rw[iL_get hlt] at c0
   have hy:=HB.out S[t] (List.getElem_mem hlt)
   have HE:=hid (HHS.out t hlt)
   generalize S[t]=y at *
   go_wp2_with fail
   refine(HO1.out _).mono ?_
   rintro e w7 ⟨rfl,hb7⟩
   replace HK:=hid (HK.out.step hb7)
   have HPW:=hid (HK.out.put HG6.out y (qF 1))
   rw[HE.out] at HPW
   obtain⟨k0,k1,k2⟩:=HK.out.row.cells y (by rw[lF_length];exact hy)
   have f0:=HK.out.row.fz (y*3)
   have f1:=HK.out.row.fz (y*3+1)
   have f2:=HK.out.row.fz (y*3+2)
   generalize (lF n (hq t))[y]'(by rw[lF_length];exact hy)=z at *
   obtain⟨zn,zx,zy⟩:=z
   simp only at k0 k1 k2
   have HPW2:Hid (MF w G6 (lF n (hq (t+1))) (((w7.setCell ⟨G6,y*3,none⟩ (.bool (sgn 1))).setCell ⟨G6,y*3+1,none⟩ (.string (nu 1))).setCell ⟨G6,y*3+2,none⟩ (.string (de 1)))):=HPW.out
   generalize sgn 1=on at *
   generalize nu 1=ox at *
   generalize de 1=oy at *
   clear HE HK HPW hb7 c0
   go_wp2
   go_roundw
   case rel=>exact⟨t+1,by omega,by go_num,HPW2⟩
   case measure=>simp[intOf];omega
  ·obtain rfl:t=S.length:=by omega
   go_wp2
   go_ret2
   exact⟨G6,rfl,HG6.out,HK.out.row,HK.out.bel⟩
end Go.Proofs.YtmbjmiioggfneaaGreatDoor

/- Chains, plainly: what is still in a closed class. -/
namespace Go.Proofs.YtmbjmiioggfneaaGreatDoor
def sM (P:Nat→Nat→Rat) (l:List Nat) (k c:Nat):Rat:=if k=l.length - 1 then 1 else if c<l.length then P (l.getD c 0) (l.getD k 0) - (if k=c then 1 else 0) else 0
def stX (P:Nat→Nat→Rat) (l:List Nat) (k:Nat):Rat:=elm (sM P l) l.length k l.length
structure Cls (n:Nat) (P:Nat→Nat→Rat) (l:List Nat):Prop where
 nd:l.Nodup
 lt:∀x∈l,x<n
 ne:1≤l.length
 shut:∀x∈l,∀y,y<n→0<P x y→y∈l
 com:∀x∈l,∀y∈l,cmsB n P x y=true
theorem Cls.stl {n:Nat} {P:Nat→Nat→Rat} {l:List Nat} (h:Cls n P l) (hc:Chn n P):Stl l.length 0 (sM P l):=
 stl_class hc h.nd h.lt h.ne h.shut h.com (fun k hk c hcl=>by
  show (if k=l.length - 1 then _ else _)=_
  rw[if_neg (by omega),if_pos hcl]) fun c _=>if_pos rfl
theorem Cls.piv {n:Nat} {P:Nat→Nat→Rat} {l:List Nat} (h:Cls n P l) (hc:Chn n P):∀j,j<l.length→elm (sM P l) j j j≠0:=fun j hj=>by
 have hs:=(h.stl hc).all j (by omega)
 by_cases e:j=l.length - 1
 ·have h1:=hs.last j (Nat.le_refl _) hj
  rw[←e] at h1
  grind
 ·have h1:=hs.wt.pivot (by omega)
  grind
theorem Cls.sol {n:Nat} {P:Nat→Nat→Rat} {l:List Nat} (h:Cls n P l) (hc:Chn n P):Sol l.length (sM P l) (stX P l):=(h.stl hc).solves h.ne
theorem Cls.sum {n:Nat} {P:Nat→Nat→Rat} {l:List Nat} (h:Cls n P l) (hc:Chn n P):sumR (stX P l) l.length=1:=by
 have h1:=h.sol hc (l.length - 1) (by have:=h.ne;omega)
 have e1:sM P l (l.length - 1) l.length=1:=if_pos rfl
 rw[e1,sumR_congr (g:=stX P l) fun j _=>by
  have e2:sM P l (l.length - 1) j=1:=if_pos rfl
  rw[e2,Rat.one_mul]] at h1
 exact h1
theorem Cls.tot {n:Nat} {P:Nat→Nat→Rat} {l:List Nat} (h:Cls n P l) (hc:Chn n P) {k:Nat} (hk:k<l.length):sumR (fun c=>P (l.getD k 0) (l.getD c 0)) l.length=1:=by
 have hm:=getD_mem hk
 rw[lsm_at (P (l.getD k 0)) l,lsm_all (fun j hj=>hc.low _ j (h.lt _ hm) hj) h.nd h.lt fun j hj hjl=>?_]
 ·exact hc.one _ (h.lt _ hm)
 ·have h0:=hc.low _ j (h.lt _ hm) hj
  by_cases e:0<P (l.getD k 0) j
  ·exact absurd (h.shut _ hm j hj e) hjl
  ·grind
theorem Cls.one {n:Nat} {P:Nat→Nat→Rat} {l:List Nat} (h:Cls n P l) (hc:Chn n P) {k:Nat} (hk:k<l.length - 1):sumR (fun c=>stX P l c*P (l.getD c 0) (l.getD k 0)) l.length=stX P l k:=by
 have h1:=h.sol hc k (by omega)
 have e1:sM P l k l.length=0:=by
  show (if k=l.length - 1 then _ else if l.length<l.length then _ else _)=_
  rw[if_neg (by omega),if_neg (Nat.lt_irrefl _)]
 have e2:sumR (fun j=>sM P l k j*stX P l j) l.length=sumR (fun c=>stX P l c*P (l.getD c 0) (l.getD k 0)) l.length - stX P l k:=by
  rw[←sumR_one (stX P l) (show k<l.length by omega),←sumR_sub]
  refine sumR_congr fun c hcl=>?_
  have e3:sM P l k c=P (l.getD c 0) (l.getD k 0) - (if k=c then 1 else 0):=by
   show (if k=l.length - 1 then _ else if c<l.length then _ else _)=_
   rw[if_neg (by omega),if_pos hcl]
  rw[e3]
  grind
 rw[e1,e2] at h1
 generalize sumR (fun c=>stX P l c*P (l.getD c 0) (l.getD k 0)) l.length=A at *
 generalize stX P l k=B at *
 clear e2 e1
 grind
theorem Cls.still {n:Nat} {P:Nat→Nat→Rat} {l:List Nat} (h:Cls n P l) (hc:Chn n P) {k:Nat} (hk:k<l.length):sumR (fun c=>stX P l c*P (l.getD c 0) (l.getD k 0)) l.length=stX P l k:=by
 by_cases hk1:k<l.length - 1
 ·exact h.one hc hk1
 ·obtain rfl:k=l.length - 1:=by omega
  obtain⟨m,hm⟩:∃m,l.length=m+1:=⟨l.length - 1,by omega⟩
  have e1:sumR (fun k=>sumR (fun c=>stX P l c*P (l.getD c 0) (l.getD k 0)) l.length) l.length=1:=by
   rw[sumR_swap,sumR_congr (g:=stX P l) fun c hcl=>?_]
   ·exact h.sum hc
   ·rw[sumR_mul,h.tot hc hcl,Rat.mul_one]
  have e2:=h.sum hc
  rw[hm] at e1 e2⊢
  rw[sumR] at e1 e2
  have e3:sumR (fun k=>sumR (fun c=>stX P l c*P (l.getD c 0) (l.getD k 0)) (m+1)) m=sumR (stX P l) m:=sumR_congr fun k hk=>by
   have:=h.one hc (k:=k) (by omega)
   rw[hm] at this
   exact this
  rw[e3] at e1
  show _=stX P l (m+1 - 1)
  rw[Nat.add_sub_cancel]
  generalize sumR (fun c=>stX P l c*P (l.getD c 0) (l.getD m 0)) (m+1)=A at *
  generalize sumR (stX P l) m=B at *
  generalize stX P l m=C at *
  clear e3
  grind
theorem Cls.pos {n:Nat} {P:Nat→Nat→Rat} {l:List Nat} (h:Cls n P l) (hc:Chn n P):∀k,k<l.length→0<stX P l k:=by
 refine still_pos (Q:=fun i j=>P (l.getD i 0) (l.getD j 0)) (fun i j hi hj=>hc.low _ _ (h.lt _ (getD_mem hi)) (h.lt _ (getD_mem hj))) (fun i hi=>h.tot hc hi) (fun C hC hD=>?_) (fun j hj=>h.still hc hj) (h.sum hc)
 obtain⟨i,hi,hCi⟩:=hC
 obtain⟨j,hj,hDj⟩:=hD
 refine Classical.byContradiction fun hno=>?_
 have hs:=cms_shut (S:=fun x=>∃k,k<l.length∧C k∧l.getD k 0=x) (fun a b _ hb ⟨k,hk,hCk,e⟩ hp=>by
  subst e
  obtain⟨m,hm,em⟩:=getD_of (h.shut _ (getD_mem hk) b hb hp)
  by_cases hCm:C m
  ·exact⟨m,hm,hCm,em⟩
  ·exact absurd ⟨k,m,hk,hm,hCk,hCm,by rw[em];exact hp⟩ hno) (h.lt _ (getD_mem hi)) (h.lt _ (getD_mem hj)) ⟨i,hi,hCi,rfl⟩ (h.com _ (getD_mem hi) _ (getD_mem hj))
 obtain⟨k,hk,hCk,e⟩:=hs
 have e':k=j:=by
  rw[List.getD_eq_getElem?_getD,List.getD_eq_getElem?_getD,List.getElem?_eq_getElem hk,List.getElem?_eq_getElem hj] at e
  exact nodup_at h.nd hk hj e
 exact hDj (e'▸hCk)
def stQ (P:Nat→Nat→Rat) (l:List Nat) (i:Nat):Rat:=sprQ l (stX P l) l.length i
theorem stQ_on {n:Nat} {P:Nat→Nat→Rat} {l:List Nat} (h:Cls n P l) {k:Nat} (hk:k<l.length):stQ P l (l.getD k 0)=stX P l k:=sprQ_on h.nd (Nat.le_refl _) hk
theorem stQ_off {P:Nat→Nat→Rat} {l:List Nat} {i:Nat} (hi:i∉l):stQ P l i=0:=sprQ_off hi (Nat.le_refl _)
theorem Cls.low {n:Nat} {P:Nat→Nat→Rat} {l:List Nat} (h:Cls n P l) (hc:Chn n P) (i:Nat):0≤stQ P l i:=by
 by_cases e:i∈l
 ·obtain⟨k,hk,rfl⟩:=getD_of e
  rw[stQ_on h hk]
  exact Rat.le_of_lt (h.pos hc k hk)
 ·rw[stQ_off e];exact Rat.le_refl
theorem Cls.all {n:Nat} {P:Nat→Nat→Rat} {l:List Nat} (h:Cls n P l) (hc:Chn n P) (f:Nat→Rat) (hf:∀i,i<n→0≤f i):sumR (fun i=>stQ P l i*f i) n=sumR (fun k=>stX P l k*f (l.getD k 0)) l.length:=by
 rw[←lsm_all (f:=fun i=>stQ P l i*f i) (fun i hi=>Rat.mul_nonneg (h.low hc i) (hf i hi)) h.nd h.lt fun j _ hj=>by rw[stQ_off hj,Rat.zero_mul],←lsm_at]
 exact sumR_congr fun k hk=>by rw[stQ_on h hk]
theorem Cls.stays {n:Nat} {P:Nat→Nat→Rat} {l:List Nat} (h:Cls n P l) (hc:Chn n P) {j:Nat} (hj:j<n):sumR (fun i=>stQ P l i*P i j) n=stQ P l j:=by
 rw[h.all hc (fun i=>P i j) fun i hi=>hc.low i j hi hj]
 by_cases e:j∈l
 ·obtain⟨k,hk,rfl⟩:=getD_of e
  rw[stQ_on h hk]
  exact h.still hc hk
 ·have hz:∀k,k<l.length→stX P l k*P (l.getD k 0) j=0:=fun k hk=>by
   have h0:=hc.low _ j (h.lt _ (getD_mem hk)) hj
   by_cases e2:0<P (l.getD k 0) j
   ·exact absurd (h.shut _ (getD_mem hk) j hj e2) e
   ·have:P (l.getD k 0) j=0:=by grind
    rw[this,Rat.mul_zero]
  have h0:∀m,sumR (fun _=>(0:Rat)) m=0:=fun m=>by
   induction m with
   |zero=>rfl
   |succ m ih=>rw[sumR,ih,Rat.zero_add]
  rw[stQ_off e,sumR_congr (g:=fun _=>0) hz]
  exact h0 _
theorem Cls.whole {n:Nat} {P:Nat→Nat→Rat} {l:List Nat} (h:Cls n P l) (hc:Chn n P):sumR (stQ P l) n=1:=by
 have h1:=h.all hc (fun _=>1) fun _ _=>by decide
 rw[sumR_congr (g:=stQ P l) fun i _=>Rat.mul_one _,sumR_congr (g:=stX P l) fun i _=>Rat.mul_one _,h.sum hc] at h1
 exact h1
end Go.Proofs.YtmbjmiioggfneaaGreatDoor
