/- The answer's trees. -/
import Derived.Test.YtmbjmiioggfneaaGreatDoorTrnDCxStlE
import Derived.Test.YtmbjmiioggfneaaGreatDoorMadDCxCeyB
namespace Go.Proofs.YtmbjmiioggfneaaGreatDoor
open Go.RowKit Go.Shelf
def clP (X:Nat→Nat→Fr) (l:List Nat):Nat→Nat→Rat:=fun i c=>rowQ X (l.getD i 0) (l.getD c 0)
theorem rwI_ints {w:World} {B:Nat} {v:Value} {l:List Int} (h:RwI w B v l):∃d cd,v=.slice d l.length cd∧IntS w d l∧(d=none→cd=0):=by
 obtain⟨d,cd,e,hi⟩:=RwI.ints h
 refine⟨d,cd,e,hi,fun hn=>?_⟩
 subst hn
 rcases h.2 with ⟨e',_⟩ |⟨g,cap,cur,e',_⟩
 ·rw[e'] at e;injection e with _ _ e3;exact e3.symm
 ·rw[e'] at e;injection e with e1;cases e1
theorem one_intT (w:World) (x:Int):IntS (w.alloc (.cells #[.int .i64 x] 3)) (some ⟨w.heap.size,0,none⟩) [x]:=fun k hk=>by
 have hk0:k=0:=by simpa using hk
 subst hk0
 refine⟨w.heap.size,0,rfl,by rw[World.size_alloc];omega,?_⟩
 rw[cell_of_row _ _ _ _ _ (0,0) (heap_alloc_new w _)]
 rfl
theorem ints_at {w:World} {b:Option Addr} {l:List Nat} {i:Nat} (h:IntS w b (iL l)) (hi:i<l.length):∃g o,b=some ⟨g,o,none⟩∧g<w.heap.size∧w.cell? ⟨g,o+i,none⟩=some (.int .i64 (l.getD i 0:Nat)):=by
 have hi':i<(iL l).length:=by rw[iL_length];exact hi
 obtain⟨g,o,e,hg,c⟩:=h i hi'
 rw[iL_get hi] at c
 refine⟨g,o,e,hg,?_⟩
 rw[c,List.getD_eq_getElem?_getD,List.getElem?_eq_getElem hi]
 rfl
theorem rZeroR (f:Fr) (U:World) (hq:fz f≤50000):Calls Tryz.prog 80 #[.agg #[.bool f.1,.string f.2.1,.string f.2.2]] U fun e w'=>e=.returned (.bool (decide (frQ f=0)))∧Below U.heap.size U w':=rZero_any f.1 f.2.1 f.2.2 U hq
theorem getD_inj {l:List Nat} (h:l.Nodup) {i j:Nat} (hi:i<l.length) (hj:j<l.length):l.getD i 0=l.getD j 0↔i=j:=by
 constructor
 ·intro e
  rw[List.getD_eq_getElem?_getD,List.getD_eq_getElem?_getD,List.getElem?_eq_getElem hi,List.getElem?_eq_getElem hj] at e
  exact nodup_at h hi hj e
 ·intro e;rw[e]
set_option maxRecDepth 100000 in
set_option maxHeartbeats 4000000 in
theorem rTrees_leaf (a b d:Option Addr) (ca cb cd N n r:Nat) (l next:List Nat) (p:Nat→Nat→Rat) (w:World) (hln:l.length=n) (hnd:l.Nodup) (hr:r<n) (hl:next.length=n) (hnx:∀x∈next,x<n) (hI:IntS w b (iL l)) (hN:IntS w d (iL next)) (h5:n≤5):
  Calls Tryz.prog 46 #[.slice a N ca,.slice b n cb,.int .i64 (l.getD r 0:Nat),.int .i64 (n:Nat),.slice d n cd] w fun e w'=>e=.returned (.agg #[.bool (qF (trQ n p r 0 next)).1,.string (qF (trQ n p r 0 next)).2.1,.string (qF (trQ n p r 0 next)).2.2])∧Below w.heap.size w w':=by
 have HRES1:Hid (okR n r next=true→trQ n p r 0 next=1):=fun h=>by rw[trQ,h];rfl
 have HRES0:Hid ((∃i,i<n∧itR r next n i≠r)→trQ n p r 0 next=0):=fun ⟨i,hi,hne⟩=>by
  have h9:okR n r next=false:=by
   cases e:okR n r next with
   |false=>rfl
   |true=>exact absurd (okR_iff.1 e i hi) hne
  rw[trQ,h9]
  rfl
 generalize trQ n p r 0 next=tq at *
 obtain⟨gl,ol,rfl,hgl, -⟩:=ints_at (i:=0) hI (by omega)
 obtain⟨gn,on,rfl,hgn, -⟩:=ints_at (i:=0) hN (by omega)
 have HLC:Hid (∀i,i<n→∀U:World,Below w.heap.size w U→U.cell? ⟨gl,ol+i,none⟩=some (.int .i64 (l.getD i 0:Nat))):=fun i hi U hU=>by
  obtain⟨g,o,e,hg,c⟩:=ints_at hI (show i<l.length by omega)
  cases e
  exact(hU.cell (p:=⟨gl,_,none⟩) hg).trans c
 have HNC:Hid (∀i,i<n→∀U:World,Below w.heap.size w U→U.cell? ⟨gn,on+i,none⟩=some (.int .i64 (next.getD i 0:Nat))):=fun i hi U hU=>by
  obtain⟨g,o,e,hg,c⟩:=ints_at hN (show i<next.length by omega)
  cases e
  exact(hU.cell (p:=⟨gn,_,none⟩) hg).trans c
 have HND:Hid (∀c,c<n→(l.getD c 0=l.getD r 0↔c=r)):=fun c hc=>getD_inj hnd (by omega) (by omega)
 have HNL:Hid (∀c,c<n→next.getD c 0<n):=fun c hc=>hnx _ (getD_mem (by omega))
 have HO0:=hid (fun V:World=>rOf_zero V)
 have HO1:=hid (fun V:World=>rOf_one V)
 have hA:=(Below.refl w.heap.size w).alloc (Nat.le_refl _) (FC false ⟨#[]⟩ ⟨#[]⟩)
 have hX:=Box.new w false ⟨#[]⟩ ⟨#[]⟩
 clear hI hN hnd hnx hln hl hgl hgn
 generalize l.getD r 0=lr at *
 go_enter Tryz.func46,Tryz.ntmps46
 go_upto_region 2 with fail
 generalize (w.alloc (FC false ⟨#[]⟩ ⟨#[]⟩))=W1 at *
 have HA:=hid hA
 have HX:=hid hX
 clear hA hX
 go_wp2_with fail
 go_loopw [11] (fun iv wr=>∃i:Nat,i≤n∧iv=.int .i64 i∧Hid (∀i',i'<i→itR r next n i'=r)∧W1=wr) (fun iv _=>n - (intOf iv).toNat)
 case atStart=>exact⟨0,Nat.zero_le _,rfl,fun i' h=>absurd h (by omega),rfl⟩
 case round=>
  obtain⟨i,hi,rfl,HOK,rfl⟩:=hrel
  by_cases hlt:i<n
  ·have HI0:Hid (itR r next 0 i=i):=rfl
   go_wp2_with fail
   go_loopw [12,13] (fun kv tv wr=>∃c t:Nat,c<n∧t≤n∧kv=.int .i64 c∧tv=.int .i64 t∧Hid (itR r next t i=c)∧W1=wr) (fun _ tv _=>n - (intOf tv).toNat)
   case atStart=>exact⟨i,0,hlt,Nat.zero_le _,rfl,rfl,HI0,rfl⟩
   case round=>
    clear HI0
    obtain⟨c,t,hc,ht,rfl,rfl,HIT,rfl⟩:=hrel
    have c0:=HLC.out c hc W1 HA.out
    have hnd:=HND.out c hc
    by_cases hcr:c=r
    ·have HON:Hid (∀i',i'<i+1→itR r next n i'=r):=fun i' h=>by
      by_cases e:i'=i
      ·rw[e];exact itR_end (HIT.out.trans hcr) ht
      ·exact HOK.out i' (by omega)
     have hlc:((l.getD c 0:Nat):Int)=(lr:Int):=by rw[hnd.2 hcr]
     rw[hlc] at c0
     clear hlc hnd HIT hcr
     by_cases htn:t<n
     ·go_wp2
      go_roundw
      case rel=>exact⟨i+1,by omega,by go_num,HON,trivial⟩
      case measure=>simp[intOf];omega
     ·go_wp2
      go_roundw
      case rel=>exact⟨i+1,by omega,by go_num,HON,trivial⟩
      case measure=>simp[intOf];omega
    ·have hlc:¬((l.getD c 0:Nat):Int)=(lr:Int):=fun e=>hcr (hnd.1 (by omega))
     generalize l.getD c 0=lc at *
     by_cases htn:t<n
     ·have HIS:Hid (itR r next (t+1) i=next.getD c 0):=by
       show _=_
       rw[itR_last,HIT.out,stpR,if_neg hcr]
      have d0:=HNC.out c hc W1 HA.out
      have hnl:=HNL.out c hc
      generalize next.getD c 0=nc at *
      go_wp2
      go_roundw
      case rel=>exact⟨nc,t+1,hnl,by omega,rfl,by go_num,HIS,trivial⟩
      case measure=>simp[intOf];omega
     ·obtain rfl:t=n:=by omega
      have HR0:Hid (tq=0):=HRES0.out ⟨i,hlt,by rw[HIT.out];exact hcr⟩
      clear HRES0 HRES1 HOK HIT hnd
      go_wp2_with fail
      refine(HO0.out _).mono ?_
      rintro e V ⟨rfl,hb⟩
      have HX1:=hid (HX.out.below hb HX.out.lt)
      have HA1:=hid (HA.out.trans (hb.mono HA.out.size))
      obtain⟨k0,k1,k2⟩:=HX1.out.trio
      have f0:=HX1.out.fz 0
      have f1:=HX1.out.fz 1
      have f2:=HX1.out.fz 2
      have HX9:=hid (HX1.out.put (sgn 0) (nu 0) (de 0))
      have HW9:=hid (((HA1.out.setCell (p:=⟨w.heap.size,0,none⟩) (Nat.le_refl _) (.bool (sgn 0))).setCell (p:=⟨w.heap.size,1,none⟩) (Nat.le_refl _) (.string (nu 0))).setCell (p:=⟨w.heap.size,2,none⟩) (Nat.le_refl _) (.string (de 0)))
      clear hb HX1 HA1
      go_wp2
      refine bodyPost_ret (HX9.out.result rfl _ rfl) rfl ?_
      exact⟨by rw[HR0.out];rfl,HW9.out⟩
  ·obtain rfl:n=i:=by omega
   have HR1:Hid (tq=1):=HRES1.out (okR_iff.2 HOK.out)
   clear HRES0 HRES1 HOK
   go_wp2_with fail
   refine(HO1.out _).mono ?_
   rintro e V ⟨rfl,hb⟩
   have HX1:=hid (HX.out.below hb HX.out.lt)
   have HA1:=hid (HA.out.trans (hb.mono HA.out.size))
   obtain⟨k0,k1,k2⟩:=HX1.out.trio
   have f0:=HX1.out.fz 0
   have f1:=HX1.out.fz 1
   have f2:=HX1.out.fz 2
   have HX9:=hid (HX1.out.put (sgn 1) (nu 1) (de 1))
   have HW9:=hid (((HA1.out.setCell (p:=⟨w.heap.size,0,none⟩) (Nat.le_refl _) (.bool (sgn 1))).setCell (p:=⟨w.heap.size,1,none⟩) (Nat.le_refl _) (.string (nu 1))).setCell (p:=⟨w.heap.size,2,none⟩) (Nat.le_refl _) (.string (de 1)))
   clear hb HX1 HA1
   go_wp2
   refine bodyPost_ret (HX9.out.result rfl _ rfl) rfl ?_
   exact⟨by rw[HR1.out];rfl,HW9.out⟩
set_option maxRecDepth 100000 in
set_option maxHeartbeats 4000000 in
theorem rTrees_any (a b:Option Addr) (ca cb N n r:Nat) (X:Nat→Nat→Fr) (l:List Nat) (hm:ChX N X) (hln:l.length=n) (hnd:l.Nodup) (hlt:∀x∈l,x<N) (hr:r<n):∀(f at_:Nat) (next:List Nat) (d:Option Addr) (cd:Nat) (w:World),next.length=at_→at_+f=n→(∀x∈next,x<n)→FsS w a (mF N X)→IntS w b (iL l)→IntS w d (iL next)→(d=none→cd=0)→
  Calls Tryz.prog 46 #[.slice a N ca,.slice b n cb,.int .i64 (l.getD r 0:Nat),.int .i64 (at_:Nat),.slice d at_ cd] w fun e w'=>e=.returned (.agg #[.bool (qF (trQ n (clP X l) r f next)).1,.string (qF (trQ n (clP X l) r f next)).2.1,.string (qF (trQ n (clP X l) r f next)).2.2])∧Below w.heap.size w w':=by
 have h5:n≤5:=by rw[←hln];exact Nat.le_trans (nod_most hnd hlt) hm.five
 intro f
 induction f with
 |zero=>
  intro at_ next d cd w hla hn hnx hR hI hN hz
  obtain rfl:at_=n:=by omega
  exact rTrees_leaf a b d ca cb cd N at_ r l next (clP X l) w hln hnd hr hla hnx hI hN h5
 |succ f ih=>
  intro at_ next d cd w hla hn hnx hR hI hN hz
  have hat:at_<n:=by omega
  obtain⟨T,hT0,hT,hTw⟩:=hm.den
  have hpw:∀i,i<n→∀k,k<n→Whl T (clP X l i k):=fun i hi k hk=>hTw _ _ (hlt _ (getD_mem (by omega))) (hlt _ (getD_mem (by omega)))
  have hpa:∀i,i<n→∀k,k<n→Abs 1 (clP X l i k):=fun i hi k hk=>hm.chn.abs (hlt _ (getD_mem (by omega))) (hlt _ (getD_mem (by omega)))
  have HTQ:Hid (∀x,Fits 3505 (trQ n (clP X l) r f (next++[x]))):=fun x=>trQ_long (by omega) h5 hT0 hT hpw hpa (by rw[List.length_append,List.length_singleton];omega)
  have HGS:Hid (∀t,t≤n→Fits 3505 (sumR (fun k=>if k=at_ then 0 else trQ n (clP X l) r f (next++[k])*clP X l at_ k) t)):=fun t ht=>by
   have h9:=trQ_sums (r:=r) (f:=f) (next:=next) (by omega) h5 hT0 hT hpw hpa (by omega) ht
   rw[hla] at h9
   exact h9
  have HRT:Hid (at_=r→trQ n (clP X l) r (f+1) next=trQ n (clP X l) r f (next++[at_])):=fun e=>by rw[trQ,if_pos (by omega),hla]
  have HRS:Hid (¬at_=r→trQ n (clP X l) r (f+1) next=sumR (fun k=>if k=at_ then 0 else trQ n (clP X l) r f (next++[k])*clP X l at_ k) n):=fun e=>by rw[trQ,if_neg (by omega),hla]
  have HIH:Hid (∀x,x<n→∀(d8:Option Addr) (cd8:Nat) (U:World),Below w.heap.size w U→IntS U d8 (iL next++[((x:Nat):Int)])→(d8=none→cd8=0)→Calls Tryz.prog 46 #[.slice a N ca,.slice b n cb,.int .i64 (l.getD r 0:Nat),.int .i64 ((at_:Int)+1),.slice d8 (at_+1) cd8] U fun e w'=>e=.returned (.agg #[.bool (qF (trQ n (clP X l) r f (next++[x]))).1,.string (qF (trQ n (clP X l) r f (next++[x]))).2.1,.string (qF (trQ n (clP X l) r f (next++[x]))).2.2])∧Below U.heap.size U w'):=fun x hx d8 cd8 U hU hI8 hz8=>by
   have h9:=ih (at_+1) (next++[x]) d8 cd8 U (by rw[List.length_append,List.length_singleton];omega) (by omega) (fun y hy=>by
    rcases List.mem_append.1 hy with h |h
    ·exact hnx y h
    ·rw[List.mem_singleton.1 h];exact hx) (hR.below hU) (hI.below hU) (by rw[show iL (next++[x])=iL next++[((x:Nat):Int)] from List.map_append];exact hI8) hz8
   rw[show ((at_+1:Nat):Int)=(at_:Int)+1 by omega] at h9
   exact h9
  obtain⟨gl,ol,rfl,hgl, -⟩:=ints_at (i:=0) hI (by omega)
  have HLC:Hid (∀i,i<n→∀U:World,Below w.heap.size w U→U.cell? ⟨gl,ol+i,none⟩=some (.int .i64 (l.getD i 0:Nat))):=fun i hi U hU=>by
   obtain⟨g,o,e,hg,c⟩:=ints_at hI (show i<l.length by omega)
   cases e
   exact(hU.cell (p:=⟨gl,_,none⟩) hg).trans c
  have HND:Hid (∀c,c<n→(l.getD c 0=l.getD r 0↔c=r)):=fun c hc=>getD_inj hnd (by omega) (by omega)
  have HLN:Hid (∀c,c<n→l.getD c 0<N):=fun c hc=>hlt _ (getD_mem (by omega))
  have HNX:=hid (fun (U:World) (hU:Below w.heap.size w U)=>hN.below hU)
  have HLT:Hid ((iL next).length=at_):=by show _=_;rw[iL_length];exact hla
  have HMR:=hid (fun (U:World) (hU:Below w.heap.size w U)=>hR.below hU)
  have HFEW:=hid hm.few
  have HFIT:Hid (∀i j,i<N→j<N→Fits 701 (rowQ X i j)):=fun i j hi hj=>hm.fit hi hj
  have HZD:=hid hz
  have HPE:Hid (∀k,clP X l at_ k=frQ (X (l.getD at_ 0) (l.getD k 0))):=fun _=>rfl
  have HO0:=hid (fun V:World=>rOf_zero V)
  have hA:=(Below.refl w.heap.size w).alloc (Nat.le_refl _) (FC false ⟨#[]⟩ ⟨#[]⟩)
  have hX:=Box.new w false ⟨#[]⟩ ⟨#[]⟩
  clear ih hla hnx hR hI hN hz hpw hpa hTw hT hT0 hgl hnd hln hlt hm
  generalize iL next=WS at *
  generalize l.getD r 0=lr at *
  have HPG:Hid (∃P:Nat→Rat,P=fun k=>clP X l at_ k):=⟨_,rfl⟩
  obtain⟨P,hP⟩:=HPG.out
  have HPK:Hid (∀k,P k=clP X l at_ k):=fun k=>by rw[hP]
  clear hP HPG
  obtain⟨TQ,hTQ⟩:∃TQ:Nat→Rat,TQ=fun k=>trQ n (clP X l) r f (next++[k]):=⟨_,rfl⟩
  have hTQe:∀k,trQ n (clP X l) r f (next++[k])=TQ k:=fun k=>by rw[hTQ]
  simp only[hTQe] at HTQ HGS HRT HRS HIH
  clear hTQ hTQe
  obtain⟨G,hG⟩:∃G:Nat→Rat,G=fun k=>if k=at_ then 0 else TQ k*clP X l at_ k:=⟨_,rfl⟩
  have HGE:Hid (∀k,G k=if k=at_ then 0 else TQ k*clP X l at_ k):=fun k=>by rw[hG]
  rw[←hG] at HGS HRS
  clear hG
  have hcmp:¬(at_:Int)=(n:Int):=by omega
  have c0:=HLC.out at_ hat _ hA
  have hnd:=HND.out at_ hat
  have hlN:=HLN.out at_ hat
  obtain⟨la,hla⟩:∃x,l.getD at_ 0=x:=⟨_,rfl⟩
  rw[hla] at c0 hnd hlN HPE
  have HLA:=hid hla
  clear hla
  by_cases har:at_=r
  ·have hre:=HRT.out har
   rw[hre]
   have hlr:(la:Int)=(lr:Int):=by rw[hnd.2 har]
   clear hnd hre HRT HRS HGS HTQ HMR HFEW HFIT HPE HPK HGE HO0 har
   go_enter Tryz.func46,Tryz.ntmps46
   go_upto_region 14 with fail
   generalize (w.alloc (FC false ⟨#[]⟩ ⟨#[]⟩))=W1 at *
   have HBW:=hid hA
   have HX:=hid hX
   clear hA hX
   have hbe:Below W1.heap.size W1 (W1.alloc (.cells #[] 3)):=(Below.refl _ W1).alloc (Nat.le_refl _) _
   have hRe:RwI (W1.alloc (.cells #[] 3)) W1.heap.size (.slice (some ⟨W1.heap.size,0,none⟩) 0 0) []:=⟨rfl,.inr ⟨W1.heap.size,0, #[],rfl,Nat.le_refl _,heap_alloc_new _ _,Nat.le_refl _,Nat.zero_le _,rfl,rfl⟩⟩
   have HIe:=hid ((HNX.out _ HBW.out).below hbe)
   have HRe:=hid hRe
   have HBE:=hid hbe
   have hse:=hbe.size
   clear hbe hRe
   go_wp2_with (first
    |(at_builtin;refine wpList_append_ints rfl _ _ rfl W1.heap.size _ WS [((at_:Nat):Int)] rfl HR7.out (some ⟨w6.heap.size,0,none⟩) 1 rfl HO7.out (fun e=>by cases e) (by rw[HLT.out];simp;omega) HB7.out.size ?_;intro v8 w8 hr8 hg8;obtain⟨d8,cd8,rfl,hi8,hz8⟩:=rwI_ints hr8;have HB8:=hid (HB7.out.grown hg8 HB7.out.size (fun k e=>owns_from HR7.out k e));have HI8:=hid hi8;have HZ8:=hid hz8;rw[show (WS++[((at_:Nat):Int)]).length=at_+1 by rw[List.length_append,HLT.out];rfl];clear hr8 hg8 hi8 hz8)
    |(at_builtin;refine wpList_append_ints rfl _ _ rfl W1.heap.size _ [] WS rfl HRe.out d cd (by rw[HLT.out];rfl) HIe.out HZD.out (by rw[HLT.out];simp;omega) hse ?_;intro v6 w6 hr6 hg6;rw[List.nil_append] at hr6;obtain⟨d6,cd6,rfl, -⟩:=hr6.ints;have hb6:Below W1.heap.size W1 w6:=HBE.out.trans ((Below.refl _ _).grown hg6 hse (fun k e=>by cases e;exact Nat.le_refl _));have hbA:=(Below.refl w6.heap.size w6).alloc (Nat.le_refl _) (.cells #[.int .i64 (at_:Nat)] 3);have HR7:=hid (RwI.below hr6 hbA);have HB7:=hid (hb6.trans (hbA.mono hb6.size));have HO7:=hid (one_intT w6 (at_:Nat));clear hr6 hg6 hb6 hbA))
   refine(HIH.out at_ hat d8 cd8 _ (HBW.out.trans (HB8.out.mono HBW.out.size)) HI8.out HZ8.out).mono ?_
   rintro e V ⟨rfl,hb⟩
   have HB9:=hid (HBW.out.trans ((HB8.out.trans (hb.mono HB8.out.size)).mono HBW.out.size))
   have HX1:=hid (HX.out.below (HB8.out.trans (hb.mono HB8.out.size)) HX.out.lt)
   obtain⟨k0,k1,k2⟩:=HX1.out.trio
   have f0:=HX1.out.fz 0
   have f1:=HX1.out.fz 1
   have f2:=HX1.out.fz 2
   have HX9:=hid (HX1.out.put (qF (TQ at_)).1 (qF (TQ at_)).2.1 (qF (TQ at_)).2.2)
   have HW9:=hid (((HB9.out.setCell (p:=⟨w.heap.size,0,none⟩) (Nat.le_refl _) (.bool (qF (TQ at_)).1)).setCell (p:=⟨w.heap.size,1,none⟩) (Nat.le_refl _) (.string (qF (TQ at_)).2.1)).setCell (p:=⟨w.heap.size,2,none⟩) (Nat.le_refl _) (.string (qF (TQ at_)).2.2))
   clear hb HX1 HB9
   go_wp2
   refine bodyPost_ret (HX9.out.result rfl _ rfl) rfl ?_
   exact⟨rfl,HW9.out⟩
  ·have hre:=HRS.out har
   rw[hre]
   have hlr:¬(la:Int)=(lr:Int):=fun e=>har (hnd.1 (by omega))
   clear hnd hre HRT HRS
   go_enter Tryz.func46,Tryz.ntmps46
   go_upto_region 15 with fail
   generalize (w.alloc (FC false ⟨#[]⟩ ⟨#[]⟩))=W1 at *
   have HBW:=hid hA
   have HX:=hid hX
   clear hA hX c0
   go_wp2_with fail
   refine(HO0.out _).mono ?_
   rintro e V0 ⟨rfl,hbv⟩
   have HX0:Hid (Box (V0.alloc (FC (sgn 0) (nu 0) (de 0))) V0.heap.size (qF (sumR G 0)).1 (qF (sumR G 0)).2.1 (qF (sumR G 0)).2.2):=Box.new V0 (sgn 0) (nu 0) (de 0)
   have HBZ:Hid (Below V0.heap.size V0 (V0.alloc (FC (sgn 0) (nu 0) (de 0)))):=(Below.refl _ _).alloc (Nat.le_refl _) _
   have HBV:Hid (Below w.heap.size w V0):=HBW.out.trans (hbv.mono HBW.out.size)
   have HXV:=hid (HX.out.below hbv HX.out.lt)
   clear hbv HBW HX
   go_wp2_with fail
   generalize (V0.alloc (FC (sgn 0) (nu 0) (de 0)))=V1 at *
   obtain⟨gB,hgB⟩:∃x,V0.heap.size=x:=⟨_,rfl⟩
   have hltB:=HXV.out.lt
   rw[hgB] at HX0 HBZ hltB
   have HGE2:=hid hgB
   have HGV:Hid (gB≤V0.heap.size):=Nat.le_of_eq hgB.symm
   have HWG:Hid (w.heap.size≤gB):=Nat.le_of_lt hltB
   have HLB:=hid hltB
   simp only[hgB]
   clear hgB hltB
   go_loopw [15] (fun kv wr=>∃k:Nat,k≤n∧kv=.int .i64 k∧Hid (Box wr gB (qF (sumR G k)).1 (qF (sumR G k)).2.1 (qF (sumR G k)).2.2)∧Hid (Below gB V0 wr)) (fun kv _=>n - (intOf kv).toNat)
   case atStart=>exact⟨0,Nat.zero_le _,rfl,HX0,HBZ⟩
   case round=>
    clear HX0 HBZ
    obtain⟨k,hk,rfl,HS,HB⟩:=hrel
    by_cases hlk:k<n
    ·have hlkN:=HLN.out k hlk
     have HWr:Hid (Below w.heap.size w wr):=HBV.out.trans (HB.out.mono HWG.out)
     have HKE:=hid (HLC.out k hlk)
     have HPK2:=HPE.out k
     have HPV:=HPK.out k
     have hgk:=HGE.out k
     obtain⟨lk,hlke⟩:∃x,l.getD k 0=x:=⟨_,rfl⟩
     rw[hlke] at HKE hlkN HPK2
     clear hlke
     obtain⟨ga,oa,gr,or_,cr,hae,hga,hgr,x0,x1,x2,x3⟩:=(HMR.out w (Below.refl _ _)).at hlN hlkN
     subst hae
     have HZE:=hid (fun U:World=>rZeroR (X la lk) U (Nat.le_trans (HFEW.out la lk hlN hlkN) (by decide)))
     have HMU0:=hid (fun U:World=>rMulFF (qF (TQ k)) (X la lk) U (by rw[fz_q];have:=fits_qw (HTQ.out k);omega) (Nat.le_trans (HFEW.out la lk hlN hlkN) (by decide)))
     have hgq:¬k=at_→qw (G k)≤40000:=fun h=>by
      rw[hgk,if_neg h,HPK2]
      have:=fits_qw (fits_tim (HTQ.out k) (HFIT.out la lk hlN hlkN))
      exact Nat.le_trans this (by decide)
     have HMU:Hid (¬k=at_→∀U:World,Calls Tryz.prog 59 #[.agg #[.bool (qF (TQ k)).1,.string (qF (TQ k)).2.1,.string (qF (TQ k)).2.2],.agg #[.bool (X la lk).1,.string (X la lk).2.1,.string (X la lk).2.2]] U fun e w'=>e=.returned (.agg #[.bool (qF (G k)).1,.string (qF (G k)).2.1,.string (qF (G k)).2.2])∧Below U.heap.size U w'):=fun h U=>by
      have h9:=HMU0.out U
      rw[frQ_qF,←HPK2] at h9
      rw[hgk,if_neg h]
      exact h9
     have HAD:Hid (¬k=at_→∀U:World,Calls Tryz.prog 55 #[.agg #[.bool (qF (sumR G k)).1,.string (qF (sumR G k)).2.1,.string (qF (sumR G k)).2.2],.agg #[.bool (qF (G k)).1,.string (qF (G k)).2.1,.string (qF (G k)).2.2]] U fun e w'=>e=.returned (.agg #[.bool (qF (sumR G (k+1))).1,.string (qF (sumR G (k+1))).2.1,.string (qF (sumR G (k+1))).2.2])∧Below U.heap.size U w'):=fun h U=>rAddQ (sumR G k) (G k) U (by have:=fits_qw (HGS.out k hk);omega) (Nat.le_trans (hgq h) (by decide))
     obtain⟨zb,hzb⟩:∃z,decide (frQ (X la lk)=0)=z:=⟨_,rfl⟩
     rw[hzb] at HZE
     have HGA:Hid (k=at_→sumR G (k+1)=sumR G k):=fun h=>by
      rw[sumR,hgk,if_pos h,Rat.add_zero]
     have HGZ:Hid (zb=true→sumR G (k+1)=sumR G k):=fun h=>by
      by_cases h9:k=at_
      ·rw[sumR,hgk,if_pos h9,Rat.add_zero]
      ·rw[sumR,hgk,if_neg h9,HPK2,of_decide_eq_true (hzb.trans h),Rat.mul_zero,Rat.add_zero]
     clear hzb HMU0 hgk hgq HPK2 HPV
     generalize X la lk=zz at *
     obtain⟨an,ax,ay⟩:=zz
     simp only at x1 x2 x3 HZE HMU
     have HELD:Hid (∀u,Below gB V0 u→u.cell? ⟨gl,ol+at_,none⟩=some (.int .i64 (la:Nat))∧u.cell? ⟨ga,oa+la,none⟩=some (.slice (some ⟨gr,or_,none⟩) N cr)∧u.cell? ⟨gl,ol+k,none⟩=some (.int .i64 (lk:Nat))∧u.cell? ⟨gr,or_+lk*3,none⟩=some (.bool an)∧u.cell? ⟨gr,or_+lk*3+1,none⟩=some (.string ax)∧u.cell? ⟨gr,or_+lk*3+2,none⟩=some (.string ay)):=fun u h0=>by
      have h:=HBV.out.trans (h0.mono HWG.out)
      exact⟨by have h9:=HLC.out at_ hat u h;rw[HLA.out] at h9;exact h9,(h.cell (p:=⟨ga,_,none⟩) hga).trans x0,HKE.out u h,(h.cell (p:=⟨gr,_,none⟩) hgr).trans x1,(h.cell (p:=⟨gr,_,none⟩) hgr).trans x2,(h.cell (p:=⟨gr,_,none⟩) hgr).trans x3⟩
     clear x0 x1 x2 x3 HWr
     go_upto_region 19 with fail
     replace HS:=hid HS.out.drew
     replace HB:=hid HB.out.drew
     refine wp_region_held_drew (S:=fun u=>u.cell? ⟨gl,ol+at_,none⟩=some (.int .i64 (la:Nat))∧u.cell? ⟨ga,oa+la,none⟩=some (.slice (some ⟨gr,or_,none⟩) N cr)∧u.cell? ⟨gl,ol+k,none⟩=some (.int .i64 (lk:Nat))∧u.cell? ⟨gr,or_+lk*3,none⟩=some (.bool an)∧u.cell? ⟨gr,or_+lk*3+1,none⟩=some (.string ax)∧u.cell? ⟨gr,or_+lk*3+2,none⟩=some (.string ay)) (by kernel_rfl) (HELD.out _ HB.out) (fun hSd=>?_)
     generalize wr.drew=u0 at *
     refine wpAnyH_take (i:=0) (oi:=_) (v:=.slice (some ⟨ga,oa,none⟩) N ca) rfl (by kernel_rfl) (by kernel_rfl) (by kernel_rfl) (fun _ _ _ h=>h) (Or.inl ⟨by rfl,?_⟩) (by assumption) ?_
     ·intro u' hSu
      (try simp only[List.getElem_toArray,List.getElem_cons_zero])
      go_simp
     (try simp only[List.getElem_toArray,List.getElem_cons_zero])
     (try simp only[Act.put,List.setIfInBounds_toArray,List.set_cons_zero,List.set_cons_succ])
     refine wpAnyH_take (i:=1) (oi:=_) (v:=.slice (some ⟨gl,ol,none⟩) n cb) rfl (by kernel_rfl) (by kernel_rfl) (by kernel_rfl) (fun _ _ _ h=>h) (Or.inl ⟨by rfl,?_⟩) (by assumption) ?_
     ·intro u' hSu
      (try simp only[List.getElem_toArray,List.getElem_cons_zero,List.getElem_cons_succ])
      go_simp
     (try simp only[List.getElem_toArray,List.getElem_cons_zero,List.getElem_cons_succ])
     (try simp only[Act.put,List.setIfInBounds_toArray,List.set_cons_zero,List.set_cons_succ])
     refine wpAnyH_take (i:=2) (oi:=_) (v:=.int .i64 (at_:Nat)) rfl (by kernel_rfl) (by kernel_rfl) (by kernel_rfl) (fun _ _ _ h=>h) (Or.inl ⟨by rfl,?_⟩) (by assumption) ?_
     ·intro u' hSu
      (try simp only[List.getElem_toArray,List.getElem_cons_zero,List.getElem_cons_succ])
      go_simp
     (try simp only[List.getElem_toArray,List.getElem_cons_zero,List.getElem_cons_succ])
     (try simp only[Act.put,List.setIfInBounds_toArray,List.set_cons_zero,List.set_cons_succ])
     refine wpAnyH_take (i:=3) (oi:=_) (v:=.pointer (some ⟨gl,ol+at_,none⟩)) rfl (by kernel_rfl) (by kernel_rfl) (by kernel_rfl) (fun _ _ _ h=>h) (Or.inl ⟨by rfl,?_⟩) (by assumption) ?_
     ·intro u' hSu
      (try simp only[List.getElem_toArray,List.getElem_cons_zero,List.getElem_cons_succ])
      go_simp
     (try simp only[List.getElem_toArray,List.getElem_cons_zero,List.getElem_cons_succ])
     (try simp only[Act.put,List.setIfInBounds_toArray,List.set_cons_zero,List.set_cons_succ])
     refine wpAnyH_take (i:=4) (oi:=_) (v:=.int .i64 (la:Nat)) rfl (by kernel_rfl) (by kernel_rfl) (by kernel_rfl) (fun _ _ _ h=>h) (Or.inl ⟨by rfl,?_⟩) (by assumption) ?_
     ·intro u' hSu
      (try simp only[List.getElem_toArray,List.getElem_cons_zero,List.getElem_cons_succ])
      obtain⟨s0,s1,s2,s3,s4,s5⟩:=hSu
      go_simp
     (try simp only[List.getElem_toArray,List.getElem_cons_zero,List.getElem_cons_succ])
     (try simp only[Act.put,List.setIfInBounds_toArray,List.set_cons_zero,List.set_cons_succ])
     refine wpAnyH_take (i:=5) (oi:=_) (v:=.pointer (some ⟨ga,oa+la,none⟩)) rfl (by kernel_rfl) (by kernel_rfl) (by kernel_rfl) (fun _ _ _ h=>h) (Or.inl ⟨by rfl,?_⟩) (by assumption) ?_
     ·intro u' hSu
      (try simp only[List.getElem_toArray,List.getElem_cons_zero,List.getElem_cons_succ])
      go_simp
     (try simp only[List.getElem_toArray,List.getElem_cons_zero,List.getElem_cons_succ])
     (try simp only[Act.put,List.setIfInBounds_toArray,List.set_cons_zero,List.set_cons_succ])
     refine wpAnyH_take (i:=6) (oi:=_) (v:=.slice (some ⟨gr,or_,none⟩) N cr) rfl (by kernel_rfl) (by kernel_rfl) (by kernel_rfl) (fun _ _ _ h=>h) (Or.inl ⟨by rfl,?_⟩) (by assumption) ?_
     ·intro u' hSu
      (try simp only[List.getElem_toArray,List.getElem_cons_zero,List.getElem_cons_succ])
      obtain⟨s0,s1,s2,s3,s4,s5⟩:=hSu
      go_simp
     (try simp only[List.getElem_toArray,List.getElem_cons_zero,List.getElem_cons_succ])
     (try simp only[Act.put,List.setIfInBounds_toArray,List.set_cons_zero,List.set_cons_succ])
     refine wpAnyH_take (i:=7) (oi:=_) (v:=.slice (some ⟨gl,ol,none⟩) n cb) rfl (by kernel_rfl) (by kernel_rfl) (by kernel_rfl) (fun _ _ _ h=>h) (Or.inl ⟨by rfl,?_⟩) (by assumption) ?_
     ·intro u' hSu
      (try simp only[List.getElem_toArray,List.getElem_cons_zero,List.getElem_cons_succ])
      go_simp
     (try simp only[List.getElem_toArray,List.getElem_cons_zero,List.getElem_cons_succ])
     (try simp only[Act.put,List.setIfInBounds_toArray,List.set_cons_zero,List.set_cons_succ])
     refine wpAnyH_take (i:=8) (oi:=_) (v:=.int .i64 (k:Nat)) rfl (by kernel_rfl) (by kernel_rfl) (by kernel_rfl) (fun _ _ _ h=>h) (Or.inl ⟨by rfl,?_⟩) (by assumption) ?_
     ·intro u' hSu
      (try simp only[List.getElem_toArray,List.getElem_cons_zero,List.getElem_cons_succ])
      go_simp
     (try simp only[List.getElem_toArray,List.getElem_cons_zero,List.getElem_cons_succ])
     (try simp only[Act.put,List.setIfInBounds_toArray,List.set_cons_zero,List.set_cons_succ])
     refine wpAnyH_take (i:=9) (oi:=_) (v:=.pointer (some ⟨gl,ol+k,none⟩)) rfl (by kernel_rfl) (by kernel_rfl) (by kernel_rfl) (fun _ _ _ h=>h) (Or.inl ⟨by rfl,?_⟩) (by assumption) ?_
     ·intro u' hSu
      (try simp only[List.getElem_toArray,List.getElem_cons_zero,List.getElem_cons_succ])
      go_simp
     (try simp only[List.getElem_toArray,List.getElem_cons_zero,List.getElem_cons_succ])
     (try simp only[Act.put,List.setIfInBounds_toArray,List.set_cons_zero,List.set_cons_succ])
     refine wpAnyH_take (i:=10) (oi:=_) (v:=.int .i64 (lk:Nat)) rfl (by kernel_rfl) (by kernel_rfl) (by kernel_rfl) (fun _ _ _ h=>h) (Or.inl ⟨by rfl,?_⟩) (by assumption) ?_
     ·intro u' hSu
      (try simp only[List.getElem_toArray,List.getElem_cons_zero,List.getElem_cons_succ])
      obtain⟨s0,s1,s2,s3,s4,s5⟩:=hSu
      go_simp
     (try simp only[List.getElem_toArray,List.getElem_cons_zero,List.getElem_cons_succ])
     (try simp only[Act.put,List.setIfInBounds_toArray,List.set_cons_zero,List.set_cons_succ])
     refine wpAnyH_take (i:=11) (oi:=_) (v:=.pointer (some ⟨gr,or_+lk*3,none⟩)) rfl (by kernel_rfl) (by kernel_rfl) (by kernel_rfl) (fun _ _ _ h=>h) (Or.inl ⟨by rfl,?_⟩) (by assumption) ?_
     ·intro u' hSu
      (try simp only[List.getElem_toArray,List.getElem_cons_zero,List.getElem_cons_succ])
      go_simp
     (try simp only[List.getElem_toArray,List.getElem_cons_zero,List.getElem_cons_succ])
     (try simp only[Act.put,List.setIfInBounds_toArray,List.set_cons_zero,List.set_cons_succ])
     refine wpAnyH_take (i:=12) (oi:=_) (v:=.agg #[.bool an,.string ax,.string ay]) rfl (by kernel_rfl) (by kernel_rfl) (by kernel_rfl) (fun _ _ _ h=>h) (Or.inl ⟨by rfl,?_⟩) (by assumption) ?_
     ·intro u' hSu
      (try simp only[List.getElem_toArray,List.getElem_cons_zero,List.getElem_cons_succ])
      obtain⟨s0,s1,s2,s3,s4,s5⟩:=hSu
      go_simp
     (try simp only[List.getElem_toArray,List.getElem_cons_zero,List.getElem_cons_succ])
     (try simp only[Act.put,List.setIfInBounds_toArray,List.set_cons_zero,List.set_cons_succ])
     refine wpAnyH_ready (rs:=[13]) (by kernel_rfl) (by simp) (AllReadyH.cons rfl ?_ (AllReadyH.nil))
     ·intro K' hK'
      (try simp only[List.getElem_toArray,List.getElem_cons_zero,List.getElem_cons_succ])
      go_simp
      refine(HZE.out _).mono ?_
      rintro e u1 ⟨rfl,hb⟩
      replace HS:=hid (HS.out.below hb HS.out.lt)
      replace HB:=hid (HB.out.trans (hb.mono (Nat.le_trans HGV.out HB.out.size)))
      refine hK'.out _ _ (HELD.out _ HB.out) (fun hSe=>?_)
      clear hb
      clear hK' K' hSd
      have hSd:=hSe
      clear hSe
      (try simp only[List.getElem_toArray,List.getElem_cons_zero,List.getElem_cons_succ])
      (try simp only[Act.put,List.setIfInBounds_toArray,List.set_cons_zero,List.set_cons_succ])
      refine wpAnyH_take (i:=14) (oi:=_) (v:=.bool zb) rfl (by kernel_rfl) (by kernel_rfl) (by kernel_rfl) (fun _ _ _ h=>h) (Or.inl ⟨by rfl,?_⟩) (by assumption) ?_
      ·intro u' hSu
       (try simp only[List.getElem_toArray,List.getElem_cons_zero,List.getElem_cons_succ])
       go_simp
      (try simp only[List.getElem_toArray,List.getElem_cons_zero,List.getElem_cons_succ])
      (try simp only[Act.put,List.setIfInBounds_toArray,List.set_cons_zero,List.set_cons_succ])
      refine wpAnyH_done (by kernel_rfl) ?_ _
      clear hSd
      cases zb with
      |true=>
       have HGX:=HGZ.out rfl
       by_cases hka:k=at_
       ·have hki:(k:Int)=(at_:Int):=by omega
        have HXK:Hid (Box u1 gB (qF (sumR G (k+1))).1 (qF (sumR G (k+1))).2.1 (qF (sumR G (k+1))).2.2):=by show Box _ _ _ _ _;rw[HGX];exact HS.out
        have HBK:=HB
        clear HS HB HELD
        go_wp2
        go_roundw
        case rel=>exact⟨k+1,by omega,by go_num,HXK,HBK⟩
        case measure=>simp[intOf];omega
       ·have hki:¬(k:Int)=(at_:Int):=by omega
        have HXK:Hid (Box u1 gB (qF (sumR G (k+1))).1 (qF (sumR G (k+1))).2.1 (qF (sumR G (k+1))).2.2):=by show Box _ _ _ _ _;rw[HGX];exact HS.out
        have HBK:=HB
        clear HS HB HELD
        go_wp2
        go_roundw
        case rel=>exact⟨k+1,by omega,by go_num,HXK,HBK⟩
        case measure=>simp[intOf];omega
      |false=>
       by_cases hka:k=at_
       ·have HGX:=HGA.out hka
        have hki:(k:Int)=(at_:Int):=by omega
        have HXK:Hid (Box u1 gB (qF (sumR G (k+1))).1 (qF (sumR G (k+1))).2.1 (qF (sumR G (k+1))).2.2):=by show Box _ _ _ _ _;rw[HGX];exact HS.out
        have HBK:=HB
        clear HS HB HELD
        go_wp2
        go_roundw
        case rel=>exact⟨k+1,by omega,by go_num,HXK,HBK⟩
        case measure=>simp[intOf];omega
       ·have hki:¬(k:Int)=(at_:Int):=by omega
        go_upto_region 21 with fail
        have HBW:=hid (HBV.out.trans (HB.out.mono HWG.out))
        have hbe:Below u1.heap.size u1 (u1.alloc (.cells #[] 3)):=(Below.refl _ u1).alloc (Nat.le_refl _) _
        have hRe:RwI (u1.alloc (.cells #[] 3)) u1.heap.size (.slice (some ⟨u1.heap.size,0,none⟩) 0 0) []:=⟨rfl,.inr ⟨u1.heap.size,0, #[],rfl,Nat.le_refl _,heap_alloc_new _ _,Nat.le_refl _,Nat.zero_le _,rfl,rfl⟩⟩
        have HIe:=hid ((HNX.out _ HBW.out).below hbe)
        have HRe:=hid hRe
        have HBE:=hid hbe
        have hse:=hbe.size
        clear hbe hRe
        go_wp2_with (first
         |(at_builtin;refine wpList_append_ints rfl _ _ rfl u1.heap.size _ WS [((k:Nat):Int)] rfl HR7.out (some ⟨w6.heap.size,0,none⟩) 1 rfl HO7.out (fun e=>by cases e) (by rw[HLT.out];simp;omega) HB7.out.size ?_;intro v8 w8 hr8 hg8;obtain⟨d8,cd8,rfl,hi8,hz8⟩:=rwI_ints hr8;have HB8:=hid (HB7.out.grown hg8 HB7.out.size (fun k e=>owns_from HR7.out k e));have HI8:=hid hi8;have HZ8:=hid hz8;rw[show (WS++[((k:Nat):Int)]).length=at_+1 by rw[List.length_append,HLT.out];rfl];clear hr8 hg8 hi8 hz8)
         |(at_builtin;refine wpList_append_ints rfl _ _ rfl u1.heap.size _ [] WS rfl HRe.out d cd (by rw[HLT.out];rfl) HIe.out HZD.out (by rw[HLT.out];simp;omega) hse ?_;intro v6 w6 hr6 hg6;rw[List.nil_append] at hr6;obtain⟨d6,cd6,rfl, -⟩:=hr6.ints;have hb6:Below u1.heap.size u1 w6:=HBE.out.trans ((Below.refl _ _).grown hg6 hse (fun k e=>by cases e;exact Nat.le_refl _));have hbA:=(Below.refl w6.heap.size w6).alloc (Nat.le_refl _) (.cells #[.int .i64 (k:Nat)] 3);have HR7:=hid (RwI.below hr6 hbA);have HB7:=hid (hb6.trans (hbA.mono hb6.size));have HO7:=hid (one_intT w6 (k:Nat));clear hr6 hg6 hb6 hbA))
        refine(HIH.out k hlk d8 cd8 _ (HBW.out.trans (HB8.out.mono HBW.out.size)) HI8.out HZ8.out).mono ?_
        rintro e V ⟨rfl,hb⟩
        have hb8:=HB8.out.trans (hb.mono HB8.out.size)
        have HS9:=hid (HS.out.below hb8 HS.out.lt)
        have HB9:=hid (HB.out.trans (hb8.mono (Nat.le_trans HGV.out HB.out.size)))
        have hA9:=(Below.refl V.heap.size V).alloc (Nat.le_refl _) (FC (qF (TQ k)).1 (qF (TQ k)).2.1 (qF (TQ k)).2.2)
        have HFX:=hid (Box.new V (qF (TQ k)).1 (qF (TQ k)).2.1 (qF (TQ k)).2.2)
        have HSX:=hid (HS9.out.below hA9 HS9.out.lt)
        have HBX:=hid (HB9.out.trans (hA9.mono (Nat.le_trans HGV.out HB9.out.size)))
        have hgn:=HS9.out.lt
        have hgf:=Nat.le_trans HGV.out HB9.out.size
        clear hb hb8 HS HB HS9 HB9 hA9 HBW
        have HMU:=hid (HMU.out hka)
        have HAD:=hid (HAD.out hka)
        go_upto_region 22 with fail
        generalize (V.alloc (FC (qF (TQ k)).1 (qF (TQ k)).2.1 (qF (TQ k)).2.2))=w9 at *
        obtain⟨gf,hgfe⟩:∃x,V.heap.size=x:=⟨_,rfl⟩
        simp only[hgfe] at hgn hgf HFX⊢
        have HGF:Hid (gB≤gf):=hgf
        have HSNE:Hid (gB≠gf):=Nat.ne_of_lt hgn
        have HS:=HSX
        have HB:=HBX
        have HF:=HFX
        clear hgfe hgn hgf HSX HBX HFX
        obtain⟨TQk,hTk⟩:∃x,TQ k=x:=⟨_,rfl⟩
        obtain⟨Gk,hGk⟩:∃x,G k=x:=⟨_,rfl⟩
        rw[hTk] at HMU HF
        rw[hGk] at HMU HAD
        clear hTk hGk
        go_upto_region 22 with fail
        replace HF:=hid HF.out.drew
        replace HB:=hid HB.out.drew
        replace HS:=hid HS.out.drew
        refine wp_region_until 15 (fun (b:Bool) (u:World)=>(u.cell? ⟨gl,ol+at_,none⟩=some (.int .i64 (la:Nat))∧u.cell? ⟨ga,oa+la,none⟩=some (.slice (some ⟨gr,or_,none⟩) N cr)∧u.cell? ⟨gl,ol+k,none⟩=some (.int .i64 (lk:Nat))∧u.cell? ⟨gr,or_+lk*3,none⟩=some (.bool an)∧u.cell? ⟨gr,or_+lk*3+1,none⟩=some (.string ax)∧u.cell? ⟨gr,or_+lk*3+2,none⟩=some (.string ay))∧(b=false→(u.cell? ⟨gf,0,none⟩=some (.bool (qF (TQk)).1)∧u.cell? ⟨gf,1,none⟩=some (.string (qF (TQk)).2.1)∧u.cell? ⟨gf,2,none⟩=some (.string (qF (TQk)).2.2)))) (by kernel_rfl) ⟨HELD.out _ HB.out,fun _=>HF.out.trio⟩ (fun hSd=>?_)
        generalize w9.drew=u0 at *
        refine wpU_take (i:=1) (oi:=_) (v:=.slice (some ⟨ga,oa,none⟩) N ca) (b:=false) rfl (by kernel_rfl) (by kernel_rfl) (by kernel_rfl) (by decide) (fun _ _ _ h=>h) (Or.inl ⟨by rfl,?_⟩) (by kernel_rfl) (by assumption) ?_
        ·intro u' hSu
         (try simp only[List.getElem_toArray,List.getElem_cons_zero,List.getElem_cons_succ])
         go_simp
        (try simp only[List.getElem_toArray,List.getElem_cons_zero,List.getElem_cons_succ])
        (try simp only[Act.put,List.setIfInBounds_toArray,List.set_cons_zero,List.set_cons_succ])
        refine wpU_take (i:=2) (oi:=_) (v:=.slice (some ⟨gl,ol,none⟩) n cb) (b:=false) rfl (by kernel_rfl) (by kernel_rfl) (by kernel_rfl) (by decide) (fun _ _ _ h=>h) (Or.inl ⟨by rfl,?_⟩) (by kernel_rfl) (by assumption) ?_
        ·intro u' hSu
         (try simp only[List.getElem_toArray,List.getElem_cons_zero,List.getElem_cons_succ])
         go_simp
        (try simp only[List.getElem_toArray,List.getElem_cons_zero,List.getElem_cons_succ])
        (try simp only[Act.put,List.setIfInBounds_toArray,List.set_cons_zero,List.set_cons_succ])
        refine wpU_take (i:=3) (oi:=_) (v:=.int .i64 (at_:Nat)) (b:=false) rfl (by kernel_rfl) (by kernel_rfl) (by kernel_rfl) (by decide) (fun _ _ _ h=>h) (Or.inl ⟨by rfl,?_⟩) (by kernel_rfl) (by assumption) ?_
        ·intro u' hSu
         (try simp only[List.getElem_toArray,List.getElem_cons_zero,List.getElem_cons_succ])
         go_simp
        (try simp only[List.getElem_toArray,List.getElem_cons_zero,List.getElem_cons_succ])
        (try simp only[Act.put,List.setIfInBounds_toArray,List.set_cons_zero,List.set_cons_succ])
        refine wpU_take (i:=4) (oi:=_) (v:=.pointer (some ⟨gl,ol+at_,none⟩)) (b:=false) rfl (by kernel_rfl) (by kernel_rfl) (by kernel_rfl) (by decide) (fun _ _ _ h=>h) (Or.inl ⟨by rfl,?_⟩) (by kernel_rfl) (by assumption) ?_
        ·intro u' hSu
         (try simp only[List.getElem_toArray,List.getElem_cons_zero,List.getElem_cons_succ])
         go_simp
        (try simp only[List.getElem_toArray,List.getElem_cons_zero,List.getElem_cons_succ])
        (try simp only[Act.put,List.setIfInBounds_toArray,List.set_cons_zero,List.set_cons_succ])
        refine wpU_take (i:=5) (oi:=_) (v:=.int .i64 (la:Nat)) (b:=false) rfl (by kernel_rfl) (by kernel_rfl) (by kernel_rfl) (by decide) (fun _ _ _ h=>h) (Or.inl ⟨by rfl,?_⟩) (by kernel_rfl) (by assumption) ?_
        ·intro u' hSu
         (try simp only[List.getElem_toArray,List.getElem_cons_zero,List.getElem_cons_succ])
         obtain⟨_,⟨s0,s1,s2,s3,s4,s5⟩,_⟩:=hSu
         go_simp
        (try simp only[List.getElem_toArray,List.getElem_cons_zero,List.getElem_cons_succ])
        (try simp only[Act.put,List.setIfInBounds_toArray,List.set_cons_zero,List.set_cons_succ])
        refine wpU_take (i:=6) (oi:=_) (v:=.pointer (some ⟨ga,oa+la,none⟩)) (b:=false) rfl (by kernel_rfl) (by kernel_rfl) (by kernel_rfl) (by decide) (fun _ _ _ h=>h) (Or.inl ⟨by rfl,?_⟩) (by kernel_rfl) (by assumption) ?_
        ·intro u' hSu
         (try simp only[List.getElem_toArray,List.getElem_cons_zero,List.getElem_cons_succ])
         go_simp
        (try simp only[List.getElem_toArray,List.getElem_cons_zero,List.getElem_cons_succ])
        (try simp only[Act.put,List.setIfInBounds_toArray,List.set_cons_zero,List.set_cons_succ])
        refine wpU_take (i:=7) (oi:=_) (v:=.slice (some ⟨gr,or_,none⟩) N cr) (b:=false) rfl (by kernel_rfl) (by kernel_rfl) (by kernel_rfl) (by decide) (fun _ _ _ h=>h) (Or.inl ⟨by rfl,?_⟩) (by kernel_rfl) (by assumption) ?_
        ·intro u' hSu
         (try simp only[List.getElem_toArray,List.getElem_cons_zero,List.getElem_cons_succ])
         obtain⟨_,⟨s0,s1,s2,s3,s4,s5⟩,_⟩:=hSu
         go_simp
        (try simp only[List.getElem_toArray,List.getElem_cons_zero,List.getElem_cons_succ])
        (try simp only[Act.put,List.setIfInBounds_toArray,List.set_cons_zero,List.set_cons_succ])
        refine wpU_take (i:=8) (oi:=_) (v:=.slice (some ⟨gl,ol,none⟩) n cb) (b:=false) rfl (by kernel_rfl) (by kernel_rfl) (by kernel_rfl) (by decide) (fun _ _ _ h=>h) (Or.inl ⟨by rfl,?_⟩) (by kernel_rfl) (by assumption) ?_
        ·intro u' hSu
         (try simp only[List.getElem_toArray,List.getElem_cons_zero,List.getElem_cons_succ])
         go_simp
        (try simp only[List.getElem_toArray,List.getElem_cons_zero,List.getElem_cons_succ])
        (try simp only[Act.put,List.setIfInBounds_toArray,List.set_cons_zero,List.set_cons_succ])
        refine wpU_take (i:=9) (oi:=_) (v:=.int .i64 (k:Nat)) (b:=false) rfl (by kernel_rfl) (by kernel_rfl) (by kernel_rfl) (by decide) (fun _ _ _ h=>h) (Or.inl ⟨by rfl,?_⟩) (by kernel_rfl) (by assumption) ?_
        ·intro u' hSu
         (try simp only[List.getElem_toArray,List.getElem_cons_zero,List.getElem_cons_succ])
         go_simp
        (try simp only[List.getElem_toArray,List.getElem_cons_zero,List.getElem_cons_succ])
        (try simp only[Act.put,List.setIfInBounds_toArray,List.set_cons_zero,List.set_cons_succ])
        refine wpU_take (i:=10) (oi:=_) (v:=.pointer (some ⟨gl,ol+k,none⟩)) (b:=false) rfl (by kernel_rfl) (by kernel_rfl) (by kernel_rfl) (by decide) (fun _ _ _ h=>h) (Or.inl ⟨by rfl,?_⟩) (by kernel_rfl) (by assumption) ?_
        ·intro u' hSu
         (try simp only[List.getElem_toArray,List.getElem_cons_zero,List.getElem_cons_succ])
         go_simp
        (try simp only[List.getElem_toArray,List.getElem_cons_zero,List.getElem_cons_succ])
        (try simp only[Act.put,List.setIfInBounds_toArray,List.set_cons_zero,List.set_cons_succ])
        refine wpU_take (i:=11) (oi:=_) (v:=.int .i64 (lk:Nat)) (b:=false) rfl (by kernel_rfl) (by kernel_rfl) (by kernel_rfl) (by decide) (fun _ _ _ h=>h) (Or.inl ⟨by rfl,?_⟩) (by kernel_rfl) (by assumption) ?_
        ·intro u' hSu
         (try simp only[List.getElem_toArray,List.getElem_cons_zero,List.getElem_cons_succ])
         obtain⟨_,⟨s0,s1,s2,s3,s4,s5⟩,_⟩:=hSu
         go_simp
        (try simp only[List.getElem_toArray,List.getElem_cons_zero,List.getElem_cons_succ])
        (try simp only[Act.put,List.setIfInBounds_toArray,List.set_cons_zero,List.set_cons_succ])
        refine wpU_take (i:=12) (oi:=_) (v:=.pointer (some ⟨gr,or_+lk*3,none⟩)) (b:=false) rfl (by kernel_rfl) (by kernel_rfl) (by kernel_rfl) (by decide) (fun _ _ _ h=>h) (Or.inl ⟨by rfl,?_⟩) (by kernel_rfl) (by assumption) ?_
        ·intro u' hSu
         (try simp only[List.getElem_toArray,List.getElem_cons_zero,List.getElem_cons_succ])
         go_simp
        (try simp only[List.getElem_toArray,List.getElem_cons_zero,List.getElem_cons_succ])
        (try simp only[Act.put,List.setIfInBounds_toArray,List.set_cons_zero,List.set_cons_succ])
        refine wpU_take (i:=13) (oi:=_) (v:=.agg #[.bool an,.string ax,.string ay]) (b:=false) rfl (by kernel_rfl) (by kernel_rfl) (by kernel_rfl) (by decide) (fun _ _ _ h=>h) (Or.inl ⟨by rfl,?_⟩) (by kernel_rfl) (by assumption) ?_
        ·intro u' hSu
         (try simp only[List.getElem_toArray,List.getElem_cons_zero,List.getElem_cons_succ])
         obtain⟨_,⟨s0,s1,s2,s3,s4,s5⟩,_⟩:=hSu
         go_simp
        (try simp only[List.getElem_toArray,List.getElem_cons_zero,List.getElem_cons_succ])
        (try simp only[Act.put,List.setIfInBounds_toArray,List.set_cons_zero,List.set_cons_succ])
        refine wpU_ahead (i:=0) (oi:=_) (v:=.agg #[.bool (qF (TQk)).1,.string (qF (TQk)).2.1,.string (qF (TQk)).2.2]) rfl (by kernel_rfl) (by kernel_rfl) (by kernel_rfl) (by decide) rfl (by kernel_rfl) (fun _ _ _ h=>h) (Or.inl ⟨by rfl,?_⟩) (by kernel_rfl) (by assumption) ?_
        ·intro u' hSu
         (try simp only[List.getElem_toArray,List.getElem_cons_zero])
         obtain⟨_,s99⟩:=hSu
         obtain⟨s97,s98,s99⟩:=s99 rfl
         go_simp
        (try simp only[List.getElem_toArray,List.getElem_cons_zero])
        (try simp only[Act.put,List.setIfInBounds_toArray,List.set_cons_zero,List.set_cons_succ])
        refine wpU_ready (rs:=[14]) (by kernel_rfl) (by simp) (AllU.cons (b:=false) rfl (by kernel_rfl) ?_ (AllU.nil))
        ·intro K' hK'
         (try simp only[List.getElem_toArray,List.getElem_cons_zero,List.getElem_cons_succ])
         go_simp
         refine(HMU.out _).mono ?_
         rintro e u3 ⟨rfl,hb⟩
         replace HF:=hid (HF.out.below hb HF.out.lt)
         replace HB:=hid (HB.out.trans (hb.mono (Nat.le_trans HGV.out HB.out.size)))
         replace HS:=hid (HS.out.below hb HS.out.lt)
         refine hK'.out _ _ ⟨HELD.out _ HB.out,fun _=>HF.out.trio⟩ (fun hSe=>?_)
         clear hK' K' hSd
         have hSd:=hSe
         clear hSe
         clear hb
         (try simp only[List.getElem_toArray,List.getElem_cons_zero,List.getElem_cons_succ])
         (try simp only[Act.put,List.setIfInBounds_toArray,List.set_cons_zero,List.set_cons_succ])
         obtain⟨q0,q1,q2⟩:=HF.out.trio
         have q3:=HF.out.fz 0
         have q4:=HF.out.fz 1
         have q5:=HF.out.fz 2
         refine wpU_ready (rs:=[15]) (by kernel_rfl) (by simp) (AllU.cons (b:=true) rfl (by kernel_rfl) ?_ (AllU.nil))
         ·intro K' hK'
          (try simp only[List.getElem_toArray,List.getElem_cons_zero,List.getElem_cons_succ])
          go_simp
          have HXN:=hid (HF.out.put (qF (Gk)).1 (qF (Gk)).2.1 (qF (Gk)).2.2)
          have HBN:=hid (((HB.out.setCell (p:=⟨gf,0,none⟩) HGF.out (.bool (qF (Gk)).1)).setCell (p:=⟨gf,1,none⟩) HGF.out (.string (qF (Gk)).2.1)).setCell (p:=⟨gf,2,none⟩) HGF.out (.string (qF (Gk)).2.2))
          have HSN:=hid (((HS.out.away gf 0 (.bool (qF (Gk)).1) HSNE.out).away gf 1 (.string (qF (Gk)).2.1) HSNE.out).away gf 2 (.string (qF (Gk)).2.2) HSNE.out)
          refine hK'.out _ _ ⟨HELD.out _ HBN.out,fun e=>by cases e⟩ (fun _=>wpU_done (by kernel_rfl) ?_ _)
          clear hK' K' hSd q0 q1 q2 q3 q4 q5 HF HB HS
          clear HELD
          obtain⟨k0,k1,k2⟩:=HSN.out.trio
          obtain⟨y0,y1,y2⟩:=HXN.out.trio
          go_wp2_with fail
          refine(HAD.out _).mono ?_
          rintro e q2 ⟨rfl,hb⟩
          clear k0 k1 k2 y0 y1 y2 HXN
          replace HSN:=hid (HSN.out.below hb HSN.out.lt)
          replace HBN:=hid (HBN.out.trans (hb.mono (Nat.le_trans HGV.out HBN.out.size)))
          obtain⟨k0,k1,k2⟩:=HSN.out.trio
          have f0:=HSN.out.fz 0
          have f1:=HSN.out.fz 1
          have f2:=HSN.out.fz 2
          have HXK:=hid (HSN.out.put (qF (sumR G (k+1))).1 (qF (sumR G (k+1))).2.1 (qF (sumR G (k+1))).2.2)
          have HBK:=hid (((HBN.out.setCell (p:=⟨gB,0,none⟩) (Nat.le_refl _) (.bool (qF (sumR G (k+1))).1)).setCell (p:=⟨gB,1,none⟩) (Nat.le_refl _) (.string (qF (sumR G (k+1))).2.1)).setCell (p:=⟨gB,2,none⟩) (Nat.le_refl _) (.string (qF (sumR G (k+1))).2.2))
          clear hb HSN HBN
          go_wp2
          go_roundw
          case rel=>exact⟨k+1,by omega,by go_num,HXK,HBK⟩
          case measure=>simp[intOf];omega
    ·obtain rfl:n=k:=by omega
     obtain⟨k0,k1,k2⟩:=HS.out.trio
     have HXB:=hid (HXV.out.below (HGE2.out▸HB.out) (HGE2.out▸HLB.out))
     have HBF:=hid (HBV.out.trans (HB.out.mono HWG.out))
     obtain⟨y0,y1,y2⟩:=HXB.out.trio
     have f0:=HXB.out.fz 0
     have f1:=HXB.out.fz 1
     have f2:=HXB.out.fz 2
     have HX9:=hid (HXB.out.put (qF (sumR G n)).1 (qF (sumR G n)).2.1 (qF (sumR G n)).2.2)
     have HW9:=hid (((HBF.out.setCell (p:=⟨w.heap.size,0,none⟩) (Nat.le_refl _) (.bool (qF (sumR G n)).1)).setCell (p:=⟨w.heap.size,1,none⟩) (Nat.le_refl _) (.string (qF (sumR G n)).2.1)).setCell (p:=⟨w.heap.size,2,none⟩) (Nat.le_refl _) (.string (qF (sumR G n)).2.2))
     clear HS HB HXB HBF
     go_wp2
     refine bodyPost_ret (HX9.out.result rfl _ rfl) rfl ?_
     exact⟨rfl,HW9.out⟩
end Go.Proofs.YtmbjmiioggfneaaGreatDoor
