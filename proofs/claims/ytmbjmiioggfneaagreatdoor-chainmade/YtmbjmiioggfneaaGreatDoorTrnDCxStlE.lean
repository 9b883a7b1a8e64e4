/- The answer's Classes. -/
import Derived.Test.YtmbjmiioggfneaaGreatDoorStlDCxTrnC
import Derived.Test.YtmbjmiioggfneaaGreatDoorChnCCxCexZ
import Derived.Test.YtmbjmiioggfneaaGreatDoorChnXCxAnyU
namespace Go.Proofs.YtmbjmiioggfneaaGreatDoor
open Go.RowKit Go.Shelf
theorem CmL.len {n:Nat} {P:Nat→Nat→Rat} {i:Nat} {L:List Nat} (h:CmL n P i L):L.length=((List.range n).filter (cmsB n P i)).length:=by
 refine Nat.le_antisymm (List.Nodup.length_le_of_subset h.nd fun x hx=>?_) (List.Nodup.length_le_of_subset (List.Pairwise.filter _ List.nodup_range) fun x hx=>?_)
 ·obtain⟨h1,h2⟩:=(h.all x).1 hx
  exact List.mem_filter.2 ⟨List.mem_range.2 h1,h2⟩
 ·obtain⟨h1,h2⟩:=List.mem_filter.1 hx
  exact(h.all x).2 ⟨List.mem_range.1 h1,h2⟩
theorem CmL.closed {n:Nat} {P:Nat→Nat→Rat} {i:Nat} {L:List Nat} (h:CmL n P i L):stB n (cmsB n P) i=true↔L.length=(clN n (cmsB n P) i).length:=by
 have e:clN n (cmsB n P) i=((List.range n).filter (cmsB n P i)).filter fun j=>cmsB n P j i:=by
  rw[List.filter_filter,clN]
  exact List.filter_congr fun x _=>Bool.and_comm _ _
 rw[h.len,e,stB_iff]
 refine Iff.trans ?_ eq_comm
 rw[List.length_filter_eq_length_iff]
 exact⟨fun h x hx=>h x (List.mem_range.1 (List.mem_filter.1 hx).1) (List.mem_filter.1 hx).2,fun h x hx hc=>h x (List.mem_filter.2 ⟨List.mem_range.2 hx,hc⟩)⟩
theorem CmL.has {n:Nat} {P:Nat→Nat→Rat} {i:Nat} {L:List Nat} (h:CmL n P i L) {x:Nat} (hx:x<n):decide (x∈L)=cmsB n P i x:=by
 cases q:cmsB n P i x with
 |true=>exact decide_eq_true ((h.all x).2 ⟨hx,q⟩)
 |false=>exact decide_eq_false fun hm=>by rw[((h.all x).1 hm).2] at q;cases q
theorem CmL.most {n:Nat} {P:Nat→Nat→Rat} {i:Nat} {L:List Nat} (h:CmL n P i L):L.length≤n:=nod_most h.nd fun x hx=>((h.all x).1 hx).1
set_option maxRecDepth 100000 in
set_option maxHeartbeats 4000000 in
theorem rClasses_any (a:Option Addr) (ca n:Nat) (X:Nat→Nat→Fr) (w:World) (hR:FsS w a (mF n X)) (hm:ChX n X):
  Calls Tryz.prog 16 #[.slice a n ca] w fun e' w'=>∃x y Q B,e'=.returned (.tuple #[x,y,.int .i64 0])∧w.heap.size≤B∧ClS B n (cmsB n (rowQ X)) n x y Q w'∧Below w.heap.size w w':=by
 have h1:=hm.one
 have h5:=hm.five
 have HCK:=hid (fun (U:World) (hU:FsS U a (mF n X))=>rChain_yes a ca n (mF n X) U hU hm.ok h1 (by omega))
 have HCO:=hid (fun (U:World) (hU:FsS U a (mF n X)) (i:Nat) (hi:i<n)=>rComes_any a ca n i X U hU hm hi)
 have HME:Hid (∀i,i<n→i∈clN n (cmsB n (rowQ X)) i):=fun i hi=>List.mem_filter.2 ⟨List.mem_range.2 hi,by rw[cms_self];rfl⟩
 have HR:=hid hR
 clear hR hm
 obtain⟨e,he⟩:∃e,cmsB n (rowQ X)=e:=⟨_,rfl⟩
 have HE:=hid he
 rw[he] at HME⊢
 clear he
 go_enter Tryz.func16,Tryz.ntmps16
 go_wp2_with fail
 refine(HCK.out _ HR.out).mono ?_
 rintro e1 w1 ⟨rfl,hb1⟩
 have HB1:=hid hb1
 clear hb1 HCK
 have HK0:Hid (ClS w1.heap.size n e 0 (.slice none 0 0) (.slice none 0 0) [] w1):=⟨OwL.nil _ _,RwB'.empty _ _,rfl⟩
 go_wp2_with fail
 go_loopw [6,7,8] (fun xv yv iv wr=>∃(i:Nat) (Q:List PL),i≤n∧iv=.int .i64 i∧Hid (ClS w1.heap.size n e i xv yv Q wr)∧Hid (Below w1.heap.size w1 wr)) (fun _ _ iv _=>n - (intOf iv).toNat)
 case atStart=>exact⟨0,[],Nat.zero_le _,rfl,HK0,Below.refl _ _⟩
 case round=>
  obtain⟨i,Q,hi,rfl,HK,HB⟩:=hrel
  clear HK0
  by_cases hlt:i<n
  ·have HCL:=hid (HCO.out wr (HR.out.below (HB1.out.trans (HB.out.mono HB1.out.size))) i hlt)
   go_wp2_with fail
   refine HCL.out.mono ?_
   rintro e1 w2 ⟨v,L,rfl,hr2,hcm,hb2⟩
   have HCMO:=hid hcm
   obtain⟨do_,co,rfl,hon⟩:=RwI.ints hr2
   have HON:=hid hon
   have hsz:=HB.out.size
   replace HK:=hid (HK.out.step hb2)
   replace HB:=hid (HB.out.trans (hb2.mono HB.out.size))
   have HSTB:=hid hcm.closed
   have hll:=hcm.most
   rw[iL_length]
   rw[HE.out] at HSTB
   obtain⟨ll,hlle⟩:∃x,L.length=x:=⟨_,rfl⟩
   have HLLE:=hid hlle
   rw[hlle] at hll
   simp only[hlle]
   clear hlle hcm hon hr2 hb2 HCL
   have HL0:Hid (RwI w2 w2.heap.size (.slice none 0 0) (iL (clN 0 e i))):=⟨rfl,.inl ⟨rfl,rfl⟩⟩
   go_wp2_with fail
   go_loopw [9,11] (fun lv kv wr=>∃k:Nat,k≤n∧kv=.int .i64 k∧Hid (RwI wr w2.heap.size lv (iL (clN k e i)))∧Hid (Below w2.heap.size w2 wr)) (fun _ kv _=>n - (intOf kv).toNat)
   case atStart=>exact⟨0,Nat.zero_le _,rfl,HL0,Below.refl _ _⟩
   case round=>
    clear HL0
    obtain⟨k,hk,rfl,HRL,HB2⟩:=hrel
    by_cases hkn:k<n
    ·have HIN1:Hid (∀U:World,Below w2.heap.size w2 U→Calls Tryz.prog 39 #[.int .i64 (k:Nat),.slice do_ ll co] U fun e' w'=>e'=.returned (.bool (e i k))∧w'=U):=fun U hU=>by
      have h:=rIn_any ((k:Nat):Int) do_ co (iL L) U (HON.out.below hU) (by rw[iL_length,HLLE.out];omega)
      rw[inB_chn,iL_length,HLLE.out,HCMO.out.has hkn,HE.out] at h
      exact h
     have HC2:=hid (fun (U:World) (hU:Below w2.heap.size w2 U)=>HCO.out U (HR.out.below (HB1.out.trans ((HB.out.trans (hU.mono HB.out.size)).mono HB1.out.size))) k hkn)
     have HIN2:Hid (∀(U:World) (M:List Nat) (d:Option Addr) (cd:Nat),CmL n (rowQ X) k M→IntS U d (iL M)→Calls Tryz.prog 39 #[.int .i64 (i:Nat),.slice d (iL M).length cd] U fun e' w'=>e'=.returned (.bool (e k i))∧w'=U):=fun U M d cd hM hd=>by
      have h:=rIn_any ((i:Nat):Int) d cd (iL M) U hd (by rw[iL_length];have:=hM.most;omega)
      rw[inB_chn,hM.has hlt,HE.out] at h
      exact h
     have HSU:=hid (clN_succ k e i)
     have HLEN:Hid ((clN k e i).length≤1000):=Nat.le_trans (List.length_filter_le _ _) (by simp;omega)
     obtain⟨b1,hb1⟩:∃b,e i k=b:=⟨_,rfl⟩
     obtain⟨b2,hb2⟩:∃b,e k i=b:=⟨_,rfl⟩
     rw[hb1] at HIN1 HSU
     rw[hb2] at HIN2 HSU
     clear hb1 hb2
     go_wp2_with fail
     refine(HIN1.out _ HB2.out).mono ?_
     rintro e1 w3 ⟨rfl,rfl⟩
     go_wp2_with fail
     refine(HC2.out _ HB2.out).mono ?_
     rintro e1 w4 ⟨v4,M,rfl,hr4,hcm4,hb4⟩
     obtain⟨d4,c4,rfl,hin4⟩:=RwI.ints hr4
     have HI4:=hid (HIN2.out w4 M d4 c4 hcm4 hin4)
     have HRN:=hid (HRL.out.below hb4)
     have HBN:=hid (HB2.out.trans (hb4.mono HB2.out.size))
     clear hr4 hcm4 hb4 hin4 HIN1 HIN2 HC2 HRL HB2
     obtain⟨ml,hml⟩:∃x,(iL M).length=x:=⟨_,rfl⟩
     rw[hml] at HI4
     simp only[hml]
     clear hml
     go_wp2_with fail
     refine HI4.out.mono ?_
     rintro e1 w5 ⟨rfl,rfl⟩
     clear HI4
     have pass:∀(_:(b1&&b2)=false),Hid (RwI w5 w2.heap.size u9 (iL (clN (k+1) e i))):=fun q=>by
      show RwI _ _ _ _
      rw[HSU.out,q]
      simp only[Bool.false_eq_true,if_false,List.append_nil]
      exact HRN.out
     cases b1 with
     |false=>
      have HN:=pass rfl
      go_wp2
      go_roundw
      case rel=>exact⟨k+1,by omega,by go_num,HN,HBN⟩
      case measure=>simp[intOf];omega
     |true=>
      cases b2 with
      |false=>
       have HN:=pass rfl
       go_wp2
       go_roundw
       case rel=>exact⟨k+1,by omega,by go_num,HN,HBN⟩
       case measure=>simp[intOf];omega
      |true=>
       clear pass
       have HC9:Hid (iL (clN (k+1) e i)=iL (clN k e i)++[((k:Nat):Int)]):=by show _=_;rw[HSU.out,iL_append];rfl
       have HOWN:=hid HRN.out.own
       obtain⟨dl,cl,hle, -⟩:=RwI.ints HRN.out
       have HRA:Hid (RwI (w5.alloc (.cells #[.int .i64 (k:Nat)] 3)) w2.heap.size _ (iL (clN k e i))):=World.ownsRow.alloc HRN.out _
       have HBA:=hid (HBN.out.alloc HBN.out.size (.cells #[.int .i64 (k:Nat)] 3))
       have HIA:=hid (new_int w5 (k:Nat))
       clear hle
       go_wp2_with (at_builtin;refine wpList_append_ints rfl _ _ rfl w2.heap.size _ (iL (clN k e i)) [((k:Nat):Int)] rfl HRA.out (some ⟨w5.heap.size,0,none⟩) 1 rfl HIA.out (fun e=>by cases e) (by rw[iL_length];have:=HLEN.out;simp;omega) HBA.out.size ?_;intro v' w7 hr3 hg3;have HB3:=hid (HBA.out.grown hg3 HBA.out.size HOWN.out);have HR3:Hid (RwI w7 w2.heap.size v' (iL (clN (k+1) e i))):=(by rw[HC9.out];exact hr3))
       go_roundw
       case rel=>exact⟨k+1,by omega,by go_num,HR3,HB3⟩
       case measure=>simp[intOf];omega
    ·obtain rfl:n=k:=by omega
     have hsz2:=HB.out.size
     replace HK:=hid (HK.out.step HB2.out)
     replace HB:=hid (HB.out.trans (HB2.out.mono HB.out.size))
     have HR4:Hid (RwI wr w1.heap.size u9 (iL (clN n e i))):=HRL.out.lower hsz2
     clear HRL HB2 hsz2 HON
     obtain⟨w4,hw4⟩:∃x,x=wr:=⟨_,rfl⟩
     subst hw4
     have hm:=HME.out i hlt
     have hpos:=List.length_pos_of_mem hm
     obtain⟨dv,cv,rfl,hiv⟩:=RwI.ints HR4.out
     have hk0:0<(iL (clN n e i)).length:=by rw[iL_length];exact hpos
     obtain⟨gv,ov,rfl,hgv,c0⟩:=hiv 0 hk0
     rw[iL_get hpos,Nat.add_zero] at c0
     have HHD:Hid ((clN n e i).head? =some (clN n e i)[0]):=by show _=_;rw[List.head?_eq_getElem?,List.getElem?_eq_getElem hpos]
     have HST:=hid (lstN_succ n e i)
     have HQL:=hid HK.out.len
     have hql:=lstN_le n e i
     rw[iL_length] at HR4⊢
     generalize (clN n e i)[0]=f0 at *
     obtain⟨m,hcl⟩:∃m,(clN n e i).length=m:=⟨_,rfl⟩
     have HMME:=hid hcl
     rw[hcl] at HR4 hpos
     simp only[hcl]
     clear hcl hiv hm hk0
     by_cases hf:f0=i
     ·subst hf
      have HLS:Hid (lstN n e (f0+1)=lstN n e f0++[f0]):=by show _=_;rw[HST.out,if_pos HHD.out]
      obtain⟨dx,cx,rfl, -⟩:=owns_slice HK.out.row.1
      obtain⟨dy,cy,hye, -, -⟩:=HK.out.cl.bos
      obtain⟨BL,hBL⟩:∃BL,(lstN n e f0).map (stB n e)=BL:=⟨_,rfl⟩
      rw[hBL] at hye
      have HBLE:=hid hBL
      have hBLl:BL.length≤n:=by rw[←hBL,List.length_map];omega
      clear hBL
      subst hye
      have hAL:=(Below.refl w4.heap.size w4).alloc (Nat.le_refl _) (.cells #[.slice (some ⟨gv,ov,none⟩) m cv] 24)
      have hone:(w4.alloc (.cells #[.slice (some ⟨gv,ov,none⟩) m cv] 24)).heap[w4.heap.size]? =some (.cells #[.slice (some ⟨gv,ov,none⟩) m cv] 24 (0,0)):=heap_alloc_new w4 _
      have HC1:Hid ((w4.alloc (.cells #[.slice (some ⟨gv,ov,none⟩) m cv] 24)).cell? ⟨w4.heap.size,0,none⟩=some (.slice (some ⟨gv,ov,none⟩) m cv)):=by
       show _=_
       rw[cell_of_row _ _ _ _ _ (0,0) hone]
       rfl
      have HK5:=hid (HK.out.step hAL)
      have HR5:=hid (HR4.out.below hAL)
      have HB5:=hid (HB.out.trans (hAL.mono HB.out.size))
      have HV5:=hid HK.out.val
      have hQ:Q.length+1≤100000:=by have:=HQL.out;omega
      have HLL:Hid (BL.length+1≤100000):=by show _≤_;omega
      have HSLV:Hid (SlV (.slice (some ⟨gv,ov,none⟩) m cv)):=⟨_,_,_,rfl⟩
      clear hAL hone HK HB HR4 HHD HST
      have HBV:Hid (stB n e f0=((ll:Int)==(m:Int))):=by
       show _=_
       by_cases hlm:ll=m
       ·rw[HSTB.out.2 (by rw[HLLE.out,HMME.out,hlm]),hlm]
        simp
       ·have hq:stB n e f0=false:=by
         cases q:stB n e f0 with
         |false=>rfl
         |true=>exact absurd (by rw[←HLLE.out,←HMME.out];exact HSTB.out.1 q) hlm
        rw[hq]
        simp
        omega
      go_wp2_with (first
       |(at_builtin;refine wpList_append_lr rfl _ _ rfl w1.heap.size (.slice dx Q.length cx) Q (.slice (some ⟨gv,ov,none⟩) m cv) HSLV.out rfl HK5.out.row.1 w4.heap.size rfl HC1.out hQ HB5.out.size ?_;intro v6 w6 hr6 hg6;obtain⟨h6a,h6b⟩:=HK5.out.push hr6 hg6 HR5.out;have HB6:=hid (HB5.out.grown hg6 HB5.out.size (fun k e=>owns_from HK5.out.row.1 k e));have HX7:=hid (h6a.keep (KeepT.below ((Below.refl w6.heap.size w6).alloc (Nat.le_refl _) (.cells #[.bool ((ll:Int)==(m:Int))] 4))) (KeepT.below ((Below.refl w6.heap.size w6).alloc (Nat.le_refl _) (.cells #[.bool ((ll:Int)==(m:Int))] 4))));have HY7:Hid (RwB' (w6.alloc (.cells #[.bool ((ll:Int)==(m:Int))] 4)) w1.heap.size (.slice dy BL.length cy) BL):=(by rw[HBLE.out] at h6b;exact owns_keep h6b (KeepT.below ((Below.refl w6.heap.size w6).alloc (Nat.le_refl _) (.cells #[.bool ((ll:Int)==(m:Int))] 4))));have HB7:=hid (HB6.out.alloc HB6.out.size (.cells #[.bool ((ll:Int)==(m:Int))] 4));have HC7:Hid ((w6.alloc (.cells #[.bool ((ll:Int)==(m:Int))] 4)).cell? ⟨w6.heap.size,0,none⟩=some (.bool ((ll:Int)==(m:Int)))):=(by show _=_;rw[cell_of_row _ _ _ _ _ (0,0) (heap_alloc_new w6 (.cells #[.bool ((ll:Int)==(m:Int))] 4))];rfl);clear h6a h6b hr6 hg6)
       |(at_builtin;refine wpList_append_bo rfl _ _ rfl w1.heap.size (.slice dy BL.length cy) BL ((ll:Int)==(m:Int)) rfl HY7.out w6.heap.size rfl HC7.out HLL.out HB7.out.size ?_;intro v8 w8 hr8 hg8;have HK8:Hid (ClS w1.heap.size n e (f0+1) v6 v8 (Q++[(.slice (some ⟨gv,ov,none⟩) m cv,iL (clN n e f0))]) w8):=ClS.done HX7.out (by rw[HBLE.out];exact HY7.out) HV5.out HLS.out (by rw[HBLE.out,HBV.out];exact hr8) hg8;have HB8:=hid (HB7.out.grown hg8 HB7.out.size (fun k e=>owns_from HY7.out k e));clear hr8 hg8))
      go_roundw
      case rel=>exact⟨f0+1,_,by omega,by go_num,HK8,HB8⟩
      case measure=>simp[intOf];omega
     ·have hne:¬((f0:Int)=(i:Int)):=by omega
      have HLS:Hid (lstN n e (i+1)=lstN n e i):=by
       show _=_
       rw[HST.out,if_neg (by rw[HHD.out];exact fun e=>hf (Option.some.inj e)),List.append_nil]
      have HKN:Hid (ClS w1.heap.size n e (i+1) u6 u7 Q w4):=⟨HK.out.row,by rw[HLS.out];exact HK.out.cl,by rw[HLS.out];exact HK.out.val⟩
      go_wp2
      go_roundw
      case rel=>exact⟨i+1,Q,by omega,by go_num,HKN,HB⟩
      case measure=>simp[intOf];omega
  ·obtain rfl:n=i:=by omega
   have HBF:=hid (HB1.out.trans (HB.out.mono HB1.out.size))
   go_wp2
   go_ret3
   exact⟨_,_,Q,_,rfl,HB1.out.size,HK.out,HBF.out⟩
end Go.Proofs.YtmbjmiioggfneaaGreatDoor

/- The answer's ClosedOf. -/
namespace Go.Proofs.YtmbjmiioggfneaaGreatDoor
open Go.RowKit Go.Shelf
def clsd (n:Nat) (P:Nat→Nat→Rat):List Nat:=(lstN n (cmsB n P) n).filter (stB n (cmsB n P))
theorem OneC.sole {n:Nat} {P:Nat→Nat→Rat} {k:Nat} (h:OneC n P k):clsd n P=[k]:=by
 have hnd:(clsd n P).Nodup:=List.Pairwise.filter _ (lstN_nodup _ _ _)
 have hk:k∈clsd n P:=List.mem_filter.2 ⟨h.mem,h.shut⟩
 have ho:∀x∈clsd n P,x=k:=fun x hx=>h.only x (List.mem_filter.1 hx).1 (List.mem_filter.1 hx).2
 generalize clsd n P=c at *
 match c,hnd,hk,ho with
 |[],_,hk,_=>cases hk
 |[x],_,_,ho=>rw[ho x (by simp)]
 |x::y::r,hnd,_,ho=>
  have e1:=ho x (by simp)
  have e2:=ho y (by simp)
  simp[e1,e2] at hnd
theorem clsd_many {n:Nat} {P:Nat→Nat→Rat} (h1:1≤n) (h:true∈(clB n P).drop (fstT (clB n P)+1)):(clsd n P).length≠1:=fun hl=>by
 obtain⟨hk,h2, -⟩:=fstT_spec (clB n P) (clB_true h1)
 obtain⟨t,ht,e⟩:=List.mem_iff_getElem.1 h
 rw[List.length_drop] at ht
 rw[List.getElem_drop] at e
 obtain⟨k,hc⟩:=List.length_eq_one_iff.1 hl
 have hlen:(clB n P).length=(lstN n (cmsB n P) n).length:=by simp
 have hin:∀t (h:t<(lstN n (cmsB n P) n).length),stB n (cmsB n P) (lstN n (cmsB n P) n)[t]=true→(lstN n (cmsB n P) n)[t]=k:=fun t h hs=>by
  have h9:(lstN n (cmsB n P) n)[t]∈clsd n P:=List.mem_filter.2 ⟨List.getElem_mem h,hs⟩
  rw[hc] at h9
  exact List.mem_singleton.1 h9
 have a1:=hin (fstT (clB n P)) (by omega) (by simpa using h2)
 have a2:=hin (fstT (clB n P)+1+t) (by omega) (by simpa using e)
 exact(List.pairwise_iff_getElem.1 (lstN_nodup n (cmsB n P) n)) (fstT (clB n P)) (fstT (clB n P)+1+t) (by omega) (by omega) (by omega) (a1.trans a2.symm)
theorem take_filter {T:List Nat} {s:Nat→Bool} {i:Nat} (h:i<T.length):(T.take (i+1)).filter s=(T.take i).filter s++if s T[i] then[T[i]] else[]:=by
 rw[List.take_succ_eq_append_getElem h,List.filter_append]
 congr 1
 cases q:s T[i] with
 |true=>simp[q]
 |false=>simp[q]
set_option maxRecDepth 100000 in
set_option maxHeartbeats 4000000 in
theorem rClosed_any (a:Option Addr) (ca n:Nat) (X:Nat→Nat→Fr) (w:World) (hR:FsS w a (mF n X)) (hm:ChX n X):
  Calls Tryz.prog 45 #[.slice a n ca] w fun e' w'=>∃d m c,e'=.returned (.tuple #[.slice d m c,.bool (decide ((clsd n (rowQ X)).length=1))])∧Below w.heap.size w w'∧∀k,(clsd n (rowQ X)).getLast? =some k→m=(clN n (cmsB n (rowQ X)) k).length∧IntS w' d (iL (clN n (cmsB n (rowQ X)) k)):=by
 have h5:=hm.five
 have HCL:=hid (rClasses_any a ca n X w hR hm)
 clear hR hm
 rw[clsd]
 generalize cmsB n (rowQ X)=e at *
 go_enter Tryz.func45,Tryz.ntmps45
 go_wp2_with fail
 refine HCL.out.mono ?_
 rintro e1 W ⟨x,y,Q,B,rfl,hB,hcs,hbW⟩
 have HBW:=hid hbW
 have HCS:=hid hcs
 have hQL:=hcs.len
 have hll:=lstN_le n e n
 obtain⟨dx,cx,rfl, -⟩:=owns_slice hcs.row.1
 obtain⟨dy,cy,hye,hbo, -⟩:=hcs.cl.bos
 rw[List.length_map] at hye
 subst hye
 have HBO:=hid hbo
 have HVAL:=hid hcs.val
 clear hbW hcs hbo HCL
 obtain⟨T,hT⟩:∃T,lstN n e n=T:=⟨_,rfl⟩
 rw[hT] at HBO HVAL hQL hll⊢
 have HT:=hid hT
 clear hT
 obtain⟨s,hs⟩:∃s,stB n e=s:=⟨_,rfl⟩
 rw[hs] at HBO
 have HS:=hid hs
 clear hs
 rw[←hQL]
 rw[←hQL] at hll
 have HQL:=hid hQL
 obtain⟨q,hq⟩:∃q,Q.length=q:=⟨_,rfl⟩
 have HQE:=hid hq
 rw[hq] at hll
 simp only[hq]
 clear hq hQL
 go_wp2_with fail
 go_loopw [7,8,9] (fun cv lv iv wr=>∃i c:Nat,i≤q∧c≤i∧iv=.int .i64 i∧cv=.int .i64 c∧W=wr∧Hid (((T.take i).filter s).length=c)∧∃d m cc,lv=.slice d m cc∧Hid (∀k,((T.take i).filter s).getLast? =some k→m=(clN n e k).length∧IntS W d (iL (clN n e k)))) (fun _ _ iv _=>q - (intOf iv).toNat)
 case atStart=>exact⟨0,0,Nat.zero_le _,Nat.le_refl _,rfl,rfl,rfl,rfl,none,0,0,rfl,fun k hk=>by cases hk⟩
 case round=>
  obtain⟨i,c,hi,hc,rfl,rfl,rfl,HC,d,m,cc,rfl,HL⟩:=hrel
  by_cases hlt:i<q
  ·have hiQ:i<Q.length:=by rw[HQE.out];exact hlt
   have hiT:i<T.length:=by rw[←HQL.out];exact hiQ
   obtain⟨gy,oy,hde,hgy,cy0⟩:=HBO.out i (by rw[List.length_map];exact hiT)
   subst hde
   rw[List.getElem_map] at cy0
   have hq2:Q[i].2=iL (clN n e T[i]):=by
    have h8:(Q.map (·.2))[i]? =(T.map fun k=>iL (clN n e k))[i]?:=by rw[HVAL.out]
    rw[List.getElem?_map,List.getElem?_map,List.getElem?_eq_getElem hiQ,List.getElem?_eq_getElem hiT] at h8
    exact Option.some.inj h8
   have hrw:=HCS.out.row.2 Q[i] (List.getElem_mem hiQ)
   rw[hq2] at hrw
   obtain⟨dl,cl,hqe,hil⟩:=RwI.ints hrw
   have HXC:Hid (∃gx ox,dx=some ⟨gx,ox,none⟩∧gx<W.heap.size∧W.cell? ⟨gx,ox+i,none⟩=some (.slice dl (iL (clN n e T[i])).length cl)):=by
    rcases HCS.out.row.1.2 with ⟨e8,e9⟩ |⟨g8,cap8,cur8,e8,_,e10,_⟩
    ·omega
    ·have h8:=HCS.out.row.1
     rw[e8] at h8
     cases e8
     refine⟨g8,0,rfl,(Array.getElem?_eq_some_iff.1 e10).1,?_⟩
     rw[Nat.zero_add,World.ownsRow.cellAt h8 i (by omega)]
     simp[hiQ,hqe]
   obtain⟨gx,ox,rfl,hgx,cx0⟩:=HXC.out
   have HTF:=hid (take_filter (s:=s) hiT)
   have HIL:=hid hil
   rw[iL_length] at cx0
   obtain⟨tk,htk⟩:∃t,T[i]=t:=⟨_,rfl⟩
   rw[htk] at cy0 cx0 HTF HIL
   obtain⟨ml,hml⟩:∃x,(clN n e tk).length=x:=⟨_,rfl⟩
   have HML:=hid hml
   rw[hml] at cx0
   clear HXC hil hqe hrw hq2 htk hml
   obtain⟨b,hb⟩:∃b,s tk=b:=⟨_,rfl⟩
   rw[hb] at cy0 HTF
   clear hb
   cases b with
   |false=>
    have HCN:Hid (((T.take (i+1)).filter s).length=c):=by show _=_;rw[HTF.out];simpa using HC.out
    have HLN:Hid (∀k,((T.take (i+1)).filter s).getLast? =some k→m=(clN n e k).length∧IntS W d (iL (clN n e k))):=fun k hk=>HL.out k (by rw[HTF.out] at hk;simpa using hk)
    go_wp2
    go_roundw
    case rel=>exact⟨i+1,c,by omega,by omega,by go_num,rfl,trivial,HCN,d,m,cc,rfl,HLN⟩
    case measure=>simp[intOf];omega
   |true=>
    have HCN:Hid (((T.take (i+1)).filter s).length=c+1):=by show _=_;rw[HTF.out,if_pos rfl,List.length_append,HC.out];rfl
    have HLN:Hid (∀k,((T.take (i+1)).filter s).getLast? =some k→ml=(clN n e k).length∧IntS W dl (iL (clN n e k))):=fun k hk=>by
     rw[HTF.out,if_pos rfl,List.getLast?_concat] at hk
     cases hk
     exact⟨HML.out.symm,HIL.out⟩
    go_wp2
    go_roundw
    case rel=>exact⟨i+1,c+1,by omega,by omega,by go_num,by go_num,trivial,HCN,dl,ml,cl,rfl,HLN⟩
    case measure=>simp[intOf];omega
  ·obtain rfl:i=q:=by omega
   have HTT:Hid (T.take i=T):=List.take_of_length_le (by rw[←HQL.out,HQE.out];omega)
   rw[HTT.out] at HC HL
   go_wp2
   go_ret2
   rw[HT.out,HS.out,HC.out]
   exact⟨d,m,cc,by by_cases h:c=1<;>simp[h]<;>omega,HBW.out,HL.out⟩
end Go.Proofs.YtmbjmiioggfneaaGreatDoor

/- Plain: the tree theorem of chains of up to five states: what goes out of a state and what comes in, weighed by the trees that lead there, is the same. -/
namespace Go.Proofs.YtmbjmiioggfneaaGreatDoor
def sumLs (n:Nat):Nat→(List Nat→Rat)→Rat
 |0,F=>F []
 |m+1,F=>sumR (fun k=>sumLs n m fun l=>F (k::l)) n
def prW (q:Nat→Nat→Rat):Nat→List Nat→Rat
 |_,[]=>1
 |i,k::l=>prW q (i+1) l*q i k
theorem sumLs_congr {n:Nat}:∀ {m:Nat} {F G:List Nat→Rat},(∀l,l.length=m→(∀x∈l,x<n)→F l=G l)→sumLs n m F=sumLs n m G
 |0,F,G,h=>h [] rfl fun x hx=>by cases hx
 |m+1,F,G,h=>by
  rw[sumLs,sumLs]
  refine sumR_congr fun k hk=>sumLs_congr fun l hl hx=>h (k::l) (by rw[List.length_cons,hl]) fun x hm=>?_
  rcases List.mem_cons.1 hm with rfl |hm
  ·exact hk
  ·exact hx x hm
theorem sumLs_add (n:Nat):∀(m:Nat) (F G:List Nat→Rat),sumLs n m (fun l=>F l+G l)=sumLs n m F+sumLs n m G
 |0,_,_=>rfl
 |m+1,F,G=>by
  rw[sumLs,sumLs,sumLs,←sumR_add]
  exact sumR_congr fun k _=>sumLs_add n m _ _
theorem sumLs_mul (n:Nat) (c:Rat):∀(m:Nat) (F:List Nat→Rat),sumLs n m (fun l=>c*F l)=c*sumLs n m F
 |0,_=>rfl
 |m+1,F=>by
  rw[sumLs,sumLs,←sumR_mul]
  exact sumR_congr fun k _=>sumLs_mul n c m _
theorem sumLs_none (n:Nat):∀m,sumLs n m (fun _=>0)=0
 |0=>rfl
 |m+1=>by
  rw[sumLs]
  exact sumR_zero fun k _=>sumLs_none n m
theorem sumLs_sum (n m:Nat) (F:Nat→List Nat→Rat):∀t,sumLs n m (fun l=>sumR (fun i=>F i l) t)=sumR (fun i=>sumLs n m (F i)) t
 |0=>sumLs_none n m
 |t+1=>by
  rw[sumR,←sumLs_sum n m F t,←sumLs_add]
  rfl
def putW (q:Nat→Nat→Rat) (j:Nat) (r:Nat→Rat):Nat→Nat→Rat:=fun i k=>if i=j then r k else q i k
theorem prW_behind {q:Nat→Nat→Rat} {j:Nat} {r:Nat→Rat}:∀(l:List Nat) (i:Nat),j<i→prW (putW q j r) i l=prW q i l
 |[],_,_=>rfl
 |k::l,i,h=>by rw[prW,prW,prW_behind l (i+1) (by omega),putW,if_neg (by omega)]
theorem sumLs_out {n j:Nat} (hj:j<n) (q:Nat→Nat→Rat) (r:Nat→Rat):∀(m i:Nat) (H:List Nat→Rat),i≤j→j<i+m→(∀l x,H (l.set (j - i) x)=H l)→sumLs n m (fun l=>H l*prW (putW q j r) i l)=sumR r n*sumLs n m (fun l=>H l*prW (putW q j fun k=>if j=k then 1 else 0) i l)
 |0,i,_,h1,h2,_=>by omega
 |m+1,i,H,h1,h2,hH=>by
  by_cases e:i=j
  ·subst e
   have hs:∀k l,H (k::l)=H (i::l):=fun k l=>by
    have:=hH (k::l) i
    rw[Nat.sub_self] at this
    exact this.symm
   have key:∀s:Nat→Rat,sumLs n (m+1) (fun l=>H l*prW (putW q i s) i l)=sumR s n*sumLs n m (fun l=>H (i::l)*prW q (i+1) l):=fun s=>by
    rw[sumLs,←sumR_mulR]
    refine sumR_congr fun k _=>?_
    rw[←sumLs_mul]
    refine sumLs_congr fun l _ _=>?_
    rw[hs k l,prW,prW_behind l (i+1) (by omega),putW,if_pos rfl]
    grind
   rw[key r,key fun k=>if i=k then 1 else 0]
   have h9:=sumR_one (fun _=>(1:Rat)) hj
   simp only[Rat.mul_one] at h9
   rw[h9,Rat.one_mul]
  ·rw[sumLs,sumLs,←sumR_mul]
   refine sumR_congr fun k _=>?_
   have ih:=sumLs_out hj q r m (i+1) (fun l=>H (k::l)*q i k) (by omega) (by omega) fun l x=>by
    have:=hH (k::l) x
    rw[show j - i=(j - (i+1))+1 by omega,List.set_cons_succ] at this
    rw[this]
   have hp:∀s,(fun l=>H (k::l)*prW (putW q j s) i (k::l))=fun l=>H (k::l)*q i k*prW (putW q j s) (i+1) l:=fun s=>by
    funext l
    rw[prW,putW,if_neg e]
    grind
   rw[hp,hp]
   exact ih
def stpR (r:Nat) (l:List Nat) (k:Nat):Nat:=if k=r then r else l.getD k 0
def itR (r:Nat) (l:List Nat):Nat→Nat→Nat
 |0,k=>k
 |t+1,k=>itR r l t (stpR r l k)
def okR (n r:Nat) (l:List Nat):Bool:=(List.range n).all fun i=>itR r l n i==r
theorem itR_set (r:Nat) (l:List Nat) (x:Nat):∀t k,itR r (l.set r x) t k=itR r l t k
 |0,_=>rfl
 |t+1,k=>by
  have e:stpR r (l.set r x) k=stpR r l k:=by
   unfold stpR
   by_cases h:k=r
   ·rw[if_pos h,if_pos h]
   ·rw[if_neg h,if_neg h,List.getD_eq_getElem?_getD,List.getD_eq_getElem?_getD,List.getElem?_set_ne (Ne.symm h)]
  rw[itR,itR,e,itR_set r l x t]
theorem okR_set (n r:Nat) (l:List Nat) (x:Nat):okR n r (l.set r x)=okR n r l:=by
 unfold okR
 congr 1
 funext i
 rw[itR_set]
def lsts (n:Nat):Nat→List (List Nat)
 |0=>[[]]
 |m+1=>(List.range n).flatMap fun k=>(lsts n m).map fun l=>k::l
theorem lsts_mem {n:Nat}:∀ {m:Nat} {l:List Nat},l.length=m→(∀x∈l,x<n)→l∈lsts n m
 |0,[],_,_=>List.mem_singleton.2 rfl
 |m+1,k::l,h,hx=>by
  rw[lsts]
  refine List.mem_flatMap.2 ⟨k,List.mem_range.2 (hx k List.mem_cons_self),List.mem_map.2 ⟨l,lsts_mem (by simpa using h) fun x hm=>hx x (List.mem_cons_of_mem _ hm),rfl⟩⟩
 |0,_::_,h,_=>by cases h
 |m+1,[],h,_=>by cases h
def cntR (n j:Nat) (l:List Nat):Nat:=((List.range n).filter fun i=>okR n i l&&l.getD i 0==j).length
def noFix (n:Nat) (l:List Nat):Bool:=(List.range n).all fun i=>l.getD i 0 !=i
def allR (n:Nat):Bool:=(lsts n n).all fun l=>!noFix n l ||(List.range n).all fun j=>cntR n j l==if okR n j l then 1 else 0
theorem allR_2:allR 2=true:=by decide+kernel
theorem allR_3:allR 3=true:=by decide+kernel
theorem allR_4:allR 4=true:=by decide+kernel
theorem allR_5:allR 5=true:=by decide+kernel
theorem allR_at {n:Nat} (hn:n≤5):allR n=true:=by
 match n,hn with
 |0,_=>decide+kernel
 |1,_=>decide+kernel
 |2,_=>exact allR_2
 |3,_=>exact allR_3
 |4,_=>exact allR_4
 |5,_=>exact allR_5
 |n+6,h=>omega
def offD (p:Nat→Nat→Rat):Nat→Nat→Rat:=fun i k=>if k=i then 0 else p i k
def bQ (b:Bool):Rat:=if b then 1 else 0
def trW (n:Nat) (p:Nat→Nat→Rat) (j:Nat):Rat:=sumLs n n fun l=>bQ (okR n j l)*prW (putW (offD p) j fun k=>if j=k then 1 else 0) 0 l
theorem putW_same (q:Nat→Nat→Rat) (j:Nat):putW q j (q j)=q:=by
 funext i k
 unfold putW
 by_cases e:i=j
 ·rw[if_pos e,e]
 ·rw[if_neg e]
theorem tree_out {n j:Nat} (hj:j<n) (p:Nat→Nat→Rat) (r:Nat→Rat):sumLs n n (fun l=>bQ (okR n j l)*prW (putW (offD p) j r) 0 l)=sumR r n*trW n p j:=
 sumLs_out hj (offD p) r n 0 (fun l=>bQ (okR n j l)) (Nat.zero_le _) (by omega) fun l x=>by rw[Nat.sub_zero,okR_set]
theorem prW_pick {q:Nat→Nat→Rat} {i j:Nat}:∀(l:List Nat) (i0:Nat),i0≤i→i<i0+l.length→prW (putW q i fun k=>if k=j then q i j else 0) i0 l=bQ (l.getD (i - i0) 0==j)*prW q i0 l
 |[],i0,h1,h2=>by rw[List.length_nil] at h2;omega
 |k::l,i0,h1,h2=>by
  rw[prW,prW]
  by_cases e:i0=i
  ·subst e
   rw[prW_behind l (i0+1) (by omega),putW,if_pos rfl,Nat.sub_self]
   show _=bQ (k==j)*_
   by_cases ek:k=j
   ·subst ek
    rw[if_pos rfl,beq_self_eq_true,bQ,if_pos rfl]
    grind
   ·rw[if_neg ek,beq_eq_false_iff_ne.2 ek,bQ,if_neg (by decide)]
    grind
  ·rw[prW_pick l (i0+1) (by omega) (by rw[List.length_cons] at h2;omega),putW,if_neg e,show i - i0=i - (i0+1)+1 by omega,List.getD_cons_succ]
   grind
theorem prW_fix {p:Nat→Nat→Rat} {i:Nat}:∀(l:List Nat) (i0:Nat),i0≤i→i<i0+l.length→l.getD (i - i0) 0=i→prW (offD p) i0 l=0
 |[],i0,h1,h2,_=>by rw[List.length_nil] at h2;omega
 |k::l,i0,h1,h2,h3=>by
  rw[prW]
  by_cases e:i0=i
  ·subst e
   rw[Nat.sub_self] at h3
   have h4:k=i0:=h3
   rw[offD,if_pos h4,Rat.mul_zero]
  ·rw[prW_fix (i:=i) l (i0+1) (by omega) (by rw[List.length_cons] at h2;omega) (by
    rw[show i - i0=i - (i0+1)+1 by omega,List.getD_cons_succ] at h3
    exact h3),Rat.zero_mul]
theorem bQ_count (b:Nat→Bool):∀n,sumR (fun i=>bQ (b i)) n=((((List.range n).filter b).length:Nat):Rat)
 |0=>rfl
 |n+1=>by
  rw[sumR,bQ_count b n,List.range_succ,List.filter_append,List.length_append,Rat.natCast_add]
  congr 1
  cases h:b n<;>simp[bQ,h]
theorem bQ_and (a b:Bool):bQ a*bQ b=bQ (a&&b):=by cases a<;>cases b<;>simp[bQ]
theorem sumR_onlyJ {n j:Nat} (hj:j<n) (c:Rat):sumR (fun k=>if k=j then c else 0) n=c:=by
 refine(sumR_congr fun k _=>?_).trans (sumR_one (fun _=>c) hj)
 by_cases e:k=j
 ·rw[if_pos e,if_pos e.symm,Rat.one_mul]
 ·rw[if_neg e,if_neg (Ne.symm e),Rat.zero_mul]
theorem tree_thm {n j:Nat} (hn:n≤5) (hj:j<n) (p:Nat→Nat→Rat):sumR (fun i=>trW n p i*offD p i j) n=trW n p j*sumR (offD p j) n:=by
 have h1:trW n p j*sumR (offD p j) n=sumLs n n fun l=>bQ (okR n j l)*prW (offD p) 0 l:=by
  have h:=tree_out hj p (offD p j)
  rw[putW_same] at h
  rw[h,Rat.mul_comm]
 have h2:∀i,i<n→trW n p i*offD p i j=sumLs n n fun l=>bQ (okR n i l&&l.getD i 0==j)*prW (offD p) 0 l:=fun i hi=>by
  have h:=tree_out hi p fun k=>if k=j then offD p i j else 0
  rw[sumR_onlyJ hj,Rat.mul_comm] at h
  rw[←h]
  refine sumLs_congr fun l hl _=>?_
  rw[prW_pick l 0 (Nat.zero_le _) (by omega),Nat.sub_zero,←bQ_and]
  grind
 rw[h1,sumR_congr h2,←sumLs_sum]
 refine sumLs_congr fun l hl hx=>?_
 rw[sumR_mulR,bQ_count]
 have hall:=List.all_eq_true.1 (allR_at hn) l (lsts_mem hl hx)
 by_cases hf:noFix n l=true
 ·rw[hf] at hall
  have h5:∀x,x<n→cntR n x l=if okR n x l=true then 1 else 0:=by simpa using hall
  have h3:=h5 j hj
  have h4:((List.range n).filter fun i=>okR n i l&&l.getD i 0==j).length=if okR n j l then 1 else 0:=h3
  rw[h4]
  congr 1
  cases okR n j l<;>simp[bQ]
 ·obtain⟨i,hi,hfi⟩:∃i,i<n∧l.getD i 0=i:=by
   have h5:¬∀i∈List.range n,(l.getD i 0 !=i)=true:=fun h=>hf (List.all_eq_true.2 h)
   refine Classical.byContradiction fun hne=>h5 fun i hi=>?_
   have h6:¬l.getD i 0=i:=fun e=>hne ⟨i,List.mem_range.1 hi,e⟩
   simpa using h6
  rw[prW_fix (i:=i) l 0 (Nat.zero_le _) (by omega) (by rw[Nat.sub_zero];exact hfi),Rat.mul_zero,Rat.mul_zero]
end Go.Proofs.YtmbjmiioggfneaaGreatDoor

/- Plain: the answer's trees, as it goes through them. -/
namespace Go.Proofs.YtmbjmiioggfneaaGreatDoor
def trQ (n:Nat) (p:Nat→Nat→Rat) (r:Nat):Nat→List Nat→Rat
 |0,next=>bQ (okR n r next)
 |f+1,next=>if next.length=r then trQ n p r f (next++[next.length]) else sumR (fun k=>if k=next.length then 0 else trQ n p r f (next++[k])*p next.length k) n
theorem sumR_pickJ {n j:Nat} (hj:j<n) (x:Nat→Rat):sumR (fun k=>x k*(if j=k then 1 else 0)) n=x j:=by
 refine(sumR_congr fun k _=>?_).trans (sumR_one x hj)
 exact Rat.mul_comm _ _
theorem trQ_is {n r:Nat} (p:Nat→Nat→Rat) (hr:r<n):∀(f:Nat) (next:List Nat),next.length+f=n→trQ n p r f next=sumLs n f fun l=>bQ (okR n r (next++l))*prW (putW (offD p) r fun k=>if r=k then 1 else 0) next.length l
 |0,next,_=>by rw[trQ,sumLs,prW,List.append_nil,Rat.mul_one]
 |f+1,next,h=>by
  rw[trQ,sumLs]
  have ih:∀k,trQ n p r f (next++[k])=sumLs n f fun l=>bQ (okR n r (next++k::l))*prW (putW (offD p) r fun k=>if r=k then 1 else 0) (next.length+1) l:=fun k=>by
   rw[trQ_is p hr f (next++[k]) (by rw[List.length_append,List.length_singleton];omega),List.length_append,List.length_singleton]
   refine sumLs_congr fun l _ _=>?_
   rw[List.append_assoc,List.singleton_append]
  have e:∀k,(sumLs n f fun l=>bQ (okR n r (next++k::l))*prW (putW (offD p) r fun k=>if r=k then 1 else 0) next.length (k::l))=trQ n p r f (next++[k])*putW (offD p) r (fun k=>if r=k then 1 else 0) next.length k:=fun k=>by
   rw[ih k,Rat.mul_comm,←sumLs_mul]
   refine sumLs_congr fun l _ _=>?_
   rw[prW]
   grind
  rw[sumR_congr fun k _=>e k]
  by_cases hl:next.length=r
  ·rw[if_pos hl]
   have e2:∀k,putW (offD p) r (fun k=>if r=k then 1 else 0) next.length k=if r=k then 1 else 0:=fun k=>by rw[putW,if_pos hl]
   rw[sumR_congr fun k _=>by rw[e2 k],sumR_pickJ hr,hl]
  ·rw[if_neg hl]
   refine sumR_congr fun k _=>?_
   rw[putW,if_neg hl,offD]
   by_cases hk:k=next.length
   ·rw[if_pos hk,if_pos hk,Rat.mul_zero]
   ·rw[if_neg hk,if_neg hk]
theorem trQ_all {n r:Nat} (p:Nat→Nat→Rat) (hr:r<n):trQ n p r n []=trW n p r:=trQ_is p hr n [] (by rw[List.length_nil];omega)
end Go.Proofs.YtmbjmiioggfneaaGreatDoor

/- Plain: how long the numbers of trees are. -/
namespace Go.Proofs.YtmbjmiioggfneaaGreatDoor
variable {n r:Nat} {p:Nat→Nat→Rat} {D:Nat→Nat}
def prodF (D:Nat→Nat) (i f:Nat):Nat:=prodN f fun t=>D (i+t)
theorem prodF_succ (D:Nat→Nat) (i f:Nat):prodF D i (f+1)=D i*prodF D (i+1) f:=by
 unfold prodF
 rw[prodN,Nat.add_zero]
 congr 2
 funext t
 rw[show i+(t+1)=i+1+t by omega]
theorem trQ_whl (hn:1≤n) (hw:∀i,i<n→∀k,k<n→Whl (D i) (p i k)) (ha:∀i,i<n→∀k,k<n→Abs 1 (p i k)):∀(f:Nat) (next:List Nat),next.length+f=n→Whl (prodF D next.length f) (trQ n p r f next)∧Abs (n^f) (trQ n p r f next)
 |0,next,_=>by
  rw[trQ,prodF,prodN,bQ]
  split
  ·exact⟨⟨1,by rw[Rat.one_mul];rfl⟩,by rw[Nat.pow_zero];exact⟨by decide,by decide⟩⟩
  ·exact⟨Whl.zero _,by rw[Nat.pow_zero];exact⟨by decide,by decide⟩⟩
 |f+1,next,h=>by
  rw[trQ]
  have ih:∀k,Whl (prodF D (next.length+1) f) (trQ n p r f (next++[k]))∧Abs (n^f) (trQ n p r f (next++[k])):=fun k=>by
   have h9:=trQ_whl hn hw ha f (next++[k]) (by rw[List.length_append,List.length_singleton];omega)
   rw[List.length_append,List.length_singleton] at h9
   exact h9
  rw[prodF_succ,Nat.pow_succ,Nat.mul_comm (n^f) n]
  split
  ·refine⟨?_,(ih _).2.up (Nat.le_mul_of_pos_left _ hn)⟩
   have:=(ih next.length).1.times (D next.length)
   rwa [Nat.mul_comm] at this
  ·refine⟨Whl.sum fun k hk=>?_,Abs.sum fun k hk=>?_⟩
   ·split
    ·exact Whl.zero _
    ·have:=(ih k).1.mul (hw next.length (by omega) k hk)
     rwa [Nat.mul_comm] at this
   ·split
    ·exact Abs.zero.up (Nat.zero_le _)
    ·have:=(ih k).2.mul (ha next.length (by omega) k hk)
     rwa [Nat.mul_one] at this
theorem trQ_part (hn:1≤n) (hw:∀i,i<n→∀k,k<n→Whl (D i) (p i k)) (ha:∀i,i<n→∀k,k<n→Abs 1 (p i k)) {f:Nat} {next:List Nat} (h:next.length+(f+1)=n) {t:Nat} (ht:t≤n):Whl (prodF D next.length (f+1)) (sumR (fun k=>if k=next.length then 0 else trQ n p r f (next++[k])*p next.length k) t)∧Abs (n^(f+1)) (sumR (fun k=>if k=next.length then 0 else trQ n p r f (next++[k])*p next.length k) t):=by
 have ih:∀k,Whl (prodF D (next.length+1) f) (trQ n p r f (next++[k]))∧Abs (n^f) (trQ n p r f (next++[k])):=fun k=>by
  have h9:=trQ_whl (r:=r) hn hw ha f (next++[k]) (by rw[List.length_append,List.length_singleton];omega)
  rw[List.length_append,List.length_singleton] at h9
  exact h9
 rw[prodF_succ,Nat.pow_succ,Nat.mul_comm (n^f) n]
 refine⟨Whl.sum fun k hk=>?_,(Abs.sum (B:=n^f) fun k hk=>?_).up (Nat.mul_le_mul_right _ ht)⟩
 ·split
  ·exact Whl.zero _
  ·have:=(ih k).1.mul (hw next.length (by omega) k (by omega))
   rwa [Nat.mul_comm] at this
 ·split
  ·exact Abs.zero.up (Nat.zero_le _)
  ·have:=(ih k).2.mul (ha next.length (by omega) k (by omega))
   rwa [Nat.mul_one] at this
theorem prodF_const (T:Nat):∀(f i:Nat),prodF (fun _=>T) i f=T^f:=fun f _=>prodN_const T f
theorem trQ_long {n r T f:Nat} {p:Nat→Nat→Rat} {next:List Nat} (h1:1≤n) (hn:n≤5) (h0:0<T) (hT:Sh 700 T) (hw:∀i,i<n→∀k,k<n→Whl T (p i k)) (ha:∀i,i<n→∀k,k<n→Abs 1 (p i k)) (h:next.length+f=n):Fits 3505 (trQ n p r f next):=by
 obtain⟨q1,q2⟩:=trQ_whl (r:=r) (D:=fun _=>T) h1 hw ha f next h
 rw[prodF_const] at q1
 have h5:n^f≤5^5:=Nat.le_trans (Nat.pow_le_pow_left hn f) (Nat.pow_le_pow_right (by decide) (by omega))
 exact fits_many h0 hT (by omega) (by decide) (by decide) q1 (q2.up h5)
theorem trQ_sums {n r T f:Nat} {p:Nat→Nat→Rat} {next:List Nat} (h1:1≤n) (hn:n≤5) (h0:0<T) (hT:Sh 700 T) (hw:∀i,i<n→∀k,k<n→Whl T (p i k)) (ha:∀i,i<n→∀k,k<n→Abs 1 (p i k)) (h:next.length+(f+1)=n) {t:Nat} (ht:t≤n):Fits 3505 (sumR (fun k=>if k=next.length then 0 else trQ n p r f (next++[k])*p next.length k) t):=by
 obtain⟨q1,q2⟩:=trQ_part (r:=r) (D:=fun _=>T) h1 hw ha h ht
 rw[prodF_const] at q1
 have h5:n^(f+1)≤5^5:=Nat.le_trans (Nat.pow_le_pow_left hn _) (Nat.pow_le_pow_right (by decide) (by omega))
 exact fits_many h0 hT (by omega) (by decide) (by decide) q1 (q2.up h5)
theorem itR_last (r:Nat) (l:List Nat):∀t k,itR r l (t+1) k=stpR r l (itR r l t k)
 |0,_=>rfl
 |t+1,k=>itR_last r l t (stpR r l k)
theorem itR_stay (r:Nat) (l:List Nat):∀t,itR r l t r=r
 |0=>rfl
 |t+1=>by rw[itR,stpR,if_pos rfl,itR_stay r l t]
theorem itR_add (r:Nat) (l:List Nat):∀t s k,itR r l (t+s) k=itR r l s (itR r l t k)
 |0,s,k=>by rw[Nat.zero_add];rfl
 |t+1,s,k=>by rw[Nat.add_right_comm];exact itR_add r l t s (stpR r l k)
theorem itR_end {r:Nat} {l:List Nat} {t n k:Nat} (h:itR r l t k=r) (ht:t≤n):itR r l n k=r:=by
 obtain⟨s,rfl⟩:=Nat.exists_eq_add_of_le ht
 rw[itR_add,h,itR_stay]
theorem okR_iff {n r:Nat} {l:List Nat}:okR n r l=true↔∀i,i<n→itR r l n i=r:=by
 unfold okR
 rw[List.all_eq_true]
 exact⟨fun h i hi=>by simpa using h i (List.mem_range.2 hi),fun h i hi=>by simpa using h i (List.mem_range.1 hi)⟩
end Go.Proofs.YtmbjmiioggfneaaGreatDoor

/- Plain: what is still in a closed class of up to five states is as its trees weigh. -/
namespace Go.Proofs.YtmbjmiioggfneaaGreatDoor
theorem nodup_few:∀ {n:Nat} {S:List Nat},S.Nodup→(∀x∈S,x<n)→S.length≤n
 |0,[],_,_=>Nat.le_refl _
 |0,x::S,_,h=>absurd (h x List.mem_cons_self) (Nat.not_lt_zero _)
 |n+1,S,hn,h=>by
  have h1:(S.filter fun x=>x !=n).Nodup:=hn.filter _
  have h2:=nodup_few (n:=n) h1 fun x hx=>by
   have h3:=List.mem_filter.1 hx
   have h4:=h x h3.1
   have h5:x≠n:=by simpa using h3.2
   omega
  have h6:S.length≤(S.filter fun x=>x !=n).length+1:=by
   clear h h1 h2
   induction S with
   |nil=>simp
   |cons a S ih=>
    have hn':=List.nodup_cons.1 hn
    by_cases e:a=n
    ·subst e
     have e2:S.filter (fun x=>x !=a)=S:=List.filter_eq_self.2 fun x hx=>by
      have:x≠a:=fun e=>hn'.1 (e▸hx)
      simpa using this
     simp[e2]
    ·have h7:=ih hn'.2
     simp[e]
     omega
  omega
theorem sumLs_part {n:Nat}:∀ {m:Nat} {F:List Nat→Rat},(∀l,(∀x∈l,x<n)→0≤F l)→∀l,l.length=m→(∀x∈l,x<n)→F l≤sumLs n m F∧0≤sumLs n m F
 |0,F,h,[],_,_=>⟨Rat.le_refl,h [] fun x hx=>by cases hx⟩
 |m+1,F,h,k::l,hl,hx=>by
  have hk:=hx k List.mem_cons_self
  have hall:∀a,a<n→∀l',(∀x∈l',x<n)→0≤F (a::l'):=fun a ha l' hl'=>h (a::l') fun x hm=>by
   rcases List.mem_cons.1 hm with rfl |hm
   ·exact ha
   ·exact hl' x hm
  have hlow:∀a,a<n→0≤sumLs n m fun l=>F (a::l):=fun a ha=>(sumLs_part (hall a ha) l (by simpa using hl) fun x hm=>hx x (List.mem_cons_of_mem _ hm)).2
  have h1:=(sumLs_part (hall k hk) l (by simpa using hl) fun x hm=>hx x (List.mem_cons_of_mem _ hm)).1
  rw[sumLs]
  exact⟨Rat.le_trans h1 (sumR_part (f:=fun a=>sumLs n m fun l=>F (a::l)) hlow k hk),sumR_low hlow⟩
 |0,_,_,_::_,h,_=>by cases h
 |m+1,_,_,[],h,_=>by cases h
theorem prW_low {n:Nat} {q:Nat→Nat→Rat} (hq:∀i k,i<n→k<n→0≤q i k):∀(l:List Nat) (i:Nat),i+l.length≤n→(∀x∈l,x<n)→0≤prW q i l
 |[],_,_,_=>by rw[prW];decide
 |k::l,i,h,hx=>by
  rw[List.length_cons] at h
  rw[prW]
  exact Rat.mul_nonneg (prW_low hq l (i+1) (by omega) fun x hm=>hx x (List.mem_cons_of_mem _ hm)) (hq i k (by omega) (hx k List.mem_cons_self))
theorem prW_pos {q:Nat→Nat→Rat}:∀(l:List Nat) (i:Nat),(∀t,t<l.length→0<q (i+t) (l.getD t 0))→0<prW q i l
 |[],_,_=>by rw[prW];decide
 |k::l,i,h=>by
  rw[prW]
  have h0:=h 0 (by rw[List.length_cons];omega)
  have h1:=prW_pos l (i+1) fun t ht=>by
   have h2:=h (t+1) (by rw[List.length_cons];omega)
   rw[List.getD_cons_succ,show i+(t+1)=i+1+t by omega] at h2
   exact h2
  exact Rat.mul_pos h1 h0
def Near (n j:Nat) (Q:Nat→Nat→Rat) (f d:Nat→Nat) (S:Nat→Prop):Prop:=∀i,i<n→S i→d i≤n∧(i≠j→f i<n∧f i≠i∧0<Q i (f i)∧S (f i)∧d (f i)<d i)
theorem near_all {n j:Nat} {Q:Nat→Nat→Rat} (hj:j<n) (irr:∀C:Nat→Prop,(∃i,i<n∧C i)→(∃j,j<n∧¬C j)→∃i j,i<n∧j<n∧C i∧¬C j∧0<Q i j):∃f d,Near n j Q f d fun _=>True:=by
 have key:∀s,(∃f d,Near n j Q f d fun _=>True)∨∃(S:List Nat) (f d:Nat→Nat),S.Nodup∧S.length=s+1∧j∈S∧(∀x∈S,x<n)∧(∀i∈S,d i≤s)∧Near n j Q f d fun i=>i∈S:=fun s=>by
  induction s with
  |zero=>exact .inr ⟨[j],fun _=>0,fun _=>0,by simp,rfl,List.mem_singleton.2 rfl,fun x hx=>by rw[List.mem_singleton.1 hx];exact hj,fun _ _=>Nat.le_refl _,fun i _ hS=>⟨Nat.zero_le _,fun hne=>absurd (List.mem_singleton.1 hS) hne⟩⟩
  |succ s ih=>
   rcases ih with ih |⟨S,f,d,h1,h2,h3,h4,h5,h6⟩
   ·exact .inl ih
   ·by_cases hall:∀i,i<n→i∈S
    ·refine .inl ⟨f,d,fun i hi _=>?_⟩
     obtain⟨q1,q2⟩:=h6 i hi (hall i hi)
     exact⟨q1,fun hne=>⟨(q2 hne).1,(q2 hne).2.1,(q2 hne).2.2.1,trivial,(q2 hne).2.2.2.2⟩⟩
    ·obtain⟨i0,hi0⟩:∃i,¬(i<n→i∈S):=Classical.byContradiction fun hno=>hall fun i hi=>Classical.byContradiction fun hc=>hno ⟨i,fun h=>hc (h hi)⟩
     have hi0n:i0<n:=Classical.byContradiction fun h=>hi0 fun h'=>absurd h' h
     have hi0S:i0∉S:=fun h=>hi0 fun _=>h
     obtain⟨i,k,hi,hk,hC,hD,hp⟩:=irr (fun i=>i∉S) ⟨i0,hi0n,hi0S⟩ ⟨j,hj,fun h=>h h3⟩
     have hkS:k∈S:=Classical.not_not.1 hD
     have hsn:s+1≤n:=by rw[←h2];exact nodup_few h1 h4
     have hik:k≠i:=fun e=>hC (e▸hkS)
     have hij:i≠j:=fun e=>hC (e▸h3)
     refine .inr ⟨i::S,fun a=>if a=i then k else f a,fun a=>if a=i then d k+1 else d a,List.nodup_cons.2 ⟨hC,h1⟩,by rw[List.length_cons,h2],List.mem_cons_of_mem _ h3,fun x hx=>?_,fun a ha=>?_,fun a han ha=>?_⟩
     ·rcases List.mem_cons.1 hx with rfl |hx
      ·exact hi
      ·exact h4 x hx
     ·have hdk:=h5 k hkS
      show (if a=i then d k+1 else d a)≤s+1
      by_cases e:a=i
      ·rw[if_pos e];omega
      ·rw[if_neg e]
       have:=h5 a ((List.mem_cons.1 ha).resolve_left e)
       omega
     ·have hdk:=h5 k hkS
      by_cases e:a=i
      ·simp only[if_pos e,if_neg hik]
       exact⟨by omega,fun _=>⟨hk,by rw[e];exact hik,by rw[e];exact hp,List.mem_cons_of_mem _ hkS,by omega⟩⟩
      ·have haS:=(List.mem_cons.1 ha).resolve_left e
       obtain⟨q1,q2⟩:=h6 a han haS
       simp only[if_neg e]
       refine⟨q1,fun hne=>?_⟩
       obtain⟨r1,r2,r3,r4,r5⟩:=q2 hne
       have hfi:f a≠i:=fun e'=>hC (e'▸r4)
       rw[if_neg hfi]
       exact⟨r1,r2,r3,List.mem_cons_of_mem _ r4,r5⟩
 rcases key n with h |⟨S,f,d,h1,h2,_,h4,_⟩
 ·exact h
 ·have:=nodup_few h1 h4
  omega
theorem tree_some {n j:Nat} {Q:Nat→Nat→Rat} (hj:j<n) (low:∀i k,i<n→k<n→0≤Q i k) (irr:∀C:Nat→Prop,(∃i,i<n∧C i)→(∃j,j<n∧¬C j)→∃i j,i<n∧j<n∧C i∧¬C j∧0<Q i j):0<trW n Q j:=by
 obtain⟨f,d,h⟩:=near_all hj irr
 obtain⟨L,hL⟩:∃L,L=(List.range n).map fun i=>if i=j then j else f i:=⟨_,rfl⟩
 have hlen:L.length=n:=by rw[hL];simp
 have hget:∀i,i<n→L.getD i 0=if i=j then j else f i:=fun i hi=>by
  rw[hL,List.getD_eq_getElem?_getD,List.getElem?_map,List.getElem?_range hi]
  rfl
 have hlt:∀x∈L,x<n:=fun x hx=>by
  rw[hL] at hx
  obtain⟨i,hi,rfl⟩:=List.mem_map.1 hx
  by_cases e:i=j
  ·simp only[if_pos e];exact hj
  ·simp only[if_neg e];exact((h i (List.mem_range.1 hi) trivial).2 e).1
 have hit:∀t i,i<n→d i≤t→itR j L t i=j:=fun t=>by
  induction t with
  |zero=>
   intro i hi hd
   rw[itR]
   refine Classical.byContradiction fun hne=>?_
   have:=((h i hi trivial).2 hne).2.2.2.2
   omega
  |succ t ih=>
   intro i hi hd
   rw[itR]
   by_cases e:i=j
   ·have hs:∀t,itR j L t j=j:=fun t=>by
     induction t with
     |zero=>rfl
     |succ t ih=>rw[itR,stpR,if_pos rfl];exact ih
    rw[e,stpR,if_pos rfl]
    exact hs t
   ·obtain⟨r1,_,_,_,r5⟩:=(h i hi trivial).2 e
    rw[stpR,if_neg e,hget i hi,if_neg e]
    exact ih (f i) r1 (by omega)
 have hok:okR n j L=true:=List.all_eq_true.2 fun i hi=>by
  rw[hit n i (List.mem_range.1 hi) (h i (List.mem_range.1 hi) trivial).1]
  exact beq_self_eq_true j
 have hq:∀i k,i<n→k<n→0≤putW (offD Q) j (fun k=>if j=k then 1 else 0) i k:=fun i k hi hk=>by
  unfold putW offD
  split
  ·show 0≤(if j=k then(1:Rat) else 0)
   split<;>decide
  ·split
   ·exact Rat.le_refl
   ·exact low i k hi hk
 have hpos:0<prW (putW (offD Q) j fun k=>if j=k then 1 else 0) 0 L:=prW_pos L 0 fun t ht=>by
  have htn:t<n:=by rw[←hlen];exact ht
  rw[Nat.zero_add,hget t htn]
  unfold putW
  by_cases e:t=j
  ·rw[if_pos e,if_pos e]
   show 0<(if j=j then(1:Rat) else 0)
   rw[if_pos rfl];decide
  ·obtain⟨_,r2,r3,_⟩:=(h t htn trivial).2 e
   rw[if_neg e,if_neg e,offD,if_neg r2]
   exact r3
 have h9:=(sumLs_part (n:=n) (m:=n) (F:=fun l=>bQ (okR n j l)*(if l.length=n then prW (putW (offD Q) j fun k=>if j=k then 1 else 0) 0 l else 0)) (fun l hx=>by
  refine Rat.mul_nonneg (by unfold bQ;split<;>decide) ?_
  split
  ·exact prW_low hq l 0 (by omega) hx
  ·exact Rat.le_refl) L hlen hlt).1
 rw[hok,if_pos hlen,bQ,if_pos rfl,Rat.one_mul] at h9
 have e9:trW n Q j=sumLs n n fun l=>bQ (okR n j l)*(if l.length=n then prW (putW (offD Q) j fun k=>if j=k then 1 else 0) 0 l else 0):=sumLs_congr fun l hl _=>by rw[if_pos hl]
 rw[e9]
 grind
theorem Cls.irr {n:Nat} {P:Nat→Nat→Rat} {l:List Nat} (h:Cls n P l):∀C:Nat→Prop,(∃i,i<l.length∧C i)→(∃j,j<l.length∧¬C j)→∃i j,i<l.length∧j<l.length∧C i∧¬C j∧0<P (l.getD i 0) (l.getD j 0):=fun C hC hD=>by
 obtain⟨i,hi,hCi⟩:=hC
 obtain⟨j,hj,hDj⟩:=hD
 refine Classical.byContradiction fun hno=>?_
 have hs:=cms_shut (S:=fun x=>∃k,k<l.length∧C k∧l.getD k 0=x) (fun a b _ hb ⟨k,hk,hCk,e⟩ hp=>by
  subst e
  obtain⟨m,hm,em⟩:=getD_of (h.shut _ (getD_mem hk) b hb hp)
  by_cases hCm:C m
  ·exact⟨m,hm,hCm,em⟩
  ·exact absurd ⟨k,m,hk,hm,hCk,hCm,by rw[em];exact hp⟩ hno) (h.lt _ (getD_mem hi)) (h.lt _ (getD_mem hj)) ⟨i,hi,hCi,rfl⟩ (h.com _ (getD_mem hi) _ (getD_mem hj))
 obtain⟨k,hk,hCk,e⟩:=hs
 have e':k=j:=by
  rw[List.getD_eq_getElem?_getD,List.getD_eq_getElem?_getD,List.getElem?_eq_getElem hk,List.getElem?_eq_getElem hj] at e
  exact nodup_at h.nd hk hj e
 exact hDj (e'▸hCk)
def trL (P:Nat→Nat→Rat) (l:List Nat) (k:Nat):Rat:=trW l.length (fun i c=>P (l.getD i 0) (l.getD c 0)) k
theorem Cls.trees_pos {n:Nat} {P:Nat→Nat→Rat} {l:List Nat} (h:Cls n P l) (hc:Chn n P) {k:Nat} (hk:k<l.length):0<trL P l k:=
 tree_some hk (fun _ _ hi hc'=>hc.low _ _ (h.lt _ (getD_mem hi)) (h.lt _ (getD_mem hc'))) h.irr
theorem Cls.trees {n:Nat} {P:Nat→Nat→Rat} {l:List Nat} (h:Cls n P l) (hc:Chn n P) (h5:l.length≤5):0<sumR (trL P l) l.length∧∀k,k<l.length→trL P l k*(1/sumR (trL P l) l.length)=stX P l k:=by
 have hT:0<sumR (trL P l) l.length:=by
  have h1:=h.trees_pos hc h.ne
  have h2:=sumR_part (f:=trL P l) (fun i hi=>Rat.le_of_lt (h.trees_pos hc hi)) 0 h.ne
  grind
 refine⟨hT,fun k hk=>?_⟩
 have hne:sumR (trL P l) l.length≠0:=Rat.ne_of_gt hT
 refine h.sole hc (x:=fun k=>trL P l k*(1/sumR (trL P l) l.length)) ?_ (fun j hj=>?_) hk
 ·rw[sumR_mulR,Rat.div_def,Rat.one_mul,Rat.mul_inv_cancel _ hne]
 ·have ht:=tree_thm h5 hj fun i c=>P (l.getD i 0) (l.getD c 0)
  have e1:sumR (fun c=>trL P l c*P (l.getD c 0) (l.getD j 0)) l.length=sumR (fun i=>trL P l i*offD (fun i c=>P (l.getD i 0) (l.getD c 0)) i j) l.length+trL P l j*P (l.getD j 0) (l.getD j 0):=by
   have h9:=sumR_onlyJ hj (trL P l j*P (l.getD j 0) (l.getD j 0))
   rw[←h9,←sumR_add]
   refine sumR_congr fun c _=>?_
   unfold offD
   by_cases e:c=j
   ·subst e
    rw[if_pos rfl,if_pos rfl]
    grind
   ·rw[if_neg (Ne.symm e),if_neg e]
    grind
  have e2:sumR (fun c=>P (l.getD j 0) (l.getD c 0)) l.length=sumR (offD (fun i c=>P (l.getD i 0) (l.getD c 0)) j) l.length+P (l.getD j 0) (l.getD j 0):=by
   have h9:=sumR_onlyJ hj (P (l.getD j 0) (l.getD j 0))
   rw[←h9,←sumR_add]
   refine sumR_congr fun c _=>?_
   unfold offD
   by_cases e:c=j
   ·subst e
    rw[if_pos rfl,if_pos rfl]
    grind
   ·rw[if_neg e,if_neg e]
    grind
  have e3:=h.tot hc hj
  have e4:sumR (fun c=>trL P l c*P (l.getD c 0) (l.getD j 0)) l.length=trL P l j:=by
   rw[e1]
   show sumR (fun i=>trW _ _ i*_) _+_=_
   rw[ht]
   have e5:sumR (offD (fun i c=>P (l.getD i 0) (l.getD c 0)) j) l.length=1 - P (l.getD j 0) (l.getD j 0):=by grind
   rw[e5]
   show trL P l j*_+_=_
   grind
  have e6:sumR (fun c=>trL P l c*(1/sumR (trL P l) l.length)*P (l.getD c 0) (l.getD j 0)) l.length=sumR (fun c=>trL P l c*P (l.getD c 0) (l.getD j 0)) l.length*(1/sumR (trL P l) l.length):=by
   rw[←sumR_mulR]
   exact sumR_congr fun c _=>by grind
  rw[e6,e4]
end Go.Proofs.YtmbjmiioggfneaaGreatDoor

/- Back of package chain. -/
namespace Go.Proofs.YtmbjmiioggfneaaGreatDoor
open Go.RowKit Go.Shelf
set_option maxRecDepth 100000 in
set_option maxHeartbeats 4000000 in
theorem chBack_any (a:Option Addr) (ca n i:Nat) (X:Nat→Nat→Fr) (w:World) (hR:FsS w a (mF n X)) (hm:ChX n X) (hi:i<n):
  Calls Tryz.prog 22 #[.slice a n ca,.int .i64 (i:Nat)] w fun e w'=>Below w.heap.size w w'∧((stB n (cmsB n (rowQ X)) i=true∧e=.returned (.tuple #[.agg #[.bool (qF (1/stQ (rowQ X) (clN n (cmsB n (rowQ X)) i) i)).1,.string (qF (1/stQ (rowQ X) (clN n (cmsB n (rowQ X)) i) i)).2.1,.string (qF (1/stQ (rowQ X) (clN n (cmsB n (rowQ X)) i) i)).2.2],.int .i64 0]))∨(stB n (cmsB n (rowQ X)) i=false∧e=.returned (.tuple #[.agg #[.bool false,.string ⟨#[]⟩,.string ⟨#[]⟩],.int .i64 16]))):=by
 have h1:=hm.one
 have h5:=hm.five
 have HCK:=hid (fun (U:World) (hU:FsS U a (mF n X))=>chCheck_yes a ca n (mF n X) U hU hm.ok h1 (by omega))
 have HCO:=hid (fun (U:World) (hU:FsS U a (mF n X))=>chComes_any a ca n (mF n X) (rowQ X) U hU (mF_length n X) hm.lst (by omega))
 have HO1:=hid (fun V:World=>fOf_q (k:=1) (w:=V) 1 1 rfl (by decide) (by rfl))
 have HCLI:=hid (fun (B G:Nat) (Rw:Nat→Nat) (U:World) (hM:BMt U B G n n Rw (cmsB n (rowQ X)))=>chClass_any B G n i Rw (cmsB n (rowQ X)) U hM hi (by omega))
 have HCM:=hid hm
 have HR:=hid hR
 clear hR hm
 have hA:=(Below.refl w.heap.size w).alloc (Nat.le_refl _) (FC false ⟨#[]⟩ ⟨#[]⟩)
 have hX:=Box.new w false ⟨#[]⟩ ⟨#[]⟩
 have HB0:=hid hA
 have HX0:=hid hX
 clear hA hX
 obtain⟨l,hl⟩:∃l,clN n (cmsB n (rowQ X)) i=l:=⟨_,rfl⟩
 have HML:Hid (i∈l):=by rw[←hl];exact clN_mem.2 ⟨hi,cms_self _ _ _,cms_self _ _ _⟩
 have HND:Hid (l.Nodup):=by rw[←hl];exact clN_nodup _ _ _
 have hlen:l.length≤n:=by rw[←hl];exact clN_le _ _ _
 have HCLS:Hid (stB n (cmsB n (rowQ X)) i=true→Cls n (rowQ X) l):=fun h=>by rw[←hl];exact cls_of hi h
 rw[hl] at HCLI⊢
 clear hl
 obtain⟨st,hst⟩:∃st,stB n (cmsB n (rowQ X)) i=st:=⟨_,rfl⟩
 rw[hst] at HCLI HCLS⊢
 clear hst
 go_enter Tryz.func22,Tryz.ntmps22
 go_wp2_with fail
 generalize (w.alloc (FC false ⟨#[]⟩ ⟨#[]⟩))=w0 at *
 refine(HCK.out _ (HR.out.below HB0.out)).mono ?_
 rintro e1 w1 ⟨rfl,hb1⟩
 have HB1:=hid (HB0.out.trans (hb1.mono HB0.out.size))
 have HX1:=hid (HX0.out.below hb1 HX0.out.lt)
 clear hb1 HCK HB0 HX0
 have hlo:¬((i:Int)<0):=by omega
 have hhi:¬((n:Int)≤(i:Int)):=by omega
 go_wp2_with fail
 refine(HCO.out _ (HR.out.below HB1.out)).mono ?_
 rintro e1 w3 ⟨G,Rw,rfl,hm3,hb3⟩
 have HB3:=hid (HB1.out.trans (hb3.mono HB1.out.size))
 have HX3:=hid (HX1.out.below hb3 HX1.out.lt)
 have HM3:=hid hm3
 clear hb3 hm3 HCO HB1 HX1
 go_wp2_with fail
 refine(HCLI.out _ G Rw _ HM3.out).mono ?_
 rintro e1 w4 ⟨v,rfl,hr4,hb4⟩
 have HB4:=hid (HB3.out.trans (hb4.mono HB3.out.size))
 have HX4:=hid (HX3.out.below hb4 HX3.out.lt)
 obtain⟨dv,cv,rfl,hiv⟩:=RwI.ints hr4
 rw[iL_length]
 have HIV:=hid hiv
 clear hr4 hb4 hiv HCLI HB3 HX3 HM3
 cases st with
 |false=>
  obtain⟨k0,k1,k2⟩:w4.cell? ⟨w.heap.size,0,none⟩=some (.bool false)∧w4.cell? ⟨w.heap.size,1,none⟩=some (.string ⟨#[]⟩)∧w4.cell? ⟨w.heap.size,2,none⟩=some (.string ⟨#[]⟩):=⟨HX4.out.c0,HX4.out.c1,HX4.out.c2⟩
  have f0:=HX4.out.fz 0
  have f1:=HX4.out.fz 1
  have f2:=HX4.out.fz 2
  have HX9:=hid (HX4.out.put false ⟨#[]⟩ ⟨#[]⟩)
  have HB9:=hid (((HB4.out.setCell (p:=⟨w.heap.size,0,none⟩) (Nat.le_refl _) (.bool false)).setCell (p:=⟨w.heap.size,1,none⟩) (Nat.le_refl _) (.string ⟨#[]⟩)).setCell (p:=⟨w.heap.size,2,none⟩) (Nat.le_refl _) (.string ⟨#[]⟩))
  clear HX4 HB4
  go_wp2
  refine bodyPost_ret (HX9.out.result2 rfl _ rfl) rfl ?_
  first |exact⟨HB9.out,.inr ⟨rfl,rfl⟩⟩ |exact⟨HB9.out,rfl⟩
 |true=>
  have hcls:=HCLS.out rfl
  obtain⟨k,hk,hke⟩:=List.mem_iff_getElem.1 HML.out
  have hgd:l.getD k 0=i:=by rw[List.getD_eq_getElem?_getD,List.getElem?_eq_getElem hk];exact hke
  have HSQ:Hid (stQ (rowQ X) l i=stX (rowQ X) l k):=by
   show _=_
   rw[←hgd]
   exact stQ_on hcls hk
  have hpos:=hcls.pos HCM.out.chn k hk
  have hfit:=stX_fit hcls HCM.out hk
  have HDV:Hid (∀U:World,Calls Tryz.prog 57 #[.agg #[.bool (sgn 1),.string (nu 1),.string (de 1)],.agg #[.bool (qF (stX (rowQ X) l k)).1,.string (qF (stX (rowQ X) l k)).2.1,.string (qF (stX (rowQ X) l k)).2.2]] U fun e w'=>e=.returned (.tuple #[.agg #[.bool (qF (1/stQ (rowQ X) l i)).1,.string (qF (1/stQ (rowQ X) l i)).2.1,.string (qF (1/stQ (rowQ X) l i)).2.2],.int .i64 0])∧Below U.heap.size U w'):=fun U=>fDiv_q (1/stQ (rowQ X) l i) (val_own 1) (val_own (stX (rowQ X) l k)) (by grind) (congrArg (fun x=>1/x) HSQ.out.symm) (by have h1:qw 1≤2:=qw_one2;rw[own_size];omega) (by show (nu _).size+(de _).size≤_;rw[own_size];have:=fits_qw hfit;omega)
  have HSI:=hid (fun (U:World) (hU:FsS U a (mF n X)) (hI:IntS U dv (iL l))=>chStill_in a dv ca cv n l.length X l U hU hI rfl hcls HCM.out)
  have HIX:=hid (fun (U:World) (hI:IntS U dv (iL l))=>slIndexI_at dv cv l.length k l U hI rfl HND.out hk (by omega))
  rw[hke] at HIX
  obtain⟨m,hme⟩:∃m,l.length=m:=⟨_,rfl⟩
  rw[hme] at HSI HIX hk hlen
  simp only[hme]
  clear hcls hke hgd hpos hfit hme HSQ HML HND
  go_wp2_with fail
  refine(HO1.out _).mono ?_
  rintro e1 w5 ⟨rfl,hb5⟩
  have HB5:=hid (HB4.out.trans (hb5.mono HB4.out.size))
  have HX5:=hid (HX4.out.below hb5 HX4.out.lt)
  have HI5:=hid (HIV.out.below hb5)
  clear hb5 HB4 HX4 HIV
  go_wp2_with fail
  refine(HSI.out _ (HR.out.below HB5.out) HI5.out).mono ?_
  rintro e1 w6 ⟨S,rfl,hS,hr6,hb6⟩
  have HB6:=hid (HB5.out.trans (hb6.mono HB5.out.size))
  have HX6:=hid (HX5.out.below hb6 HX5.out.lt)
  have HI6:=hid (HI5.out.below hb6)
  have HR6:=hid hr6
  clear hb6 hr6 hS HB5 HX5 HI5
  go_wp2_with fail
  refine(HIX.out _ HI6.out).mono ?_
  rintro e1 w7 ⟨rfl,rfl⟩
  obtain⟨c0,c1,c2⟩:=HR6.out.cells k (by rw[lF_length];exact hk)
  rw[lF_get] at c0 c1 c2
  generalize hz:qF (stX (rowQ X) l k)=z at *
  obtain⟨an,ax,ay⟩:=z
  simp only at c0 c1 c2 HDV
  clear hz
  go_wp2_with fail
  refine(HDV.out _).mono ?_
  rintro e1 w8 ⟨rfl,hb8⟩
  have HX8:=hid (HX6.out.below hb8 HX6.out.lt)
  have HB8:=hid (HB6.out.trans (hb8.mono HB6.out.size))
  clear c0 c1 c2 hb8 HX6 HB6 HR6
  generalize hz:qF (1/stQ (rowQ X) l i)=z at *
  obtain⟨qn,qx,qy⟩:=z
  have HZ:=hid hz
  clear hz
  simp only
  have k0:=HX8.out.c0
  have k1:=HX8.out.c1
  have k2:=HX8.out.c2
  have f0:=HX8.out.fz 0
  have f1:=HX8.out.fz 1
  have f2:=HX8.out.fz 2
  have HX9:=hid (HX8.out.put qn qx qy)
  have HB9:=hid (((HB8.out.setCell (p:=⟨w.heap.size,0,none⟩) (Nat.le_refl _) (.bool qn)).setCell (p:=⟨w.heap.size,1,none⟩) (Nat.le_refl _) (.string qx)).setCell (p:=⟨w.heap.size,2,none⟩) (Nat.le_refl _) (.string qy))
  clear HX8 HB8
  go_wp2
  refine bodyPost_ret (HX9.out.result2 rfl _ rfl) rfl ?_
  first |exact⟨HB9.out,.inl ⟨rfl,by rw[HZ.out];rfl⟩⟩ |exact⟨HB9.out,by rw[HZ.out];rfl⟩
end Go.Proofs.YtmbjmiioggfneaaGreatDoor
