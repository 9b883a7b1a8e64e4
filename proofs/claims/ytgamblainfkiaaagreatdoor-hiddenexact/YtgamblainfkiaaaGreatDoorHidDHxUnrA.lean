/- Chains and hidden chains that may be: Check, Step, check. -/
import Derived.Test.YtgamblainfkiaaaGreatDoorHidCHxMadA
import Derived.Test.YtgamblainfkiaaaGreatDoorMadBHxCofI
import Derived.Test.YtgamblainfkiaaaGreatDoorRefSHxFillA
import Derived.Test.YtgamblainfkiaaaGreatDoorFillBHxHidQ
namespace Go.Proofs.YtgamblainfkiaaaGreatDoor
open Go.RowKit Go.Shelf
structure RwsOK (n m:Nat) (R:List (List Fr)):Prop where
 len:R.length=n
 each:∀i (h:i<R.length),R[i].length=m
 fw:∀i (h:i<R.length),fw R[i]≤10000
 row:∀i (h:i<R.length),rowB R[i]=true
set_option maxRecDepth 100000 in
set_option maxHeartbeats 1000000 in
theorem chCheck_yes (c:Option Addr) (cc n:Nat) (R:List (List Fr)) (w:World) (hR:FsS w c R) (h:RwsOK n n R) (h1:1≤n) (hn:n≤6):
  Calls Tryz.prog 105 #[.slice c n cc] w fun e w'=>e=.returned (.int .i64 0)∧Below w.heap.size w w':=by
 have HFR:=hid hR
 have HO:=hid h
 clear hR h
 go_enter Tryz.func105,Tryz.ntmps105
 go_wp2_with fail
 go_loopw [17] (fun iv wr=>∃i:Nat,i≤n∧iv=.int .i64 i∧w=wr) (fun iv _=>n - (intOf iv).toNat)
 case atStart=>exact⟨0,Nat.zero_le _,rfl,rfl⟩
 case round=>
  obtain⟨i,hi,rfl,rfl⟩:=hrel
  by_cases hlt:i<n
  ·have hiR:i<R.length:=by rw[HO.out.len];exact hlt
   obtain⟨gc,oc,bc,cr,rfl,hgc,c0, -, -⟩:=HFR.out i hiR
   rw[HO.out.each i hiR] at c0
   go_wp2
   go_roundw
   case rel=>exact⟨i+1,by omega,by go_num,trivial⟩
   case measure=>simp[intOf];omega
  ·obtain rfl:i=n:=by omega
   go_wp2_with fail
   go_loopw [29] (fun kv wr=>∃k:Nat,k≤i∧kv=.int .i64 k∧Hid (Below w.heap.size w wr)) (fun kv _=>i - (intOf kv).toNat)
   case atStart=>exact⟨0,Nat.zero_le _,rfl,Below.refl _ _⟩
   case round=>
    obtain⟨k,hk,rfl,HB⟩:=hrel
    by_cases hlt2:k<i
    ·have hkR:k<R.length:=by rw[HO.out.len];exact hlt2
     obtain⟨gc,oc,bc,cr,rfl,hgc,c0,hfr, -⟩:=(HFR.out.below HB.out) k hkR
     have hel:=HO.out.each k hkR
     have HRO:=hid (chRow_any bc cr R[k] wr hfr (HO.out.fw k hkR) (by omega))
     rw[HO.out.row k hkR] at HRO
     clear hfr hel
     generalize R[k].length=rl at *
     go_wp2_with fail
     refine HRO.out.mono ?_
     rintro e w2 ⟨rfl,hb2⟩
     have HB2:=hid (HB.out.trans (hb2.mono HB.out.size))
     clear hb2
     go_wp2
     go_roundw
     case rel=>exact⟨k+1,by omega,by go_num,HB2⟩
     case measure=>simp[intOf];omega
    ·obtain rfl:k=i:=by omega
     go_wp2
     go_ret
     exact⟨rfl,HB.out⟩
set_option maxRecDepth 100000 in
set_option maxHeartbeats 400000 in
theorem chStep_yes (a c:Option Addr) (ca cc n:Nat) (l:List Fr) (R:List (List Fr)) (f:Nat→Rat) (g:Nat→Nat→Rat) (w:World) (ha:FrS w a l) (hR:FsS w c R) (hf:Lst n f l) (hok:RwsOK n n R) (hg:∀i (h:i<R.length),Lst n (g i) R[i]) (hsz:∀i j,i<n→j<n→qw (f i*g i j)≤30010) (hps:∀j k,j<n→k≤n→qw (sumR (fun i=>f i*g i j) k)≤40000) (h1:1≤n) (hn:n≤4):
  Calls Tryz.prog 73 #[.slice a n ca,.slice c n cc] w fun e w'=>∃G,e=.returned (.tuple #[.slice (some ⟨G,0,none⟩) n n,.int .i64 0])∧w.heap.size≤G∧RowF w' G (lF n fun j=>sumR (fun i=>f i*g i j) n)∧Below w.heap.size w w':=by
 have HC:=hid (chCheck_yes c cc n R w hR hok h1 (by omega))
 have HM:=hid (fun (V:World) (hb:Below w.heap.size w V)=>chMoved_any a c ca cc n l R f g V (ha.below hb) (hR.below hb) hf hok.len hg hsz hps hn)
 clear ha hR hf hok hg hsz hps
 generalize (lF n fun j=>sumR (fun i=>f i*g i j) n)=FL at *
 go_enter Tryz.func73,Tryz.ntmps73
 go_wp2_with fail
 refine HC.out.mono ?_
 rintro e w1 ⟨rfl,hb1⟩
 have HB1:=hid hb1
 clear hb1
 go_wp2_with fail
 refine(HM.out _ HB1.out).mono ?_
 rintro e w2 ⟨G,rfl,hG,hr,hb2⟩
 have HB2:=hid (HB1.out.trans (hb2.mono HB1.out.size))
 have HRR:=hid hr
 have hGw:w.heap.size≤G:=Nat.le_trans HB1.out.size hG
 clear hr hb2 hG
 go_wp2
 go_ret2
 exact⟨G,rfl,hGw,HRR.out,HB2.out⟩
set_option maxRecDepth 100000 in
set_option maxHeartbeats 400000 in
theorem signs_yes (a b c:Option Addr) (n1 n2 ca cb cc n m:Nat) (R:List (List Fr)) (w:World) (hR:FsS w c R) (h:RwsOK n m R) (h1:1≤n) (hn:n≤100):
  Calls Tryz.prog 39 #[.agg #[.slice a n1 ca,.slice b n2 cb,.slice c n cc]] w fun e w'=>e=.returned (.int .i64 (m:Nat))∧Below w.heap.size w w':=by
 have h0:0<R.length:=by rw[h.len];omega
 obtain⟨gc,oc,bc,cr,rfl,hgc,c0, -, -⟩:=hR 0 h0
 rw[h.each 0 h0,Nat.add_zero] at c0
 have hA:=(Below.refl w.heap.size w).alloc (Nat.le_refl _) (HC3 (.slice a n1 ca) (.slice b n2 cb) (.slice (some ⟨gc,oc,none⟩) n cc))
 obtain⟨-, -,e2⟩:=(HBox.new w (.slice a n1 ca) (.slice b n2 cb) (.slice (some ⟨gc,oc,none⟩) n cc)).cells
 have c0':=(hA.cell (p:=⟨gc,_,none⟩) hgc).trans c0
 have HA:=hid hA
 clear c0 hA hR h
 go_enter Tryz.func39,Tryz.ntmps39
 go_wp2
 go_ret
 exact⟨rfl,HA.out⟩
theorem FsS.vals {w:World} {a:Option Addr} {R:List (List Fr)} (h:FsS w a R):∃X:List Value,X.length=R.length∧VaS w a X∧∀v∈X,∃(b:Option Addr) (l:List Fr) (c:Nat),v=.slice b l.length c∧FrS w b l∧l∈R:=by
 let at':Nat→Value:=fun k=>match a with
  |some p=>(w.cell? ⟨p.block,p.off+k,none⟩).getD (.slice none 0 0)
  |none=>.slice none 0 0
 have key:∀k (hk:k<R.length),∃g o b c,a=some ⟨g,o,none⟩∧g<w.heap.size∧w.cell? ⟨g,o+k,none⟩=some (at' k)∧at' k=.slice b R[k].length c∧FrS w b R[k]:=fun k hk=>by
  obtain⟨g,o,b,c,rfl,hg,h3,h4, -⟩:=h k hk
  have e:at' k=.slice b R[k].length c:=by simp only[at',h3,Option.getD_some]
  exact⟨g,o,b,c,rfl,hg,by rw[e];exact h3,e,h4⟩
 refine⟨(List.range R.length).map at',by simp,fun k hk=>?_,fun v hv=>?_⟩
 ·have hk':k<R.length:=by simpa using hk
  obtain⟨g,o,b,c,h1,h2,h3,h4, -⟩:=key k hk'
  have e:((List.range R.length).map at')[k]=at' k:=by simp
  rw[e]
  exact⟨g,o,h1,h2,h3,b,_,c,h4⟩
 ·obtain⟨k,hk,rfl⟩:=List.mem_map.1 hv
  have hk':k<R.length:=List.mem_range.1 hk
  obtain⟨g,o,b,c,h1,h2,h3,h4,h5⟩:=key k hk'
  exact⟨b,R[k],c,h4,h5,List.getElem_mem hk'⟩
structure HidI (w:World) (a b c:Option Addr) (n m:Nat) (l:List Fr) (R1 R2:List (List Fr)):Prop where
 st:FrS w a l
 mv:FsS w b R1
 sh:FsS w c R2
theorem HidI.below {w w':World} {a b c:Option Addr} {n m:Nat} {l:List Fr} {R1 R2:List (List Fr)} (h:HidI w a b c n m l R1 R2) (hb:Below w.heap.size w w'):HidI w' a b c n m l R1 R2:=⟨h.st.below hb,h.mv.below hb,h.sh.below hb⟩
structure HidOK (n m:Nat) (l:List Fr) (R1 R2:List (List Fr)):Prop where
 n1:1≤n
 n4:n≤4
 m1:1≤m
 m4:m≤4
 len:l.length=n
 fw:fw l≤10000
 row:rowB l=true
 mv:RwsOK n n R1
 sh:RwsOK n m R2
theorem HidOK.all {n m:Nat} {l:List Fr} {R1 R2:List (List Fr)} (h:HidOK n m l R1 R2):∀r∈[l]++R1++R2,rowB r=true∧Go.Proofs.YtgamblainfkiaaaGreatDoor.fw r≤10000∧r.length≤4:=fun r hr=>by
 rcases List.mem_append.1 hr with h1 |h1
 ·rcases List.mem_append.1 h1 with h2 |h2
  ·rw[List.mem_singleton.1 h2]
   exact⟨h.row,h.fw,by rw[h.len];exact h.n4⟩
  ·obtain⟨i,hi,rfl⟩:=List.getElem_of_mem h2
   exact⟨h.mv.row i hi,h.mv.fw i hi,by rw[h.mv.each i hi];exact h.n4⟩
 ·obtain⟨i,hi,rfl⟩:=List.getElem_of_mem h1
  exact⟨h.sh.row i hi,h.sh.fw i hi,by rw[h.sh.each i hi];exact h.m4⟩
set_option maxRecDepth 100000 in
set_option maxHeartbeats 4000000 in
theorem hiCheck_yes (a b c:Option Addr) (ca cb cc n m:Nat) (l:List Fr) (R1 R2:List (List Fr)) (w:World) (h:HidI w a b c n m l R1 R2) (hok:HidOK n m l R1 R2) (hb0:b=none→cb=0) (hc0:c=none→cc=0):
  Calls Tryz.prog 8 #[.agg #[.slice a n ca,.slice b n cb,.slice c n cc]] w fun e w'=>e=.returned (.int .i64 0)∧Below w.heap.size w w':=by
 have hn1:=hok.n1
 have hn4:=hok.n4
 have hm1:=hok.m1
 have hm4:=hok.m4
 obtain⟨X1,hxl1,hx1,hxa1⟩:=h.mv.vals
 obtain⟨X2,hxl2,hx2,hxa2⟩:=h.sh.vals
 have HX1:=hid hx1
 have HX2:=hid hx2
 have HXL1:Hid (X1.length=n):=hxl1.trans hok.mv.len
 have HXL2:Hid (X2.length=n):=hxl2.trans hok.sh.len
 have HXA:Hid (∀v∈([.slice a n ca]++X1++X2:List Value),∃(b':Option Addr) (r:List Fr) (c':Nat),v=.slice b' r.length c'∧FrS w b' r∧r∈[l]++R1++R2):=fun v hv=>by
  rcases List.mem_append.1 hv with h1 |h1
  ·rcases List.mem_append.1 h1 with h2 |h2
   ·rw[List.mem_singleton.1 h2]
    exact⟨a,l,ca,by rw[hok.len],h.st,by simp⟩
   ·obtain⟨b',r,c',e1,e2,e3⟩:=hxa1 v h2
    exact⟨b',r,c',e1,e2,by simp[e3]⟩
  ·obtain⟨b',r,c',e1,e2,e3⟩:=hxa2 v h1
   exact⟨b',r,c',e1,e2,by simp[e3]⟩
 have HALL:=hid hok.all
 have HN1:=hid hb0
 have HN2:=hid hc0
 have hA:=(Below.refl w.heap.size w).alloc (Nat.le_refl _) (HC3 (.slice a n ca) (.slice b n cb) (.slice c n cc))
 have hHB:=HBox.new w (.slice a n ca) (.slice b n cb) (.slice c n cc)
 have HIC0:=hid (fun V:World=>isCount_yes n V hn1 hn4)
 have HIC:Hid (∀V:World,Calls Tryz.prog 37 #[.int .i64 (m:Nat)] V fun e w'=>e=.returned (.bool true)∧Below V.heap.size V w'):=fun V=>(isCount_yes m V hm1 hm4).mono (fun e w' ⟨h1,h2⟩=>⟨h1,by rw[h2];exact Below.refl _ _⟩)
 have HIM1:Hid (∀V:World,Below w.heap.size w V→Calls Tryz.prog 38 #[.slice b n cb,.int .i64 (n:Nat),.int .i64 (n:Nat)] V fun e w'=>e=.returned (.bool true)∧Below V.heap.size V w'):=fun V hV=>by
  have h:=isMatrix_yes b cb n n R1 V (h.mv.below hV) hok.mv.len (by rw[hok.mv.len];omega) (by omega) hok.mv.each
  rwa [hok.mv.len] at h
 have HSG0:Hid (∀V:World,Below w.heap.size w V→Calls Tryz.prog 39 #[.agg #[.slice a n ca,.slice b n cb,.slice c n cc]] V fun e w'=>e=.returned (.int .i64 (m:Nat))∧Below V.heap.size V w'):=fun V hV=>signs_yes a b c n n ca cb cc n m R2 V (h.sh.below hV) hok.sh hn1 (by omega)
 have HIM20:Hid (∀V:World,Below w.heap.size w V→Calls Tryz.prog 38 #[.slice c n cc,.int .i64 (n:Nat),.int .i64 (m:Nat)] V fun e w'=>e=.returned (.bool true)∧Below V.heap.size V w'):=fun V hV=>by
  have h:=isMatrix_yes c cc n m R2 V (h.sh.below hV) hok.sh.len (by rw[hok.sh.len];omega) (by omega) hok.sh.each
  rwa [hok.sh.len] at h
 clear h hok hb0 hc0 hxl1 hxl2 hx1 hx2 hxa1 hxa2
 obtain⟨e0,e1,e2⟩:=hHB.cells
 go_enter Tryz.func8,Tryz.ntmps8
 go_wp2_with fail
 generalize (w.alloc (HC3 (.slice a n ca) (.slice b n cb) (.slice c n cc)))=W at *
 refine(HIC0.out _).mono ?_
 rintro e w1 ⟨rfl,rfl⟩
 go_wp2_with fail
 refine(HIM1.out _ hA).mono ?_
 rintro e w2 ⟨rfl,hb2⟩
 replace hHB:=hHB.below hb2 hHB.lt
 replace hA:=hA.trans (hb2.mono hA.size)
 clear hb2 e0 e1 e2
 go_upto_region 3 with fail
 have HSG:Hid (∀V:World,Below w2.heap.size w2 V→Calls Tryz.prog 39 #[.agg #[.slice a n ca,.slice b n cb,.slice c n cc]] V fun e w'=>e=.returned (.int .i64 (m:Nat))∧Below V.heap.size V w'):=fun V hV=>HSG0.out V (hA.trans (hV.mono hA.size))
 have HIM2:Hid (∀V:World,Below w2.heap.size w2 V→Calls Tryz.prog 38 #[.slice c n cc,.int .i64 (n:Nat),.int .i64 (m:Nat)] V fun e w'=>e=.returned (.bool true)∧Below V.heap.size V w'):=fun V hV=>HIM20.out V (hA.trans (hV.mono hA.size))
 have HELD:Hid (∀u,Below w2.heap.size w2 u→u.cell? ⟨w.heap.size,0,none⟩=some (.slice a n ca)∧u.cell? ⟨w.heap.size,1,none⟩=some (.slice b n cb)∧u.cell? ⟨w.heap.size,2,none⟩=some (.slice c n cc)):=fun u h=>(hHB.below h hHB.lt).cells
 have HB:Hid (Below w2.heap.size w2 w2.drew):=(Below.refl _ w2).drew
 refine wp_region_held_drew (S:=fun u=>u.cell? ⟨w.heap.size,0,none⟩=some (.slice a n ca)∧u.cell? ⟨w.heap.size,1,none⟩=some (.slice b n cb)∧u.cell? ⟨w.heap.size,2,none⟩=some (.slice c n cc)) (by kernel_rfl) (HELD.out _ HB.out) (fun hSd=>?_)
 generalize w2.drew=u0 at *
 refine wpAnyH_take (i:=0) (oi:=_) (v:=.pointer (some ⟨w.heap.size,2,none⟩)) rfl (by kernel_rfl) (by kernel_rfl) (by kernel_rfl) (fun _ _ _ h=>h) (Or.inl ⟨by rfl,?_⟩) (by assumption) ?_
 ·intro u' hSu
  (try simp only[List.getElem_toArray,List.getElem_cons_zero])
  go_simp
 (try simp only[List.getElem_toArray,List.getElem_cons_zero])
 (try simp only[Act.put,List.setIfInBounds_toArray,List.set_cons_zero,List.set_cons_succ])
 refine wpAnyH_take (i:=1) (oi:=_) (v:=.slice c n cc) rfl (by kernel_rfl) (by kernel_rfl) (by kernel_rfl) (fun _ _ _ h=>h) (Or.inl ⟨by rfl,?_⟩) (by assumption) ?_
 ·intro u' hSu
  (try simp only[List.getElem_toArray,List.getElem_cons_zero,List.getElem_cons_succ])
  obtain⟨s0,s1,s2⟩:=hSu
  go_simp
 (try simp only[List.getElem_toArray,List.getElem_cons_zero,List.getElem_cons_succ])
 (try simp only[Act.put,List.setIfInBounds_toArray,List.set_cons_zero,List.set_cons_succ])
 refine wpAnyH_take (i:=2) (oi:=_) (v:=.int .i64 (n:Nat)) rfl (by kernel_rfl) (by kernel_rfl) (by kernel_rfl) (fun _ _ _ h=>h) (Or.inl ⟨by rfl,?_⟩) (by assumption) ?_
 ·intro u' hSu
  (try simp only[List.getElem_toArray,List.getElem_cons_zero,List.getElem_cons_succ])
  go_simp
 (try simp only[List.getElem_toArray,List.getElem_cons_zero,List.getElem_cons_succ])
 (try simp only[Act.put,List.setIfInBounds_toArray,List.set_cons_zero,List.set_cons_succ])
 refine wpAnyH_take (i:=3) (oi:=_) (v:=.pointer (some ⟨w.heap.size,0,none⟩)) rfl (by kernel_rfl) (by kernel_rfl) (by kernel_rfl) (fun _ _ _ h=>h) (Or.inl ⟨by rfl,?_⟩) (by assumption) ?_
 ·intro u' hSu
  (try simp only[List.getElem_toArray,List.getElem_cons_zero,List.getElem_cons_succ])
  go_simp
 (try simp only[List.getElem_toArray,List.getElem_cons_zero,List.getElem_cons_succ])
 (try simp only[Act.put,List.setIfInBounds_toArray,List.set_cons_zero,List.set_cons_succ])
 refine wpAnyH_take (i:=4) (oi:=_) (v:=.slice a n ca) rfl (by kernel_rfl) (by kernel_rfl) (by kernel_rfl) (fun _ _ _ h=>h) (Or.inl ⟨by rfl,?_⟩) (by assumption) ?_
 ·intro u' hSu
  (try simp only[List.getElem_toArray,List.getElem_cons_zero,List.getElem_cons_succ])
  obtain⟨s0,s1,s2⟩:=hSu
  go_simp
 (try simp only[List.getElem_toArray,List.getElem_cons_zero,List.getElem_cons_succ])
 (try simp only[Act.put,List.setIfInBounds_toArray,List.set_cons_zero,List.set_cons_succ])
 refine wpAnyH_take (i:=5) (oi:=_) (v:=.int .i64 (n:Nat)) rfl (by kernel_rfl) (by kernel_rfl) (by kernel_rfl) (fun _ _ _ h=>h) (Or.inl ⟨by rfl,?_⟩) (by assumption) ?_
 ·intro u' hSu
  (try simp only[List.getElem_toArray,List.getElem_cons_zero,List.getElem_cons_succ])
  go_simp
 (try simp only[List.getElem_toArray,List.getElem_cons_zero,List.getElem_cons_succ])
 (try simp only[Act.put,List.setIfInBounds_toArray,List.set_cons_zero,List.set_cons_succ])
 refine wpAnyH_take (i:=6) (oi:=_) (v:=.bool false) rfl (by kernel_rfl) (by kernel_rfl) (by kernel_rfl) (fun _ _ _ h=>h) (Or.inl ⟨by rfl,?_⟩) (by assumption) ?_
 ·intro u' hSu
  (try simp only[List.getElem_toArray,List.getElem_cons_zero,List.getElem_cons_succ])
  go_simp
 (try simp only[List.getElem_toArray,List.getElem_cons_zero,List.getElem_cons_succ])
 (try simp only[Act.put,List.setIfInBounds_toArray,List.set_cons_zero,List.set_cons_succ])
 refine wpAnyH_take (i:=7) (oi:=_) (v:=.bool false) rfl (by kernel_rfl) (by kernel_rfl) (by kernel_rfl) (fun _ _ _ h=>h) (Or.inl ⟨by rfl,?_⟩) (by assumption) ?_
 ·intro u' hSu
  (try simp only[List.getElem_toArray,List.getElem_cons_zero,List.getElem_cons_succ])
  go_simp
 (try simp only[List.getElem_toArray,List.getElem_cons_zero,List.getElem_cons_succ])
 (try simp only[Act.put,List.setIfInBounds_toArray,List.set_cons_zero,List.set_cons_succ])
 refine wpAnyH_take (i:=8) (oi:=_) (v:=.agg #[.slice a n ca,.slice b n cb,.slice c n cc]) rfl (by kernel_rfl) (by kernel_rfl) (by kernel_rfl) (fun _ _ _ h=>h) (Or.inl ⟨by rfl,?_⟩) (by assumption) ?_
 ·intro u' hSu
  (try simp only[List.getElem_toArray,List.getElem_cons_zero,List.getElem_cons_succ])
  obtain⟨s0,s1,s2⟩:=hSu
  go_simp
 (try simp only[List.getElem_toArray,List.getElem_cons_zero,List.getElem_cons_succ])
 (try simp only[Act.put,List.setIfInBounds_toArray,List.set_cons_zero,List.set_cons_succ])
 refine wpAnyH_ready (rs:=[9]) (by kernel_rfl) (by simp) (AllReadyH.cons rfl ?_ (AllReadyH.nil))
 ·intro K' hK'
  (try simp only[List.getElem_toArray,List.getElem_cons_zero,List.getElem_cons_succ])
  go_simp
  refine(HSG.out _ HB.out).mono ?_
  rintro e u1 ⟨rfl,hb⟩
  replace HB:=hid (HB.out.trans (hb.mono HB.out.size))
  refine hK'.out _ _ (HELD.out _ HB.out) (fun hSe=>?_)
  clear hK' K' hSd
  have hSd:=hSe
  clear hSe hb
  (try simp only[List.getElem_toArray,List.getElem_cons_zero,List.getElem_cons_succ])
  (try simp only[Act.put,List.setIfInBounds_toArray,List.set_cons_zero,List.set_cons_succ])
  refine wpAnyH_ready (rs:=[10]) (by kernel_rfl) (by simp) (AllReadyH.cons rfl ?_ (AllReadyH.nil))
  ·intro K' hK'
   (try simp only[List.getElem_toArray,List.getElem_cons_zero,List.getElem_cons_succ])
   go_simp
   refine(HIC.out _).mono ?_
   rintro e u2 ⟨rfl,hb⟩
   replace HB:=hid (HB.out.trans (hb.mono HB.out.size))
   refine hK'.out _ _ (HELD.out _ HB.out) (fun hSe=>?_)
   clear hK' K' hSd
   have hSd:=hSe
   clear hSe hb
   (try simp only[List.getElem_toArray,List.getElem_cons_zero,List.getElem_cons_succ])
   (try simp only[Act.put,List.setIfInBounds_toArray,List.set_cons_zero,List.set_cons_succ])
   refine wpAnyH_take (i:=11) (oi:=_) (v:=.bool false) rfl (by kernel_rfl) (by kernel_rfl) (by kernel_rfl) (fun _ _ _ h=>h) (Or.inl ⟨by rfl,?_⟩) (by assumption) ?_
   ·intro u' hSu
    (try simp only[List.getElem_toArray,List.getElem_cons_zero,List.getElem_cons_succ])
    go_simp
   (try simp only[List.getElem_toArray,List.getElem_cons_zero,List.getElem_cons_succ])
   (try simp only[Act.put,List.setIfInBounds_toArray,List.set_cons_zero,List.set_cons_succ])
   refine wpAnyH_take (i:=12) (oi:=_) (v:=.bool false) rfl (by kernel_rfl) (by kernel_rfl) (by kernel_rfl) (fun _ _ _ h=>h) (Or.inl ⟨by rfl,?_⟩) (by assumption) ?_
   ·intro u' hSu
    (try simp only[List.getElem_toArray,List.getElem_cons_zero,List.getElem_cons_succ])
    go_simp
   (try simp only[List.getElem_toArray,List.getElem_cons_zero,List.getElem_cons_succ])
   (try simp only[Act.put,List.setIfInBounds_toArray,List.set_cons_zero,List.set_cons_succ])
   refine wpAnyH_take (i:=13) (oi:=_) (v:=.bool false) rfl (by kernel_rfl) (by kernel_rfl) (by kernel_rfl) (fun _ _ _ h=>h) (Or.inl ⟨by rfl,?_⟩) (by assumption) ?_
   ·intro u' hSu
    (try simp only[List.getElem_toArray,List.getElem_cons_zero,List.getElem_cons_succ])
    go_simp
   (try simp only[List.getElem_toArray,List.getElem_cons_zero,List.getElem_cons_succ])
   (try simp only[Act.put,List.setIfInBounds_toArray,List.set_cons_zero,List.set_cons_succ])
   refine wpAnyH_take (i:=14) (oi:=_) (v:=.pointer (some ⟨w.heap.size,2,none⟩)) rfl (by kernel_rfl) (by kernel_rfl) (by kernel_rfl) (fun _ _ _ h=>h) (Or.inl ⟨by rfl,?_⟩) (by assumption) ?_
   ·intro u' hSu
    (try simp only[List.getElem_toArray,List.getElem_cons_zero,List.getElem_cons_succ])
    go_simp
   (try simp only[List.getElem_toArray,List.getElem_cons_zero,List.getElem_cons_succ])
   (try simp only[Act.put,List.setIfInBounds_toArray,List.set_cons_zero,List.set_cons_succ])
   refine wpAnyH_take (i:=15) (oi:=_) (v:=.slice c n cc) rfl (by kernel_rfl) (by kernel_rfl) (by kernel_rfl) (fun _ _ _ h=>h) (Or.inl ⟨by rfl,?_⟩) (by assumption) ?_
   ·intro u' hSu
    (try simp only[List.getElem_toArray,List.getElem_cons_zero,List.getElem_cons_succ])
    obtain⟨s0,s1,s2⟩:=hSu
    go_simp
   (try simp only[List.getElem_toArray,List.getElem_cons_zero,List.getElem_cons_succ])
   (try simp only[Act.put,List.setIfInBounds_toArray,List.set_cons_zero,List.set_cons_succ])
   refine wpAnyH_take (i:=16) (oi:=_) (v:=.pointer (some ⟨w.heap.size,0,none⟩)) rfl (by kernel_rfl) (by kernel_rfl) (by kernel_rfl) (fun _ _ _ h=>h) (Or.inl ⟨by rfl,?_⟩) (by assumption) ?_
   ·intro u' hSu
    (try simp only[List.getElem_toArray,List.getElem_cons_zero,List.getElem_cons_succ])
    go_simp
   (try simp only[List.getElem_toArray,List.getElem_cons_zero,List.getElem_cons_succ])
   (try simp only[Act.put,List.setIfInBounds_toArray,List.set_cons_zero,List.set_cons_succ])
   refine wpAnyH_take (i:=17) (oi:=_) (v:=.slice a n ca) rfl (by kernel_rfl) (by kernel_rfl) (by kernel_rfl) (fun _ _ _ h=>h) (Or.inl ⟨by rfl,?_⟩) (by assumption) ?_
   ·intro u' hSu
    (try simp only[List.getElem_toArray,List.getElem_cons_zero,List.getElem_cons_succ])
    obtain⟨s0,s1,s2⟩:=hSu
    go_simp
   (try simp only[List.getElem_toArray,List.getElem_cons_zero,List.getElem_cons_succ])
   (try simp only[Act.put,List.setIfInBounds_toArray,List.set_cons_zero,List.set_cons_succ])
   refine wpAnyH_take (i:=18) (oi:=_) (v:=.int .i64 (n:Nat)) rfl (by kernel_rfl) (by kernel_rfl) (by kernel_rfl) (fun _ _ _ h=>h) (Or.inl ⟨by rfl,?_⟩) (by assumption) ?_
   ·intro u' hSu
    (try simp only[List.getElem_toArray,List.getElem_cons_zero,List.getElem_cons_succ])
    go_simp
   (try simp only[List.getElem_toArray,List.getElem_cons_zero,List.getElem_cons_succ])
   (try simp only[Act.put,List.setIfInBounds_toArray,List.set_cons_zero,List.set_cons_succ])
   refine wpAnyH_take (i:=19) (oi:=_) (v:=.agg #[.slice a n ca,.slice b n cb,.slice c n cc]) rfl (by kernel_rfl) (by kernel_rfl) (by kernel_rfl) (fun _ _ _ h=>h) (Or.inl ⟨by rfl,?_⟩) (by assumption) ?_
   ·intro u' hSu
    (try simp only[List.getElem_toArray,List.getElem_cons_zero,List.getElem_cons_succ])
    obtain⟨s0,s1,s2⟩:=hSu
    go_simp
   (try simp only[List.getElem_toArray,List.getElem_cons_zero,List.getElem_cons_succ])
   (try simp only[Act.put,List.setIfInBounds_toArray,List.set_cons_zero,List.set_cons_succ])
   refine wpAnyH_ready (rs:=[20]) (by kernel_rfl) (by simp) (AllReadyH.cons rfl ?_ (AllReadyH.nil))
   ·intro K' hK'
    (try simp only[List.getElem_toArray,List.getElem_cons_zero,List.getElem_cons_succ])
    go_simp
    refine(HSG.out _ HB.out).mono ?_
    rintro e u3 ⟨rfl,hb⟩
    replace HB:=hid (HB.out.trans (hb.mono HB.out.size))
    refine hK'.out _ _ (HELD.out _ HB.out) (fun hSe=>?_)
    clear hK' K' hSd
    have hSd:=hSe
    clear hSe hb
    (try simp only[List.getElem_toArray,List.getElem_cons_zero,List.getElem_cons_succ])
    (try simp only[Act.put,List.setIfInBounds_toArray,List.set_cons_zero,List.set_cons_succ])
    refine wpAnyH_ready (rs:=[21]) (by kernel_rfl) (by simp) (AllReadyH.cons rfl ?_ (AllReadyH.nil))
    ·intro K' hK'
     (try simp only[List.getElem_toArray,List.getElem_cons_zero,List.getElem_cons_succ])
     go_simp
     refine(HIM2.out _ HB.out).mono ?_
     rintro e u4 ⟨rfl,hb⟩
     replace HB:=hid (HB.out.trans (hb.mono HB.out.size))
     refine hK'.out _ _ (HELD.out _ HB.out) (fun hSe=>?_)
     clear hK' K' hSd
     have hSd:=hSe
     clear hSe hb
     (try simp only[List.getElem_toArray,List.getElem_cons_zero,List.getElem_cons_succ])
     (try simp only[Act.put,List.setIfInBounds_toArray,List.set_cons_zero,List.set_cons_succ])
     refine wpAnyH_take (i:=22) (oi:=_) (v:=.bool false) rfl (by kernel_rfl) (by kernel_rfl) (by kernel_rfl) (fun _ _ _ h=>h) (Or.inl ⟨by rfl,?_⟩) (by assumption) ?_
     ·intro u' hSu
      (try simp only[List.getElem_toArray,List.getElem_cons_zero,List.getElem_cons_succ])
      go_simp
     (try simp only[List.getElem_toArray,List.getElem_cons_zero,List.getElem_cons_succ])
     (try simp only[Act.put,List.setIfInBounds_toArray,List.set_cons_zero,List.set_cons_succ])
     refine wpAnyH_take (i:=23) (oi:=_) (v:=.bool false) rfl (by kernel_rfl) (by kernel_rfl) (by kernel_rfl) (fun _ _ _ h=>h) (Or.inl ⟨by rfl,?_⟩) (by assumption) ?_
     ·intro u' hSu
      (try simp only[List.getElem_toArray,List.getElem_cons_zero,List.getElem_cons_succ])
      go_simp
     (try simp only[List.getElem_toArray,List.getElem_cons_zero,List.getElem_cons_succ])
     (try simp only[Act.put,List.setIfInBounds_toArray,List.set_cons_zero,List.set_cons_succ])
     refine wpAnyH_done (by kernel_rfl) ?_ _
     clear hSd
     have HBN:=hid (hA.trans (HB.out.mono hA.size))
     obtain⟨e0,e1,e2⟩:=(hHB.below HB.out hHB.lt).cells
     have HAL1:=hid ((Below.refl u4.heap.size u4).alloc (Nat.le_refl _) (.cells #[.slice a n ca] 22))
     have HAL2:=hid (HAL1.out.alloc HAL1.out.size (.cells #[.slice (some ⟨u4.heap.size,0,none⟩) 1 1,.slice b n cb,.slice c n cc] 23))
     have HCN:Hid (Calls Tryz.prog 40 #[.slice (some ⟨u4.heap.size+1,0,none⟩) 3 3] ((u4.alloc (.cells #[.slice a n ca] 22)).alloc (.cells #[.slice (some ⟨u4.heap.size,0,none⟩) 1 1,.slice b n cb,.slice c n cc] 23)) fun e w'=>∃v,e=.returned v∧RwX w' ((u4.alloc (.cells #[.slice a n ca] 22)).alloc (.cells #[.slice (some ⟨u4.heap.size,0,none⟩) 1 1,.slice b n cb,.slice c n cc] 23)).heap.size v ([.slice a n ca]++X1++X2)∧Below ((u4.alloc (.cells #[.slice a n ca] 22)).alloc (.cells #[.slice (some ⟨u4.heap.size,0,none⟩) 1 1,.slice b n cb,.slice c n cc] 23)).heap.size ((u4.alloc (.cells #[.slice a n ca] 22)).alloc (.cells #[.slice (some ⟨u4.heap.size,0,none⟩) 1 1,.slice b n cb,.slice c n cc] 23)) w'):=by
      have hrow:((u4.alloc (.cells #[.slice a n ca] 22)).alloc (.cells #[.slice (some ⟨u4.heap.size,0,none⟩) 1 1,.slice b n cb,.slice c n cc] 23)).heap[u4.heap.size+1]? =some (.cells #[.slice (some ⟨u4.heap.size,0,none⟩) 1 1,.slice b n cb,.slice c n cc] 23 (0,0)):=by
       have h:=heap_alloc_new (u4.alloc (.cells #[.slice a n ca] 22)) (.cells #[.slice (some ⟨u4.heap.size,0,none⟩) 1 1,.slice b n cb,.slice c n cc] 23)
       rwa [World.size_alloc] at h
      have hone:(u4.alloc (.cells #[.slice a n ca] 22)).heap[u4.heap.size]? =some (.cells #[.slice a n ca] 22 (0,0)):=heap_alloc_new u4 _
      have hlt1:u4.heap.size<(u4.alloc (.cells #[.slice a n ca] 22)).heap.size:=by simp
      have hone2:=((Below.refl (u4.alloc (.cells #[.slice a n ca] 22)).heap.size _).alloc (Nat.le_refl _) (.cells #[.slice (some ⟨u4.heap.size,0,none⟩) 1 1,.slice b n cb,.slice c n cc] 23)).block u4.heap.size hlt1 |>.trans hone
      have hX1:=(HX1.out.below HBN.out).below HAL2.out
      have hX2:=(HX2.out.below HBN.out).below HAL2.out
      have h:=slConcatR_any (u4.heap.size+1) (some ⟨u4.heap.size,0,none⟩) b c 1 cb cc [.slice a n ca] X1 X2 _ (by simp) (by rw[cell_of_row _ _ _ _ _ (0,0) hrow];rfl) (by rw[cell_of_row _ _ _ _ _ (0,0) hrow,HXL1.out];rfl) (by rw[cell_of_row _ _ _ _ _ (0,0) hrow,HXL2.out];rfl) (fun k hk=>?_) hX1 hX2 (fun e=>by cases e) HN1.out HN2.out (by simp) (by rw[HXL1.out];omega) (by rw[HXL2.out];omega)
      ·exact h
      ·obtain rfl:k=0:=by simp at hk;omega
       refine⟨u4.heap.size,0,rfl,by simp;omega,?_,a,n,ca,rfl⟩
       rw[cell_of_row _ _ _ _ _ (0,0) hone2]
       rfl
     have HBA:=hid (HBN.out.trans (HAL2.out.mono HBN.out.size))
     obtain⟨x0,x1,x2⟩:=((hHB.below HB.out hHB.lt).below HAL1.out (Nat.lt_of_lt_of_le hHB.lt HB.out.size)).cells
     go_wp2_with fail
     generalize ((u4.alloc (.cells #[.slice a n ca] 22)).alloc (.cells #[.slice (some ⟨u4.heap.size,0,none⟩) 1 1,.slice b n cb,.slice c n cc] 23))=W5 at *
     refine HCN.out.mono ?_
     rintro e w6 ⟨v6,rfl,hv6,hb6⟩
     have HB6:=hid (HBA.out.trans (hb6.mono HBA.out.size))
     have hxl:([.slice a n ca]++X1++X2:List Value).length=1+n+n:=by rw[List.length_append,List.length_append,HXL1.out,HXL2.out];rfl
     have hv7:=hv6
     rw[RwX,hxl] at hv7
     obtain⟨a6,c6,rfl, -⟩:=owns_slice hv7
     have HV:=hid hv7
     have HXE:Hid (∀k (h:k<([.slice a n ca]++X1++X2:List Value).length),∃(b':Option Addr) (r:List Fr) (c':Nat),([.slice a n ca]++X1++X2:List Value)[k]=.slice b' r.length c'∧FrS w b' r∧rowB r=true∧Go.Proofs.YtgamblainfkiaaaGreatDoor.fw r≤10000∧r.length≤4):=fun k h=>by
      obtain⟨b',r,c',h1,h2,h3⟩:=HXA.out _ (List.getElem_mem h)
      obtain⟨p1,p2,p3⟩:=HALL.out r h3
      exact⟨b',r,c',h1,h2,p1,p2,p3⟩
     have HXL:=hid hxl
     clear hv6 hv7 hb6 hxl e0 e1 e2 x0 x1 x2
     generalize ([.slice a n ca]++X1++X2:List Value)=X at *
     obtain⟨N,hN⟩:∃N,N=1+n+n:=⟨_,rfl⟩
     rw[←hN] at HV HXL
     rw[←hN]
     have hN9:N≤9:=by omega
     clear hN
     go_wp2_with fail
     go_loopw [56] (fun iv wr=>∃i:Nat,i≤N∧iv=.int .i64 i∧Hid (Below w6.heap.size w6 wr)) (fun iv _=>N - (intOf iv).toNat)
     case atStart=>exact⟨0,Nat.zero_le _,rfl,Below.refl _ _⟩
     case round=>
      obtain⟨i,hi,rfl,HBr⟩:=hrel
      by_cases hlt:i<N
      ·have hiX:i<X.length:=by rw[HXL.out];exact hlt
       obtain⟨g6,rfl,hg6,hc6⟩:=owns_cell HV.out hiX
       have hc6':=(HBr.out.cell (p:=⟨g6,_,none⟩) hg6).trans hc6
       obtain⟨b',r,c',h1,h2,h3,h4,h5⟩:=HXE.out i hiX
       rw[h1] at hc6'
       have hbw:=HB6.out.trans (HBr.out.mono HB6.out.size)
       have HRO:=hid (hiRow_any b' c' r wr (h2.below hbw) h4 (by omega))
       rw[h3] at HRO
       clear h1 h2 h3 h4 hc6 hbw
       generalize r.length=rl at *
       go_wp2_with fail
       refine HRO.out.mono ?_
       rintro e w7 ⟨rfl,hb7⟩
       have HB7:=hid (HBr.out.trans (hb7.mono HBr.out.size))
       clear hb7
       go_wp2
       go_roundw
       case rel=>exact⟨i+1,by omega,by go_num,HB7⟩
       case measure=>simp[intOf];omega
      ·obtain rfl:i=N:=by omega
       go_wp2
       go_ret
       exact⟨rfl,HB6.out.trans (HBr.out.mono HB6.out.size)⟩
set_option maxRecDepth 100000 in
set_option maxHeartbeats 400000 in
theorem hiCheck1_any (a b c:Option Addr) (ca cb cc n m x B:Nat) (R2:List (List Fr)) (w:World) (hR:FsS w c R2) (h:RwsOK n m R2) (h1:1≤n) (hn:n≤4) (hx:x<m) (hB:HBox w B (.slice a n ca) (.slice b n cb) (.slice c n cc)):
  Calls Tryz.prog 67 #[.int .i64 (x:Nat),.pointer (some ⟨B,0,none⟩)] w fun e w'=>e=.returned (.bool false)∧Below w.heap.size w w':=by
 have HSG:=hid (signs_yes a b c n n ca cb cc n m R2 w hR h h1 (by omega))
 obtain⟨e0,e1,e2⟩:=hB.cells
 clear hR h
 go_enter Tryz.func67,Tryz.ntmps67
 go_wp2_with fail
 refine HSG.out.mono ?_
 rintro e w1 ⟨rfl,hb1⟩
 go_wp2
 go_ret
 exact⟨by simp;omega,hb1⟩
set_option maxRecDepth 100000 in
set_option maxHeartbeats 1000000 in
theorem hiCheck2_yes (a b c d:Option Addr) (ca cb cc cd n m:Nat) (l:List Fr) (R1 R2:List (List Fr)) (Q:List Nat) (w:World) (h:HidI w a b c n m l R1 R2) (hok:HidOK n m l R1 R2) (hb0:b=none→cb=0) (hc0:c=none→cc=0) (hQ:IntS w d (iL Q)) (hq:∀x∈Q,x<m) (hQ8:Q.length≤8):
  Calls Tryz.prog 28 #[.agg #[.slice a n ca,.slice b n cb,.slice c n cc],.slice d Q.length cd] w fun e w'=>e=.returned (.int .i64 0)∧Below w.heap.size w w':=by
 have hA:=(Below.refl w.heap.size w).alloc (Nat.le_refl _) (HC3 (.slice a n ca) (.slice b n cb) (.slice c n cc))
 have hHB:=HBox.new w (.slice a n ca) (.slice b n cb) (.slice c n cc)
 have HCK:=hid (hiCheck_yes a b c ca cb cc n m l R1 R2 _ (h.below hA) hok hb0 hc0)
 have HCF:Hid (∀V:World,Below (w.alloc (HC3 (.slice a n ca) (.slice b n cb) (.slice c n cc))).heap.size (w.alloc (HC3 (.slice a n ca) (.slice b n cb) (.slice c n cc))) V→Calls Tryz.prog 66 #[.slice d Q.length cd,.func (.func 67) #[] #[.pointer (some ⟨w.heap.size,0,none⟩)]] V fun e w'=>e=.returned (.bool false)∧Below V.heap.size V w'):=fun V hV=>by
  have hbV:=hA.trans (hV.mono hA.size)
  have h9:=conFI_any d cd 67 #[.pointer (some ⟨w.heap.size,0,none⟩)] (iL Q) (fun _=>false) V (hQ.below hbV) (by rw[iL_length];omega) (enters_of Tryz.func67 (by kernel_rfl) rfl) (fun q hq' U hU=>by
   obtain⟨x,hx,rfl⟩:=List.mem_map.1 hq'
   exact hiCheck1_any a b c ca cb cc n m x w.heap.size R2 U ((h.sh.below hbV).below hU) hok.sh hok.n1 hok.n4 (hq x hx) ((hHB.below hV hHB.lt).below hU (Nat.lt_of_lt_of_le hHB.lt hV.size)))
  rw[iL_length] at h9
  have e:(iL Q).any (fun _=>false)=false:=by simp
  rwa [e] at h9
 obtain⟨e0,e1,e2⟩:=hHB.cells
 have HA:=hid hA
 clear h hok hb0 hc0 hQ hq hA
 go_enter Tryz.func28,Tryz.ntmps28
 go_wp2_with fail
 generalize (w.alloc (HC3 (.slice a n ca) (.slice b n cb) (.slice c n cc)))=W at *
 refine HCK.out.mono ?_
 rintro e w1 ⟨rfl,hb1⟩
 have HB1:=hid hb1
 clear hb1 e0 e1 e2
 go_wp2_with fail
 refine(HCF.out _ HB1.out).mono ?_
 rintro e w2 ⟨rfl,hb2⟩
 have HB2:=hid (HA.out.trans ((HB1.out.trans (hb2.mono HB1.out.size)).mono HA.out.size))
 clear hb2
 go_wp2
 go_ret
 exact⟨rfl,HB2.out⟩
end Go.Proofs.YtgamblainfkiaaaGreatDoor

/- The answer's HiddenCheck and Seen, of whatever hidden chain. -/
namespace Go.Proofs.YtgamblainfkiaaaGreatDoor
open Go.RowKit Go.Shelf
def ShpB (l:List Fr) (R1 R2:List (List Fr)):Prop:=1≤l.length∧l.length≤4∧R1.length=l.length∧R2.length=l.length∧1≤(R2.headD []).length∧(R2.headD []).length≤4∧(∀r∈R1,r.length=l.length)∧∀r∈R2,r.length=(R2.headD []).length
def RwsB (l:List Fr) (R1 R2:List (List Fr)):Prop:=rowB l=true∧(∀r∈R1,rowB r=true)∧∀r∈R2,rowB r=true
def HidE (l:List Fr) (R1 R2:List (List Fr)) (e:Int):Prop:=(e=0∧ShpB l R1 R2∧RwsB l R1 R2)∨(e=9∧ShpB l R1 R2∧¬RwsB l R1 R2)∨(e=8∧¬ShpB l R1 R2)
theorem HidE.uniq {l:List Fr} {R1 R2:List (List Fr)} {e e':Int} (h:HidE l R1 R2 e) (h':HidE l R1 R2 e'):e=e':=by
 rcases h with ⟨rfl,a,b⟩ |⟨rfl,a,b⟩ |⟨rfl,a⟩<;>rcases h' with ⟨rfl,c,d⟩ |⟨rfl,c,d⟩ |⟨rfl,c⟩<;>first |rfl |exact absurd b d |exact absurd d b |exact absurd a c |exact absurd c a
structure HidS (l:List Fr) (R1 R2:List (List Fr)):Prop where
 l1:l.length≤1000
 l2:R1.length≤140737488355328
 l3:R2.length≤140737488355328
 r1:∀r∈R1,r.length≤1000
 r2:∀r∈R2,r.length≤1000
 f1:fw l≤10000
 f2:∀r∈R1,fw r≤10000
 f3:∀r∈R2,fw r≤10000
theorem head_at {R:List (List Fr)} (h:0<R.length):R.headD []=R[0]:=by
 cases R with
 |nil=>exact absurd h (by decide)
 |cons r R=>rfl
theorem FsS.raw' {w:World} {a:Option Addr} {R:List (List Fr)} (h:FsS w a R) {i:Nat} (hi:i<R.length):∃g o b c,a=some ⟨g,o,none⟩∧g<w.heap.size∧w.cell? ⟨g,o+i,none⟩=some (.slice b R[i].length c)∧FrS w b R[i]:=by
 obtain⟨g,o,b,c,h1,h2,h3,h4,_⟩:=h i hi
 exact⟨g,o,b,c,h1,h2,h3,h4⟩
structure HidM (w:World) (a b c:Option Addr) (l:List Fr) (R1 R2:List (List Fr)):Prop where
 st:FrS w a l
 mv:FsS w b R1
 sh:FsS w c R2
theorem HidM.below {w w':World} {a b c:Option Addr} {l:List Fr} {R1 R2:List (List Fr)} (h:HidM w a b c l R1 R2) (hb:Below w.heap.size w w'):HidM w' a b c l R1 R2:=⟨h.st.below hb,h.mv.below hb,h.sh.below hb⟩
set_option maxRecDepth 100000 in
set_option maxHeartbeats 2000000 in
theorem rHidCheck_any (a b c:Option Addr) (ca cb cc:Nat) (l:List Fr) (R1 R2:List (List Fr)) (w:World) (h:HidM w a b c l R1 R2) (hs:HidS l R1 R2):
  Calls Tryz.prog 9 #[.agg #[.slice a l.length ca,.slice b R1.length cb,.slice c R2.length cc]] w fun e w'=>(∃x,e=.returned (.int .i64 x)∧HidE l R1 R2 x)∧Below w.heap.size w w':=by
 have HI:=hid h
 have HS:=hid hs
 have hl1:=hs.l1
 have hl2:=hs.l2
 have hl3:=hs.l3
 clear h hs
 have HA:=hid ((Below.refl w.heap.size w).alloc (Nat.le_refl _) (HC3 (.slice a l.length ca) (.slice b R1.length cb) (.slice c R2.length cc)))
 have HH:=hid (HBox.new w (.slice a l.length ca) (.slice b R1.length cb) (.slice c R2.length cc))
 obtain⟨e0,e1,e2⟩:=HH.out.cells
 have HNO:Hid (¬ShpB l R1 R2→HidE l R1 R2 8):=fun hn=>.inr (.inr ⟨rfl,hn⟩)
 obtain⟨n,hn⟩:∃x,l.length=x:=⟨_,rfl⟩
 obtain⟨n2,hn2⟩:∃x,R1.length=x:=⟨_,rfl⟩
 obtain⟨n3,hn3⟩:∃x,R2.length=x:=⟨_,rfl⟩
 have HN:=hid hn
 have HN2:=hid hn2
 have HN3:=hid hn3
 rw[hn] at hl1 HA HH e0
 rw[hn2] at hl2 HA HH e1
 rw[hn3] at hl3 HA HH e2
 simp only[hn,hn2,hn3] at HA HH e0 e1 e2⊢
 clear hn hn2 hn3
 by_cases q1:n<1
 ·have p1:(n:Int)<1:=by omega
  go_enter Tryz.func9,Tryz.ntmps9
  go_wp2
  go_ret
  exact⟨⟨8,rfl,HNO.out fun hb=>by have:=hb.1;rw[HN.out] at this;omega⟩,HA.out⟩
 have p1:¬(n:Int)<1:=by omega
 by_cases q2:4<n
 ·have p2:(4:Int)<(n:Int):=by omega
  go_enter Tryz.func9,Tryz.ntmps9
  go_wp2
  go_ret
  exact⟨⟨8,rfl,HNO.out fun hb=>by have:=hb.2.1;rw[HN.out] at this;omega⟩,HA.out⟩
 have p2:¬(4:Int)<(n:Int):=by omega
 by_cases q3:n2=n
 case neg=>
  have p3:((n2:Int) !=(n:Int))=true:=by simp;omega
  have p3':¬(n2:Int)=(n:Int):=by omega
  go_enter Tryz.func9,Tryz.ntmps9
  go_wp2
  go_ret
  exact⟨⟨8,rfl,HNO.out fun hb=>q3 (by have:=hb.2.2.1;rw[HN.out,HN2.out] at this;exact this)⟩,HA.out⟩
 by_cases q4:n3=n
 case neg=>
  have p4:((n3:Int) !=(n:Int))=true:=by simp;omega
  have p4':¬(n3:Int)=(n:Int):=by omega
  subst q3
  go_enter Tryz.func9,Tryz.ntmps9
  go_wp2
  go_ret
  exact⟨⟨8,rfl,HNO.out fun hb=>q4 (by have:=hb.2.2.2.1;rw[HN.out,HN3.out] at this;exact this)⟩,HA.out⟩
 subst q3
 subst q4
 have h0R:0<R2.length:=by rw[HN3.out];omega
 obtain⟨g3,o3,b3,c3,rfl,hg3,r0, -⟩:=(HI.out.below HA.out).sh.raw' h0R
 rw[←head_at h0R] at r0
 rw[Nat.add_zero] at r0
 have hm1000:=HS.out.r2 (R2.headD []) (by rw[head_at h0R];exact List.getElem_mem h0R)
 obtain⟨m,hm⟩:∃x,(R2.headD []).length=x:=⟨_,rfl⟩
 have HM:=hid hm
 rw[hm] at r0 hm1000
 clear hm
 by_cases q5:m<1
 ·have p5:(m:Int)<1:=by omega
  go_enter Tryz.func9,Tryz.ntmps9
  go_wp2
  go_ret
  exact⟨⟨8,rfl,HNO.out fun hb=>by have:=hb.2.2.2.2.1;rw[HM.out] at this;omega⟩,HA.out⟩
 have p5:¬(m:Int)<1:=by omega
 by_cases q6:4<m
 ·have p6:(4:Int)<(m:Int):=by omega
  go_enter Tryz.func9,Tryz.ntmps9
  go_wp2
  go_ret
  exact⟨⟨8,rfl,HNO.out fun hb=>by have:=hb.2.2.2.2.2.1;rw[HM.out] at this;omega⟩,HA.out⟩
 have p6:¬(4:Int)<(m:Int):=by omega
 have HRZ:=hid r0
 go_enter Tryz.func9,Tryz.ntmps9
 go_wp2_with fail
 generalize (w.alloc (HC3 (.slice a n3 ca) (.slice b n3 cb) (.slice (some ⟨g3,o3,none⟩) n3 cc)))=W at *
 obtain⟨gH,hgH⟩:∃x,w.heap.size=x:=⟨_,rfl⟩
 have HHc:Hid (HBox W gH (.slice a n3 ca) (.slice b n3 cb) (.slice (some ⟨g3,o3,none⟩) n3 cc)):=by rw[←hgH];exact HH.out
 simp only[hgH]
 clear hgH HH e0 e1 e2 r0
 go_loopw [5] (fun iv wr=>∃i:Nat,i≤n3∧iv=.int .i64 i∧W=wr∧Hid (∀k,k<i→(∀h:k<R1.length,R1[k].length=n3)∧∀h:k<R2.length,R2[k].length=m)) (fun iv _=>n3 - (intOf iv).toNat)
 case atStart=>exact⟨0,Nat.zero_le _,rfl,rfl,fun k hk=>absurd hk (Nat.not_lt_zero _)⟩
 case round=>
  obtain⟨i,hi,rfl,rfl,HK⟩:=hrel
  obtain⟨e0,e1,e2⟩:=HHc.out.cells
  by_cases hlt:i<n3
  ·have hi1:i<R1.length:=by rw[HN2.out];exact hlt
   have hi2:i<R2.length:=by rw[HN3.out];exact hlt
   obtain⟨g1,o1,b1,c1,rfl,hg1,x0, -⟩:=(HI.out.below HA.out).mv.raw' hi1
   obtain⟨g4,o4,b4,c4,he,hg4,y0, -⟩:=(HI.out.below HA.out).sh.raw' hi2
   cases he
   have HM1:Hid (R1[i]∈R1):=List.getElem_mem hi1
   have HM2:Hid (R2[i]∈R2):=List.getElem_mem hi2
   have s1:=HS.out.r1 _ HM1.out
   have s2:=HS.out.r2 _ HM2.out
   obtain⟨x,hx⟩:∃x,R1[i].length=x:=⟨_,rfl⟩
   obtain⟨y,hy⟩:∃x,R2[i].length=x:=⟨_,rfl⟩
   rw[hx] at x0 s1
   rw[hy] at y0 s2
   have HX:=hid hx
   have HY:=hid hy
   clear hx hy
   by_cases z1:x=n3
   case neg=>
    have p7:((x:Int) !=(n3:Int))=true:=by simp;omega
    have p7':¬(x:Int)=(n3:Int):=by omega
    go_wp2
    go_ret
    exact⟨⟨8,rfl,HNO.out fun hb=>z1 (by have:=hb.2.2.2.2.2.2.1 _ HM1.out;rw[HX.out,HN.out] at this;exact this)⟩,HA.out⟩
   by_cases z2:y=m
   case neg=>
    have p8:((y:Int) !=(m:Int))=true:=by simp;omega
    have p8':¬(y:Int)=(m:Int):=by omega
    have p7:((x:Int) !=(n3:Int))=false:=by simp;omega
    have p7':(x:Int)=(n3:Int):=by omega
    go_wp2
    go_ret
    exact⟨⟨8,rfl,HNO.out fun hb=>z2 (by have:=hb.2.2.2.2.2.2.2 _ HM2.out;rw[HY.out,HM.out] at this;exact this)⟩,HA.out⟩
   rw[z1] at x0 HX
   rw[z2] at y0 HY
   have HKN:Hid (∀k,k<i+1→(∀h:k<R1.length,R1[k].length=n3)∧∀h:k<R2.length,R2[k].length=m):=fun k hk=>by
    rcases Nat.lt_or_ge k i with h1 |h1
    ·exact HK.out k h1
    ·obtain rfl:k=i:=by omega
     exact⟨fun _=>HX.out,fun _=>HY.out⟩
   clear z1 z2 s1 s2 HM1 HM2 HX HY
   go_wp2
   go_roundw
   case rel=>exact⟨i+1,by omega,by go_num,trivial,HKN⟩
   case measure=>simp[intOf];omega
  ·obtain rfl:n3=i:=by omega
   have HSH:Hid (ShpB l R1 R2):=⟨by rw[HN.out];omega,by rw[HN.out];omega,by rw[HN.out,HN2.out],by rw[HN.out,HN3.out],by rw[HM.out];omega,by rw[HM.out];omega,fun r hr=>by
    obtain⟨k,hk,rfl⟩:=List.getElem_of_mem hr
    rw[HN.out]
    exact(HK.out k (by rw[HN2.out] at hk;exact hk)).1 hk,fun r hr=>by
    obtain⟨k,hk,rfl⟩:=List.getElem_of_mem hr
    rw[HM.out]
    exact(HK.out k (by rw[HN3.out] at hk;exact hk)).2 hk⟩
   have HCH:=hid (chances_any a ca l W (HI.out.below HA.out).st HS.out.f1 (by rw[HN.out];omega))
   rw[HN.out] at HCH
   obtain⟨bl0,hbl0⟩:∃x,rowB l=x:=⟨_,rfl⟩
   have HBL:=hid hbl0
   rw[hbl0] at HCH
   clear hbl0 HK HNO
   go_wp2_with fail
   refine HCH.out.mono ?_
   rintro e w2 ⟨rfl,hb2⟩
   have HB2:=hid hb2
   clear hb2 HCH e0 e1 e2
   go_wp2_with fail
   go_loopw [6,7] (fun ov iv wr=>∃(i:Nat) (o:Bool),i≤n3∧iv=.int .i64 i∧ov=.bool o∧Hid (o=(bl0&&(R1.take i).all rowB&&(R2.take i).all rowB))∧Hid (Below W.heap.size W wr)) (fun _ iv _=>n3 - (intOf iv).toNat)
   case atStart=>exact⟨0,bl0,Nat.zero_le _,rfl,rfl,by show _=_;simp,HB2⟩
   case round=>
    obtain⟨i,o,hi2,rfl,rfl,HO,HBi⟩:=hrel
    clear HB2
    obtain⟨e0,e1,e2⟩:=(HHc.out.below HBi.out HHc.out.lt).cells
    by_cases hlt2:i<n3
    ·have hi1:i<R1.length:=by rw[HN2.out];exact hlt2
     have hi3:i<R2.length:=by rw[HN3.out];exact hlt2
     obtain⟨g1,o1,b1,c1,rfl,hg1,x0,hf1⟩:=(HI.out.below HA.out).mv.raw' hi1
     obtain⟨g4,o4,b4,c4,he,hg4,y0,hf4⟩:=(HI.out.below HA.out).sh.raw' hi3
     cases he
     have x0':=(HBi.out.cell (p:=⟨g1,_,none⟩) hg1).trans x0
     have HY0:Hid (∀u,Below W.heap.size W u→u.cell? ⟨g3,o3+i,none⟩=some (.slice b4 R2[i].length c4)):=fun u h=>(h.cell (p:=⟨g3,_,none⟩) hg4).trans y0
     have HM1:Hid (R1[i]∈R1):=List.getElem_mem hi1
     have HM2:Hid (R2[i]∈R2):=List.getElem_mem hi3
     have HC1:=hid (fun (U:World) (hU:Below W.heap.size W U)=>chances_any b1 c1 R1[i] U (hf1.below hU) (HS.out.f2 _ HM1.out) (by have:=HS.out.r1 _ HM1.out;omega))
     have HC2:=hid (fun (U:World) (hU:Below W.heap.size W U)=>chances_any b4 c4 R2[i] U (hf4.below hU) (HS.out.f3 _ HM2.out) (by have:=HS.out.r2 _ HM2.out;omega))
     have HT1:Hid ((R1.take (i+1)).all rowB=((R1.take i).all rowB&&rowB R1[i])):=by show _=_;rw[List.take_succ_eq_append_getElem hi1,List.all_append];simp
     have HT2:Hid ((R2.take (i+1)).all rowB=((R2.take i).all rowB&&rowB R2[i])):=by show _=_;rw[List.take_succ_eq_append_getElem hi3,List.all_append];simp
     obtain⟨lx,hlx⟩:∃x,R1[i].length=x:=⟨_,rfl⟩
     obtain⟨ly,hly⟩:∃x,R2[i].length=x:=⟨_,rfl⟩
     rw[hlx] at x0' HC1
     rw[hly] at HY0 HC2
     generalize rowB R1[i]=u1 at *
     generalize rowB R2[i]=u2 at *
     clear hlx hly x0 y0 hf1 hf4
     go_wp2_with fail
     refine(HC1.out _ HBi.out).mono ?_
     rintro e w3 ⟨rfl,hb3⟩
     have HB3:=hid (HBi.out.trans (hb3.mono HBi.out.size))
     clear hb3 x0' e0 e1 e2
     obtain⟨e0,e1,e2⟩:=(HHc.out.below HB3.out HHc.out.lt).cells
     have y1:=HY0.out _ HB3.out
     go_wp2_with fail
     refine(HC2.out _ HB3.out).mono ?_
     rintro e w4 ⟨rfl,hb4⟩
     have HB4:=hid (HB3.out.trans (hb4.mono HB3.out.size))
     have HON:Hid ((o&&u1&&u2)=(bl0&&(R1.take (i+1)).all rowB&&(R2.take (i+1)).all rowB)):=by
      show _=_
      rw[HO.out,HT1.out,HT2.out]
      cases bl0<;>cases (R1.take i).all rowB<;>cases (R2.take i).all rowB<;>cases u1<;>cases u2<;>rfl
     clear hb4 y1 e0 e1 e2 HC1 HC2 HY0
     cases o with
     |false=>
      go_wp2
      go_roundw
      case rel=>exact⟨i+1,false,by omega,by go_num,rfl,HON,HB4⟩
      case measure=>simp[intOf];omega
     |true=>
      cases u1 with
      |false=>
       go_wp2
       go_roundw
       case rel=>exact⟨i+1,false,by omega,by go_num,rfl,HON,HB4⟩
       case measure=>simp[intOf];omega
      |true=>
       go_wp2
       go_roundw
       case rel=>exact⟨i+1,u2,by omega,by go_num,rfl,HON,HB4⟩
       case measure=>simp[intOf];omega
    ·obtain rfl:n3=i:=by omega
     have HOE:Hid (o=(bl0&&R1.all rowB&&R2.all rowB)):=by
      have h9:=HO.out
      rw[←HN2.out,List.take_length] at h9
      rw[show R1.length=R2.length by rw[HN2.out,HN3.out],List.take_length] at h9
      exact h9
     have HBE:=hid (HA.out.trans (HBi.out.mono HA.out.size))
     clear HO HBi
     cases o with
     |true=>
      have hr:RwsB l R1 R2:=by
       have h9:=HOE.out.symm
       rw[Bool.and_eq_true,Bool.and_eq_true] at h9
       exact⟨by rw[HBL.out];exact h9.1.1,List.all_eq_true.1 h9.1.2,List.all_eq_true.1 h9.2⟩
      have HR:=hid hr
      clear hr
      go_wp2
      go_ret
      exact⟨⟨0,rfl,.inl ⟨rfl,HSH.out,HR.out⟩⟩,HBE.out⟩
     |false=>
      have hr:¬RwsB l R1 R2:=fun hr=>by
       have h9:=HOE.out
       rw[←HBL.out,hr.1,List.all_eq_true.2 hr.2.1,List.all_eq_true.2 hr.2.2] at h9
       exact absurd h9 (by decide)
      have HR:=hid hr
      clear hr
      go_wp2
      go_ret
      exact⟨⟨9,rfl,.inr (.inl ⟨rfl,HSH.out,HR.out⟩)⟩,HBE.out⟩
end Go.Proofs.YtgamblainfkiaaaGreatDoor

/- Nets: the number that a net has for a variable's value: likely of package net, rowAt of the document's answer. -/
namespace Go.Proofs.YtgamblainfkiaaaGreatDoor
open Go.RowKit Go.Shelf
def likT (S:List Nat) (P:List Nat) (f:Nat→Nat) (v:Nat):Nat:=pos S f P*sz S v+f v
end Go.Proofs.YtgamblainfkiaaaGreatDoor

/- Nets: how likely all values are: joint of the document's answer. -/
namespace Go.Proofs.YtgamblainfkiaaaGreatDoor
open Go.RowKit Go.Shelf
def likF (V:List Vr) (L:List (List Int)) (R:List (List Fr)) (f:Nat→Nat) (v:Nat):Fr:=celF (R.getD v []) (likT (sizesN V) (toN (L.getD v [])) f v)
end Go.Proofs.YtgamblainfkiaaaGreatDoor

/- Nets: Given of the document's answer. -/
namespace Go.Proofs.YtgamblainfkiaaaGreatDoor
open Go.RowKit Go.Shelf
def gU (L:List (List Int)) (v:Nat):List Int:=togL (L.getD v []) [(v:Int)]
def gL (V:List Vr) (L:List (List Int)) (R:List (List Fr)) (v:Nat):List Fr:=(List.range (cnt (sizesN V) (toN (gU L v)))).map fun K=>qF (frQ (likF V L R (asg (sizesN V) (toN (gU L v)) K) v))
end Go.Proofs.YtgamblainfkiaaaGreatDoor

/- Plain: all assignments of a net together are as likely as 1; what is given of a variable is 1 for each assignment of its parents. -/
namespace Go.Proofs.YtgamblainfkiaaaGreatDoor
open Go.RowKit Go.Shelf
def over (vs:List Nat) (f g:Nat→Nat):Nat→Nat:=fun u=>if u∈vs then g u else f u
end Go.Proofs.YtgamblainfkiaaaGreatDoor

/- The document's answer: a net under way. -/
namespace Go.Proofs.YtgamblainfkiaaaGreatDoor
open Go.RowKit Go.Shelf Go.Lib
theorem grown_low {w W W':World} {v:Value} {n:Nat} {tt:TypeId} {sz0:Nat} {xs:List Value} (hb:Below w.heap.size w W) (ho:W.ownsRow w.heap.size tt sz0 v n xs) (hg:W.grownBy W' v.ownBlock):Below w.heap.size w W':=hb.grown hg hb.size (fun k e=>owns_from ho k e)
theorem NBox.set0 {W:World} {g:Nat} {x y z:Value} (h:NBox W g x y z) (v:Value):NBox (W.setCell ⟨g,0,none⟩ v) g v y z:=heap_setCell_same W g 0 _ _ v h
theorem NBox.set1 {W:World} {g:Nat} {x y z:Value} (h:NBox W g x y z) (v:Value):NBox (W.setCell ⟨g,1,none⟩ v) g x v z:=heap_setCell_same W g 1 _ _ v h
theorem NBox.set2 {W:World} {g:Nat} {x y z:Value} (h:NBox W g x y z) (v:Value):NBox (W.setCell ⟨g,2,none⟩ v) g x y v:=heap_setCell_same W g 2 _ _ v h
def vOf (Vs:List PV):List Vr:=Vs.map fun p=>(p.1,p.2.2)
def lOf (Ls:List PL):List (List Int):=Ls.map (·.2)
def rOf (Rs:List PR):List (List Fr):=Rs.map (·.2)
theorem OwV.vars {W:World} {B:Nat} {x:Value} {Vs:List PV} (h:OwV W B x Vs):∃a c,x=.slice a (vOf Vs).length c∧VsS W a (vOf Vs):=by
 have hl:(vOf Vs).length=Vs.length:=by simp[vOf]
 obtain⟨a,c,rfl,_⟩:=owns_slice h.1
 refine⟨a,c,by rw[hl],fun k hk=>?_⟩
 rw[hl] at hk
 obtain⟨e1,e2⟩:=vC_get Vs k hk
 obtain⟨g,rfl,hg,c1⟩:=owns_cell h.1 (j:=k*2) (by rw[vC_length];omega)
 obtain⟨g',e,_,c2⟩:=owns_cell h.1 (j:=k*2+1) (by rw[vC_length];omega)
 cases e
 rw[e1] at c1
 rw[e2] at c2
 have hin:=h.2 Vs[k] (List.getElem_mem hk)
 obtain⟨b,cb,eb,hst⟩:=hin.st
 have hcap:Vs[k].2.2.length≤cb:=by
  rcases hin.2 with ⟨h1,h2⟩ |⟨g2,cap,cur,h1,_,_,h4,_⟩
  ·omega
  ·rw[eb] at h1
   injection h1 with _ _ h6
   omega
 refine⟨g,0,b,cb,rfl,hg,?_,?_,?_,?_⟩
 ·rw[Nat.zero_add,c1];simp[vOf]
 ·rw[Nat.zero_add,c2,eb];simp[vOf]
 ·simpa [vOf] using hst
 ·simpa [vOf] using hcap
theorem OwL.pars {W:World} {B:Nat} {y:Value} {Ls:List PL} (h:OwL W B y Ls):∃a c,y=.slice a (lOf Ls).length c∧LsS W a (lOf Ls)∧LsN W a (lOf Ls):=by
 have hl:(lOf Ls).length=Ls.length:=by simp[lOf]
 obtain⟨a,c,rfl,_⟩:=owns_slice h.1
 have key:∀k (hk:k<Ls.length),∃g,a=some ⟨g,0,none⟩∧g<W.heap.size∧∃b cb,W.cell? ⟨g,k,none⟩=some (.slice b Ls[k].2.length cb)∧IntS W b Ls[k].2∧(b=none→cb=0):=fun k hk=>by
  obtain⟨g,rfl,hg,c1⟩:=owns_cell h.1 (j:=k) (by simpa using hk)
  have hin:=h.2 Ls[k] (List.getElem_mem hk)
  obtain⟨b,cb,eb,hn⟩:=owns_slice hin
  obtain⟨b',cb',eb',hst⟩:=hin.ints
  rw[eb] at eb'
  cases eb'
  refine⟨g,rfl,hg,b,cb,?_,hst,hn⟩
  rw[c1]
  simp[eb]
 refine⟨a,c,by rw[hl],fun k hk=>?_,fun k hk g o b n' c' ea hc hn=>?_⟩
 ·rw[hl] at hk
  obtain⟨g,rfl,hg,b,cb,c1,hst,_⟩:=key k hk
  exact⟨g,0,b,cb,rfl,hg,by rw[Nat.zero_add,c1];simp[lOf],by simpa [lOf] using hst⟩
 ·rw[hl] at hk
  obtain⟨g',e',_,b',cb',c1,_,h0⟩:=key k hk
  rw[ea] at e'
  cases e'
  rw[Nat.zero_add,c1] at hc
  cases hc
  exact h0 hn
theorem OwR.rows {W:World} {B:Nat} {z:Value} {Rs:List PR} (h:OwR W B z Rs):∃a c,z=.slice a (rOf Rs).length c∧FsS W a (rOf Rs):=by
 have hl:(rOf Rs).length=Rs.length:=by simp[rOf]
 obtain⟨a,c,rfl,_⟩:=owns_slice h.1
 refine⟨a,c,by rw[hl],fun k hk=>?_⟩
 rw[hl] at hk
 obtain⟨g,rfl,hg,c1⟩:=owns_cell h.1 (j:=k) (by simpa using hk)
 have hin:=h.2 Rs[k] (List.getElem_mem hk)
 obtain⟨b,cb,eb,hst⟩:=hin.fr
 have hcap:Rs[k].2.length≤cb:=by
  rcases hin.2 with ⟨h1,h2⟩ |⟨g2,cap,cur,h1,_,_,h4,_⟩
  ·omega
  ·rw[eb] at h1
   injection h1 with _ _ h6
   omega
 exact⟨g,0,b,cb,rfl,hg,by rw[Nat.zero_add,c1];simp[rOf,eb],by simpa [rOf] using hst,by simpa [rOf] using hcap⟩
end Go.Proofs.YtgamblainfkiaaaGreatDoor

/- Unroll: rows of numbers in lowest terms, one behind the other: the answer's flat. -/
namespace Go.Proofs.YtgamblainfkiaaaGreatDoor
open Go.RowKit Go.Shelf Go.Lib
def cnF (r:List Fr):List Fr:=r.map fun f=>qF (frv f)
def cnR (R:List (List Fr)):List Fr:=(R.map cnF).flatten
theorem cnF_length (r:List Fr):(cnF r).length=r.length:=by simp[cnF]
theorem cnF_more {r:List Fr} {j:Nat} (h:j<r.length):cnF (r.take (j+1))=cnF (r.take j)++[qF (frv r[j])]:=by
 rw[List.take_succ_eq_append_getElem h,cnF,List.map_append]
 rfl
theorem cnR_more {R:List (List Fr)} {i:Nat} (h:i<R.length):cnR (R.take (i+1))=cnR (R.take i)++cnF R[i]:=by
 rw[List.take_succ_eq_append_getElem h,cnR,List.map_append,List.flatten_append]
 simp[cnR]
theorem cnR_len {R:List (List Fr)} (h:∀r∈R,r.length≤4):(cnR R).length≤4*R.length:=by
 induction R with
 |nil=>simp[cnR]
 |cons r R ih=>
  have h1:=ih fun x hx=>h x (List.mem_cons_of_mem _ hx)
  have h2:=h r List.mem_cons_self
  have e:cnR (r::R)=cnF r++cnR R:=by simp[cnR]
  rw[e,List.length_append,cnF_length,List.length_cons]
  omega
structure Few4 (R:List (List Fr)):Prop where
 l:R.length≤4
 r:∀r∈R,r.length≤4
 f:∀r∈R,fw r≤10000
set_option maxRecDepth 100000 in
set_option maxHeartbeats 1000000 in
theorem rFlat_any (a:Option Addr) (ca:Nat) (R:List (List Fr)) (w:World) (h:FsS w a R) (hk:Few4 R):
  Calls Tryz.prog 62 #[.slice a R.length ca] w fun e w'=>∃v,e=.returned v∧RwF w' w.heap.size v (cnR R)∧Below w.heap.size w w':=by
 have HI:=hid h
 have HK:=hid hk
 obtain⟨n,hn⟩:∃n,R.length=n:=⟨_,rfl⟩
 have HN:=hid hn
 have hn4:n≤4:=hn▸hk.l
 have HFIN:Hid (cnR R=cnR (R.take n)):=by show _=_;rw[←hn,List.take_length]
 rw[hn,HFIN.out]
 clear h hk hn
 obtain⟨F,hF⟩:∃F:Nat→List Fr,F=fun i=>cnR (R.take i):=⟨_,rfl⟩
 have HF:=hid hF
 rw[show cnR (R.take n)=F n by rw[hF]]
 clear hF
 go_enter Tryz.func62,Tryz.ntmps62
 go_wp2_with fail
 go_loopw [3,4,5] (fun vv iv _ wr=>∃i:Nat,i≤n∧iv=.int .i64 i∧Hid (RwF wr w.heap.size vv (F i))∧Hid (Below w.heap.size w wr)) (fun _ iv _ _=>n - (intOf iv).toNat)
 case atStart=>exact⟨0,Nat.zero_le _,rfl,by rw[HF.out];exact RwF.empty _ _,Below.refl _ _⟩
 case round=>
  obtain⟨i,hi,rfl,HR,HB⟩:=hrel
  by_cases hlt:i<n
  ·have hiR:i<R.length:=by rw[HN.out];exact hlt
   obtain⟨r,hr⟩:∃r,r=R[i]:=⟨_,rfl⟩
   have hrm:r∈R:=hr▸List.getElem_mem hiR
   have hr4:=HK.out.r r hrm
   have hrf:=HK.out.f r hrm
   have HNX:Hid (F (i+1)=F i++cnF (r.take r.length)):=by show _=_;rw[HF.out,List.take_length,hr];exact cnR_more hiR
   have HFL:Hid ((F i).length≤16):=by
    show _≤_
    rw[HF.out]
    have h1:=cnR_len (R:=R.take i) fun x hx=>HK.out.r x (List.mem_of_mem_take hx)
    rw[List.length_take] at h1
    show (cnR (R.take i)).length≤16
    omega
   have HRI:Hid (∀U:World,Below w.heap.size w U→∃g o b c,a=some ⟨g,o,none⟩∧g<U.heap.size∧U.cell? ⟨g,o+i,none⟩=some (.slice b r.length c)∧FrS U b r):=fun U hU=>by
    obtain⟨g,o,b,c,h1,h2,h3,h4⟩:=(HI.out.below hU).raw' hiR
    exact⟨g,o,b,c,h1,h2,by rw[hr];exact h3,by rw[hr];exact h4⟩
   have HSZ:Hid (∀j (hj:j<r.length),r[j].2.1.size+r[j].2.2.size≤100000):=fun j hj=>by have:=fw_mem (List.getElem_mem hj);omega
   clear hr hrm hrf hiR
   obtain⟨m,hm⟩:∃m,r.length=m:=⟨_,rfl⟩
   have HM:=hid hm
   rw[hm] at hr4 HNX HRI
   clear hm
   go_wp2_with fail
   go_loopw [3,5] (fun vv jv wq=>∃j:Nat,j≤m∧jv=.int .i64 j∧Hid (RwF wq w.heap.size vv (F i++cnF (r.take j)))∧Hid (Below w.heap.size w wq)) (fun _ jv _=>m - (intOf jv).toNat)
   case atStart=>exact⟨0,Nat.zero_le _,rfl,by rw[List.take_zero];show RwF _ _ _ (F i++[]);rw[List.append_nil];exact HR.out,HB⟩
   case round=>
    clear HR HB
    obtain⟨j,hj,rfl,HR,HB⟩:=hrel
    obtain⟨g,o,b,c,rfl,hg,c0,hfr⟩:=HRI.out _ HB.out
    by_cases hjt:j<m
    ·have hjr:j<r.length:=by rw[HM.out];exact hjt
     obtain⟨g',o',rfl,hg',d0,d1,d2⟩:=hfr j hjr
     have HCN:=hid (fun U:World=>Canon_r (n:=r[j].1) (x:=r[j].2.1) (y:=r[j].2.2) (w:=U) (HSZ.out j hjr))
     have HST:Hid (F i++cnF (r.take (j+1))=F i++cnF (r.take j)++[qF (val r[j].1 r[j].2.1 r[j].2.2)]):=by show _=_;rw[cnF_more hjr,List.append_assoc];rfl
     have HLN:Hid ((F i++cnF (r.take j)).length+1≤100000):=by show _≤_;rw[List.length_append,cnF_length,List.length_take];have:=HFL.out;omega
     obtain⟨q,hq⟩:∃q,qF (val r[j].1 r[j].2.1 r[j].2.2)=q:=⟨_,rfl⟩
     obtain⟨X,hX⟩:∃X,F i++cnF (r.take j)=X:=⟨_,rfl⟩
     obtain⟨Y,hY⟩:∃Y,F i++cnF (r.take (j+1))=Y:=⟨_,rfl⟩
     rw[hq,hX,hY] at HST
     rw[hX] at HLN HR
     have HCN':Hid (∀U:World,Calls Tryz.prog 76 #[.agg #[.bool r[j].1,.string r[j].2.1,.string r[j].2.2]] U fun e w'=>e=.returned (.agg #[.bool q.1,.string q.2.1,.string q.2.2])∧Below U.heap.size U w'):=fun U=>by rw[←hq];exact HCN.out U
     have HY:=hid hY
     clear HCN hq hX hY hfr
     generalize r[j].1=fn at *
     generalize r[j].2.1=fx at *
     generalize r[j].2.2=fy at *
     obtain⟨qn,qx,qy⟩:=q
     replace HCN':Hid (∀U:World,Calls Tryz.prog 76 #[.agg #[.bool fn,.string fx,.string fy]] U fun e w'=>e=.returned (.agg #[.bool qn,.string qx,.string qy])∧Below U.heap.size U w'):=HCN'
     go_wp2_with fail
     refine(HCN'.out _).mono ?_
     rintro e w1 ⟨rfl,hb1⟩
     have hBx:=Box.new w1 qn qx qy
     obtain⟨k0,k1,k2, -, -, -⟩:=hBx.facts
     have hbA:=(Below.refl w1.heap.size w1).alloc (Nat.le_refl _) (FC qn qx qy)
     have hbB:=hbA.alloc hbA.size (FC qn qx qy)
     have HX:=hid (Box.at (w:=w1.alloc (FC qn qx qy)) (g:=w1.heap.size+1) (by simp) qn qx qy)
     have HR1:=hid ((HR.out.below hb1).below hbB)
     have HB0:=HB.out.trans (hb1.mono HB.out.size)
     have HB2:=hid (HB0.trans (hbB.mono HB0.size))
     clear hb1 hbA hbB hBx HB0
     go_wp2_with (at_builtin;refine wpList_append_fr rfl _ _ rfl w.heap.size _ X (qn,qx,qy) rfl HR1.out (w1.heap.size+1) rfl HX.out HLN.out HB2.out.size ?_;intro v3 w3 hr3 hg3;have HR3:Hid (RwF w3 w.heap.size v3 Y):=(by rw[HST.out];exact hr3);have HB3:=hid (HB2.out.grown hg3 HB2.out.size (fun x e=>HR1.out.own x e));clear hr3 hg3)
     go_roundw
     case rel=>exact⟨j+1,by omega,by go_num,by rw[HY.out];exact HR3,HB3⟩
     case measure=>simp[intOf];omega
    ·obtain rfl:m=j:=by omega
     rw[←HNX.out] at HR
     go_wp2
     go_roundw
     case rel=>exact⟨i+1,by omega,by go_num,HR,HB⟩
     case measure=>simp[intOf];omega
  ·obtain rfl:i=n:=by omega
   go_wp2
   go_ret
   exact⟨_,rfl,HR.out,HB.out⟩
end Go.Proofs.YtgamblainfkiaaaGreatDoor
