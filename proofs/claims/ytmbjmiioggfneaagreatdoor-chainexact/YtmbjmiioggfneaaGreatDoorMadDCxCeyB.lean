/- The document's answer: a net under way. -/
import Derived.Test.YtmbjmiioggfneaaGreatDoorHidACxChnB
import Derived.Test.YtmbjmiioggfneaaGreatDoorPowBCxSumN
import Derived.Test.YtmbjmiioggfneaaGreatDoorChnCCxCexZ
import Derived.Test.YtmbjmiioggfneaaGreatDoorStlDCxTrnC
import Derived.Test.YtmbjmiioggfneaaGreatDoorStlFCxPowA
namespace Go.Proofs.YtmbjmiioggfneaaGreatDoor
open Go.RowKit Go.Shelf Go.Lib
def lOf (Ls:List PL):List (List Int):=Ls.map (·.2)
def rOf (Rs:List PR):List (List Fr):=Rs.map (·.2)
theorem OwL.pars {W:World} {B:Nat} {y:Value} {Ls:List PL} (h:OwL W B y Ls):∃a c,y=.slice a (lOf Ls).length c∧LsS W a (lOf Ls)∧LsN W a (lOf Ls):=by
 have hl:(lOf Ls).length=Ls.length:=by simp[lOf]
 obtain⟨a,c,rfl,_⟩:=owns_slice h.1
 have key:∀k (hk:k<Ls.length),∃g,a=some ⟨g,0,none⟩∧g<W.heap.size∧∃b cb,W.cell? ⟨g,k,none⟩=some (.slice b Ls[k].2.length cb)∧IntS W b Ls[k].2∧(b=none→cb=0):=fun k hk=>by
  obtain⟨g,rfl,hg,c1⟩:=owns_cell h.1 (j:=k) (by simpa using hk)
  have hin:=h.2 Ls[k] (List.getElem_mem hk)
  obtain⟨b,cb,eb,hn⟩:=owns_slice hin
  obtain⟨b',cb',eb',hst⟩:=hin.ints
  rw[eb] at eb'
  cases eb'
  refine⟨g,rfl,hg,b,cb,?_,hst,hn⟩
  rw[c1]
  simp[eb]
 refine⟨a,c,by rw[hl],fun k hk=>?_,fun k hk g o b n' c' ea hc hn=>?_⟩
 ·rw[hl] at hk
  obtain⟨g,rfl,hg,b,cb,c1,hst,_⟩:=key k hk
  exact⟨g,0,b,cb,rfl,hg,by rw[Nat.zero_add,c1];simp[lOf],by simpa [lOf] using hst⟩
 ·rw[hl] at hk
  obtain⟨g',e',_,b',cb',c1,_,h0⟩:=key k hk
  rw[ea] at e'
  cases e'
  rw[Nat.zero_add,c1] at hc
  cases hc
  exact h0 hn
theorem OwR.rows {W:World} {B:Nat} {z:Value} {Rs:List PR} (h:OwR W B z Rs):∃a c,z=.slice a (rOf Rs).length c∧FsS W a (rOf Rs):=by
 have hl:(rOf Rs).length=Rs.length:=by simp[rOf]
 obtain⟨a,c,rfl,_⟩:=owns_slice h.1
 refine⟨a,c,by rw[hl],fun k hk=>?_⟩
 rw[hl] at hk
 obtain⟨g,rfl,hg,c1⟩:=owns_cell h.1 (j:=k) (by simpa using hk)
 have hin:=h.2 Rs[k] (List.getElem_mem hk)
 obtain⟨b,cb,eb,hst⟩:=hin.fr
 have hcap:Rs[k].2.length≤cb:=by
  rcases hin.2 with ⟨h1,h2⟩ |⟨g2,cap,cur,h1,_,_,h4,_⟩
  ·omega
  ·rw[eb] at h1
   injection h1 with _ _ h6
   omega
 exact⟨g,0,b,cb,rfl,hg,by rw[Nat.zero_add,c1];simp[rOf,eb],by simpa [rOf] using hst,by simpa [rOf] using hcap⟩
end Go.Proofs.YtmbjmiioggfneaaGreatDoor

/- MatrixOf of the document's answer: a chain of raw numbers. -/
namespace Go.Proofs.YtmbjmiioggfneaaGreatDoor
open Go.RowKit Go.Shelf
theorem OwR.push {U U':World} {B:Nat} {y v' q:Value} {r:List Fr} {P:List PR} (h:OwR U B y P) (hr:U'.ownsRow B 23 1 v' (P.length+1) (P.map (·.1)++[q])) (hg:U.grownBy U' y.ownBlock) (hq:RwF U B q r):OwR U' B v' (P++[(q,r)]):=by
 have hk:KeepT 44 U U':=KeepT.grown hg (owns_typed h.1) (by decide)
 refine⟨by rw[List.length_append,List.map_append];exact hr,fun p hp=>?_⟩
 rcases List.mem_append.1 hp with hp |hp
 ·exact owns_keep (h.2 p hp) hk
 ·rw[List.mem_singleton.1 hp]
  exact owns_keep hq hk
theorem OwR.below {U U':World} {B:Nat} {y:Value} {P:List PR} (h:OwR U B y P) (hb:Below U.heap.size U U'):OwR U' B y P:=h.keep (KeepT.below hb) (KeepT.below hb)
end Go.Proofs.YtmbjmiioggfneaaGreatDoor

/- The answer's stepped, Step and Power, of a chain that may be. -/
namespace Go.Proofs.YtmbjmiioggfneaaGreatDoor
open Go.RowKit Go.Shelf
theorem Box.trio {w:World} {g:Nat} {neg:Bool} {num den:ByteArray} (h:Box w g neg num den):w.cell? ⟨g,0,none⟩=some (.bool neg)∧w.cell? ⟨g,1,none⟩=some (.string num)∧w.cell? ⟨g,2,none⟩=some (.string den):=⟨h.c0,h.c1,h.c2⟩
theorem rwF_lt {w:World} {B x:Nat} {v:Value} {l:List Fr} (h:RwF w B v l) (e:v.ownBlock=some x):x<w.heap.size:=by
 rcases h.2 with ⟨rfl,_⟩ |⟨g,cap,cur,rfl,_,h3,_⟩
 ·cases e
 ·cases e
  exact(Array.getElem?_eq_some_iff.1 h3).1
theorem RwF.away {w:World} {B gB:Nat} {v:Value} {l:List Fr} (h:RwF w B v l) (hne:∀x,v.ownBlock=some x→x<gB) (j:Nat) (y:Value):RwF (w.setCell ⟨gB,j,none⟩ y) B v l:=World.ownsRow.kept h (grown_set w gB j y) (by
 cases e:v.ownBlock with
 |none=>exact .inl rfl
 |some x=>exact .inr fun e'=>by have:=hne x e;cases e';omega)
theorem rMulFF (f g:Fr) (U:World) (hp:fz f≤50000) (hq:fz g≤50000):Calls Tryz.prog 59 #[.agg #[.bool f.1,.string f.2.1,.string f.2.2],.agg #[.bool g.1,.string g.2.1,.string g.2.2]] U fun e w'=>e=.returned (.agg #[.bool (qF (frQ f*frQ g)).1,.string (qF (frQ f*frQ g)).2.1,.string (qF (frQ f*frQ g)).2.2])∧Below U.heap.size U w':=rMulF_any f.1 g.1 f.2.1 f.2.2 g.2.1 g.2.2 U hp hq
set_option maxRecDepth 100000 in
set_option maxHeartbeats 4000000 in
theorem rStepped_any (a c:Option Addr) (ca cc n:Nat) (l:List Fr) (R:List (List Fr)) (f:Nat→Rat) (g:Nat→Nat→Rat) (w:World) (ha:FrS w a l) (hR:FsS w c R) (hf:LsW n f l) (hRl:R.length=n) (hg:∀i (h:i<R.length),LsW n (g i) R[i]) (hsz:∀i j,i<n→j<n→qw (f i*g i j)≤20000) (hps:∀j k,j<n→k≤n→qw (sumR (fun i=>f i*g i j) k)≤40000) (hn:n≤6):
  Calls Tryz.prog 31 #[.slice a n ca,.slice c n cc] w fun e w'=>∃v,e=.returned v∧RwF w' w.heap.size v (lF n fun j=>sumR (fun i=>f i*g i j) n)∧Below w.heap.size w w':=by
 have HFA:=hid ha
 have HFR:=hid hR
 have HLA:=hid hf
 have HG:=hid hg
 have HSZ:=hid hsz
 have HPQ:=hid hps
 have HRL:=hid hRl
 have HO0:=hid (fun V:World=>rOf_zero V)
 clear ha hR hf hg hsz hRl hps
 have HE0:Hid (RwF w w.heap.size (.slice none 0 0) (lF 0 fun j=>sumR (fun i=>f i*g i j) n)):=⟨rfl,.inl ⟨rfl,rfl⟩⟩
 go_enter Tryz.func31,Tryz.ntmps31
 go_wp2_with fail
 go_loopw [5,6] (fun ov jv wr=>∃j:Nat,j≤n∧jv=.int .i64 j∧Hid (RwF wr w.heap.size ov (lF j fun j=>sumR (fun i=>f i*g i j) n))∧Hid (Below w.heap.size w wr)) (fun _ jv _=>n - (intOf jv).toNat)
 case atStart=>exact⟨0,Nat.zero_le _,rfl,HE0,Below.refl _ _⟩
 case round=>
  clear HE0
  obtain⟨j,hj,rfl,HRW,HBW⟩:=hrel
  by_cases hlj:j<n
  ·obtain⟨W,hW⟩:∃x,x=wr:=⟨_,rfl⟩
   subst hW
   obtain⟨dv,nv,cv,hlv⟩:=HRW.out.slv
   subst hlv
   have HFE:Hid (∃F:Nat→Rat,F=fun i=>f i*g i j):=⟨_,rfl⟩
   obtain⟨F,hF⟩:=HFE.out
   have HFI:Hid (∀i,F i=f i*g i j):=fun i=>by rw[hF]
   have HSN:Hid (lF (j+1) (fun j=>sumR (fun i=>f i*g i j) n)=lF j (fun j=>sumR (fun i=>f i*g i j) n)++[qF (sumR F n)]):=by rw[hF];exact lF_snoc j _
   have HQS:Hid (∀k,k≤n→qw (sumR F k)≤40000):=fun k hk=>by rw[hF];exact HPQ.out j k hlj hk
   have HQF:Hid (∀i,i<n→qw (F i)≤40000):=fun i hi=>by rw[hF];exact Nat.le_trans (HSZ.out i j hi hlj) (by decide)
   have HLL:Hid ((lF j fun j=>sumR (fun i=>f i*g i j) n).length=j):=lF_length _ _
   generalize (lF j fun j=>sumR (fun i=>f i*g i j) n)=L0 at *
   clear hF HFE
   go_wp2_with fail
   refine(HO0.out _).mono ?_
   rintro e V0 ⟨rfl,hbv⟩
   have HX0:Hid (Box (V0.alloc (FC (sgn 0) (nu 0) (de 0))) V0.heap.size (qF (sumR F 0)).1 (qF (sumR F 0)).2.1 (qF (sumR F 0)).2.2):=Box.new V0 (sgn 0) (nu 0) (de 0)
   have HBZ:Hid (Below V0.heap.size V0 (V0.alloc (FC (sgn 0) (nu 0) (de 0)))):=(Below.refl _ _).alloc (Nat.le_refl _) _
   have HBV:Hid (Below w.heap.size w V0):=HBW.out.trans (hbv.mono HBW.out.size)
   have HRV:Hid (RwF V0 w.heap.size (.slice dv nv cv) L0):=HRW.out.below hbv
   clear hbv HRW HBW
   go_wp2_with fail
   generalize (V0.alloc (FC (sgn 0) (nu 0) (de 0)))=V1 at *
   obtain⟨gB,hgB⟩:∃x,V0.heap.size=x:=⟨_,rfl⟩
   rw[hgB] at HX0 HBZ
   have HGE:=hid hgB
   have HGV:Hid (gB≤V0.heap.size):=Nat.le_of_eq hgB.symm
   have HWG:Hid (w.heap.size≤gB):=by rw[←hgB];exact HBV.out.size
   simp only[hgB]
   clear hgB
   go_loopw [8] (fun iv wr=>∃i:Nat,i≤n∧iv=.int .i64 i∧Hid (Box wr gB (qF (sumR F i)).1 (qF (sumR F i)).2.1 (qF (sumR F i)).2.2)∧Hid (Below gB V0 wr)) (fun iv _=>n - (intOf iv).toNat)
   case atStart=>exact⟨0,Nat.zero_le _,rfl,HX0,HBZ⟩
   case round=>
    obtain⟨i,hi,rfl,HX,HB⟩:=hrel
    clear HX0 HBZ
    by_cases hlt:i<n
    ·have hia:i<l.length:=by rw[HLA.out.len];exact hlt
     have hiR:i<R.length:=by rw[HRL.out];exact hlt
     have hjr:j<R[i].length:=by rw[(HG.out i hiR).len];exact hlj
     obtain⟨ga,oa,rfl,hga,a0,a1,a2⟩:=HFA.out i hia
     obtain⟨gc,oc,bc,cr,rfl,hgc,c0,hrow,hcr⟩:=HFR.out i hiR
     obtain⟨gr,or_,rfl,hgr,b0,b1,b2⟩:=hrow j hjr
     rw[(HG.out i hiR).len] at c0
     have HMU:Hid (∀V:World,Calls Tryz.prog 59 #[.agg #[.bool l[i].1,.string l[i].2.1,.string l[i].2.2],.agg #[.bool R[i][j].1,.string R[i][j].2.1,.string R[i][j].2.2]] V fun e w'=>e=.returned (.agg #[.bool (qF (F i)).1,.string (qF (F i)).2.1,.string (qF (F i)).2.2])∧Below V.heap.size V w'):=fun V=>by
      have h1:=HLA.out.size i hia
      have h2:=(HG.out i hiR).size j hjr
      have h9:=rMulFF l[i] R[i][j] V (Nat.le_trans h1 (by decide)) (Nat.le_trans h2 (by decide))
      rw[HLA.out.is i hia,(HG.out i hiR).is j hjr,←HFI.out i] at h9
      exact h9
     have HAD:Hid (∀U:World,Calls Tryz.prog 55 #[.agg #[.bool (qF (sumR F i)).1,.string (qF (sumR F i)).2.1,.string (qF (sumR F i)).2.2],.agg #[.bool (qF (F i)).1,.string (qF (F i)).2.1,.string (qF (F i)).2.2]] U fun e w'=>e=.returned (.agg #[.bool (qF (sumR F (i+1))).1,.string (qF (sumR F (i+1))).2.1,.string (qF (sumR F (i+1))).2.2])∧Below U.heap.size U w'):=fun U=>rAddQ (sumR F i) (F i) U (Nat.le_trans (HQS.out i hi) (by decide)) (Nat.le_trans (HQF.out i hlt) (by decide))
     clear hrow hcr
     generalize l[i].1=an at *
     generalize l[i].2.1=ax at *
     generalize l[i].2.2=ay at *
     generalize R[i][j].1=bn at *
     generalize R[i][j].2.1=bx at *
     generalize R[i][j].2.2=by_ at *
     have HELD:Hid (∀u,Below gB V0 u→u.cell? ⟨ga,oa+i*3,none⟩=some (.bool an)∧u.cell? ⟨ga,oa+i*3+1,none⟩=some (.string ax)∧u.cell? ⟨ga,oa+i*3+2,none⟩=some (.string ay)∧u.cell? ⟨gc,oc+i,none⟩=some (.slice (some ⟨gr,or_,none⟩) n cr)∧u.cell? ⟨gr,or_+j*3,none⟩=some (.bool bn)∧u.cell? ⟨gr,or_+j*3+1,none⟩=some (.string bx)∧u.cell? ⟨gr,or_+j*3+2,none⟩=some (.string by_)):=fun u h0=>by
      have h:=HBV.out.trans (h0.mono HWG.out)
      exact⟨(h.cell (p:=⟨ga,_,none⟩) hga).trans a0,(h.cell (p:=⟨ga,_,none⟩) hga).trans a1,(h.cell (p:=⟨ga,_,none⟩) hga).trans a2,(h.cell (p:=⟨gc,_,none⟩) hgc).trans c0,(h.cell (p:=⟨gr,_,none⟩) hgr).trans b0,(h.cell (p:=⟨gr,_,none⟩) hgr).trans b1,(h.cell (p:=⟨gr,_,none⟩) hgr).trans b2⟩
     clear a0 a1 a2 c0 b0 b1 b2
     go_upto_region 9 with fail
     replace HX:=hid HX.out.drew
     replace HB:=hid HB.out.drew
     refine wp_region_held_drew (S:=fun u=>u.cell? ⟨ga,oa+i*3,none⟩=some (.bool an)∧u.cell? ⟨ga,oa+i*3+1,none⟩=some (.string ax)∧u.cell? ⟨ga,oa+i*3+2,none⟩=some (.string ay)∧u.cell? ⟨gc,oc+i,none⟩=some (.slice (some ⟨gr,or_,none⟩) n cr)∧u.cell? ⟨gr,or_+j*3,none⟩=some (.bool bn)∧u.cell? ⟨gr,or_+j*3+1,none⟩=some (.string bx)∧u.cell? ⟨gr,or_+j*3+2,none⟩=some (.string by_)) (by kernel_rfl) (HELD.out _ HB.out) (fun hSd=>?_)
     generalize wr.drew=u0 at *
     refine wpAnyH_take (i:=0) (oi:=_) (v:=.slice (some ⟨ga,oa,none⟩) n ca) rfl (by kernel_rfl) (by kernel_rfl) (by kernel_rfl) (fun _ _ _ h=>h) (Or.inl ⟨by rfl,?_⟩) (by assumption) ?_
     ·intro u' hSu
      (try simp only[List.getElem_toArray,List.getElem_cons_zero])
      go_simp
     (try simp only[List.getElem_toArray,List.getElem_cons_zero])
     (try simp only[Act.put,List.setIfInBounds_toArray,List.set_cons_zero,List.set_cons_succ])
     refine wpAnyH_take (i:=1) (oi:=_) (v:=.int .i64 (i:Nat)) rfl (by kernel_rfl) (by kernel_rfl) (by kernel_rfl) (fun _ _ _ h=>h) (Or.inl ⟨by rfl,?_⟩) (by assumption) ?_
     ·intro u' hSu
      (try simp only[List.getElem_toArray,List.getElem_cons_zero,List.getElem_cons_succ])
      go_simp
     (try simp only[List.getElem_toArray,List.getElem_cons_zero,List.getElem_cons_succ])
     (try simp only[Act.put,List.setIfInBounds_toArray,List.set_cons_zero,List.set_cons_succ])
     refine wpAnyH_take (i:=2) (oi:=_) (v:=.pointer (some ⟨ga,oa+i*3,none⟩)) rfl (by kernel_rfl) (by kernel_rfl) (by kernel_rfl) (fun _ _ _ h=>h) (Or.inl ⟨by rfl,?_⟩) (by assumption) ?_
     ·intro u' hSu
      (try simp only[List.getElem_toArray,List.getElem_cons_zero,List.getElem_cons_succ])
      go_simp
     (try simp only[List.getElem_toArray,List.getElem_cons_zero,List.getElem_cons_succ])
     (try simp only[Act.put,List.setIfInBounds_toArray,List.set_cons_zero,List.set_cons_succ])
     refine wpAnyH_take (i:=3) (oi:=_) (v:=.agg #[.bool an,.string ax,.string ay]) rfl (by kernel_rfl) (by kernel_rfl) (by kernel_rfl) (fun _ _ _ h=>h) (Or.inl ⟨by rfl,?_⟩) (by assumption) ?_
     ·intro u' hSu
      (try simp only[List.getElem_toArray,List.getElem_cons_zero,List.getElem_cons_succ])
      obtain⟨s0,s1,s2,s3,s4,s5,s6⟩:=hSu
      go_simp
     (try simp only[List.getElem_toArray,List.getElem_cons_zero,List.getElem_cons_succ])
     (try simp only[Act.put,List.setIfInBounds_toArray,List.set_cons_zero,List.set_cons_succ])
     refine wpAnyH_take (i:=4) (oi:=_) (v:=.slice (some ⟨gc,oc,none⟩) n cc) rfl (by kernel_rfl) (by kernel_rfl) (by kernel_rfl) (fun _ _ _ h=>h) (Or.inl ⟨by rfl,?_⟩) (by assumption) ?_
     ·intro u' hSu
      (try simp only[List.getElem_toArray,List.getElem_cons_zero,List.getElem_cons_succ])
      go_simp
     (try simp only[List.getElem_toArray,List.getElem_cons_zero,List.getElem_cons_succ])
     (try simp only[Act.put,List.setIfInBounds_toArray,List.set_cons_zero,List.set_cons_succ])
     refine wpAnyH_take (i:=5) (oi:=_) (v:=.int .i64 (i:Nat)) rfl (by kernel_rfl) (by kernel_rfl) (by kernel_rfl) (fun _ _ _ h=>h) (Or.inl ⟨by rfl,?_⟩) (by assumption) ?_
     ·intro u' hSu
      (try simp only[List.getElem_toArray,List.getElem_cons_zero,List.getElem_cons_succ])
      go_simp
     (try simp only[List.getElem_toArray,List.getElem_cons_zero,List.getElem_cons_succ])
     (try simp only[Act.put,List.setIfInBounds_toArray,List.set_cons_zero,List.set_cons_succ])
     refine wpAnyH_take (i:=6) (oi:=_) (v:=.pointer (some ⟨gc,oc+i,none⟩)) rfl (by kernel_rfl) (by kernel_rfl) (by kernel_rfl) (fun _ _ _ h=>h) (Or.inl ⟨by rfl,?_⟩) (by assumption) ?_
     ·intro u' hSu
      (try simp only[List.getElem_toArray,List.getElem_cons_zero,List.getElem_cons_succ])
      go_simp
     (try simp only[List.getElem_toArray,List.getElem_cons_zero,List.getElem_cons_succ])
     (try simp only[Act.put,List.setIfInBounds_toArray,List.set_cons_zero,List.set_cons_succ])
     refine wpAnyH_take (i:=7) (oi:=_) (v:=.slice (some ⟨gr,or_,none⟩) n cr) rfl (by kernel_rfl) (by kernel_rfl) (by kernel_rfl) (fun _ _ _ h=>h) (Or.inl ⟨by rfl,?_⟩) (by assumption) ?_
     ·intro u' hSu
      (try simp only[List.getElem_toArray,List.getElem_cons_zero,List.getElem_cons_succ])
      obtain⟨s0,s1,s2,s3,s4,s5,s6⟩:=hSu
      go_simp
     (try simp only[List.getElem_toArray,List.getElem_cons_zero,List.getElem_cons_succ])
     (try simp only[Act.put,List.setIfInBounds_toArray,List.set_cons_zero,List.set_cons_succ])
     refine wpAnyH_take (i:=8) (oi:=_) (v:=.int .i64 (j:Nat)) rfl (by kernel_rfl) (by kernel_rfl) (by kernel_rfl) (fun _ _ _ h=>h) (Or.inl ⟨by rfl,?_⟩) (by assumption) ?_
     ·intro u' hSu
      (try simp only[List.getElem_toArray,List.getElem_cons_zero,List.getElem_cons_succ])
      go_simp
     (try simp only[List.getElem_toArray,List.getElem_cons_zero,List.getElem_cons_succ])
     (try simp only[Act.put,List.setIfInBounds_toArray,List.set_cons_zero,List.set_cons_succ])
     refine wpAnyH_take (i:=9) (oi:=_) (v:=.pointer (some ⟨gr,or_+j*3,none⟩)) rfl (by kernel_rfl) (by kernel_rfl) (by kernel_rfl) (fun _ _ _ h=>h) (Or.inl ⟨by rfl,?_⟩) (by assumption) ?_
     ·intro u' hSu
      (try simp only[List.getElem_toArray,List.getElem_cons_zero,List.getElem_cons_succ])
      go_simp
     (try simp only[List.getElem_toArray,List.getElem_cons_zero,List.getElem_cons_succ])
     (try simp only[Act.put,List.setIfInBounds_toArray,List.set_cons_zero,List.set_cons_succ])
     refine wpAnyH_take (i:=10) (oi:=_) (v:=.agg #[.bool bn,.string bx,.string by_]) rfl (by kernel_rfl) (by kernel_rfl) (by kernel_rfl) (fun _ _ _ h=>h) (Or.inl ⟨by rfl,?_⟩) (by assumption) ?_
     ·intro u' hSu
      (try simp only[List.getElem_toArray,List.getElem_cons_zero,List.getElem_cons_succ])
      obtain⟨s0,s1,s2,s3,s4,s5,s6⟩:=hSu
      go_simp
     (try simp only[List.getElem_toArray,List.getElem_cons_zero,List.getElem_cons_succ])
     (try simp only[Act.put,List.setIfInBounds_toArray,List.set_cons_zero,List.set_cons_succ])
     refine wpAnyH_ready (rs:=[11,12]) (by kernel_rfl) (by simp) (AllReadyH.cons rfl ?_ (AllReadyH.cons rfl ?_ (AllReadyH.nil)))
     ·intro K' hK'
      (try simp only[List.getElem_toArray,List.getElem_cons_zero,List.getElem_cons_succ])
      go_simp
      refine(HMU.out _).mono ?_
      rintro e q1 ⟨rfl,hb⟩
      replace HX:=hid (HX.out.below hb HX.out.lt)
      replace HB:=hid (HB.out.trans (hb.mono (Nat.le_trans HGV.out HB.out.size)))
      refine hK'.out _ _ (HELD.out _ HB.out) (fun hSe=>?_)
      clear hb
      clear hK' K' hSd
      have hSd:=hSe
      clear hSe
      (try simp only[List.getElem_toArray,List.getElem_cons_zero,List.getElem_cons_succ])
      (try simp only[Act.put,List.setIfInBounds_toArray,List.set_cons_zero,List.set_cons_succ])
      refine wpAnyH_ready (rs:=[12]) (by kernel_rfl) (by simp) (AllReadyH.cons rfl ?_ (AllReadyH.nil))
      ·intro K' hK'
       (try simp only[List.getElem_toArray,List.getElem_cons_zero,List.getElem_cons_succ])
       go_simp
       have hbA:=(Below.refl q1.heap.size q1).alloc (Nat.le_refl _) (FC false ⟨#[]⟩ ⟨#[]⟩)
       have HY:=hid (Box.new q1 false ⟨#[]⟩ ⟨#[]⟩)
       have HYHX:Hid (gB<q1.heap.size):=HX.out.lt
       replace HX:=hid (HX.out.below hbA HX.out.lt)
       have HYG:Hid (gB≤q1.heap.size):=Nat.le_trans HGV.out HB.out.size
       replace HB:=hid (HB.out.trans (hbA.mono HYG.out))
       refine hK'.out _ _ (HELD.out _ HB.out) (fun hSe=>?_)
       clear hbA
       clear hK' K' hSd
       have hSd:=hSe
       clear hSe
       obtain⟨gy,hgy⟩:∃x,q1.heap.size=x:=⟨_,rfl⟩
       obtain⟨Vy,hV⟩:∃x,q1.alloc (FC false ⟨#[]⟩ ⟨#[]⟩)=x:=⟨_,rfl⟩
       rw[hgy] at HY HYG HYHX
       rw[hV] at HY HB hSd HX
       simp only[hV]
       simp only[hgy]
       clear hgy hV
       (try simp only[List.getElem_toArray,List.getElem_cons_zero,List.getElem_cons_succ])
       (try simp only[Act.put,List.setIfInBounds_toArray,List.set_cons_zero,List.set_cons_succ])
       obtain⟨k0,k1,k2⟩:=HY.out.trio
       have f0:=HY.out.fz 0
       have f1:=HY.out.fz 1
       have f2:=HY.out.fz 2
       refine wpAnyH_ready (rs:=[13]) (by kernel_rfl) (by simp) (AllReadyH.cons rfl ?_ (AllReadyH.nil))
       ·intro K' hK'
        (try simp only[List.getElem_toArray,List.getElem_cons_zero,List.getElem_cons_succ])
        go_simp
        replace HY:=hid (HY.out.put (qF (F i)).1 (qF (F i)).2.1 (qF (F i)).2.2)
        replace HX:=hid (((HX.out.away gy 0 (.bool (qF (F i)).1) (Nat.ne_of_lt HYHX.out)).away gy 1 (.string (qF (F i)).2.1) (Nat.ne_of_lt HYHX.out)).away gy 2 (.string (qF (F i)).2.2) (Nat.ne_of_lt HYHX.out))
        replace HB:=hid (((HB.out.setCell (p:=⟨gy,0,none⟩) HYG.out (.bool (qF (F i)).1)).setCell (p:=⟨gy,1,none⟩) HYG.out (.string (qF (F i)).2.1)).setCell (p:=⟨gy,2,none⟩) HYG.out (.string (qF (F i)).2.2))
        refine hK'.out _ _ (HELD.out _ HB.out) (fun _=>wpAnyH_done (by kernel_rfl) ?_ _)
        clear hK' K' k0 k1 k2 f0 f1 f2
        clear hSd
        obtain⟨k0,k1,k2⟩:=HX.out.trio
        obtain⟨y0,y1,y2⟩:=HY.out.trio
        go_wp2_with fail
        refine(HAD.out _).mono ?_
        rintro e q2 ⟨rfl,hb⟩
        clear k0 k1 k2 y0 y1 y2 HY
        replace HX:=hid (HX.out.below hb HX.out.lt)
        replace HB:=hid (HB.out.trans (hb.mono (Nat.le_trans HGV.out HB.out.size)))
        obtain⟨k0,k1,k2⟩:=HX.out.trio
        have f0:=HX.out.fz 0
        have f1:=HX.out.fz 1
        have f2:=HX.out.fz 2
        have HXN:=hid (HX.out.put (qF (sumR F (i+1))).1 (qF (sumR F (i+1))).2.1 (qF (sumR F (i+1))).2.2)
        have HBN:=hid (((HB.out.setCell (p:=⟨gB,0,none⟩) (Nat.le_refl _) (.bool (qF (sumR F (i+1))).1)).setCell (p:=⟨gB,1,none⟩) (Nat.le_refl _) (.string (qF (sumR F (i+1))).2.1)).setCell (p:=⟨gB,2,none⟩) (Nat.le_refl _) (.string (qF (sumR F (i+1))).2.2))
        clear hb HX HB HYHX HYG
        go_wp2
        go_roundw
        case rel=>exact⟨i+1,by omega,by go_num,HXN,HBN⟩
        case measure=>simp[intOf];omega
     ·intro K' hK'
      (try simp only[List.getElem_toArray,List.getElem_cons_zero,List.getElem_cons_succ])
      go_simp
      have hbA:=(Below.refl u0.heap.size u0).alloc (Nat.le_refl _) (FC false ⟨#[]⟩ ⟨#[]⟩)
      have HY:=hid (Box.new u0 false ⟨#[]⟩ ⟨#[]⟩)
      have HYHX:Hid (gB<u0.heap.size):=HX.out.lt
      replace HX:=hid (HX.out.below hbA HX.out.lt)
      have HYG:Hid (gB≤u0.heap.size):=Nat.le_trans HGV.out HB.out.size
      replace HB:=hid (HB.out.trans (hbA.mono HYG.out))
      refine hK'.out _ _ (HELD.out _ HB.out) (fun hSe=>?_)
      clear hbA
      clear hK' K' hSd
      have hSd:=hSe
      clear hSe
      obtain⟨gy,hgy⟩:∃x,u0.heap.size=x:=⟨_,rfl⟩
      obtain⟨Vy,hV⟩:∃x,u0.alloc (FC false ⟨#[]⟩ ⟨#[]⟩)=x:=⟨_,rfl⟩
      rw[hgy] at HY HYG HYHX
      rw[hV] at HY HB hSd HX
      simp only[hV]
      simp only[hgy]
      clear hgy hV
      (try simp only[List.getElem_toArray,List.getElem_cons_zero,List.getElem_cons_succ])
      (try simp only[Act.put,List.setIfInBounds_toArray,List.set_cons_zero,List.set_cons_succ])
      refine wpAnyH_ready (rs:=[11]) (by kernel_rfl) (by simp) (AllReadyH.cons rfl ?_ (AllReadyH.nil))
      ·intro K' hK'
       (try simp only[List.getElem_toArray,List.getElem_cons_zero,List.getElem_cons_succ])
       go_simp
       refine(HMU.out _).mono ?_
       rintro e q1 ⟨rfl,hb⟩
       replace HX:=hid (HX.out.below hb HX.out.lt)
       replace HY:=hid (HY.out.below hb HY.out.lt)
       replace HB:=hid (HB.out.trans (hb.mono (Nat.le_trans HGV.out HB.out.size)))
       refine hK'.out _ _ (HELD.out _ HB.out) (fun hSe=>?_)
       clear hb
       clear hK' K' hSd
       have hSd:=hSe
       clear hSe
       (try simp only[List.getElem_toArray,List.getElem_cons_zero,List.getElem_cons_succ])
       (try simp only[Act.put,List.setIfInBounds_toArray,List.set_cons_zero,List.set_cons_succ])
       obtain⟨k0,k1,k2⟩:=HY.out.trio
       have f0:=HY.out.fz 0
       have f1:=HY.out.fz 1
       have f2:=HY.out.fz 2
       refine wpAnyH_ready (rs:=[13]) (by kernel_rfl) (by simp) (AllReadyH.cons rfl ?_ (AllReadyH.nil))
       ·intro K' hK'
        (try simp only[List.getElem_toArray,List.getElem_cons_zero,List.getElem_cons_succ])
        go_simp
        replace HY:=hid (HY.out.put (qF (F i)).1 (qF (F i)).2.1 (qF (F i)).2.2)
        replace HX:=hid (((HX.out.away gy 0 (.bool (qF (F i)).1) (Nat.ne_of_lt HYHX.out)).away gy 1 (.string (qF (F i)).2.1) (Nat.ne_of_lt HYHX.out)).away gy 2 (.string (qF (F i)).2.2) (Nat.ne_of_lt HYHX.out))
        replace HB:=hid (((HB.out.setCell (p:=⟨gy,0,none⟩) HYG.out (.bool (qF (F i)).1)).setCell (p:=⟨gy,1,none⟩) HYG.out (.string (qF (F i)).2.1)).setCell (p:=⟨gy,2,none⟩) HYG.out (.string (qF (F i)).2.2))
        refine hK'.out _ _ (HELD.out _ HB.out) (fun _=>wpAnyH_done (by kernel_rfl) ?_ _)
        clear hK' K' k0 k1 k2 f0 f1 f2
        clear hSd
        obtain⟨k0,k1,k2⟩:=HX.out.trio
        obtain⟨y0,y1,y2⟩:=HY.out.trio
        go_wp2_with fail
        refine(HAD.out _).mono ?_
        rintro e q2 ⟨rfl,hb⟩
        clear k0 k1 k2 y0 y1 y2 HY
        replace HX:=hid (HX.out.below hb HX.out.lt)
        replace HB:=hid (HB.out.trans (hb.mono (Nat.le_trans HGV.out HB.out.size)))
        obtain⟨k0,k1,k2⟩:=HX.out.trio
        have f0:=HX.out.fz 0
        have f1:=HX.out.fz 1
        have f2:=HX.out.fz 2
        have HXN:=hid (HX.out.put (qF (sumR F (i+1))).1 (qF (sumR F (i+1))).2.1 (qF (sumR F (i+1))).2.2)
        have HBN:=hid (((HB.out.setCell (p:=⟨gB,0,none⟩) (Nat.le_refl _) (.bool (qF (sumR F (i+1))).1)).setCell (p:=⟨gB,1,none⟩) (Nat.le_refl _) (.string (qF (sumR F (i+1))).2.1)).setCell (p:=⟨gB,2,none⟩) (Nat.le_refl _) (.string (qF (sumR F (i+1))).2.2))
        clear hb HX HB HYHX HYG
        go_wp2
        go_roundw
        case rel=>exact⟨i+1,by omega,by go_num,HXN,HBN⟩
        case measure=>simp[intOf];omega
    ·obtain rfl:n=i:=by omega
     have HRB:=hid (HRV.out.below (HGE.out▸HB.out))
     have HBR:=hid (HBV.out.trans (HB.out.mono HWG.out))
     obtain⟨k0,k1,k2⟩:=HX.out.trio
     have hAL:=(Below.refl wr.heap.size wr).alloc (Nat.le_refl _) (FC (qF (sumR F n)).1 (qF (sumR F n)).2.1 (qF (sumR F n)).2.2)
     have HC1:=hid (Box.new wr (qF (sumR F n)).1 (qF (sumR F n)).2.1 (qF (sumR F n)).2.2)
     have HR4:=hid (HRB.out.below hAL)
     have HB4:=hid (HBR.out.trans (hAL.mono HBR.out.size))
     have HLN:Hid (L0.length+1≤100000):=by show _≤_;rw[HLL.out];omega
     clear hAL HX HB
     go_wp2_with (at_builtin;refine wpList_append_fr rfl _ _ rfl w.heap.size (.slice dv nv cv) L0 (qF (sumR F n)) rfl HR4.out wr.heap.size rfl HC1.out HLN.out HB4.out.size ?_;intro v5 w5 hr5 hg5;have HR5:Hid (RwF w5 w.heap.size v5 (lF (j+1) fun j=>sumR (fun i=>f i*g i j) n)):=(by rw[HSN.out];exact hr5);have HB5:=hid (HB4.out.grown hg5 HB4.out.size (fun k e=>HR4.out.own k e)))
     go_roundw
     case rel=>exact⟨j+1,by omega,by go_num,HR5,HB5⟩
     case measure=>simp[intOf];omega
  ·obtain rfl:n=j:=by omega
   have HRF:=hid HRW.out
   obtain⟨dv,nv,cv,hlv⟩:=HRW.out.slv
   subst hlv
   clear HRW
   go_wp2
   go_ret
   exact⟨_,rfl,HRF.out,HBW.out⟩
set_option maxRecDepth 100000 in
set_option maxHeartbeats 1000000 in
theorem rStep_yes (a c:Option Addr) (ca cc n:Nat) (l:List Fr) (R:List (List Fr)) (f:Nat→Rat) (g:Nat→Nat→Rat) (w:World) (ha:FrS w a l) (hR:FsS w c R) (hf:LsW n f l) (hO:RwsOK n n R) (h1:1≤n) (hg:∀i (h:i<R.length),LsW n (g i) R[i]) (hsz:∀i j,i<n→j<n→qw (f i*g i j)≤20000) (hps:∀j k,j<n→k≤n→qw (sumR (fun i=>f i*g i j) k)≤40000) (h5:n≤6):
  Calls Tryz.prog 8 #[.slice a n ca,.slice c n cc] w fun e w'=>∃v,e=.returned (.tuple #[v,.int .i64 0])∧RwF w' w.heap.size v (lF n fun j=>sumR (fun i=>f i*g i j) n)∧Below w.heap.size w w':=by
 have HC:=hid (rChain_yes c cc n R w hR hO h1 h5)
 have HM:=hid (fun (U:World) (hU:Below w.heap.size w U)=>rStepped_any a c ca cc n l R f g U (ha.below hU) (hR.below hU) hf hO.len hg hsz hps h5)
 clear ha hR hO hf hg hsz hps
 generalize (lF n fun j=>sumR (fun i=>f i*g i j) n)=L0 at *
 go_enter Tryz.func8,Tryz.ntmps8
 go_wp2_with fail
 refine HC.out.mono ?_
 rintro e w1 ⟨rfl,hb1⟩
 have HB1:=hid hb1
 clear hb1
 go_wp2_with fail
 refine(HM.out _ HB1.out).mono ?_
 rintro e w2 ⟨v,rfl,hr,hb2⟩
 have HB2:=hid (HB1.out.trans (hb2.mono HB1.out.size))
 have HRR:=hid (hr.lower HB1.out.size)
 obtain⟨dv,nv,cv,hlv⟩:=hr.slv
 subst hlv
 clear hr hb2
 go_wp2
 go_ret2
 exact⟨_,rfl,HRR.out,HB2.out⟩
set_option maxRecDepth 100000 in
set_option maxHeartbeats 4000000 in
theorem rPower_yes (a:Option Addr) (ca n k:Nat) (R:List (List Fr)) (P:Nat→Nat→Rat) (w:World) (hR:FsS w a R) (hO:RwsOK n n R) (h1:1≤n) (h5:n≤6) (hg:∀i (h:i<R.length),LsW n (P i) R[i]) (hk:k≤16) (hpw:∀i t,i<n→t<k→(∀j,j<n→qw (powQ n P t i j)≤20000)∧(∀j j',j<n→j'<n→qw (powQ n P t i j*P j j')≤20000)∧∀j m,j<n→m≤n→qw (sumR (fun t'=>powQ n P t i t'*P t' j) m)≤40000):
  Calls Tryz.prog 13 #[.slice a n ca,.int .i64 (k:Nat)] w fun e w'=>∃d c,e=.returned (.tuple #[.slice d n c,.int .i64 0])∧FsS w' d (mR n (powQ n P k))∧Below w.heap.size w w':=by
 have HC:=hid (rChain_yes a ca n R w hR hO h1 h5)
 have HST:Hid (∀(i t:Nat),i<n→t<k→∀(U:World),Below w.heap.size w U→∀(d:Option Addr) (c:Nat),FrS U d (lF n (powQ n P t i))→Calls Tryz.prog 31 #[.slice d n c,.slice a n ca] U fun e w'=>∃v,e=.returned v∧RwF w' U.heap.size v (lF n (powQ n P (t+1) i))∧Below U.heap.size U w'):=fun i t hi ht U hU d c hd=>rStepped_any d a c ca n (lF n (powQ n P t i)) R (powQ n P t i) P U hd (hR.below hU) (LsW.mk' fun j hj=>(hpw i t hi ht).1 j hj) hO.len hg (fun j j' hj hj'=>(hpw i t hi ht).2.1 j j' hj hj') (fun j m hj hm=>(hpw i t hi ht).2.2 j m hj hm) h5
 have HO0:=hid (fun V:World=>rOf_zero V)
 have HO1:=hid (fun V:World=>rOf_one V)
 have k0:¬((k:Int)<0):=by omega
 have k1:¬((16:Int)<(k:Int)):=by omega
 clear hR hO hg hpw
 go_enter Tryz.func13,Tryz.ntmps13
 go_wp2_with fail
 refine HC.out.mono ?_
 rintro e w1 ⟨rfl,hb1⟩
 have HB1:=hid hb1
 clear hb1 HC
 go_wp2_with fail
 go_loopw [7,8] (fun ov iv wr=>∃(i:Nat) (P1:List PR),i≤n∧iv=.int .i64 i∧Hid (OwR wr w.heap.size ov P1)∧Hid (P1.map (·.2)=(List.range i).map fun t=>lF n (powQ n P k t))∧Hid (Below w.heap.size w wr)) (fun _ iv _=>n - (intOf iv).toNat)
 case atStart=>exact⟨0,[],Nat.zero_le _,rfl,OwR.nil _ _,rfl,HB1⟩
 case round=>
  obtain⟨i,P1,hi,rfl,HK,HP,HB⟩:=hrel
  by_cases hlt:i<n
  ·obtain⟨W0,hW0⟩:∃x,x=wr:=⟨_,rfl⟩
   subst hW0
   have HE0:Hid (RwF W0 W0.heap.size (.slice none 0 0) (lF 0 (powQ n P 0 i))):=⟨rfl,.inl ⟨rfl,rfl⟩⟩
   go_wp2_with fail
   go_loopw [9,10] (fun lv jv wr=>∃j:Nat,j≤n∧jv=.int .i64 j∧Hid (RwF wr W0.heap.size lv (lF j (powQ n P 0 i)))∧Hid (Below W0.heap.size W0 wr)) (fun _ jv _=>n - (intOf jv).toNat)
   case atStart=>exact⟨0,Nat.zero_le _,rfl,HE0,Below.refl _ _⟩
   case round=>
    clear HE0
    obtain⟨j,hj,rfl,HRW,HB0⟩:=hrel
    by_cases hlj:j<n
    ·obtain⟨dv,nv,cv,hlv⟩:=HRW.out.slv
     subst hlv
     have HSN:Hid (lF (j+1) (powQ n P 0 i)=lF j (powQ n P 0 i)++[qF (if i=j then 1 else 0)]):=lF_snoc j _
     have HLN:Hid ((lF j (powQ n P 0 i)).length+1≤100000):=by show _≤_;rw[lF_length];omega
     generalize (lF j (powQ n P 0 i))=L0 at *
     go_wp2_with fail
     refine(HO0.out _).mono ?_
     rintro e V0 ⟨rfl,hbv⟩
     have HBV:=hid (HB0.out.trans (hbv.mono HB0.out.size))
     have HRV:=hid (HRW.out.below hbv)
     have hA:=(Below.refl V0.heap.size V0).alloc (Nat.le_refl _) (FC (sgn 0) (nu 0) (de 0))
     have HX:=hid (Box.new V0 (sgn 0) (nu 0) (de 0))
     have HB2:=hid (HBV.out.trans (hA.mono HBV.out.size))
     have HR2:=hid (HRV.out.below hA)
     have HBX:Hid (W0.heap.size≤V0.heap.size):=HBV.out.size
     have HRN:Hid (∀x,(Value.slice dv nv cv).ownBlock=some x→x<V0.heap.size):=fun x e=>rwF_lt HRV.out e
     clear hbv hA HRW HB0 HBV HRV
     by_cases hij:i=j
     ·subst hij
      rw[if_pos rfl] at HSN
      go_wp2_with fail
      refine(HO1.out _).mono ?_
      rintro e V1 ⟨rfl,hb⟩
      have HX1:=hid (HX.out.below hb HX.out.lt)
      have HB3:=hid (HB2.out.trans (hb.mono HB2.out.size))
      have HR3:=hid (HR2.out.below hb)
      clear hb HX HB2 HR2
      obtain⟨k0,k1,k2⟩:=HX1.out.trio
      have f0:=HX1.out.fz 0
      have f1:=HX1.out.fz 1
      have f2:=HX1.out.fz 2
      have HXN:Hid (Box (((V1.setCell ⟨V0.heap.size,0,none⟩ (.bool (sgn 1))).setCell ⟨V0.heap.size,1,none⟩ (.string (nu 1))).setCell ⟨V0.heap.size,2,none⟩ (.string (de 1))) V0.heap.size (qF 1).1 (qF 1).2.1 (qF 1).2.2):=HX1.out.put (sgn 1) (nu 1) (de 1)
      replace HB3:=hid (((HB3.out.setCell (p:=⟨V0.heap.size,0,none⟩) HBX.out (.bool (sgn 1))).setCell (p:=⟨V0.heap.size,1,none⟩) HBX.out (.string (nu 1))).setCell (p:=⟨V0.heap.size,2,none⟩) HBX.out (.string (de 1)))
      replace HR3:=hid (((HR3.out.away HRN.out 0 (.bool (sgn 1))).away HRN.out 1 (.string (nu 1))).away HRN.out 2 (.string (de 1)))
      clear HX1
      go_upto_region 17 with fail
      clear k0 k1 k2 f0 f1 f2
      generalize (((V1.setCell ⟨V0.heap.size,0,none⟩ (.bool (sgn 1))).setCell ⟨V0.heap.size,1,none⟩ (.string (nu 1))).setCell ⟨V0.heap.size,2,none⟩ (.string (de 1)))=V3 at *
      obtain⟨k0,k1,k2⟩:=HXN.out.trio
      have hAL:=(Below.refl V3.heap.size V3).alloc (Nat.le_refl _) (FC (qF (1)).1 (qF (1)).2.1 (qF (1)).2.2)
      have HC1:=hid (Box.new V3 (qF (1)).1 (qF (1)).2.1 (qF (1)).2.2)
      have HR4:=hid (HR3.out.below hAL)
      have HB4:=hid (HB3.out.trans (hAL.mono HB3.out.size))
      clear hAL HXN HB3 HR3
      go_wp2_with (at_builtin;refine wpList_append_fr rfl _ _ rfl W0.heap.size (.slice dv nv cv) L0 (qF (1)) rfl HR4.out V3.heap.size rfl HC1.out HLN.out HB4.out.size ?_;intro v5 w5 hr5 hg5;have HR5:Hid (RwF w5 W0.heap.size v5 (lF (i+1) (powQ n P 0 i))):=(by rw[HSN.out];exact hr5);have HB5:=hid (HB4.out.grown hg5 HB4.out.size (fun k e=>HR4.out.own k e)))
      go_roundw
      case rel=>exact⟨i+1,by omega,by go_num,HR5,HB5⟩
      case measure=>simp[intOf];omega
     ·rw[if_neg hij] at HSN
      have hije:¬(i:Int)=(j:Int):=by omega
      have HXN:Hid (Box (V0.alloc (FC (sgn 0) (nu 0) (de 0))) V0.heap.size (qF 0).1 (qF 0).2.1 (qF 0).2.2):=HX.out
      have HB3:=HB2
      have HR3:=HR2
      clear HX HB2 HR2
      go_upto_region 17 with fail
      generalize (V0.alloc (FC (sgn 0) (nu 0) (de 0)))=V3 at *
      obtain⟨k0,k1,k2⟩:=HXN.out.trio
      have hAL:=(Below.refl V3.heap.size V3).alloc (Nat.le_refl _) (FC (qF (0)).1 (qF (0)).2.1 (qF (0)).2.2)
      have HC1:=hid (Box.new V3 (qF (0)).1 (qF (0)).2.1 (qF (0)).2.2)
      have HR4:=hid (HR3.out.below hAL)
      have HB4:=hid (HB3.out.trans (hAL.mono HB3.out.size))
      clear hAL HXN HB3 HR3
      go_wp2_with (at_builtin;refine wpList_append_fr rfl _ _ rfl W0.heap.size (.slice dv nv cv) L0 (qF (0)) rfl HR4.out V3.heap.size rfl HC1.out HLN.out HB4.out.size ?_;intro v5 w5 hr5 hg5;have HR5:Hid (RwF w5 W0.heap.size v5 (lF (j+1) (powQ n P 0 i))):=(by rw[HSN.out];exact hr5);have HB5:=hid (HB4.out.grown hg5 HB4.out.size (fun k e=>HR4.out.own k e)))
      go_roundw
      case rel=>exact⟨j+1,by omega,by go_num,HR5,HB5⟩
      case measure=>simp[intOf];omega
    ·obtain rfl:n=j:=by omega
     go_wp2_with fail
     go_loopw [9,12] (fun lv tv wr=>∃t:Nat,t≤k∧tv=.int .i64 t∧Hid (RwF wr W0.heap.size lv (lF n (powQ n P t i)))∧Hid (Below W0.heap.size W0 wr)) (fun _ tv _=>k - (intOf tv).toNat)
     case atStart=>exact⟨0,Nat.zero_le _,rfl,HRW,HB0⟩
     case round=>
      clear HRW HB0
      obtain⟨t,ht,rfl,HRW,HB0⟩:=hrel
      by_cases hlk:t<k
      ·obtain⟨d,cd,hlv,hfr⟩:=HRW.out.fr
       subst hlv
       rw[lF_length]
       have HST2:=hid (HST.out i t hlt hlk _ (HB.out.trans (HB0.out.mono HB.out.size)) d cd hfr)
       clear hfr
       go_wp2_with fail
       refine HST2.out.mono ?_
       rintro e w5 ⟨v,rfl,hr,hb⟩
       have HB5:=hid (HB0.out.trans (hb.mono HB0.out.size))
       have HR5:=hid (hr.lower HB0.out.size)
       obtain⟨dv,nv,cv,hlv⟩:=hr.slv
       subst hlv
       clear hr hb HST2
       go_wp2
       go_roundw
       case rel=>exact⟨t+1,by omega,by go_num,HR5,HB5⟩
       case measure=>simp[intOf];omega
      ·obtain rfl:k=t:=by omega
       obtain⟨dv,cv,hlv,hfr⟩:=HRW.out.fr
       subst hlv
       rw[lF_length] at HRW⊢
       have HO3:=hid (HK.out.below HB0.out)
       have HB3:=hid (HB.out.trans (HB0.out.mono HB.out.size))
       have hAL:=(Below.refl wr.heap.size wr).alloc (Nat.le_refl _) (.cells #[.slice dv n cv] 23)
       have hone:(wr.alloc (.cells #[.slice dv n cv] 23)).heap[wr.heap.size]? =some (.cells #[.slice dv n cv] 23 (0,0)):=heap_alloc_new wr _
       have HC1:Hid ((wr.alloc (.cells #[.slice dv n cv] 23)).cell? ⟨wr.heap.size,0,none⟩=some (.slice dv n cv)):=by
        show _=_
        rw[cell_of_row _ _ _ _ _ (0,0) hone]
        rfl
       have HB4:=hid (HB3.out.alloc HB3.out.size (.cells #[.slice dv n cv] 23))
       have HA4:=hid ((HRW.out.lower HB.out.size).below hAL)
       have HK4:=hid (HO3.out.below hAL)
       have HL1:Hid (P1.length+1≤100000):=by
        have h9:=congrArg List.length HP.out
        rw[List.length_map,List.length_map,List.length_range] at h9
        show _≤_
        omega
       have HPN:Hid ((P1++[((Value.slice dv n cv,lF n (powQ n P k i)):PR)]).map (·.2)=(List.range (i+1)).map fun t=>lF n (powQ n P k t)):=by
        show _=_
        rw[List.map_append,HP.out,List.range_succ,List.map_append]
        rfl
       clear hone hAL HO3 HB3 hfr HRW HB0
       go_wp2_with (at_builtin;refine wpList_append_rs rfl _ _ rfl w.heap.size _ P1 (.slice dv n cv) ⟨_,_,_,rfl⟩ rfl HK4.out.1 wr.heap.size rfl HC1.out HL1.out HB4.out.size ?_;intro v5 w5 hr5 hg5;have HK5:=hid (HK4.out.push hr5 hg5 HA4.out);have HB5:=hid (HB4.out.grown hg5 HB4.out.size (fun k e=>owns_from HK4.out.1 k e)))
       go_roundw
       case rel=>exact⟨i+1,_,by omega,by go_num,HK5,HPN,HB5⟩
       case measure=>simp[intOf];omega
  ·obtain rfl:n=i:=by omega
   obtain⟨dy,cy,rfl,hfs⟩:=OwR.rows HK.out
   have hro:rOf P1=mR n (powQ n P k):=HP.out
   rw[hro] at hfs
   rw[hro,mR_length]
   have HFS:=hid hfs
   clear hfs hro HK
   go_wp2
   go_ret2
   exact⟨dy,cy,rfl,HFS.out,HB.out⟩
end Go.Proofs.YtmbjmiioggfneaaGreatDoor
