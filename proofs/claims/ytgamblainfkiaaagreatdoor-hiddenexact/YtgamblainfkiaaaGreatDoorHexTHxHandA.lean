/- The law: heavyHidden: what it lets through is not too great. -/
import Derived.Test.YtgamblainfkiaaaGreatDoorHexLHxHexD
import Derived.Test.YtgamblainfkiaaaGreatDoorHexQHxHvyB
import Derived.Test.YtgamblainfkiaaaGreatDoorHidCHxMadA
import Derived.Test.YtgamblainfkiaaaGreatDoorFracAHxRefR
import Derived.Deep.Strs
import Derived.HandedShaped
import Derived.ProofKit
import Derived.OpenShut
import Derived.ShutString
import Derived.SizedLaws
import Derived.Test.YtgamblainfkiaaaGreatDoorRefSHxFillA
import Derived.Carry
import Derived.Test.YtgamblainfkiaaaGreatDoorMadBHxCofI
import Derived.Test.YtgamblainfkiaaaGreatDoorFillBHxHidQ
import Derived.Test.YtgamblainfkiaaaGreatDoorProg
namespace Go.Proofs.YtgamblainfkiaaaGreatDoor
open Go.RowKit Go.Shelf
structure HHu (l:List Fr) (R1 R2:List (List Fr)):Prop where
 l1:l.length≤140737488355328∧∀f∈l,f.2.1.size≤140737488355328∧f.2.2.size≤140737488355328
 r1:R1.length≤140737488355328∧∀r∈R1,r.length≤140737488355328∧∀f∈r,f.2.1.size≤140737488355328∧f.2.2.size≤140737488355328
 r2:R2.length≤140737488355328∧∀r∈R2,r.length≤140737488355328∧∀f∈r,f.2.1.size≤140737488355328∧f.2.2.size≤140737488355328
def HvH (l:List Fr) (R1 R2:List (List Fr)) (e:Ending):Prop:=∃r:Bool,e=.returned (.bool r)∧(r=false→l.length+sw l+sumW R1 R1.length+sumW R2 R2.length≤700)
theorem sumW_each {R:List (List Fr)} {r:List Fr} (h:r∈R):r.length+sw r≤sumW R R.length:=by
 unfold sumW
 rw[List.take_length]
 induction R with
 |nil=>cases h
 |cons a R ih=>
  rw[List.map_cons,List.sum_cons]
  rcases List.mem_cons.1 h with rfl |h
  ·omega
  ·have:=ih h
   omega
theorem sw_flat:∀R:List (List Fr),sw R.flatten≤sumW R R.length:=fun R=>by
 unfold sumW
 rw[List.take_length]
 induction R with
 |nil=>exact Nat.le_refl _
 |cons a R ih=>
  rw[List.flatten_cons,sw_app,List.map_cons,List.sum_cons]
  omega
set_option maxRecDepth 100000 in
set_option maxHeartbeats 2000000 in
theorem heavyHidden_any (a b c:Option Addr) (ca cb cc:Nat) (l:List Fr) (R1 R2:List (List Fr)) (w:World) (h:HidM w a b c l R1 R2) (hs:HHu l R1 R2):
  Calls Tryz.prog 5 #[.agg #[.slice a l.length ca,.slice b R1.length cb,.slice c R2.length cc]] w fun e w'=>HvH l R1 R2 e∧Below w.heap.size w w':=by
 have HFB0:=hid (fun (U:World) (hU:Below w.heap.size w U)=>fracBytes_any a ca l U (h.st.below hU) hs.l1.1 hs.l1.2)
 have HR1:=hid (fun (i:Nat) (hi:i<R1.length) (U:World) (hU:Below w.heap.size w U)=>(h.mv.below hU).raw' hi)
 have HR2:=hid (fun (i:Nat) (hi:i<R2.length) (U:World) (hU:Below w.heap.size w U)=>(h.sh.below hU).raw' hi)
 have HQ1:Hid (∀i (hi:i<R1.length) (d:Option Addr) (k:Nat) (U:World),FrS U d R1[i]→Calls Tryz.prog 27 #[.slice d R1[i].length k] U fun e w'=>(∃r:Nat,e=.returned (.int .i64 r)∧r≤1000000000000000∧(r≤4096→r=R1[i].length+sw R1[i]))∧Below U.heap.size U w'):=fun i hi d k U hF=>fracBytes_any d k R1[i] U hF (hs.r1.2 _ (List.getElem_mem hi)).1 (hs.r1.2 _ (List.getElem_mem hi)).2
 have HQ2:Hid (∀i (hi:i<R2.length) (d:Option Addr) (k:Nat) (U:World),FrS U d R2[i]→Calls Tryz.prog 27 #[.slice d R2[i].length k] U fun e w'=>(∃r:Nat,e=.returned (.int .i64 r)∧r≤1000000000000000∧(r≤4096→r=R2[i].length+sw R2[i]))∧Below U.heap.size U w'):=fun i hi d k U hF=>fracBytes_any d k R2[i] U hF (hs.r2.2 _ (List.getElem_mem hi)).1 (hs.r2.2 _ (List.getElem_mem hi)).2
 have hn2:=hs.r1.1
 have hn3:=hs.r2.1
 have HW1:Hid (∀i (hi:i<R1.length),sumW R1 (i+1)=sumW R1 i+(R1[i].length+sw R1[i])):=fun i hi=>sumW_succ hi
 have HW2:Hid (∀i (hi:i<R2.length),sumW R2 (i+1)=sumW R2 i+(R2[i].length+sw R2[i])):=fun i hi=>sumW_succ hi
 obtain⟨T0,hT0⟩:∃x,l.length+sw l=x:=⟨_,rfl⟩
 have HT0:=hid hT0
 have HPO:Hid (∀r:Bool,(r=false→T0+sumW R1 R1.length+sumW R2 R2.length≤700)→HvH l R1 R2 (.returned (.bool r))):=fun r hr=>⟨r,rfl,fun e=>by rw[HT0.out];exact hr e⟩
 simp only[hT0] at HFB0
 obtain⟨S1,hS1⟩:∃f,sumW R1=f:=⟨_,rfl⟩
 obtain⟨S2,hS2⟩:∃f,sumW R2=f:=⟨_,rfl⟩
 have hz1:S1 0=0:=by rw[←hS1];rfl
 have hz2:S2 0=0:=by rw[←hS2];rfl
 rw[hS1] at HW1 HPO
 rw[hS2] at HW2 HPO
 obtain⟨n1,hn1⟩:∃x,l.length=x:=⟨_,rfl⟩
 obtain⟨n2,hn2e⟩:∃x,R1.length=x:=⟨_,rfl⟩
 obtain⟨n3,hn3e⟩:∃x,R2.length=x:=⟨_,rfl⟩
 have HN2:=hid hn2e
 have HN3:=hid hn3e
 rw[hn2e] at hn2
 rw[hn3e] at hn3
 rw[hn2e,hn3e] at HPO
 simp only[hn1] at HFB0
 have hA:=(Below.refl w.heap.size w).alloc (Nat.le_refl _) (HC3 (.slice a n1 ca) (.slice b n2 cb) (.slice c n3 cc))
 have hHB:=HBox.new w (.slice a n1 ca) (.slice b n2 cb) (.slice c n3 cc)
 obtain⟨e0,e1,e2⟩:=hHB.cells
 rw[hn1,hn2e,hn3e]
 clear h hs hT0 hS1 hS2 hn1 hn2e hn3e HT0
 go_enter Tryz.func5,Tryz.ntmps5
 go_wp2_with fail
 generalize (w.alloc (HC3 (.slice a n1 ca) (.slice b n2 cb) (.slice c n3 cc)))=W at *
 refine(HFB0.out _ hA).mono ?_
 rintro e w1 ⟨⟨k0,rfl,hk0,hke⟩,hb⟩
 have HA1:=hid (hA.trans (hb.mono hA.size))
 have HH1:=hid (hHB.below hb hHB.lt)
 have HK1:Hid (k0≤700→k0=T0+S1 0):=fun hh=>by rw[hz1];exact hke (by omega)
 clear hA hHB hb e0 e1 e2 hke HFB0
 go_wp2_with fail
 go_loopw [3,4] (fun kv iv wr=>∃i k:Nat,i≤n2∧iv=.int .i64 i∧kv=.int .i64 k∧k≤1000000000001000∧Hid (k≤700→k=T0+S1 i)∧Hid (HBox wr w.heap.size (.slice a n1 ca) (.slice b n2 cb) (.slice c n3 cc))∧Hid (Below w.heap.size w wr)) (fun _ iv _=>n2 - (intOf iv).toNat)
 case atStart=>exact⟨0,k0,Nat.zero_le _,rfl,rfl,by omega,HK1,HH1,HA1⟩
 case round=>
  clear HK1 HH1 HA1
  obtain⟨i,k,hi,rfl,rfl,hkk,HK,HH,HA⟩:=hrel
  obtain⟨e0,e1,e2⟩:=HH.out.cells
  by_cases hgo:i<n2∧k≤700
  ·obtain⟨hlt,hk7⟩:=hgo
   have hiR:i<R1.length:=by rw[HN2.out];exact hlt
   obtain⟨g,o,d,cd,rfl,hg,c0,hF⟩:=HR1.out i hiR _ HA.out
   have HC:=hid (HQ1.out i hiR d cd wr hF)
   have HW:=hid (HW1.out i hiR)
   obtain⟨r,hr⟩:∃x,R1[i]=x:=⟨_,rfl⟩
   rw[hr] at HC HW c0
   clear hr hF
   obtain⟨rl,hrl⟩:∃x,r.length=x:=⟨_,rfl⟩
   rw[hrl] at HC HW c0
   clear hrl
   go_wp2_with fail
   refine HC.out.mono ?_
   rintro e w3 ⟨⟨q,rfl,hq,hqe⟩,hb⟩
   have HH3:=hid (HH.out.below hb HH.out.lt)
   have HA3:=hid (HA.out.trans (hb.mono HA.out.size))
   have HK3:Hid (k+q≤700→k+q=T0+S1 (i+1)):=fun hh=>by
    rw[HW.out,HK.out hk7,hqe (by omega)]
    omega
   have kw:IntKind.i64.wrap ((k:Int)+(q:Int))=(k:Int)+(q:Int):=by rw[IntKind.wrap_i64];omega
   clear HC HW HK HH HA hqe hb e0 e1 e2 c0 hg
   go_wp2
   go_roundw
   case rel=>exact⟨i+1,k+q,by omega,by go_num,by rw[Int.natCast_add],by omega,HK3,HH3,HA3⟩
   case measure=>simp[intOf];omega
  ·have HK2:Hid (k≤700→k=T0+S1 n2+S2 0):=fun hh=>by
    rw[hz2]
    obtain rfl:i=n2:=by omega
    exact HK.out hh
   have hor:¬i<n2∨(i<n2∧¬k≤700):=by omega
   clear HK hgo
   rcases hor with hx |⟨hx,hy⟩
   all_goals
    go_wp2_with fail
    go_loopw [3,5] (fun kv jv wq=>∃j k:Nat,j≤n3∧jv=.int .i64 j∧kv=.int .i64 k∧k≤1000000000001000∧Hid (k≤700→k=T0+S1 n2+S2 j)∧Hid (HBox wq w.heap.size (.slice a n1 ca) (.slice b n2 cb) (.slice c n3 cc))∧Hid (Below w.heap.size w wq)) (fun _ jv _=>n3 - (intOf jv).toNat)
    case atStart=>exact⟨0,k,Nat.zero_le _,rfl,rfl,hkk,HK2,HH,HA⟩
    case round=>
     clear HK2 HH HA e0 e1 e2
     obtain⟨j,k',hj,rfl,rfl,hkk',HK,HH,HA⟩:=hrel
     obtain⟨e0,e1,e2⟩:=HH.out.cells
     by_cases hgo:j<n3∧k'≤700
     ·obtain⟨hlt,hk7⟩:=hgo
      have hiR:j<R2.length:=by rw[HN3.out];exact hlt
      obtain⟨g,o,d,cd,rfl,hg,c0,hF⟩:=HR2.out j hiR _ HA.out
      have HC:=hid (HQ2.out j hiR d cd wr hF)
      have HW:=hid (HW2.out j hiR)
      obtain⟨r,hr⟩:∃x,R2[j]=x:=⟨_,rfl⟩
      rw[hr] at HC HW c0
      clear hr hF
      obtain⟨rl,hrl⟩:∃x,r.length=x:=⟨_,rfl⟩
      rw[hrl] at HC HW c0
      clear hrl
      go_wp2_with fail
      refine HC.out.mono ?_
      rintro e w3 ⟨⟨q,rfl,hq,hqe⟩,hb⟩
      have HH3:=hid (HH.out.below hb HH.out.lt)
      have HA3:=hid (HA.out.trans (hb.mono HA.out.size))
      have HK3:Hid (k'+q≤700→k'+q=T0+S1 n2+S2 (j+1)):=fun hh=>by
       rw[HW.out,HK.out hk7,hqe (by omega)]
       omega
      have kw:IntKind.i64.wrap ((k':Int)+(q:Int))=(k':Int)+(q:Int):=by rw[IntKind.wrap_i64];omega
      clear HC HW HK HH HA hqe hb e0 e1 e2 c0 hg
      go_wp2
      go_roundw
      case rel=>exact⟨j+1,k'+q,by omega,by go_num,by rw[Int.natCast_add],by omega,HK3,HH3,HA3⟩
      case measure=>simp[intOf];omega
     ·have hor2:(¬j<n3∧¬700<k')∨(¬j<n3∧700<k')∨(j<n3∧¬k'≤700∧700<k'):=by omega
      clear hgo
      rcases hor2 with ⟨ha,hb⟩ |⟨ha,hb⟩ |⟨ha,hb,hc⟩
      ·have HF:Hid (T0+S1 n2+S2 n3≤700):=by
        show _≤_
        obtain rfl:j=n3:=by omega
        have:=HK.out (by omega)
        omega
       clear HK
       go_wp2
       go_ret
       exact⟨HPO.out _ fun _=>HF.out,HA.out⟩
      ·go_wp2
       go_ret
       exact⟨HPO.out _ fun e=>by simp at e<;>omega,HA.out⟩
      ·go_wp2
       go_ret
       exact⟨HPO.out _ fun e=>by simp at e<;>omega,HA.out⟩
end Go.Proofs.YtgamblainfkiaaaGreatDoor

/- HiddenExact: the law's walk. -/
namespace Go.Proofs.YtgamblainfkiaaaGreatDoor
open Go.RowKit Go.Shelf Go.Lib
structure EXS (w U:World) (g h:Nat) (x y z:Value) (p q:Fr):Prop where
 hb:HBox U w.heap.size x y z
 b1:Box U g p.1 p.2.1 p.2.2
 b2:Box U h q.1 q.2.1 q.2.2
 ne:g≠h∧w.heap.size<g∧w.heap.size<h
 bel:Below w.heap.size w U
section
variable {w U U':World} {g h:Nat} {x y z:Value} {p q:Fr}
theorem EXS.step (s:EXS w U g h x y z p q) (hb:Below U.heap.size U U'):EXS w U' g h x y z p q:=⟨s.hb.below hb s.hb.lt,s.b1.below hb s.b1.lt,s.b2.below hb s.b2.lt,s.ne,s.bel.trans (hb.mono s.bel.size)⟩
theorem EXS.put1 (s:EXS w U g h x y z p q) (p':Fr):EXS w (((U.setCell ⟨g,0,none⟩ (.bool p'.1)).setCell ⟨g,1,none⟩ (.string p'.2.1)).setCell ⟨g,2,none⟩ (.string p'.2.2)) g h x y z p' q:=by
 have hne:=s.ne
 refine⟨?_,s.b1.put _ _ _,((s.b2.far (Ne.symm hne.1) _).far (Ne.symm hne.1) _).far (Ne.symm hne.1) _,hne,?_⟩
 ·have h1:w.heap.size≠g:=by omega
  exact(Below.heap_setCell _ ⟨g,2,none⟩ _ w.heap.size h1).trans ((Below.heap_setCell _ ⟨g,1,none⟩ _ w.heap.size h1).trans ((Below.heap_setCell U ⟨g,0,none⟩ _ w.heap.size h1).trans s.hb))
 ·exact((s.bel.setCell (p:=⟨g,0,none⟩) (by show _≤g;omega) _).setCell (p:=⟨g,1,none⟩) (by show _≤g;omega) _).setCell (p:=⟨g,2,none⟩) (by show _≤g;omega) _
theorem EXS.put2 (s:EXS w U g h x y z p q) (p':Fr):EXS w (((U.setCell ⟨h,0,none⟩ (.bool p'.1)).setCell ⟨h,1,none⟩ (.string p'.2.1)).setCell ⟨h,2,none⟩ (.string p'.2.2)) g h x y z p p':=by
 have hne:=s.ne
 refine⟨?_,((s.b1.far hne.1 _).far hne.1 _).far hne.1 _,s.b2.put _ _ _,hne,?_⟩
 ·have h1:w.heap.size≠h:=by omega
  exact(Below.heap_setCell _ ⟨h,2,none⟩ _ w.heap.size h1).trans ((Below.heap_setCell _ ⟨h,1,none⟩ _ w.heap.size h1).trans ((Below.heap_setCell U ⟨h,0,none⟩ _ w.heap.size h1).trans s.hb))
 ·exact((s.bel.setCell (p:=⟨h,0,none⟩) (by show _≤h;omega) _).setCell (p:=⟨h,1,none⟩) (by show _≤h;omega) _).setCell (p:=⟨h,2,none⟩) (by show _≤h;omega) _
end
theorem IntS.farBox {U:World} {d:Option Addr} {Q:List Int} {g:Nat} {n:Bool} {x y:ByteArray} (h:IntS U d Q) (hb:Box U g n x y) (u v t:Value):IntS (((U.setCell ⟨g,0,none⟩ u).setCell ⟨g,1,none⟩ v).setCell ⟨g,2,none⟩ t) d Q:=fun k hk=>by
 obtain⟨b,o,h1,h2,h4⟩:=h k hk
 refine⟨b,o,h1,by simpa [World.setCell] using h2,?_⟩
 have hne:b≠g:=fun e=>by
  subst e
  rw[cell_of_row U b _ _ _ (0,0) hb] at h4
  match hj:o+k,h4 with
  |0,h4=>cases h4
  |1,h4=>cases h4
  |2,h4=>cases h4
  |j+3,h4=>cases h4
 have e:(((U.setCell ⟨g,0,none⟩ u).setCell ⟨g,1,none⟩ v).setCell ⟨g,2,none⟩ t).heap[b]? =U.heap[b]?:=(Below.heap_setCell _ ⟨g,2,none⟩ t b hne).trans ((Below.heap_setCell _ ⟨g,1,none⟩ v b hne).trans (Below.heap_setCell U ⟨g,0,none⟩ u b hne))
 exact(World.cell?_of_block (a:=⟨b,o+k,none⟩) e).trans h4
theorem one_any {f:Fr} {z:Int} (hz:z≠0→f=(false,⟨#[]⟩,⟨#[]⟩)) (U:World):Calls Tryz.prog 10 #[.agg #[.bool f.1,.string f.2.1,.string f.2.2],.int .i64 z,.agg #[.bool f.1,.string f.2.1,.string f.2.2],.int .i64 z] U fun e w'=>e=.returned (.bool true)∧Below U.heap.size U w':=by
 by_cases h:z=0
 ·subst h
  exact oneFrac_ok f.1 f.2.1 f.2.2 U
 ·rw[hz h]
  exact oneFrac_err z h U
set_option maxRecDepth 100000 in
set_option maxHeartbeats 4000000 in
theorem hiddenExact_any (a b c d:Option Addr) (ca cb cc cd n1 n2 n3 L:Nat) (T:Int) (l:List Fr) (R1 R2:List (List Fr)) (Q:List Int) (w:World) (h:HidM w a b c l R1 R2) (hu:HHu l R1 R2) (hb0:b=none→cb=0) (hc0:c=none→cc=0) (hQ:IntS w d Q) (hn1:l.length=n1) (hn2:R1.length=n2) (hn3:R2.length=n3) (hL:Q.length=L) (hL9:L≤140737488355328) (hcd:L≤cd) (hca:n1≤ca):
  Calls Tryz.prog 3 #[.agg #[.slice a n1 ca,.slice b n2 cb,.slice c n3 cc],.slice d L cd,.int .i64 T] w fun e w'=>e=.returned (.bool true)∧Below w.heap.size w w':=by
 have HHV:Hid (∀U:World,Below w.heap.size w U→Calls Tryz.prog 5 #[.agg #[.slice a n1 ca,.slice b n2 cb,.slice c n3 cc]] U fun e w'=>HvH l R1 R2 e∧Below U.heap.size U w'):=fun U hU=>by
  have h9:=heavyHidden_any a b c ca cb cc l R1 R2 U (h.below hU) hu
  rw[hn1,hn2,hn3] at h9
  exact h9
 have HHX:Hid (l.length+sw l+sumW R1 R1.length+sumW R2 R2.length≤700→((n1≤2∧L≤6)∨L≤4∨(9≤L∧L≤64))→HEX w a b c d ca cb cc cd n1 n2 n3 L l R1 R2 Q):=fun h7 hsh=>by
  have e1:∀r∈R1,r.length+sw r≤700:=fun r hr=>by have:=sumW_each hr;omega
  have e2:∀r∈R2,r.length+sw r≤700:=fun r hr=>by have:=sumW_each hr;omega
  refine⟨h,⟨by omega,hu.r1.1,hu.r2.1,fun r hr=>by have:=e1 r hr;omega,fun r hr=>by have:=e2 r hr;omega,by rw[fw_sw];omega,fun r hr=>by rw[fw_sw];have:=e1 r hr;omega,fun r hr=>by rw[fw_sw];have:=e2 r hr;omega⟩,hb0,hc0,hQ,hn1,hn2,hn3,hL,hcd,hca,?_,hsh⟩
  rw[allF,sw_app,sw_app]
  have:=sw_flat R1
  have:=sw_flat R2
  omega
 have hA:=(Below.refl w.heap.size w).alloc (Nat.le_refl _) (HC3 (.slice a n1 ca) (.slice b n2 cb) (.slice c n3 cc))
 have hHB:=HBox.new w (.slice a n1 ca) (.slice b n2 cb) (.slice c n3 cc)
 have hn1b:n1≤140737488355328:=by rw[←hn1];exact hu.l1.1
 clear h hu hb0 hc0 hQ hn1 hn2 hn3 hL hcd hca
 obtain⟨e0,e1,e2⟩:=hHB.cells
 go_enter Tryz.func3,Tryz.ntmps3
 go_upto_region 1 with fail
 generalize (w.alloc (HC3 (.slice a n1 ca) (.slice b n2 cb) (.slice c n3 cc)))=W at *
 go_cut [51] from 19 to 51 (fun s wx=>∃bb:Bool,s=.bool bb∧Hid (bb=false→(l.length+sw l+sumW R1 R1.length+sumW R2 R2.length≤700∧((n1≤2∧L≤6)∨L≤4∨(9≤L∧L≤64))))∧Hid (HBox wx w.heap.size (.slice a n1 ca) (.slice b n2 cb) (.slice c n3 cc))∧Hid (Below w.heap.size w wx))
 case first=>
  go_wp2_with fail
  refine(HHV.out _ hA).mono ?_
  rintro e w1 ⟨⟨r,rfl,hr⟩,hb⟩
  have HH1:=hid (hHB.below hb hHB.lt)
  have HA1:=hid (hA.trans (hb.mono hA.size))
  have HR:=hid hr
  clear hb hHB hA hr e0 e1 e2 HHX HHV
  obtain⟨e0,e1,e2⟩:=HH1.out.cells
  cases r with
  |true=>
   go_wp2_with fail
   go_meet
   exact⟨true,rfl,fun e=>(by cases e),HH1,HA1⟩
  |false=>
   have h7:=hid (HR.out rfl)
   clear HR
   have hor:L≤4∨(4<L∧L≤6)∨(6<L∧L≤8)∨(8<L∧L≤64)∨64<L:=by omega
   by_cases hn:n1≤2
   ·rcases hor with ho |⟨ho,ho2⟩ |⟨ho,ho2⟩ |⟨ho,ho2⟩ |ho
    ·go_wp2_with fail
     go_meet
     exact⟨false,by simp<;>omega,fun _=>⟨h7.out,by omega⟩,HH1,HA1⟩
    ·go_wp2_with fail
     go_meet
     exact⟨false,by simp<;>omega,fun _=>⟨h7.out,by omega⟩,HH1,HA1⟩
    ·go_wp2_with fail
     go_meet
     exact⟨true,by simp<;>omega,fun e=>(by cases e),HH1,HA1⟩
    ·go_wp2_with fail
     go_meet
     exact⟨false,by simp<;>omega,fun _=>⟨h7.out,by omega⟩,HH1,HA1⟩
    ·go_wp2_with fail
     go_meet
     exact⟨true,by simp<;>omega,fun e=>(by cases e),HH1,HA1⟩
   ·have hn':2<n1:=by omega
    rcases hor with ho |⟨ho,ho2⟩ |⟨ho,ho2⟩ |⟨ho,ho2⟩ |ho
    ·go_wp2_with fail
     go_meet
     exact⟨false,by simp<;>omega,fun _=>⟨h7.out,by omega⟩,HH1,HA1⟩
    ·go_wp2_with fail
     go_meet
     exact⟨true,by simp<;>omega,fun e=>(by cases e),HH1,HA1⟩
    ·go_wp2_with fail
     go_meet
     exact⟨true,by simp<;>omega,fun e=>(by cases e),HH1,HA1⟩
    ·go_wp2_with fail
     go_meet
     exact⟨false,by simp<;>omega,fun _=>⟨h7.out,by omega⟩,HH1,HA1⟩
    ·go_wp2_with fail
     go_meet
     exact⟨true,by simp<;>omega,fun e=>(by cases e),HH1,HA1⟩
 case rest=>
 clear hA hHB e0 e1 e2 HHV
 obtain⟨bb,rfl,HBB,HHB,HAB⟩:=hcut
 cases bb with
 |true=>
  go_wp2
  go_ret
  exact⟨rfl,HAB.out⟩
 |false=>
 obtain⟨h7,hsh⟩:=HBB.out rfl
 have hX:=HHX.out h7 hsh
 clear h7 hsh HHX HBB
 obtain⟨f1,z1,hz1,hl1,hl2⟩:=hex_likely hX
 obtain⟨zc,hk1,hk2⟩:=hex_check hX
 obtain⟨RF,zf,hfF,hf1,hf2⟩:=hex_forward hX
 obtain⟨RB,zb,hbF,hb1,hb2⟩:=hex_backward hX
 obtain⟨RS,zs,hsF,hs1,hs2⟩:=hex_smooth hX
 obtain⟨pq,f2,z2,hpl,hz2,hp1,hp2⟩:=hex_path hX
 obtain⟨V,K,R,zu,hVF,hu1,hu2⟩:=hex_unroll hX T
 have HLK1:=hid hl1
 have HLK2:=hid hl2
 have HCK1:=hid hk1
 have HCK2:=hid hk2
 have HFW1:=hid hf1
 have HFW2:=hid hf2
 have HFWF:=hid hfF
 have HBW1:=hid hb1
 have HBW2:=hid hb2
 have HBWF:=hid hbF
 have HSM1:=hid hs1
 have HSM2:=hid hs2
 have HSMF:=hid hsF
 have HPA1:=hid hp1
 have HPA2:=hid hp2
 have HPL:=hid hpl
 have HUN1:=hid hu1
 have HUN2:=hid hu2
 have HFN:=hid hVF
 have HON1:=hid (fun U=>one_any hz1 U)
 have HON2:=hid (fun U=>one_any hz2 U)
 have hcc:(zc !=zc)=false:=bne_self_eq_false _
 clear hX hz1 hl1 hl2 hk1 hk2 hfF hf1 hf2 hbF hb1 hb2 hsF hs1 hs2 hpl hz2 hp1 hp2 hVF hu1 hu2
 obtain⟨e0,e1,e2⟩:=HHB.out.cells
 go_wp2_with fail
 refine(HLK1.out _ HAB.out).mono ?_
 rintro e w1 ⟨rfl,hb⟩
 have hB1:=Box.new w1 f1.1 f1.2.1 f1.2.2
 have hal:=(Below.refl w1.heap.size w1).alloc (Nat.le_refl _) (FC f1.1 f1.2.1 f1.2.2)
 have hs1:w.heap.size<w1.heap.size:=Nat.lt_of_lt_of_le HHB.out.lt hb.size
 have hH1:=(HHB.out.below hb HHB.out.lt).below hal (Nat.lt_of_lt_of_le HHB.out.lt hb.size)
 have hA1:=(HAB.out.trans (hb.mono HAB.out.size)).trans (hal.mono (Nat.le_trans HAB.out.size hb.size))
 clear hb hal HHB HAB e0 e1 e2
 obtain⟨e0,e1,e2⟩:=hH1.cells
 go_wp2_with fail
 generalize (w1.alloc (FC f1.1 f1.2.1 f1.2.2))=w2 at *
 generalize w1.heap.size=g7 at *
 refine(HLK2.out _ hA1).mono ?_
 rintro e w3 ⟨rfl,hb⟩
 have hal:=(Below.refl w3.heap.size w3).alloc (Nat.le_refl _) (FC f1.1 f1.2.1 f1.2.2)
 have HE:Hid (EXS w (w3.alloc (FC f1.1 f1.2.1 f1.2.2)) g7 w3.heap.size (.slice a n1 ca) (.slice b n2 cb) (.slice c n3 cc) f1 f1):=⟨(hH1.below hb hH1.lt).below hal (Nat.lt_of_lt_of_le hH1.lt hb.size),(hB1.below hb hB1.lt).below hal (Nat.lt_of_lt_of_le hB1.lt hb.size),Box.new w3 f1.1 f1.2.1 f1.2.2,⟨Nat.ne_of_lt (Nat.lt_of_lt_of_le hB1.lt hb.size),hs1,Nat.lt_of_lt_of_le hH1.lt hb.size⟩,(hA1.trans (hb.mono hA1.size)).trans (hal.mono (Nat.le_trans hA1.size hb.size))⟩
 clear hb hal hH1 hA1 hB1 hs1 e0 e1 e2 HLK1 HLK2
 go_upto_region 5 with fail
 replace HE:=hid (HE.out.step (Below.refl _ _).drew)
 refine wp_region_held_drew (S:=fun u=>(u.cell? ⟨w.heap.size,0,none⟩=some (.slice a n1 ca)∧u.cell? ⟨w.heap.size,1,none⟩=some (.slice b n2 cb)∧u.cell? ⟨w.heap.size,2,none⟩=some (.slice c n3 cc))∧(u.cell? ⟨g7,0,none⟩=some (.bool f1.1)∧u.cell? ⟨g7,1,none⟩=some (.string f1.2.1)∧u.cell? ⟨g7,2,none⟩=some (.string f1.2.2))∧(u.cell? ⟨w3.heap.size,0,none⟩=some (.bool f1.1)∧u.cell? ⟨w3.heap.size,1,none⟩=some (.string f1.2.1)∧u.cell? ⟨w3.heap.size,2,none⟩=some (.string f1.2.2))) (by kernel_rfl) ⟨HE.out.hb.cells,HE.out.b1.tri,HE.out.b2.tri⟩ (fun hSd=>?_)
 generalize (w3.alloc (FC f1.1 f1.2.1 f1.2.2)).drew=u0 at *
 generalize w3.heap.size=g9 at *
 refine wpAnyH_take (i:=0) (oi:=_) (v:=.agg #[.slice a n1 ca,.slice b n2 cb,.slice c n3 cc]) rfl (by kernel_rfl) (by kernel_rfl) (by kernel_rfl) (fun _ _ _ h=>h) (Or.inl ⟨by rfl,?_⟩) (by assumption) ?_
 ·intro u' hSu
  (try simp only[List.getElem_toArray,List.getElem_cons_zero])
  obtain⟨⟨s0,s1,s2⟩,⟨s3,s4,s5⟩,⟨s6,s7,s8⟩⟩:=hSu
  go_simp
 (try simp only[List.getElem_toArray,List.getElem_cons_zero])
 (try simp only[Act.put,List.setIfInBounds_toArray,List.set_cons_zero,List.set_cons_succ])
 refine wpAnyH_take (i:=2) (oi:=_) (v:=.agg #[.slice a n1 ca,.slice b n2 cb,.slice c n3 cc]) rfl (by kernel_rfl) (by kernel_rfl) (by kernel_rfl) (fun _ _ _ h=>h) (Or.inl ⟨by rfl,?_⟩) (by assumption) ?_
 ·intro u' hSu
  (try simp only[List.getElem_toArray,List.getElem_cons_zero,List.getElem_cons_succ])
  obtain⟨⟨s0,s1,s2⟩,⟨s3,s4,s5⟩,⟨s6,s7,s8⟩⟩:=hSu
  go_simp
 (try simp only[List.getElem_toArray,List.getElem_cons_zero,List.getElem_cons_succ])
 (try simp only[Act.put,List.setIfInBounds_toArray,List.set_cons_zero,List.set_cons_succ])
 refine wpAnyH_ready (rs:=[1]) (by kernel_rfl) (by simp) (AllReadyH.cons rfl ?_ (AllReadyH.nil))
 ·intro K' hK'
  (try simp only[List.getElem_toArray,List.getElem_cons_zero,List.getElem_cons_succ])
  go_simp
  refine(HCK1.out _ HE.out.bel).mono ?_
  rintro e u1 ⟨rfl,hb⟩
  replace HE:=hid (HE.out.step hb)
  refine hK'.out _ _ ⟨HE.out.hb.cells,HE.out.b1.tri,HE.out.b2.tri⟩ (fun hSe=>?_)
  clear hK' K' hSd
  have hSd:=hSe
  clear hSe
  clear hb
  (try simp only[List.getElem_toArray,List.getElem_cons_zero,List.getElem_cons_succ])
  (try simp only[Act.put,List.setIfInBounds_toArray,List.set_cons_zero,List.set_cons_succ])
  refine wpAnyH_ready (rs:=[3]) (by kernel_rfl) (by simp) (AllReadyH.cons rfl ?_ (AllReadyH.nil))
  ·intro K' hK'
   (try simp only[List.getElem_toArray,List.getElem_cons_zero,List.getElem_cons_succ])
   go_simp
   refine(HCK2.out _ HE.out.bel).mono ?_
   rintro e u2 ⟨rfl,hb⟩
   replace HE:=hid (HE.out.step hb)
   refine hK'.out _ _ ⟨HE.out.hb.cells,HE.out.b1.tri,HE.out.b2.tri⟩ (fun hSe=>?_)
   clear hK' K' hSd
   have hSd:=hSe
   clear hSe
   clear hb
   (try simp only[List.getElem_toArray,List.getElem_cons_zero,List.getElem_cons_succ])
   (try simp only[Act.put,List.setIfInBounds_toArray,List.set_cons_zero,List.set_cons_succ])
   refine wpAnyH_take (i:=4) (oi:=_) (v:=.bool false) rfl (by kernel_rfl) (by kernel_rfl) (by kernel_rfl) (fun _ _ _ h=>h) (Or.inl ⟨by rfl,?_⟩) (by assumption) ?_
   ·intro u' hSu
    (try simp only[List.getElem_toArray,List.getElem_cons_zero,List.getElem_cons_succ])
    go_simp
   (try simp only[List.getElem_toArray,List.getElem_cons_zero,List.getElem_cons_succ])
   (try simp only[Act.put,List.setIfInBounds_toArray,List.set_cons_zero,List.set_cons_succ])
   refine wpAnyH_take (i:=5) (oi:=_) (v:=.bool false) rfl (by kernel_rfl) (by kernel_rfl) (by kernel_rfl) (fun _ _ _ h=>h) (Or.inl ⟨by rfl,?_⟩) (by assumption) ?_
   ·intro u' hSu
    (try simp only[List.getElem_toArray,List.getElem_cons_zero,List.getElem_cons_succ])
    go_simp
   (try simp only[List.getElem_toArray,List.getElem_cons_zero,List.getElem_cons_succ])
   (try simp only[Act.put,List.setIfInBounds_toArray,List.set_cons_zero,List.set_cons_succ])
   refine wpAnyH_take (i:=6) (oi:=_) (v:=.agg #[.bool f1.1,.string f1.2.1,.string f1.2.2]) rfl (by kernel_rfl) (by kernel_rfl) (by kernel_rfl) (fun _ _ _ h=>h) (Or.inl ⟨by rfl,?_⟩) (by assumption) ?_
   ·intro u' hSu
    (try simp only[List.getElem_toArray,List.getElem_cons_zero,List.getElem_cons_succ])
    obtain⟨⟨s0,s1,s2⟩,⟨s3,s4,s5⟩,⟨s6,s7,s8⟩⟩:=hSu
    go_simp
   (try simp only[List.getElem_toArray,List.getElem_cons_zero,List.getElem_cons_succ])
   (try simp only[Act.put,List.setIfInBounds_toArray,List.set_cons_zero,List.set_cons_succ])
   refine wpAnyH_take (i:=7) (oi:=_) (v:=.int .i64 z1) rfl (by kernel_rfl) (by kernel_rfl) (by kernel_rfl) (fun _ _ _ h=>h) (Or.inl ⟨by rfl,?_⟩) (by assumption) ?_
   ·intro u' hSu
    (try simp only[List.getElem_toArray,List.getElem_cons_zero,List.getElem_cons_succ])
    go_simp
   (try simp only[List.getElem_toArray,List.getElem_cons_zero,List.getElem_cons_succ])
   (try simp only[Act.put,List.setIfInBounds_toArray,List.set_cons_zero,List.set_cons_succ])
   refine wpAnyH_take (i:=8) (oi:=_) (v:=.agg #[.bool f1.1,.string f1.2.1,.string f1.2.2]) rfl (by kernel_rfl) (by kernel_rfl) (by kernel_rfl) (fun _ _ _ h=>h) (Or.inl ⟨by rfl,?_⟩) (by assumption) ?_
   ·intro u' hSu
    (try simp only[List.getElem_toArray,List.getElem_cons_zero,List.getElem_cons_succ])
    obtain⟨⟨s0,s1,s2⟩,⟨s3,s4,s5⟩,⟨s6,s7,s8⟩⟩:=hSu
    go_simp
   (try simp only[List.getElem_toArray,List.getElem_cons_zero,List.getElem_cons_succ])
   (try simp only[Act.put,List.setIfInBounds_toArray,List.set_cons_zero,List.set_cons_succ])
   refine wpAnyH_take (i:=9) (oi:=_) (v:=.int .i64 z1) rfl (by kernel_rfl) (by kernel_rfl) (by kernel_rfl) (fun _ _ _ h=>h) (Or.inl ⟨by rfl,?_⟩) (by assumption) ?_
   ·intro u' hSu
    (try simp only[List.getElem_toArray,List.getElem_cons_zero,List.getElem_cons_succ])
    go_simp
   (try simp only[List.getElem_toArray,List.getElem_cons_zero,List.getElem_cons_succ])
   (try simp only[Act.put,List.setIfInBounds_toArray,List.set_cons_zero,List.set_cons_succ])
   refine wpAnyH_ready (rs:=[10]) (by kernel_rfl) (by simp) (AllReadyH.cons rfl ?_ (AllReadyH.nil))
   ·intro K' hK'
    (try simp only[List.getElem_toArray,List.getElem_cons_zero,List.getElem_cons_succ])
    go_simp
    refine(HON1.out _).mono ?_
    rintro e u3 ⟨rfl,hb⟩
    replace HE:=hid (HE.out.step hb)
    refine hK'.out _ _ ⟨HE.out.hb.cells,HE.out.b1.tri,HE.out.b2.tri⟩ (fun hSe=>?_)
    clear hK' K' hSd
    have hSd:=hSe
    clear hSe
    clear hb
    (try simp only[List.getElem_toArray,List.getElem_cons_zero,List.getElem_cons_succ])
    (try simp only[Act.put,List.setIfInBounds_toArray,List.set_cons_zero,List.set_cons_succ])
    refine wpAnyH_take (i:=11) (oi:=_) (v:=.bool false) rfl (by kernel_rfl) (by kernel_rfl) (by kernel_rfl) (fun _ _ _ h=>h) (Or.inl ⟨by rfl,?_⟩) (by assumption) ?_
    ·intro u' hSu
     (try simp only[List.getElem_toArray,List.getElem_cons_zero,List.getElem_cons_succ])
     go_simp
    (try simp only[List.getElem_toArray,List.getElem_cons_zero,List.getElem_cons_succ])
    (try simp only[Act.put,List.setIfInBounds_toArray,List.set_cons_zero,List.set_cons_succ])
    refine wpAnyH_take (i:=12) (oi:=_) (v:=.bool false) rfl (by kernel_rfl) (by kernel_rfl) (by kernel_rfl) (fun _ _ _ h=>h) (Or.inl ⟨by rfl,?_⟩) (by assumption) ?_
    ·intro u' hSu
     (try simp only[List.getElem_toArray,List.getElem_cons_zero,List.getElem_cons_succ])
     go_simp
    (try simp only[List.getElem_toArray,List.getElem_cons_zero,List.getElem_cons_succ])
    (try simp only[Act.put,List.setIfInBounds_toArray,List.set_cons_zero,List.set_cons_succ])
    refine wpAnyH_done (by kernel_rfl) ?_ _
    clear hSd
    obtain⟨e0,e1,e2⟩:=HE.out.hb.cells
    go_wp2_with fail
    refine(HFW1.out _ HE.out.bel).mono ?_
    rintro e w6 ⟨x6,k6,rfl,hF,hb⟩
    have HF:=hid hF
    replace HE:=hid (HE.out.step hb)
    clear hF hb e0 e1 e2
    obtain⟨e0,e1,e2⟩:=HE.out.hb.cells
    go_wp2_with fail
    refine(HFW2.out _ HE.out.bel).mono ?_
    rintro e w6b ⟨y6,m6,rfl,hF,hb⟩
    have HS:=hid (sameRows_any x6 y6 k6 m6 RF w6b (HF.out.below hb) hF (by have:=HFWF.out.1;omega) (fun r hr=>by have:=HFWF.out.2 r hr;omega))
    replace HE:=hid (HE.out.step hb)
    clear hF hb e0 e1 e2 HF
    have hne:(zf !=zf)=false:=bne_self_eq_false _
    go_wp2_with fail
    refine HS.out.mono ?_
    rintro e w6c ⟨rfl,hb⟩
    replace HE:=hid (HE.out.step hb)
    clear hb HS hne HFW1 HFW2 HFWF
    obtain⟨e0,e1,e2⟩:=HE.out.hb.cells
    go_wp2_with fail
    refine(HBW1.out _ HE.out.bel).mono ?_
    rintro e w7 ⟨x7,k7,rfl,hF,hb⟩
    have HF:=hid hF
    replace HE:=hid (HE.out.step hb)
    clear hF hb e0 e1 e2
    obtain⟨e0,e1,e2⟩:=HE.out.hb.cells
    go_wp2_with fail
    refine(HBW2.out _ HE.out.bel).mono ?_
    rintro e w7b ⟨y7,m7,rfl,hF,hb⟩
    have HS:=hid (sameRows_any x7 y7 k7 m7 RB w7b (HF.out.below hb) hF (by have:=HBWF.out.1;omega) (fun r hr=>by have:=HBWF.out.2 r hr;omega))
    replace HE:=hid (HE.out.step hb)
    clear hF hb e0 e1 e2 HF
    have hne:(zb !=zb)=false:=bne_self_eq_false _
    go_wp2_with fail
    refine HS.out.mono ?_
    rintro e w7c ⟨rfl,hb⟩
    replace HE:=hid (HE.out.step hb)
    clear hb HS hne HBW1 HBW2 HBWF
    obtain⟨e0,e1,e2⟩:=HE.out.hb.cells
    go_wp2_with fail
    refine(HSM1.out _ HE.out.bel).mono ?_
    rintro e w8 ⟨x8,k8,rfl,hF,hb⟩
    have HF:=hid hF
    replace HE:=hid (HE.out.step hb)
    clear hF hb e0 e1 e2
    obtain⟨e0,e1,e2⟩:=HE.out.hb.cells
    go_wp2_with fail
    refine(HSM2.out _ HE.out.bel).mono ?_
    rintro e w8b ⟨y8,m8,rfl,hF,hb⟩
    have HS:=hid (sameRows_any x8 y8 k8 m8 RS w8b (HF.out.below hb) hF (by have:=HSMF.out.1;omega) (fun r hr=>by have:=HSMF.out.2 r hr;omega))
    replace HE:=hid (HE.out.step hb)
    clear hF hb e0 e1 e2 HF
    have hne:(zs !=zs)=false:=bne_self_eq_false _
    go_wp2_with fail
    refine HS.out.mono ?_
    rintro e w8c ⟨rfl,hb⟩
    replace HE:=hid (HE.out.step hb)
    clear hb HS hne HSM1 HSM2 HSMF
    obtain⟨e0,e1,e2⟩:=HE.out.hb.cells
    go_wp2_with fail
    refine(HPA1.out _ HE.out.bel).mono ?_
    rintro e wA ⟨xA,kA,rfl,hI,hb⟩
    replace HE:=hid (HE.out.step hb)
    have HIA:=hid (IntS.farBox hI HE.out.b1 (.bool f2.1) (.string f2.2.1) (.string f2.2.2))
    obtain⟨q0,q1,q2,q3,q4,q5⟩:=HE.out.b1.facts
    have HEN:=hid (HE.out.put1 f2)
    clear hI hb e0 e1 e2 HE
    obtain⟨e0,e1,e2⟩:=HEN.out.hb.cells
    go_wp2_with fail
    have HE:=HEN
    clear HEN q0 q1 q2 q3 q4 q5 e0 e1 e2
    generalize (((wA.setCell ⟨g7,0,none⟩ (.bool f2.1)).setCell ⟨g7,1,none⟩ (.string f2.2.1)).setCell ⟨g7,2,none⟩ (.string f2.2.2))=wA2 at *
    refine(HPA2.out _ HE.out.bel).mono ?_
    rintro e wB ⟨xB,kB,rfl,hI,hb⟩
    replace HE:=hid (HE.out.step hb)
    have HIB:=hid (IntS.farBox hI HE.out.b2 (.bool f2.1) (.string f2.2.1) (.string f2.2.2))
    have HIC:=hid (IntS.farBox (HIA.out.below hb) HE.out.b2 (.bool f2.1) (.string f2.2.1) (.string f2.2.2))
    obtain⟨q0,q1,q2,q3,q4,q5⟩:=HE.out.b2.facts
    have HEN:=hid (HE.out.put2 f2)
    clear hI hb HE HIA
    obtain⟨e0,e1,e2⟩:=HEN.out.hb.cells
    go_wp2_with fail
    have HE:=HEN
    clear HEN q0 q1 q2 q3 q4 q5 e0 e1 e2
    generalize (((wB.setCell ⟨g9,0,none⟩ (.bool f2.1)).setCell ⟨g9,1,none⟩ (.string f2.2.1)).setCell ⟨g9,2,none⟩ (.string f2.2.2))=wB2 at *
    refine(HUN1.out _ HE.out.bel).mono ?_
    rintro e wC ⟨va,vb,vc,vca,vcb,vcc,rfl,hN,hb⟩
    replace HE:=hid (HE.out.step hb)
    replace HIB:=hid (HIB.out.below hb)
    replace HIC:=hid (HIC.out.below hb)
    have hal:=(Below.refl wC.heap.size wC).alloc (Nat.le_refl _) (NC (.slice va V.length vca) (.slice vb K.length vcb) (.slice vc R.length vcc))
    have HN1:=hid (hN.below hal)
    have HX1:Hid (NBox (wC.alloc (NC (.slice va V.length vca) (.slice vb K.length vcb) (.slice vc R.length vcc))) wC.heap.size (.slice va V.length vca) (.slice vb K.length vcb) (.slice vc R.length vcc)):=NBox.at rfl _ _ _
    replace HE:=hid (HE.out.step hal)
    replace HIB:=hid (HIB.out.below hal)
    replace HIC:=hid (HIC.out.below hal)
    clear hal hN hb
    obtain⟨e0,e1,e2⟩:=HE.out.hb.cells
    go_wp2_with fail
    clear e0 e1 e2
    generalize (wC.alloc (NC (.slice va V.length vca) (.slice vb K.length vcb) (.slice vc R.length vcc)))=wC2 at *
    generalize wC.heap.size=gC at *
    refine(HUN2.out _ HE.out.bel).mono ?_
    rintro e wD ⟨ua,ub,uc,uca,ucb,ucc,rfl,hN,hb⟩
    replace HE:=hid (HE.out.step hb)
    replace HIB:=hid (HIB.out.below hb)
    replace HIC:=hid (HIC.out.below hb)
    replace HN1:=hid (HN1.out.below hb)
    replace HX1:=hid (HX1.out.below hb HX1.out.lt)
    have hal:=(Below.refl wD.heap.size wD).alloc (Nat.le_refl _) (NC (.slice ua V.length uca) (.slice ub K.length ucb) (.slice uc R.length ucc))
    have HN2:=hid (hN.below hal)
    have HX2:Hid (NBox (wD.alloc (NC (.slice ua V.length uca) (.slice ub K.length ucb) (.slice uc R.length ucc))) wD.heap.size (.slice ua V.length uca) (.slice ub K.length ucb) (.slice uc R.length ucc)):=NBox.at rfl _ _ _
    replace HE:=hid (HE.out.step hal)
    replace HN1:=hid (HN1.out.below hal)
    replace HX1:=hid (HX1.out.below hal HX1.out.lt)
    have HSI:=hid (sameInts_any xA xB kA kB pq _ (HIC.out.below hal) (HIB.out.below hal) (by have:=HPL.out;omega))
    clear hal hN hb HIB HIC
    go_wp2_with fail
    generalize (wD.alloc (NC (.slice ua V.length uca) (.slice ub K.length ucb) (.slice uc R.length ucc)))=wD2 at *
    generalize wD.heap.size=gD at *
    refine HSI.out.mono ?_
    rintro e wE ⟨rfl,hb⟩
    replace HE:=hid (HE.out.step hb)
    replace HN1:=hid (HN1.out.below hb)
    replace HX1:=hid (HX1.out.below hb HX1.out.lt)
    replace HN2:=hid (HN2.out.below hb)
    replace HX2:=hid (HX2.out.below hb HX2.out.lt)
    clear hb HSI
    obtain⟨s3,s4,s5⟩:=HE.out.b1.tri
    obtain⟨s6,s7,s8⟩:=HE.out.b2.tri
    go_wp2_with fail
    refine(HON2.out _).mono ?_
    rintro e wF ⟨rfl,hb⟩
    replace HE:=hid (HE.out.step hb)
    replace HN1:=hid (HN1.out.below hb)
    replace HX1:=hid (HX1.out.below hb HX1.out.lt)
    replace HN2:=hid (HN2.out.below hb)
    replace HX2:=hid (HX2.out.below hb HX2.out.lt)
    clear hb s3 s4 s5 s6 s7 s8
    obtain⟨v0,v1,v2⟩:=HX1.out.cells
    obtain⟨v3,v4,v5⟩:=HX2.out.cells
    have hzz:(zu==zu)=true:=beq_self_eq_true _
    have HSN:=hid (sameNet_any va vb vc ua ub uc vca vcb vcc uca ucb ucc V K R wF HN1.out HN2.out HFN.out)
    go_wp2_with fail
    refine HSN.out.mono ?_
    rintro e wG ⟨rfl,hb⟩
    have HEND:=hid (HE.out.bel.trans (hb.mono HE.out.bel.size))
    clear hb
    go_wp2
    go_ret
    exact⟨rfl,HEND.out⟩
end Go.Proofs.YtgamblainfkiaaaGreatDoor

/- A lifting that hands on the world's shape beside what the row lists; fractions opened and shut. -/
namespace Go.Proofs.YtgamblainfkiaaaGreatDoor
open Go.ChangeShapes Go.WideShapes Go.ChangeAt Go.RowKit
theorem lift_shaped {H:Type} {enc:TypeId×Value→H} {a:Assume} {C:Checked} {os:Os} {f:FuncId} {fn:Func} {s:ChangeSpec} {conds:List PathCond} {apart fresh handsOn again:Bool} {X:World→Array Value→Prop}
  (hX:∀(w w':World) (args:Array Value),w.heap=w'.heap→X w args→X w' args)
  (own:ownKnob C.prog.godebug=none) (started:os.Started) (noInit:C.prog.inits.idxOf? f=none) (hfn:C.prog.funcs[f]? =some fn)
  (witness:∃(w:World) (tape:Tape) (i:Input),w.os=os∧(w.forCall tape i).Shaped C.prog∧i.vars=[]∧Input.okWide C.prog (w.forCall tape i) .any w.heap.size f i∧
   ((s.pre enc C.prog fn conds apart (w.forCall tape i).memory i.args∧X (w.forCall tape i).memory i.args)∧sizedMet enc C.prog fn (OpenSpec.ofChange s) apart (w.forCall tape i).memory i.args)∧a.holds C.prog (lone (Frame.enter C.prog f i.args .normal) [] (w.forCall tape i)))
  (walk:∀(W:World) (base:Nat) (args:Array Value) (ds gs:List (DataW H)) (before:List MemPlace),
   (∀(j:Nat) t v,fn.params[j]? =some t→args[j]? =some v→Value.okWide C.prog W .any base t v)→
   DataW.Whole enc C.prog fn.params.toList s.vars apart W args.toList ds gs before→
   (DataW.weightsEach C.prog (fn.params.toList++s.plain.varTypes C.prog) (ds++gs)).all (·≤reachBytes)=true→X W args→W.ShapedOpen C.prog→
   Calls C.prog f args W fun e W'=>∃v,e=.returned v∧s.post enc C.prog fn apart fresh handsOn again W args v W'):
  ReturnsInHanded a C os f .any (fun w args=>(s.pre enc C.prog fn conds apart w args∧X w args)∧sizedMet enc C.prog fn (OpenSpec.ofChange s) apart w args) (s.post enc C.prog fn apart fresh handsOn again):=by
 refine returnsInHanded_of_calls own started noInit witness ?_
 intro w tape i _ hsh _ hok hpre _
 obtain⟨_,_,_,fn',hfn',_,_,_,_,hval⟩:=hok
 obtain rfl:fn'=fn:=Option.some.inj (hfn'.symm.trans hfn)
 obtain⟨⟨⟨ds,gs,before,hw,_⟩,hx⟩,hz⟩:=hpre
 refine(walk (w.forCall tape i) w.heap.size i.args ds gs before hval (DataW.Whole.of_heap (w':=w.forCall tape i) (by rfl) hw) (hz.weights hw) (hX _ _ _ (by rfl) hx) hsh).mono fun e W' ⟨v,he,hp⟩=>?_
 subst he
 exact ChangeSpec.post_blind hp
theorem cellsF:Tryz.prog.cellsOf 30=3:=by kernel_rfl
theorem cellsB:Tryz.prog.cellsOf 4=1:=by kernel_rfl
theorem cellsN:Tryz.prog.cellsOf 28=1:=by kernel_rfl
end Go.Proofs.YtgamblainfkiaaaGreatDoor

/- A slice of fractions that came in, opened. -/
namespace Go.Proofs.YtgamblainfkiaaaGreatDoor
open Go.ChangeShapes Go.WideShapes Go.ChangeAt Go.RowKit
theorem cell_lt {w:World} {a:Addr} {v:Value} (h:w.cell? a=some v):a.block<w.heap.size:=by
 rcases Nat.lt_or_ge a.block w.heap.size with h1 |h1
 ·exact h1
 ·simp[World.cell?,Array.getElem?_eq_none h1] at h
def fd {H:Type} (f:Fr):DataW H:=.agg [.lit (.bool f.1),.lit (.string f.2.1.data.toList),.lit (.string f.2.2.data.toList)]
theorem weights_all {H:Type} {P:Program} {e:TypeId} {n:Nat}:∀ {l:List (DataW H)} {d:DataW H},d∈l→n∈d.weights P e→n∈DataW.weightsAll P e l
 |x::l,d,hd,hn=>by
  simp only[DataW.weightsAll,List.mem_append]
  rcases List.mem_cons.1 hd with rfl |hd
  ·exact .inl hn
  ·exact .inr (weights_all hd hn)
theorem bytesF:Tryz.prog.bytesOf 30=40:=by kernel_rfl
theorem sized_fracs {H:Type} {ts:List TypeId} {ds:List (DataW H)} (h:(DataW.weightsEach Tryz.prog ts ds).all (·≤reachBytes)=true) {j:Nat} {l:List Fr} {rest:List (DataW H)} (ht:ts[j]? =some 22) (hd:ds[j]? =some (.slice (l.map fd) rest)):
  l.length≤140737488355328∧∀f∈l,f.2.1.size≤140737488355328∧f.2.2.size≤140737488355328:=by
 constructor
 ·have h1:=List.all_eq_true.1 h _ (DataW.weights_mem_each ht hd (((l.map (fd (H:=H))).length+rest.length)*Tryz.prog.bytesOf 30) (by simp[DataW.weights,Tryz.underlying22]))
  have h1':((l.map (fd (H:=H))).length+rest.length)*Tryz.prog.bytesOf 30≤reachBytes:=by simpa using h1
  rw[bytesF,List.length_map] at h1'
  simp only[reachBytes] at h1'
  omega
 ·intro f hf
  have hin:∀n,n∈(fd (H:=H) f).weights Tryz.prog 30→n≤reachBytes:=fun n hn=>by
   have:=List.all_eq_true.1 h _ (DataW.weights_mem_each ht hd n (by
    simp only[DataW.weights,Tryz.underlying22,List.mem_cons,List.mem_append]
    exact .inr (.inl (weights_all (List.mem_map_of_mem hf) hn))))
   simpa using this
  have a1:=hin f.2.1.data.toList.length (by simp[fd,DataW.weights,Tryz.underlying30,DataW.weightsEach])
  have a2:=hin f.2.2.data.toList.length (by simp[fd,DataW.weights,Tryz.underlying30,DataW.weightsEach])
  rw[bytes_len] at a1 a2
  simp only[reachBytes] at a1 a2
  constructor<;>omega
end Go.Proofs.YtgamblainfkiaaaGreatDoor

/- Lists of ints and tables that came in, opened. -/
namespace Go.Proofs.YtgamblainfkiaaaGreatDoor
open Go.ChangeShapes Go.WideShapes Go.ChangeAt Go.RowKit
def idt {H:Type} (x:Int):DataW H:=.lit (.int .i64 x)
theorem cellsI:Tryz.prog.cellsOf 3=1:=by kernel_rfl
theorem cellsFs:Tryz.prog.cellsOf 22=1:=by kernel_rfl
set_option maxRecDepth 100000 in
theorem trod_ints {H:Type} {enc:TypeId×Value→H} {W:World} {fuel:Nat} {cs:List Value} {x:DataW H×List MemPlace} (hf:DataW.trod enc Tryz.prog W 0 (fun _=>true) true fuel 26 cs=some x):
  ∃(a:Option Addr) (cap:Nat) (l:List Int),cs=[.slice a l.length cap]∧IntS W a l∧(a=none→cap=0)∧((x.1=.nil∧l=[])∨∃rest,x.1=.slice (l.map idt) rest)∧∀y∈l, -9223372036854775808≤y∧y≤9223372036854775807:=by
 rcases Deep.open_slice Tryz.underlying26 hf with ⟨hcs,hx⟩ |⟨a',len,cap,m,n,D,Pl,hcs,hb,hl,hm,hmm,hx,hel⟩
 ·exact⟨none,0,[],hcs,fun k hk=>absurd hk (by simp),fun _=>rfl,.inl ⟨by rw[hx],rfl⟩,fun _ h=>by cases h⟩
 ·have hlm:len≤m:=by rw[hmm];split<;>omega
  rw[cellsI] at hel
  have each:∀i,i<len→∃z:Int,(W.cell? (a'.add (i*1))=some (.int .i64 z)∧ -9223372036854775808≤z∧z≤9223372036854775807)∧D i=idt z:=by
   intro i hi
   obtain⟨cs',h1,h2⟩:=hel i (by omega)
   obtain⟨_,hlen,hcell⟩:=World.cells?_some h1
   obtain⟨z,e0,hxx,hwf⟩:=DataW.trod_int Tryz.underlying3 h2
   subst e0
   simp only[Prod.mk.injEq] at hxx
   have g0:=hcell 0 (by omega)
   rw[Deep.add_add] at g0
   exact⟨z,⟨by simpa using g0,bounds_i64 hwf⟩,hxx.1⟩
  obtain⟨f,hf2⟩:=Deep.choose_lt (α:=Int) each
  refine⟨some a',cap,(List.range len).map f,by rw[hcs];simp,?_,fun e=>by(cases e),.inr ⟨(List.range (m - len)).map fun j=>D (len+j),?_⟩,?_⟩
  ·intro k hk
   have hk':k<len:=by simpa using hk
   obtain⟨⟨g0,_⟩,_⟩:=hf2 k hk'
   obtain⟨⟨z0,_⟩,_⟩:=hf2 0 (by omega)
   have hsp:=World.cell?_spot z0
   obtain⟨bb,oo,sp⟩:=a'
   rw[Nat.zero_mul] at hsp
   simp[Addr.add] at hsp
   subst hsp
   rw[WideShapes.add_plain] at g0
   refine⟨bb,oo,rfl,cell_lt g0,?_⟩
   simpa using g0
  ·rw[hx]
   show DataW.slice _ _=DataW.slice _ _
   congr 1
   rw[List.map_map]
   exact List.map_congr_left fun i hi=>(hf2 i (List.mem_range.1 hi)).2
  ·intro y hy
   obtain⟨i,hi,rfl⟩:=List.mem_map.1 hy
   exact(hf2 i (List.mem_range.1 hi)).1.2
set_option maxRecDepth 100000 in
theorem open_ints {H:Type} {enc:TypeId×Value→H} {W:World} {r:Reach} {b0:Nat} {v:Value} {d:DataW H} {p:List MemPlace} (hval:Value.okWide Tryz.prog W r b0 26 v) (h:DataW.Trod enc Tryz.prog W 0 (fun _=>true) true 26 v d p):
  ∃(a:Option Addr) (cap:Nat) (l:List Int),v=.slice a l.length cap∧IntS W a l∧(a=none→cap=0)∧((d=.nil∧l=[])∨∃rest,d=.slice (l.map idt) rest)∧∀x∈l, -9223372036854775808≤x∧x≤9223372036854775807:=by
 obtain⟨a,len,cap,rfl⟩:=okWide_slice Tryz.underlying26 hval
 obtain⟨fuel,hf⟩:=h
 obtain⟨a',cap',l,hcs,hi,h0,hd,hr⟩:=trod_ints hf
 simp[Value.cells] at hcs
 obtain⟨rfl,rfl,rfl⟩:=hcs
 exact⟨a,cap,l,rfl,hi,h0,hd,hr⟩
set_option maxRecDepth 100000 in
theorem open_fracs_of {H:Type} {enc:TypeId×Value→H} {W:World} {a:Option Addr} {len cap:Nat} {d:DataW H} {p:List MemPlace} (h:DataW.Trod enc Tryz.prog W 0 (fun _=>true) true 22 (.slice a len cap) d p):
  ∃(a':Option Addr) (cap':Nat) (l:List Fr),(Value.slice a len cap)=.slice a' l.length cap'∧FrS W a' l∧((d=.nil∧l=[])∨∃rest,d=.slice (l.map fd) rest):=by
 obtain⟨fuel,hf⟩:=h
 rcases Deep.open_slice Tryz.underlying22 hf with ⟨hcs,hx⟩ |⟨a',len',cap',m,n,D,Pl,hcs,hb,hl,hm,hmm,hx,hel⟩
 ·simp[Value.cells] at hcs
  obtain⟨rfl,rfl,rfl⟩:=hcs
  simp only[Prod.mk.injEq] at hx
  exact⟨none,0,[],rfl,fun k hk=>absurd hk (by simp),.inl ⟨hx.1,rfl⟩⟩
 ·simp[Value.cells] at hcs
  obtain⟨rfl,rfl,rfl⟩:=hcs
  simp only[Prod.mk.injEq] at hx
  have hlm:len≤m:=by rw[hmm];split<;>omega
  rw[cellsF] at hel
  have each:∀i,i<len→∃f:Fr,(W.cell? (a'.add (i*3))=some (.bool f.1)∧W.cell? (a'.add (i*3+1))=some (.string f.2.1)∧W.cell? (a'.add (i*3+2))=some (.string f.2.2))∧D i=fd f:=by
   intro i hi
   obtain⟨cs',h1,h2⟩:=hel i (by omega)
   obtain⟨_,hlen,hcell⟩:=World.cells?_some h1
   match cs',hlen with
   |[c0,c1,c2],_=>
    obtain⟨y0,y1,y2,k,hxx,_,hy0,hy1,hy2⟩:=Deep.trod_struct3 Tryz.underlying30 h2
    obtain⟨nn,e0,rfl⟩:=DataW.trod_bool Tryz.underlying4 hy0
    obtain⟨x,e1,rfl,hx1⟩:=DataW.trod_string Tryz.underlying28 hy1
    obtain⟨y,e2,rfl,hx2⟩:=DataW.trod_string Tryz.underlying28 hy2
    simp[cellsB,cellsN] at e0 e1 e2
    subst e0 e1 e2
    simp only[Prod.mk.injEq] at hxx
    have g0:=hcell 0 (by omega)
    have g1:=hcell 1 (by omega)
    have g2:=hcell 2 (by omega)
    rw[Deep.add_add] at g0 g1 g2
    exact⟨(nn,x,y),⟨by simpa using g0,by simpa using g1,by simpa using g2⟩,hxx.1⟩
  obtain⟨f,hf2⟩:=Deep.choose_lt (α:=Fr) each
  refine⟨some a',cap,(List.range len).map f,by simp,?_,.inr ⟨(List.range (m - len)).map fun j=>D (len+j),?_⟩⟩
  ·intro k hk
   have hk':k<len:=by simpa using hk
   obtain⟨⟨g0,g1,g2⟩,_⟩:=hf2 k hk'
   obtain⟨⟨z0,_,_⟩,_⟩:=hf2 0 (by omega)
   have hsp:=World.cell?_spot z0
   obtain⟨bb,oo,sp⟩:=a'
   rw[Nat.zero_mul] at hsp
   simp[Addr.add] at hsp
   subst hsp
   rw[WideShapes.add_plain] at g0 g1 g2
   refine⟨bb,oo,rfl,cell_lt g0,?_,?_,?_⟩
   ·simpa using g0
   ·simpa [Nat.add_assoc] using g1
   ·simpa [Nat.add_assoc] using g2
  ·rw[hx.1]
   congr 1
   rw[List.map_map]
   exact List.map_congr_left fun i hi=>(hf2 i (List.mem_range.1 hi)).2
theorem open_fracs_at {H:Type} {enc:TypeId×Value→H} {W:World} {fuel:Nat} {v:Value} {x:DataW H×List MemPlace} (hf:DataW.trod enc Tryz.prog W 0 (fun _=>true) true fuel 22 [v]=some x):
  ∃(a:Option Addr) (cap:Nat) (l:List Fr),v=.slice a l.length cap∧FrS W a l∧((x.1=.nil∧l=[])∨∃rest,x.1=.slice (l.map fd) rest):=by
 have hs:∃a n c,v=Value.slice a n c:=by
  rcases Deep.open_slice Tryz.underlying22 hf with ⟨hcs,_⟩ |⟨a',len,cap,m,n,D,Pl,hcs,_⟩
  ·exact⟨_,_,_,by simpa using hcs⟩
  ·exact⟨_,_,_,by simpa using hcs⟩
 obtain⟨a,n,c,rfl⟩:=hs
 obtain⟨a',cap',l,h1,h2,h3⟩:=open_fracs_of (enc:=enc) (W:=W) (a:=a) (len:=n) (cap:=c) (d:=x.1) (p:=x.2) ⟨fuel,hf⟩
 exact⟨a',cap',l,h1,h2,h3⟩
theorem bytesI:Tryz.prog.bytesOf 3=8:=by kernel_rfl
theorem sized_ints {H:Type} {ts:List TypeId} {ds:List (DataW H)} (h:(DataW.weightsEach Tryz.prog ts ds).all (·≤reachBytes)=true) {j:Nat} {l:List Int} {d:DataW H} (ht:ts[j]? =some 26) (hd:ds[j]? =some d) (hl:(d=.nil∧l=[])∨∃rest,d=.slice (l.map idt) rest):
  l.length≤140737488355328:=by
 rcases hl with ⟨_,rfl⟩ |⟨rest,rfl⟩
 ·simp
 have h1:=List.all_eq_true.1 h _ (DataW.weights_mem_each ht hd (((l.map (idt (H:=H))).length+rest.length)*Tryz.prog.bytesOf 3) (by simp[DataW.weights,Tryz.underlying26]))
 have h1':((l.map (idt (H:=H))).length+rest.length)*Tryz.prog.bytesOf 3≤reachBytes:=by simpa using h1
 rw[bytesI,List.length_map] at h1'
 simp only[reachBytes] at h1'
 omega
theorem sized_fracs' {H:Type} {ts:List TypeId} {ds:List (DataW H)} (h:(DataW.weightsEach Tryz.prog ts ds).all (·≤reachBytes)=true) {j:Nat} {l:List Fr} {d:DataW H} (ht:ts[j]? =some 22) (hd:ds[j]? =some d) (hl:(d=.nil∧l=[])∨∃rest,d=.slice (l.map fd) rest):
  l.length≤140737488355328∧∀f∈l,f.2.1.size≤140737488355328∧f.2.2.size≤140737488355328:=by
 rcases hl with ⟨_,rfl⟩ |⟨rest,rfl⟩
 ·exact⟨by simp,fun f hf=>by cases hf⟩
 ·exact sized_fracs h ht hd
end Go.Proofs.YtgamblainfkiaaaGreatDoor

/- Nets that came in, opened. -/
namespace Go.Proofs.YtgamblainfkiaaaGreatDoor
open Go.ChangeShapes Go.WideShapes Go.ChangeAt Go.RowKit
def LsD {H:Type} {α:Type} (one:DataW H→α→Prop) (d:DataW H) (L:List α):Prop:=(d=.nil∧L=[])∨∃(E rest:List (DataW H)),d=.slice E rest∧E.length=L.length∧∀k (h:k<L.length) (h':k<E.length),one E[k] L[k]
def FrcD {H:Type} (d:DataW H) (l:List Fr):Prop:=(d=.nil∧l=[])∨∃rest,d=.slice (l.map fd) rest
theorem cellsFr:Tryz.prog.cellsOf 23=1:=by kernel_rfl
set_option maxRecDepth 100000 in
theorem trod_frows {H:Type} {enc:TypeId×Value→H} {W:World} {fuel:Nat} {cs:List Value} {x:DataW H×List MemPlace} (hf:DataW.trod enc Tryz.prog W 0 (fun _=>true) true fuel 23 cs=some x):
  ∃(a:Option Addr) (cap:Nat) (L:List (List Fr)),cs=[.slice a L.length cap]∧FsS W a L∧LsD FrcD x.1 L:=by
 rcases Deep.open_slice Tryz.underlying23 hf with ⟨hcs,hx⟩ |⟨a',len,cap,m,n,D,Pl,hcs,hb,hl,hm,hmm,hx,hel⟩
 ·exact⟨none,0,[],hcs,fun k hk=>absurd hk (by simp),.inl ⟨by rw[hx],rfl⟩⟩
 ·have hlm:len≤m:=by rw[hmm];split<;>omega
  rw[cellsFs] at hel
  have each:∀i,i<len→∃z:Option Addr×Nat×List Fr,W.cell? (a'.add (i*1))=some (.slice z.1 z.2.2.length z.2.1)∧(FrS W z.1 z.2.2∧z.2.2.length≤z.2.1)∧FrcD (D i) z.2.2:=by
   intro i hi
   obtain⟨cs',h1,h2⟩:=hel i (by omega)
   obtain⟨_,hlen,hcell⟩:=World.cells?_some h1
   have hcap:∀a n c,cs'=[Value.slice a n c]→n≤c:=fun a n c e=>by
    rcases Deep.open_slice Tryz.underlying22 h2 with ⟨hc,_⟩ |⟨a2,len2,cap2,m2,n2,D2,Pl2,hc,_,hl2,_⟩
    ·rw[hc] at e;cases e;exact Nat.le_refl _
    ·rw[hc] at e;cases e;exact hl2
   match cs',hlen with
   |[v],_=>
    obtain⟨b,c,l,e0,h3,h4⟩:=open_fracs_at h2
    subst e0
    have g0:=hcell 0 (by omega)
    rw[Deep.add_add] at g0
    exact⟨(b,c,l),by simpa using g0,⟨h3,hcap _ _ _ rfl⟩,h4⟩
  obtain⟨f,hf2⟩:=Deep.choose_lt (α:=Option Addr×Nat×List Fr) each
  refine⟨some a',cap,(List.range len).map fun i=>(f i).2.2,by rw[hcs];simp,?_,.inr ⟨(List.range len).map D,(List.range (m - len)).map fun j=>D (len+j),by rw[hx],by simp,?_⟩⟩
  ·intro k hk
   have hk':k<len:=by simpa using hk
   obtain⟨g0,⟨h3,h5⟩,_⟩:=hf2 k hk'
   obtain⟨z0,_⟩:=hf2 0 (by omega)
   have hsp:=World.cell?_spot z0
   obtain⟨bb,oo,sp⟩:=a'
   rw[Nat.zero_mul] at hsp
   simp[Addr.add] at hsp
   subst hsp
   rw[WideShapes.add_plain] at g0
   refine⟨bb,oo,(f k).1,(f k).2.1,rfl,cell_lt g0,?_,?_,?_⟩
   ·simpa using g0
   ·simpa using h3
   ·simpa using h5
  ·intro k hk hk'
   have hk2:k<len:=by simpa using hk
   simpa using (hf2 k hk2).2.2
end Go.Proofs.YtgamblainfkiaaaGreatDoor

/- Nets that came in, opened: variables, the whole, and their sizes. -/
namespace Go.Proofs.YtgamblainfkiaaaGreatDoor
open Go.ChangeShapes Go.WideShapes Go.ChangeAt Go.RowKit
theorem sized_part {H:Type} {t e:TypeId} (ht:Tryz.prog.underlying t=some (.slice e)) {E rest:List (DataW H)} (h:(DataW.weightsEach Tryz.prog [t] [.slice E rest]).all (·≤reachBytes)=true) {d:DataW H} (hd:d∈E):(DataW.weightsEach Tryz.prog [e] [d]).all (·≤reachBytes)=true:=by
 rw[List.all_eq_true]
 intro n hn
 have hn':n∈d.weights Tryz.prog e:=by simpa [DataW.weightsEach] using hn
 have:=List.all_eq_true.1 h n (by
  simp only[DataW.weightsEach,List.append_nil,DataW.weights,ht,List.mem_cons,List.mem_append]
  exact .inr (.inl (weights_all hd hn')))
 exact this
theorem sized_count {H:Type} {t e:TypeId} (ht:Tryz.prog.underlying t=some (.slice e)) {E rest:List (DataW H)} (h:(DataW.weightsEach Tryz.prog [t] [.slice E rest]).all (·≤reachBytes)=true):E.length*Tryz.prog.bytesOf e≤reachBytes:=by
 have:=List.all_eq_true.1 h ((E.length+rest.length)*Tryz.prog.bytesOf e) (by simp[DataW.weightsEach,DataW.weights,ht])
 have h2:(E.length+rest.length)*Tryz.prog.bytesOf e≤reachBytes:=by simpa using this
 exact Nat.le_trans (Nat.mul_le_mul_right _ (by omega)) h2
theorem bytesFs:Tryz.prog.bytesOf 22=24:=by kernel_rfl
end Go.Proofs.YtgamblainfkiaaaGreatDoor

/- Hidden chains that came in, opened, and their sizes. -/
namespace Go.Proofs.YtgamblainfkiaaaGreatDoor
open Go.ChangeShapes Go.WideShapes Go.ChangeAt Go.RowKit
theorem cellsHid:Tryz.prog.cellsOf 25=3:=by kernel_rfl
set_option maxRecDepth 100000 in
theorem trod_capF {H:Type} {enc:TypeId×Value→H} {W:World} {fuel n c:Nat} {a:Option Addr} {x:DataW H×List MemPlace} (hf:DataW.trod enc Tryz.prog W 0 (fun _=>true) true fuel 22 [.slice a n c]=some x):n≤c:=by
 rcases Deep.open_slice Tryz.underlying22 hf with ⟨hc,_⟩ |⟨a2,len2,cap2,m2,n2,D2,Pl2,hc,_,hl2,_⟩
 ·cases hc;exact Nat.le_refl _
 ·cases hc;exact hl2
set_option maxRecDepth 100000 in
theorem trod_capI {H:Type} {enc:TypeId×Value→H} {W:World} {fuel n c:Nat} {a:Option Addr} {x:DataW H×List MemPlace} (hf:DataW.trod enc Tryz.prog W 0 (fun _=>true) true fuel 26 [.slice a n c]=some x):n≤c:=by
 rcases Deep.open_slice Tryz.underlying26 hf with ⟨hc,_⟩ |⟨a2,len2,cap2,m2,n2,D2,Pl2,hc,_,hl2,_⟩
 ·cases hc;exact Nat.le_refl _
 ·cases hc;exact hl2
set_option maxRecDepth 100000 in
theorem trod_nilR {H:Type} {enc:TypeId×Value→H} {W:World} {fuel n c:Nat} {a:Option Addr} {x:DataW H×List MemPlace} (hf:DataW.trod enc Tryz.prog W 0 (fun _=>true) true fuel 23 [.slice a n c]=some x) (ha:a=none):c=0:=by
 rcases Deep.open_slice Tryz.underlying23 hf with ⟨hc,_⟩ |⟨a2,len2,cap2,m2,n2,D2,Pl2,hc,_⟩
 ·cases hc;rfl
 ·subst ha;cases hc
set_option maxRecDepth 100000 in
theorem open_hidden {H:Type} {enc:TypeId×Value→H} {W:World} {r:Reach} {b0:Nat} {v:Value} {d:DataW H} {p:List MemPlace} (hval:Value.okWide Tryz.prog W r b0 25 v) (h:DataW.Trod enc Tryz.prog W 0 (fun _=>true) true 25 v d p):
  ∃(a b c:Option Addr) (ca cb cc:Nat) (l:List Fr) (R1 R2:List (List Fr)) (d0 d1 d2:DataW H),v=.agg #[.slice a l.length ca,.slice b R1.length cb,.slice c R2.length cc]∧d=.agg [d0,d1,d2]∧HidM W a b c l R1 R2∧FrcD d0 l∧LsD FrcD d1 R1∧LsD FrcD d2 R2∧l.length≤ca∧(b=none→cb=0)∧(c=none→cc=0):=by
 obtain⟨cs,rfl,hsz⟩:=okWide_struct Tryz.underlying25 hval
 rw[cellsHid] at hsz
 obtain⟨l⟩:=cs
 match l,hsz with
 |[c0,c1,c2],_=>
  obtain⟨fuel,hf⟩:=h
  obtain⟨y0,y1,y2,m,hx,_,hy0,hy1,hy2⟩:=Deep.trod_struct3 Tryz.underlying25 hf
  simp[Value.cells,cellsFs,cellsFr] at hy0 hy1 hy2
  obtain⟨a,ca,l,e0,h0,d0⟩:=open_fracs_at hy0
  obtain⟨b,cb,R1,e1,h1,d1⟩:=trod_frows hy1
  obtain⟨c,cc,R2,e2,h2,d2⟩:=trod_frows hy2
  subst e0
  obtain rfl:c1=_:=by simpa using e1
  obtain rfl:c2=_:=by simpa using e2
  simp only[Prod.mk.injEq] at hx
  exact⟨a,b,c,ca,cb,cc,l,R1,R2,_,_,_,rfl,hx.1,⟨h0,h1,h2⟩,d0,d1,d2,trod_capF hy0,trod_nilR hy1,trod_nilR hy2⟩
set_option maxRecDepth 100000 in
theorem open_intsC {H:Type} {enc:TypeId×Value→H} {W:World} {r:Reach} {b0:Nat} {v:Value} {d:DataW H} {p:List MemPlace} (hval:Value.okWide Tryz.prog W r b0 26 v) (h:DataW.Trod enc Tryz.prog W 0 (fun _=>true) true 26 v d p):
  ∃(a:Option Addr) (cap:Nat) (l:List Int),v=.slice a l.length cap∧IntS W a l∧l.length≤cap∧((d=.nil∧l=[])∨∃rest,d=.slice (l.map idt) rest):=by
 obtain⟨a,cap,l,rfl,h1,_,h3,_⟩:=open_ints hval h
 obtain⟨fuel,hf⟩:=h
 exact⟨a,cap,l,rfl,h1,trod_capI hf,h3⟩
theorem sized_rowsF {H:Type} {dR:DataW H} {R:List (List Fr)} (hwR:(DataW.weightsEach Tryz.prog [23] [dR]).all (·≤reachBytes)=true) (hR:LsD FrcD dR R):R.length≤140737488355328∧∀r∈R,r.length≤140737488355328∧∀f∈r,f.2.1.size≤140737488355328∧f.2.2.size≤140737488355328:=by
 rcases hR with ⟨_,rfl⟩ |⟨E,rest,rfl,he,hp⟩
 ·exact⟨by simp,fun x hx=>by cases hx⟩
 ·constructor
  ·have h1:=sized_count Tryz.underlying23 hwR
   rw[bytesFs,he] at h1
   simp only[reachBytes] at h1
   omega
  ·intro x hx
   obtain⟨k,hk,rfl⟩:=List.getElem_of_mem hx
   have h1:=sized_part Tryz.underlying23 hwR (List.getElem_mem (show k<E.length by omega))
   exact sized_fracs' h1 (j:=0) rfl rfl (hp k hk (by omega))
theorem sized_hidden {H:Type} {ts:List TypeId} {ds:List (DataW H)} (h:(DataW.weightsEach Tryz.prog ts ds).all (·≤reachBytes)=true) {j:Nat} {l:List Fr} {R1 R2:List (List Fr)} {d0 d1 d2:DataW H} (ht:ts[j]? =some 25) (hd:ds[j]? =some (.agg [d0,d1,d2])) (h0:FrcD d0 l) (h1:LsD FrcD d1 R1) (h2:LsD FrcD d2 R2):HHu l R1 R2:=by
 have part:∀(n:Nat),n∈DataW.weightsEach Tryz.prog [22,23,23] [d0,d1,d2]→n≤reachBytes:=fun n hn=>by
  have:=List.all_eq_true.1 h n (DataW.weights_mem_each ht hd n (by
   simp only[DataW.weights,Tryz.underlying25]
   exact hn))
  simpa using this
 have w0:(DataW.weightsEach Tryz.prog [22] [d0]).all (·≤reachBytes)=true:=List.all_eq_true.2 fun n hn=>decide_eq_true (part n (by simp[DataW.weightsEach] at hn⊢;exact .inl hn))
 have w1:(DataW.weightsEach Tryz.prog [23] [d1]).all (·≤reachBytes)=true:=List.all_eq_true.2 fun n hn=>decide_eq_true (part n (by simp[DataW.weightsEach] at hn⊢;exact .inr (.inl hn)))
 have w2:(DataW.weightsEach Tryz.prog [23] [d2]).all (·≤reachBytes)=true:=List.all_eq_true.2 fun n hn=>decide_eq_true (part n (by simp[DataW.weightsEach] at hn⊢;exact .inr (.inr hn)))
 exact⟨sized_fracs' w0 (j:=0) rfl rfl h0,sized_rowsF w1 h1,sized_rowsF w2 h2⟩
end Go.Proofs.YtgamblainfkiaaaGreatDoor

/- Arguments that a call has left alone read as before. -/
namespace Go.Proofs.YtgamblainfkiaaaGreatDoor
open Go.ChangeShapes Go.WideShapes Go.ChangeAt Go.RowKit
theorem below_all {H:Type} {enc:TypeId×Value→H} {P:Program} (hl:laidOutB P=true) {W W':World} (hb:Below W.heap.size W W'):∀ {ts:List TypeId} {vs:List Value} {ds:List (DataW H)} {ps:List MemPlace},
  (ts.all fun t=>P.readableRec t&&decide (t<P.types.size))=true→DataW.TrodAll enc P W 0 (fun _=>true) true ts vs ds ps→DataW.TrodAll enc P W' 0 (fun b=>decide (b<W.heap.size)) true ts vs ds ps
 |[],[],[],_,_,h=>h
 |t::ts,v::vs,d::ds,_,ht,⟨p,q,h,hr,e⟩=>by
  rw[List.all_cons,Bool.and_eq_true,Bool.and_eq_true] at ht
  refine⟨p,q,Below.trod hl ht.1.1 (of_decide_eq_true ht.1.2) h hb ?_,below_all hl hb ht.2 hr,e⟩
  obtain⟨m,hm⟩:=h
  exact DataW.trod_lt m _ _ _ hm
 |[],_::_,_,_,_,h=>by simp[DataW.TrodAll] at h
 |[],[],_::_,_,_,h=>by simp[DataW.TrodAll] at h
 |_::_,[],_,_,_,h=>by simp[DataW.TrodAll] at h
 |_::_,_::_,[],_,_,h=>by simp[DataW.TrodAll] at h
end Go.Proofs.YtgamblainfkiaaaGreatDoor
