/- Rows that may be, in packages chain and hidden; the small questions that package hidden asks. -/
import Derived.Test.YtmbjmiioggfneaaGreatDoorChnPCxNetD
import Derived.Test.YtmbjmiioggfneaaGreatDoorRefSCxDicP
import Derived.Laws.EntriesVeiled
import Derived.Shelf.Slices.CompactI
import Derived.Test.YtmbjmiioggfneaaGreatDoorCore1CxCore2b
import Derived.Deep.RegionHeld3
import Derived.Deep.OwnRows
import Derived.Test.YtmbjmiioggfneaaGreatDoorRefCCxNumR
import Derived.Lib.ItoaNum
import Derived.Test.YtmbjmiioggfneaaGreatDoorMostACxRefA
import Derived.Deep.QuietTactic
import Derived.BigQuiet
import Derived.Lib.AppendZerosOnto
import Derived.Laws.AppendOwnNone
import Derived.Test.YtmbjmiioggfneaaGreatDoorRegTCxNum
namespace Go.Proofs.YtmbjmiioggfneaaGreatDoor
open Go.RowKit Go.Shelf
theorem rowB_eq (l:List Fr):(!(l.any fun f=>decide (frQ f<0))&&decide (fsum l=1))=rowB l:=by
 have h:∀l:List Fr,(!(l.any fun f=>decide (frQ f<0)))=l.all fun f=>decide (¬frQ f<0):=fun l=>by
  induction l with
  |nil=>rfl
  |cons f l ih=>rw[List.any_cons,List.all_cons,Bool.not_or,ih,decide_not]
 rw[rowB,h]
set_option maxRecDepth 100000 in
set_option maxHeartbeats 400000 in
theorem chBelow_any (n zn:Bool) (x y zx zy:ByteArray) (B:Nat) (w:World) (hx:Box w B zn zx zy) (hz:val zn zx zy=0) (hzs:zx.size+zy.size≤100000) (hs:x.size+y.size≤10000):
  Calls Tryz.prog 65 #[.agg #[.bool n,.string x,.string y],.pointer (some ⟨B,0,none⟩)] w fun e w'=>e=.returned (.bool (decide (val n x y<0)))∧Below w.heap.size w w':=by
 have HD:Hid (decide (cmpQ (val n x y) 0<0)=decide (val n x y<0)):=by show _=_;rw[decide_eq_decide];exact cmp_below
 generalize decide (val n x y<0)=R at *
 have hA:=(Below.refl w.heap.size w).alloc (Nat.le_refl _) (FC n x y)
 obtain⟨k0,k1,k2, -⟩:=(Box.new w n x y).facts
 obtain⟨z0,z1,z2, -⟩:=(hx.below hA hx.lt).facts
 go_enter Tryz.func65,Tryz.ntmps65
 go_wp2_with fail
 generalize (w.alloc (FC n x y))=W at *
 refine(fCmp_q (w:=W) (cmpQ (val n x y) 0) rfl hz rfl (by omega) hzs).mono ?_
 rintro e w2 ⟨rfl,hb2⟩
 have HB:=hid (hA.trans (hb2.mono hA.size))
 clear hA hb2 k0 k1 k2 z0 z1 z2
 generalize cmpQ (val n x y) 0=c at *
 go_wp2
 go_ret
 exact⟨by rw[←HD.out];rfl,HB.out⟩
set_option maxRecDepth 100000 in
set_option maxHeartbeats 1000000 in
theorem chRow_any (a:Option Addr) (ca:Nat) (l:List Fr) (w:World) (h:FrS w a l) (hw:fw l≤10000) (hn:l.length≤10000):
  Calls Tryz.prog 32 #[.slice a l.length ca] w fun e w'=>e=.returned (.bool (rowB l))∧Below w.heap.size w w':=by
 have HF:=hid h
 have HS:=hid (fun (V:World) (hV:FrS V a l)=>fSum_any a ca l V hV hw hn)
 have HO0:=hid (fun V:World=>fOf_q (k:=0) (w:=V) 0 0 rfl (by decide) (by rfl))
 have HO1:=hid (fun V:World=>fOf_q (k:=1) (w:=V) 1 1 rfl (by decide) (by rfl))
 have HQ:Hid (val (sgn (fsum l)) (nu (fsum l)) (de (fsum l))=fsum l∧(nu (fsum l)).size+(de (fsum l)).size≤100000):=⟨val_own _,by
  have h1:=fits_qw (fits_sum l)
  rw[own_size]
  omega⟩
 have H1:Hid (val (sgn 1) (nu 1) (de 1)=1∧(nu 1).size+(de 1).size≤100000):=⟨val_own _,by
  have h1:qw 1≤2:=qw_one2
  rw[own_size]
  omega⟩
 have HC:=hid (fun (B:Nat) (V:World) (hV:FrS V a l) (hx:Box V B (sgn 0) (nu 0) (de 0))=>conFr_any a ca 65 #[.pointer (some ⟨B,0,none⟩)] l (fun f=>decide (frQ f<0)) V hV hn (enters_of Tryz.func65 (by kernel_rfl) rfl) (fun q hq U hU=>chBelow_any q.1 (sgn 0) q.2.1 q.2.2 (nu 0) (de 0) B U (hx.below hU hx.lt) (val_own _) (by have:=qw_zero;rw[own_size];omega) (by have:=fw_mem hq;omega)))
 have HR:=hid (rowB_eq l)
 have HCS:=hid (cmp_same (p:=fsum l))
 generalize rowB l=rb at *
 generalize (l.any fun f=>decide (frQ f<0))=an at *
 clear h hw
 simp only[C] at HS
 generalize sgn 0=zn at *
 generalize nu 0=zx at *
 generalize de 0=zy at *
 go_enter Tryz.func32,Tryz.ntmps32
 go_wp2_with fail
 refine(HO0.out _).mono ?_
 rintro e w0 ⟨rfl,hb0⟩
 have HB0:=hid (hb0.alloc hb0.size (FC zn zx zy))
 have HX:=hid (Box.new w0 zn zx zy)
 clear hb0
 go_wp2_with fail
 generalize (w0.alloc (FC zn zx zy))=wa at *
 generalize w0.heap.size=B at *
 refine(HC.out B _ (HF.out.below HB0.out) HX.out).mono ?_
 rintro e w1 ⟨rfl,hb1⟩
 have HB1:=hid (HB0.out.trans (hb1.mono HB0.out.size))
 clear hb1
 cases an with
 |true=>
  go_wp2
  go_ret
  exact⟨by rw[←HR.out];rfl,HB1.out⟩
 |false=>
  go_wp2_with fail
  refine(HS.out _ (HF.out.below HB1.out)).mono ?_
  rintro e w5 ⟨rfl,hb5⟩
  have HB5:=hid (HB1.out.trans (hb5.mono HB1.out.size))
  clear hb5
  go_wp2_with fail
  refine(HO1.out _).mono ?_
  rintro e w6 ⟨rfl,hb6⟩
  have HB6:=hid (HB5.out.trans (hb6.mono HB5.out.size))
  clear hb6
  go_wp2_with fail
  refine(fCmp_q (w:=w6) (cmpQ (fsum l) 1) HQ.out.1 H1.out.1 rfl HQ.out.2 H1.out.2).mono ?_
  rintro e w7 ⟨rfl,hb7⟩
  have HB7:=hid (HB6.out.trans (hb7.mono HB6.out.size))
  clear hb7
  generalize cmpQ (fsum l) 1=c at *
  go_wp2
  go_ret
  exact⟨by rw[←HR.out,←HCS.out];rfl,HB7.out⟩
end Go.Proofs.YtmbjmiioggfneaaGreatDoor

/- Lists of fractions that packages hidden and chain make: times, shown, moved; the first greatest. -/
namespace Go.Proofs.YtmbjmiioggfneaaGreatDoor
open Go.RowKit Go.Shelf
def lF (n:Nat) (f:Nat→Rat):List Fr:=(List.range n).map fun i=>qF (f i)
theorem lF_length (n:Nat) (f:Nat→Rat):(lF n f).length=n:=by simp[lF]
theorem lF_get {n:Nat} {f:Nat→Rat} {i:Nat} (h:i<(lF n f).length):(lF n f)[i]=qF (f i):=by simp[lF]
theorem lF_get? {n:Nat} {f:Nat→Rat} {i:Nat} (h:i<n):(lF n f)[i]? =some (qF (f i)):=by
 rw[List.getElem?_eq_getElem (by rw[lF_length];exact h),lF_get]
theorem lF_congr {n:Nat} {f g:Nat→Rat} (h:∀i,i<n→f i=g i):lF n f=lF n g:=by
 refine List.ext_getElem (by rw[lF_length,lF_length]) fun i h1 h2=>?_
 rw[lF_get,lF_get,h i (by rw[lF_length] at h1;exact h1)]
theorem fsum_lF (f:Nat→Rat):∀n,fsum (lF n f)=sumR f n
 |0=>rfl
 |n+1=>by
  have e:lF (n+1) f=lF n f++[qF (f n)]:=by simp[lF,List.range_succ]
  rw[e,fsum_snoc,fsum_lF f n,sumR]
  congr 1
  exact frQ_qF _
structure Lst (n:Nat) (f:Nat→Rat) (l:List Fr):Prop where
 len:l.length=n
 is:∀i (h:i<l.length),frQ l[i]=f i
 size:∀i (h:i<l.length),l[i].2.1.size+l[i].2.2.size≤30010
theorem fsum_isF {f:Nat→Rat}:∀(l:List Fr) (n:Nat),l.length=n→(∀i (h:i<l.length),frQ l[i]=f i)→fsum l=sumR f n:=fun l=>by
 induction l using snoc_ind with
 |h0=>intro n hn _;subst hn;rfl
 |h1 l x ih=>
  intro n hn hi
  obtain rfl:n=l.length+1:=by rw[←hn];simp
  rw[fsum_snoc,sumR,ih l.length rfl fun i h=>?_]
  ·congr 1
   have:=hi l.length (by simp)
   rw[List.getElem_append_right (Nat.le_refl _)] at this
   exact(show frQ x=f l.length by simpa using this)
  ·have:=hi i (by simp;omega)
   rw[List.getElem_append_left h] at this
   exact this
structure MF (w:World) (G:Nat) (l:List Fr) (U:World):Prop where
 row:RowF U G l
 bel:Below w.heap.size w U
theorem MF.step {w U U':World} {G:Nat} {l:List Fr} (h:MF w G l U) (hb:Below U.heap.size U U'):MF w G l U':=⟨h.row.below hb h.row.lt,h.bel.trans (hb.mono h.bel.size)⟩
theorem MF.drew {w U:World} {G:Nat} {l:List Fr} (h:MF w G l U):MF w G l U.drew:=⟨h.row,h.bel.drew⟩
theorem MF.put {w U:World} {G:Nat} {l:List Fr} (h:MF w G l U) (hg:w.heap.size≤G) (i:Nat) (f:Fr):MF w G (l.set i f) (((U.setCell ⟨G,i*3,none⟩ (.bool f.1)).setCell ⟨G,i*3+1,none⟩ (.string f.2.1)).setCell ⟨G,i*3+2,none⟩ (.string f.2.2)):=
 ⟨h.row.put i f,((h.bel.setCell (p:=⟨G,i*3,none⟩) hg _).setCell (p:=⟨G,i*3+1,none⟩) hg _).setCell (p:=⟨G,i*3+2,none⟩) hg _⟩
end Go.Proofs.YtmbjmiioggfneaaGreatDoor

/- shown of package hidden, moved of package chain. -/
namespace Go.Proofs.YtmbjmiioggfneaaGreatDoor
open Go.RowKit Go.Shelf
theorem Box.away {w:World} {g:Nat} {n:Bool} {x y:ByteArray} (h:Box w g n x y) (b j:Nat) (v:Value) (hne:g≠b):Box (w.setCell ⟨b,j,none⟩ v) g n x y:=(Below.heap_setCell w ⟨b,j,none⟩ v g hne).trans h
end Go.Proofs.YtmbjmiioggfneaaGreatDoor

/- Plain facts for the sums' order: taking two variables out in either order leaves the same numbers; what has nothing of a variable may be taken out of the sum. -/
namespace Go.Proofs.YtmbjmiioggfneaaGreatDoor
open Go.RowKit Go.Shelf
def Sml (s:Nat) (l:List Fr):Prop:=∀f∈l,∃q,f=qF q∧qw q≤s
end Go.Proofs.YtmbjmiioggfneaaGreatDoor

/- The law's tables: what Out and Product answer there, and that the orders agree. -/
namespace Go.Proofs.YtmbjmiioggfneaaGreatDoor
open Go.RowKit Go.Shelf
structure TL (sizes vars:List Int) (l:List Fr) (s:Nat):Prop where
 up:Up vars sizes.length
 len:l.length=cnt (toN sizes) (toN vars)
 sml:Sml s l
end Go.Proofs.YtmbjmiioggfneaaGreatDoor

/- The document's answer: Product. -/
namespace Go.Proofs.YtmbjmiioggfneaaGreatDoor
open Go.RowKit Go.Shelf
theorem RwI.below {w w':World} {B:Nat} {v:Value} {l:List Int} (h:RwI w B v l) (hb:Below w.heap.size w w'):RwI w' B v l:=by
 refine⟨h.1,h.2.imp id ?_⟩
 rintro⟨g,cap,cur,h1,h2,h3,h4⟩
 exact⟨g,cap,cur,h1,h2,(hb.block g (Array.getElem?_eq_some_iff.1 h3).1).trans h3,h4⟩
end Go.Proofs.YtmbjmiioggfneaaGreatDoor

/- The law's raw numbers: Pick, sizesOf, All, Some, Less. -/
namespace Go.Proofs.YtmbjmiioggfneaaGreatDoor
open Go.RowKit Go.Shelf
theorem new_int (w:World) (u:Int):IntS (w.alloc (.cells #[.int .i64 u] 3)) (some ⟨w.heap.size,0,none⟩) [u]:=fun k hk=>by
 obtain rfl:k=0:=by simp at hk;omega
 exact⟨w.heap.size,0,rfl,by simp,(Boxed.new w _ _).cell⟩
end Go.Proofs.YtmbjmiioggfneaaGreatDoor

/- The law's comparison of two answers beside errors. -/
namespace Go.Proofs.YtmbjmiioggfneaaGreatDoor
open Go.RowKit
set_option maxRecDepth 100000 in
set_option maxHeartbeats 1000000 in
theorem lawNought_any (w:World):
  Calls Tryz.prog 62 #[.agg #[.bool false,.string ⟨#[]⟩,.string ⟨#[]⟩]] w fun e w'=>e=.returned (.bool true)∧Below w.heap.size w w':=by
 go_enter Tryz.func62,Tryz.ntmps62
 have hB0:Below w.heap.size w (w.alloc (FC false ⟨#[]⟩ ⟨#[]⟩)):=(Below.refl _ w).alloc (Nat.le_refl _) _
 go_wp2_with fail
 go_quiet (fail)
 go_wp2
 go_ret
 exact⟨rfl,below_drewN hB0 _⟩
set_option maxRecDepth 100000 in
set_option maxHeartbeats 1000000 in
theorem oneFrac_ok (n:Bool) (x y:ByteArray) (w:World):
  Calls Tryz.prog 26 #[.agg #[.bool n,.string x,.string y],.int .i64 0,.agg #[.bool n,.string x,.string y],.int .i64 0] w fun e w'=>e=.returned (.bool true)∧Below w.heap.size w w':=by
 go_enter Tryz.func26,Tryz.ntmps26
 have hB0:Below w.heap.size w ((w.alloc (FC n x y)).alloc (FC n x y)):=((Below.refl _ w).alloc (Nat.le_refl _) _).alloc (by simp) _
 go_wp2
 go_ret
 exact⟨rfl,hB0⟩
set_option maxRecDepth 100000 in
set_option maxHeartbeats 1000000 in
theorem oneFrac_err (k:Int) (hk:¬k=0) (w:World):
  Calls Tryz.prog 26 #[.agg #[.bool false,.string ⟨#[]⟩,.string ⟨#[]⟩],.int .i64 k,.agg #[.bool false,.string ⟨#[]⟩,.string ⟨#[]⟩],.int .i64 k] w fun e w'=>e=.returned (.bool true)∧Below w.heap.size w w':=by
 have hkb:(k==0)=false:=beq_eq_false_iff_ne.2 hk
 go_enter Tryz.func26,Tryz.ntmps26
 have hB0:Below w.heap.size w ((w.alloc (FC false ⟨#[]⟩ ⟨#[]⟩)).alloc (FC false ⟨#[]⟩ ⟨#[]⟩)):=((Below.refl _ w).alloc (Nat.le_refl _) _).alloc (by simp) _
 go_wp2_with fail
 refine(lawNought_any _).mono ?_
 rintro e w1 ⟨rfl,hb1⟩
 have hB1:=hB0.trans (hb1.mono hB0.size)
 go_wp2
 go_ret
 exact⟨rfl,hB1⟩
end Go.Proofs.YtmbjmiioggfneaaGreatDoor

/- The law's small functions on tables. -/
namespace Go.Proofs.YtmbjmiioggfneaaGreatDoor
open Go.RowKit Go.Shelf
set_option maxRecDepth 100000 in
set_option maxHeartbeats 400000 in
theorem sameInts_any (a b:Option Addr) (ca cb:Nat) (l:List Int) (w:World) (ha:IntS w a l) (hb:IntS w b l) (hn:l.length≤100000):
  Calls Tryz.prog 40 #[.slice a l.length ca,.slice b l.length cb] w fun e w'=>e=.returned (.bool true)∧Below w.heap.size w w':=by
 have HA:=hid ha
 have HB:=hid hb
 clear ha hb
 go_enter Tryz.func40,Tryz.ntmps40
 go_wp2_with fail
 go_loopw [5] (fun iv wr=>∃i:Nat,i≤l.length∧iv=.int .i64 i∧Hid (Below w.heap.size w wr)) (fun iv _=>l.length - (intOf iv).toNat)
 case atStart=>exact⟨0,Nat.zero_le _,rfl,Below.refl _ _⟩
 case round=>
  obtain⟨i,hi,rfl,HW⟩:=hrel
  by_cases hlt:i<l.length
  ·obtain⟨g,o,rfl,hg,c0⟩:=(HA.out.below HW.out) i hlt
   obtain⟨g2,o2,rfl,hg2,c2⟩:=(HB.out.below HW.out) i hlt
   generalize l[i]=x at *
   go_wp2_with fail
   go_quiet (fail)
   go_wp2
   go_roundw
   case rel=>exact⟨i+1,by omega,by go_num,below_dn HW.out _⟩
   case measure=>simp[intOf];omega
  ·obtain rfl:i=l.length:=by omega
   go_wp2
   go_ret
   exact⟨rfl,HW.out⟩
set_option maxRecDepth 100000 in
set_option maxHeartbeats 400000 in
theorem sameFracs_any (a b:Option Addr) (ca cb:Nat) (l:List Fr) (w:World) (ha:FrS w a l) (hb:FrS w b l) (hn:l.length≤100000):
  Calls Tryz.prog 11 #[.slice a l.length ca,.slice b l.length cb] w fun e w'=>e=.returned (.bool true)∧Below w.heap.size w w':=by
 have HA:=hid ha
 have HB:=hid hb
 clear ha hb
 go_enter Tryz.func11,Tryz.ntmps11
 go_wp2_with fail
 go_loopw [5] (fun iv wr=>∃i:Nat,i≤l.length∧iv=.int .i64 i∧Hid (Below w.heap.size w wr)) (fun iv _=>l.length - (intOf iv).toNat)
 case atStart=>exact⟨0,Nat.zero_le _,rfl,Below.refl _ _⟩
 case round=>
  obtain⟨i,hi,rfl,HW⟩:=hrel
  by_cases hlt:i<l.length
  ·obtain⟨g,o,rfl,hg,a0,a1,a2⟩:=(HA.out.below HW.out) i hlt
   obtain⟨g2,o2,rfl,hg2,b0,b1,b2⟩:=(HB.out.below HW.out) i hlt
   generalize l[i]=f at *
   obtain⟨fn,fx,fy⟩:=f
   simp only at a0 a1 a2 b0 b1 b2
   go_wp2_with fail
   go_quiet (fail)
   go_wp2
   go_roundw
   case rel=>exact⟨i+1,by omega,by go_num,below_dn HW.out _⟩
   case measure=>simp[intOf];omega
  ·obtain rfl:i=l.length:=by omega
   go_wp2
   go_ret
   exact⟨rfl,HW.out⟩
end Go.Proofs.YtmbjmiioggfneaaGreatDoor

/- The law's raw numbers: tableOf. -/
namespace Go.Proofs.YtmbjmiioggfneaaGreatDoor
open Go.RowKit Go.Shelf
theorem wp_append_fr {w:World} {o:Oper} {a:Act} {K:Act→World→Prop} {Q:Exit→Act→World→Prop} (s x:Operand)
  (ho:o.op=.call {callee:=.builtin .append,args:= #[s,x],argTypes:= #[23,23]}) (base:Nat) (v:Value) (l:List Fr) (f:Fr) (hs:a.eval s=v) (hown:RwF w base v l) (g:Nat) (hx:a.eval x=.slice (some ⟨g,0,none⟩) 1 1) (hg:Box w g f.1 f.2.1 f.2.2) (hlen:l.length+1≤100000) (hbase:base≤w.heap.size)
  (h:∀v' w',RwF w' base v' (l++[f])→w.grownBy w' v.ownBlock→K (a.put o.dst v') w'):o.wp Tryz.prog a w K Q:=by
 obtain⟨i0,hi0,hz0,hz1,hz2⟩:=info_parts Tryz.infoFrac
 refine wp_append_own _ s x 23 ho base 44 i0 (.agg #[.bool false,.string ⟨#[]⟩,.string ⟨#[]⟩]) 3 40 Tryz.underlying23 hi0 hz0 hz1 hz2 rfl (by decide) v l.length _ hs hown ⟨g,0,none⟩ 1 1 [.bool f.1,.string f.2.1,.string f.2.2] hx rfl ?_ ?_ (by unfold maxLen;omega) (by omega) hbase ?_
 ·intro j u hj
  match j,hj with
  |0,hj=>cases hj;exact hg.c0
  |1,hj=>cases hj;exact hg.c1
  |2,hj=>cases hj;exact hg.c2
  |j+3,hj=>simp at hj
 ·intro u hu
  simp only[List.mem_cons,List.not_mem_nil,or_false] at hu
  rcases hu with rfl |rfl |rfl<;>rfl
 ·intro v' w' h1 h2 _
  refine h v' w' ?_ h2
  rw[RwF,List.length_append,frC_snoc]
  exact h1
end Go.Proofs.YtmbjmiioggfneaaGreatDoor

/- The document's answer: a row of raw weights. -/
namespace Go.Proofs.YtmbjmiioggfneaaGreatDoor
open Go.RowKit Go.Shelf Go.Lib
theorem RwF.lower {w:World} {B B':Nat} {v:Value} {l:List Fr} (h:RwF w B v l) (hb:B'≤B):RwF w B' v l:=by
 refine⟨h.1,?_⟩
 rcases h.2 with h1 |⟨g,cap,cur,h1,h2,h3,h4⟩
 ·exact .inl h1
 ·exact .inr ⟨g,cap,cur,h1,Nat.le_trans hb h2,h3,h4⟩
theorem RwI.lower {w:World} {B B':Nat} {v:Value} {l:List Int} (h:RwI w B v l) (hb:B'≤B):RwI w B' v l:=by
 refine⟨h.1,?_⟩
 rcases h.2 with h1 |⟨g,cap,cur,h1,h2,h3,h4⟩
 ·exact .inl h1
 ·exact .inr ⟨g,cap,cur,h1,Nat.le_trans hb h2,h3,h4⟩
end Go.Proofs.YtmbjmiioggfneaaGreatDoor

/- The document's answer: arrays of what a call makes: variables, lists of parents, lists of rows. -/
namespace Go.Proofs.YtmbjmiioggfneaaGreatDoor
open Go.RowKit Go.Shelf Go.Lib
def KeepT (t:TypeId) (w w':World):Prop:=∀(k:Nat) (c:Array Value) (fr:Nat×Nat),w.heap[k]? =some (Obj.cells c t fr)→w'.heap[k]? =some (Obj.cells c t fr)
theorem KeepT.below {t:TypeId} {w w':World} (hb:Below w.heap.size w w'):KeepT t w w':=fun k _ _ h=>(hb.block k (Array.getElem?_eq_some_iff.1 h).1).trans h
theorem KeepT.grown {t t':TypeId} {w w':World} {row:Option Nat} (hg:w.grownBy w' row) (hr:∀g,row=some g→∃c fr,w.heap[g]? =some (.cells c t' fr)) (hne:t≠t'):KeepT t w w':=fun k c fr h=>by
 refine(hg.block k (Array.getElem?_eq_some_iff.1 h).1 fun e=>?_).trans h
 obtain⟨c',fr',h'⟩:=hr k e.symm
 rw[h] at h'
 cases h'
 exact hne rfl
theorem KeepT.set {t t':TypeId} {w:World} {b:Nat} {c':Array Value} {fr':Nat×Nat} (hb:w.heap[b]? =some (.cells c' t' fr')) (hne:t≠t') (j:Nat) (y:Value):KeepT t w (w.setCell ⟨b,j,none⟩ y):=fun k c fr h=>by
 refine(Below.heap_setCell w ⟨b,j,none⟩ y k fun e=>?_).trans h
 have e':k=b:=e
 subst e'
 rw[h] at hb
 cases hb
 exact hne rfl
theorem owns_keep {w w':World} {B:Nat} {e:TypeId} {s:Nat} {v:Value} {n:Nat} {xs:List Value} (h:w.ownsRow B e s v n xs) (hk:KeepT e w w'):w'.ownsRow B e s v n xs:=by
 refine⟨h.1,?_⟩
 rcases h.2 with h1 |⟨g,cap,cur,h1,h2,h3,h4⟩
 ·exact .inl h1
 ·exact .inr ⟨g,cap,cur,h1,h2,hk _ _ _ h3,h4⟩
theorem owns_typed {w:World} {B:Nat} {e:TypeId} {s:Nat} {v:Value} {n:Nat} {xs:List Value} (h:w.ownsRow B e s v n xs):∀g,v.ownBlock=some g→∃c fr,w.heap[g]? =some (.cells c e fr):=fun g hg=>by
 rcases h.2 with ⟨rfl,_⟩ |⟨g',cap,cur,rfl,h2,h3,h4⟩
 ·cases hg
 ·cases hg
  exact⟨_,_,h3⟩
theorem owns_from {w:World} {B:Nat} {e:TypeId} {s:Nat} {v:Value} {n:Nat} {xs:List Value} (h:w.ownsRow B e s v n xs):∀g,v.ownBlock=some g→B≤g:=fun g hg=>by
 rcases h.2 with ⟨rfl,_⟩ |⟨g',cap,cur,rfl,h2,h3,h4⟩
 ·cases hg
 ·cases hg
  exact h2
theorem owns_slice {w:World} {B:Nat} {e:TypeId} {s:Nat} {v:Value} {n:Nat} {xs:List Value} (h:w.ownsRow B e s v n xs):∃a c,v=.slice a n c∧(a=none→c=0):=by
 rcases h.2 with ⟨rfl,rfl⟩ |⟨g',cap,cur,rfl,h2,h3,h4⟩
 ·exact⟨none,0,rfl,fun _=>rfl⟩
 ·exact⟨_,_,rfl,fun e=>by cases e⟩
theorem owns_cell {w:World} {B:Nat} {e:TypeId} {s:Nat} {a:Option Addr} {n c:Nat} {xs:List Value} (h:w.ownsRow B e s (.slice a n c) n xs) {j:Nat} (hj:j<xs.length):∃g,a=some ⟨g,0,none⟩∧g<w.heap.size∧w.cell? ⟨g,j,none⟩=some xs[j]:=by
 rcases h.2 with ⟨h1,h2⟩ |⟨g',cap,cur,h1,h2,h3,h4,h5,h6,h7⟩
 ·have:=h.1
  subst h2
  rw[Nat.zero_mul] at this
  omega
 ·cases h1
  refine⟨g',rfl,(Array.getElem?_eq_some_iff.1 h3).1,?_⟩
  have hl:j<n*s:=by have:=h.1;omega
  rw[cell_of_row w g' j _ _ (0,0) h3]
  have e':cur[j]? =(cur.toList.take (n*s))[j]?:=by
   rw[List.getElem?_take,if_pos hl,Array.getElem?_toList]
  rw[e',h7,List.getElem?_eq_getElem hj]
abbrev PL:Type:=Value×List Int
def OwL (w:World) (B:Nat) (y:Value) (P:List PL):Prop:=w.ownsRow B 24 1 y P.length (P.map (·.1))∧∀p∈P,RwI w B p.1 p.2
abbrev PR:Type:=Value×List Fr
def OwR (w:World) (B:Nat) (z:Value) (P:List PR):Prop:=w.ownsRow B 23 1 z P.length (P.map (·.1))∧∀p∈P,RwF w B p.1 p.2
theorem OwL.keep {w w':World} {B:Nat} {x:Value} {P:List PL} (h:OwL w B x P) (h1:KeepT 24 w w') (h2:KeepT 3 w w'):OwL w' B x P:=⟨owns_keep h.1 h1,fun p hp=>owns_keep (h.2 p hp) h2⟩
theorem OwR.keep {w w':World} {B:Nat} {x:Value} {P:List PR} (h:OwR w B x P) (h1:KeepT 23 w w') (h2:KeepT 44 w w'):OwR w' B x P:=⟨owns_keep h.1 h1,fun p hp=>owns_keep (h.2 p hp) h2⟩
theorem OwL.nil (w:World) (B:Nat):OwL w B (.slice none 0 0) []:=⟨⟨rfl,.inl ⟨rfl,rfl⟩⟩,fun p hp=>by cases hp⟩
theorem OwR.nil (w:World) (B:Nat):OwR w B (.slice none 0 0) []:=⟨⟨rfl,.inl ⟨rfl,rfl⟩⟩,fun p hp=>by cases hp⟩
theorem Tryz.infoInts:(Tryz.prog.info? 24).map (fun i=>(i.zero,i.size,i.bytes))=some (some (.slice none 0 0),1,24):=by kernel_rfl
theorem Tryz.infoFracs:(Tryz.prog.info? 23).map (fun i=>(i.zero,i.size,i.bytes))=some (some (.slice none 0 0),1,24):=by kernel_rfl
theorem wpList_append_rs {w:World} {ops:Array Oper} {rest:List Oper} {o:Oper} {a:Act} {Q:Exit→Act→World→Prop} (hgd:o.guard=none) (s x:Operand)
  (ho:o.op=.call {callee:=.builtin .append,args:= #[s,x],argTypes:= #[22,22]}) (base:Nat) (v:Value) (P:List PR) (q:Value) (hq:SlV q) (hs:a.eval s=v) (hown:w.ownsRow base 23 1 v P.length (P.map (·.1))) (g:Nat) (hx:a.eval x=.slice (some ⟨g,0,none⟩) 1 1) (hg:w.cell? ⟨g,0,none⟩=some q) (hlen:P.length+1≤100000) (hbase:base≤w.heap.size)
  (h:∀v' w',w'.ownsRow base 23 1 v' (P.length+1) (P.map (·.1)++[q])→w.grownBy w' v.ownBlock→wpList Tryz.prog ops Q rest (a.put o.dst v') w'):wpList Tryz.prog ops Q (o::rest) a w:=by
 obtain⟨i0,hi0,hz0,hz1,hz2⟩:=info_parts Tryz.infoFracs
 refine wpList_append_own _ hgd s x 22 ho base 23 i0 (.slice none 0 0) 1 24 Tryz.underlying22 hi0 hz0 hz1 hz2 rfl (by decide) v P.length _ hs hown ⟨g,0,none⟩ 1 1 [q] hx rfl ?_ ?_ (by unfold maxLen;omega) (by omega) hbase ?_
 ·intro j u hj
  match j,hj with
  |0,hj=>cases hj;exact hg
  |j+1,hj=>simp at hj
 ·intro u hu
  simp only[List.mem_cons,List.not_mem_nil,or_false] at hu
  subst hu
  obtain⟨_,_,_,rfl⟩:=hq
  rfl
 ·intro v' w' h1 h2 _
  exact h v' w' h1 h2
theorem frC_append (a:List Fr):∀l,frC (l++a)=frC l++frC a
 |[]=>rfl
 |f::l=>by
  show Value.bool f.1::Value.string f.2.1::Value.string f.2.2::frC (l++a)=_
  rw[frC_append a l]
  rfl
theorem frC_cell {w:World} {g o:Nat}:∀ {l:List Fr},FrS w (some ⟨g,o,none⟩) l→∀j u,(frC l)[j]? =some u→w.cell? ((⟨g,o,none⟩:Addr).add j)=some u∧u.oneCell'=true:=by
 intro l h j u hj
 have hjl:j<(frC l).length:=(List.getElem?_eq_some_iff.1 hj).1
 rw[frC_length] at hjl
 have hk:j/3<l.length:=by omega
 obtain⟨g',o',e,_,h0,h1,h2⟩:=h (j/3) hk
 cases e
 have hadd:(⟨g,o,none⟩:Addr).add j=⟨g,o+j,none⟩:=by
  rw[Addr.add]
  by_cases h0:j=0
  ·subst h0;simp
  ·simp[h0]
 have hget:=frC_get l (j/3) hk
 rw[hadd]
 have hm:j % 3=0∨j % 3=1∨j % 3=2:=by omega
 rcases hm with hm |hm |hm
 ·have e:j=j/3*3:=by omega
  rw[e] at hj⊢
  rw[hget.1] at hj
  cases hj
  exact⟨h0,rfl⟩
 ·have e:j=j/3*3+1:=by omega
  rw[e] at hj⊢
  rw[hget.2.1] at hj
  cases hj
  exact⟨by rw[←Nat.add_assoc];exact h1,rfl⟩
 ·have e:j=j/3*3+2:=by omega
  rw[e] at hj⊢
  rw[hget.2.2] at hj
  cases hj
  exact⟨by rw[←Nat.add_assoc];exact h2,rfl⟩
theorem wpList_append_frs {w:World} {ops:Array Oper} {rest:List Oper} {o:Oper} {a:Act} {Q:Exit→Act→World→Prop} (hgd:o.guard=none) (s x:Operand)
  (ho:o.op=.call {callee:=.builtin .append,args:= #[s,x],argTypes:= #[23,23]}) (base:Nat) (v:Value) (l la:List Fr) (hs:a.eval s=v) (hown:RwF w base v l) (g og ca:Nat) (hx:a.eval x=.slice (some ⟨g,og,none⟩) la.length ca) (hf:FrS w (some ⟨g,og,none⟩) la) (hlen:l.length+la.length≤100000) (hbase:base≤w.heap.size)
  (h:∀v' w',RwF w' base v' (l++la)→w.grownBy w' v.ownBlock→wpList Tryz.prog ops Q rest (a.put o.dst v') w'):wpList Tryz.prog ops Q (o::rest) a w:=by
 obtain⟨i0,hi0,hz0,hz1,hz2⟩:=info_parts Tryz.infoFrac
 refine wpList_append_own _ hgd s x 23 ho base 44 i0 (.agg #[.bool false,.string ⟨#[]⟩,.string ⟨#[]⟩]) 3 40 Tryz.underlying23 hi0 hz0 hz1 hz2 rfl (by decide) v l.length _ hs hown ⟨g,og,none⟩ la.length ca (frC la) hx (by rw[frC_length];omega) (fun j u hj=>(frC_cell hf j u hj).1) (fun u hu=>?_) (by unfold maxLen;omega) (by omega) hbase ?_
 ·obtain⟨j,hj,rfl⟩:=List.getElem_of_mem hu
  exact(frC_cell hf j _ (List.getElem?_eq_getElem hj)).2
 ·intro v' w' h1 h2 _
  refine h v' w' ?_ h2
  rw[RwF,List.length_append,frC_append]
  exact h1
end Go.Proofs.YtmbjmiioggfneaaGreatDoor

/- Chains and hidden chains that may be: Check, Step, check. -/
namespace Go.Proofs.YtmbjmiioggfneaaGreatDoor
open Go.RowKit Go.Shelf
structure RwsOK (n m:Nat) (R:List (List Fr)):Prop where
 len:R.length=n
 each:∀i (h:i<R.length),R[i].length=m
 fw:∀i (h:i<R.length),fw R[i]≤10000
 row:∀i (h:i<R.length),rowB R[i]=true
set_option maxRecDepth 100000 in
set_option maxHeartbeats 1000000 in
theorem chCheck_yes (c:Option Addr) (cc n:Nat) (R:List (List Fr)) (w:World) (hR:FsS w c R) (h:RwsOK n n R) (h1:1≤n) (hn:n≤6):
  Calls Tryz.prog 9 #[.slice c n cc] w fun e w'=>e=.returned (.int .i64 0)∧Below w.heap.size w w':=by
 have HFR:=hid hR
 have HO:=hid h
 clear hR h
 go_enter Tryz.func9,Tryz.ntmps9
 go_wp2_with fail
 go_loopw [17] (fun iv wr=>∃i:Nat,i≤n∧iv=.int .i64 i∧w=wr) (fun iv _=>n - (intOf iv).toNat)
 case atStart=>exact⟨0,Nat.zero_le _,rfl,rfl⟩
 case round=>
  obtain⟨i,hi,rfl,rfl⟩:=hrel
  by_cases hlt:i<n
  ·have hiR:i<R.length:=by rw[HO.out.len];exact hlt
   obtain⟨gc,oc,bc,cr,rfl,hgc,c0, -, -⟩:=HFR.out i hiR
   rw[HO.out.each i hiR] at c0
   go_wp2
   go_roundw
   case rel=>exact⟨i+1,by omega,by go_num,trivial⟩
   case measure=>simp[intOf];omega
  ·obtain rfl:i=n:=by omega
   go_wp2_with fail
   go_loopw [29] (fun kv wr=>∃k:Nat,k≤i∧kv=.int .i64 k∧Hid (Below w.heap.size w wr)) (fun kv _=>i - (intOf kv).toNat)
   case atStart=>exact⟨0,Nat.zero_le _,rfl,Below.refl _ _⟩
   case round=>
    obtain⟨k,hk,rfl,HB⟩:=hrel
    by_cases hlt2:k<i
    ·have hkR:k<R.length:=by rw[HO.out.len];exact hlt2
     obtain⟨gc,oc,bc,cr,rfl,hgc,c0,hfr, -⟩:=(HFR.out.below HB.out) k hkR
     have hel:=HO.out.each k hkR
     have HRO:=hid (chRow_any bc cr R[k] wr hfr (HO.out.fw k hkR) (by omega))
     rw[HO.out.row k hkR] at HRO
     clear hfr hel
     generalize R[k].length=rl at *
     go_wp2_with fail
     refine HRO.out.mono ?_
     rintro e w2 ⟨rfl,hb2⟩
     have HB2:=hid (HB.out.trans (hb2.mono HB.out.size))
     clear hb2
     go_wp2
     go_roundw
     case rel=>exact⟨k+1,by omega,by go_num,HB2⟩
     case measure=>simp[intOf];omega
    ·obtain rfl:k=i:=by omega
     go_wp2
     go_ret
     exact⟨rfl,HB.out⟩
end Go.Proofs.YtmbjmiioggfneaaGreatDoor

/- forward of package hidden. -/
namespace Go.Proofs.YtmbjmiioggfneaaGreatDoor
open Go.RowKit Go.Shelf
def RowV (w:World) (G:Nat) (X:List Value):Prop:=w.heap[G]? =some (.cells X.toArray 23 (0,0))
theorem RowV.cell {w:World} {g:Nat} {X:List Value} (h:RowV w g X) (j:Nat) (hj:j<X.length):w.cell? ⟨g,j,none⟩=some X[j]:=by
 rw[cell_of_row w g j _ _ (0,0) h]
 simp[hj]
theorem RowV.fz {w:World} {g:Nat} {X:List Value} (h:RowV w g X) (j:Nat):w.frozen? ⟨g,j,none⟩=false:=frozen_of_row w g j _ _ h
theorem RowV.lt {w:World} {g:Nat} {X:List Value} (h:RowV w g X):g<w.heap.size:=(Array.getElem?_eq_some_iff.1 h).1
theorem RowV.below {w w':World} {g b:Nat} {X:List Value} (h:RowV w g X) (hb:Below b w w') (hg:g<b):RowV w' g X:=(hb.block g hg).trans h
theorem RowV.set {w:World} {g:Nat} {X:List Value} (h:RowV w g X) (j:Nat) (v:Value):RowV (w.setCell ⟨g,j,none⟩ v) g (X.set j v):=by
 have h1:(w.setCell ⟨g,j,none⟩ v).heap[g]? =some (.cells (X.toArray.setIfInBounds j v) 23 (0,0)):=heap_setCell_same w g j _ _ _ h
 rw[RowV,h1]
 simp
theorem made_slices (n:Nat):(madeCells (Value.slice none 0 0).cells (n*1)).toList=List.replicate n (.slice none 0 0):=by
 rw[show (Value.slice none 0 0).cells= #[Value.slice none 0 0] from rfl,toList_madeCells_one,Nat.mul_one]
end Go.Proofs.YtmbjmiioggfneaaGreatDoor

/- Chains: equations and rows of bools in memory. -/
namespace Go.Proofs.YtmbjmiioggfneaaGreatDoor
open Go.RowKit Go.Shelf
theorem lF_set {m:Nat} {f:Nat→Rat} (k:Nat) (q:Rat):(lF m f).set k (qF q)=lF m fun j=>if j=k then q else f j:=by
 refine List.ext_getElem (by rw[List.length_set,lF_length,lF_length]) fun j h1 h2=>?_
 rw[List.getElem_set,lF_get h2]
 by_cases e:k=j
 ·subst e;simp
 ·rw[if_neg e,lF_get,if_neg fun e'=>e e'.symm]
def rF (m:Nat) (f:Nat→Fr):List Fr:=(List.range m).map f
theorem rF_length (m:Nat) (f:Nat→Fr):(rF m f).length=m:=by simp[rF]
theorem rF_get {m:Nat} {f:Nat→Fr} {i:Nat} (h:i<(rF m f).length):(rF m f)[i]=f i:=by simp[rF]
theorem rF_congr {m:Nat} {f g:Nat→Fr} (h:∀i,i<m→f i=g i):rF m f=rF m g:=by
 refine List.ext_getElem (by rw[rF_length,rF_length]) fun i h1 h2=>?_
 rw[rF_get,rF_get,h i (by rw[rF_length] at h1;exact h1)]
theorem rF_set {m:Nat} {f:Nat→Fr} (k:Nat) (q:Fr):(rF m f).set k q=rF m fun j=>if j=k then q else f j:=by
 refine List.ext_getElem (by rw[List.length_set,rF_length,rF_length]) fun j h1 h2=>?_
 rw[List.getElem_set,rF_get h2]
 by_cases e:k=j
 ·subst e;simp
 ·rw[if_neg e,rF_get,if_neg fun e'=>e e'.symm]
def qN (f:Nat→Rat):Nat→Fr:=fun j=>qF (f j)
theorem lF_rF (m:Nat) (f:Nat→Rat):lF m f=rF m (qN f):=rfl
def fz (f:Fr):Nat:=f.2.1.size+f.2.2.size
theorem fz_q (q:Rat):fz (qF q)=qw q:=rfl
def EqR (U:World) (B g m c:Nat) (f:Nat→Fr):Prop:=U.ownsRow B 44 3 (.slice (some ⟨g,0,none⟩) m c) m (frC (rF m f))
theorem EqR.of {U:World} {B g m c:Nat} {f:Nat→Fr} (h:RwF U B (.slice (some ⟨g,0,none⟩) m c) (rF m f)):EqR U B g m c f:=by
 rw[RwF,rF_length] at h
 exact h
theorem EqR.congr {U:World} {B g m c:Nat} {f f':Nat→Fr} (h:EqR U B g m c f) (e:∀j,j<m→f j=f' j):EqR U B g m c f':=by
 rw[EqR,←rF_congr e]
 exact h
theorem EqR.block {U:World} {B g m c:Nat} {f:Nat→Fr} (h:EqR U B g m c f):B≤g∧m≤c∧∃cur:Array Value,U.heap[g]? =some (.cells cur 44 (0,0)):=by
 rcases h.2 with ⟨h',_⟩ |⟨g',cap,cur,h',h2,h3,h4,_⟩
 ·cases h'
 ·cases h'
  exact⟨h2,h4,_,h3⟩
theorem EqR.lt {U:World} {B g m c:Nat} {f:Nat→Fr} (h:EqR U B g m c f):g<U.heap.size:=by
 obtain⟨_,_,cur,h3⟩:=h.block
 exact(Array.getElem?_eq_some_iff.1 h3).1
theorem EqR.cells {U:World} {B g m c:Nat} {f:Nat→Fr} (h:EqR U B g m c f) {k:Nat} (hk:k<m):U.cell? ⟨g,k*3,none⟩=some (.bool (f k).1)∧U.cell? ⟨g,k*3+1,none⟩=some (.string (f k).2.1)∧U.cell? ⟨g,k*3+2,none⟩=some (.string (f k).2.2):=by
 have hl:k<(rF m f).length:=by rw[rF_length];exact hk
 obtain⟨h1,h2,h3⟩:=frC_get (rF m f) k hl
 rw[rF_get hl] at h1 h2 h3
 exact⟨(World.ownsRow.cellAt h _ (by omega)).trans h1,(World.ownsRow.cellAt h _ (by omega)).trans h2,(World.ownsRow.cellAt h _ (by omega)).trans h3⟩
theorem EqR.fz {U:World} {B g m c:Nat} {f:Nat→Fr} (h:EqR U B g m c f) (j:Nat):U.frozen? ⟨g,j,none⟩=false:=World.ownsRow.frozenAt h j
theorem EqR.fr {U:World} {B g m c:Nat} {f:Nat→Fr} (h:EqR U B g m c f):FrS U (some ⟨g,0,none⟩) (rF m f):=fun k hk=>by
 obtain⟨h1,h2,h3⟩:=h.cells (by rw[rF_length] at hk;exact hk)
 rw[rF_get hk]
 exact⟨g,0,rfl,h.lt,by rw[Nat.zero_add];exact h1,by rw[Nat.zero_add];exact h2,by rw[Nat.zero_add];exact h3⟩
theorem EqR.below {U U':World} {B g m c:Nat} {f:Nat→Fr} (h:EqR U B g m c f) (hb:Below U.heap.size U U'):EqR U' B g m c f:=owns_keep h (KeepT.below hb)
theorem EqR.kept {U U':World} {B g m c:Nat} {f:Nat→Fr} (h:EqR U B g m c f) {x:Nat} (hg:U.grownBy U' (some x)) (hne:g≠x):EqR U' B g m c f:=World.ownsRow.kept h hg (.inr fun e=>hne (by cases e;rfl))
theorem EqR.put {U:World} {B g m c:Nat} {f:Nat→Fr} (h:EqR U B g m c f) (k:Nat) (q:Fr):EqR (((U.setCell ⟨g,k*3,none⟩ (.bool q.1)).setCell ⟨g,k*3+1,none⟩ (.string q.2.1)).setCell ⟨g,k*3+2,none⟩ (.string q.2.2)) B g m c (fun j=>if j=k then q else f j)∧U.grownBy (((U.setCell ⟨g,k*3,none⟩ (.bool q.1)).setCell ⟨g,k*3+1,none⟩ (.string q.2.1)).setCell ⟨g,k*3+2,none⟩ (.string q.2.2)) (some g):=by
 obtain⟨a1,b1⟩:=World.ownsRow.stored h (k*3) (.bool q.1)
 obtain⟨a2,b2⟩:=World.ownsRow.stored a1 (k*3+1) (.string q.2.1)
 obtain⟨a3,b3⟩:=World.ownsRow.stored a2 (k*3+2) (.string q.2.2)
 rw[frC_set,rF_set] at a3
 exact⟨a3,⟨b3.os.trans (b2.os.trans b1.os),b3.tape.trans (b2.tape.trans b1.tape),b3.output.trans (b2.output.trans b1.output),Nat.le_trans b1.size (Nat.le_trans b2.size b3.size),fun i hi hne=>(b3.block i (Nat.lt_of_lt_of_le hi (Nat.le_trans b1.size b2.size)) hne).trans ((b2.block i (Nat.lt_of_lt_of_le hi b1.size) hne).trans (b1.block i hi hne))⟩⟩
theorem grown_then {a b c:World} {r:Option Nat} (h:a.grownBy b r) (k:b.grownBy c r):a.grownBy c r:=
 ⟨k.os.trans h.os,k.tape.trans h.tape,k.output.trans h.output,Nat.le_trans h.size k.size,fun i hi hne=>(k.block i (Nat.lt_of_lt_of_le hi h.size) hne).trans (h.block i hi hne)⟩
theorem grown_below {a b c:World} {r:Option Nat} (h:a.grownBy b r) (k:Below b.heap.size b c):a.grownBy c r:=
 ⟨k.os.trans h.os,k.tape.trans h.tape,k.output.trans h.output,Nat.le_trans h.size k.size,fun i hi hne=>(k.block i (Nat.lt_of_lt_of_le hi h.size)).trans (h.block i hi hne)⟩
structure EqS (B n m G:Nat) (g c:Nat→Nat) (M:Nat→Nat→Fr) (U:World):Prop where
 top:RowV U G ((List.range n).map fun k=>Value.slice (some ⟨g k,0,none⟩) m (c k))
 row:∀k,k<n→EqR U B (g k) m (c k) (M k)
 inj:∀k k',k<n→k'<n→g k=g k'→k=k'
 gl:B≤G
theorem EqS.slice {B n m G:Nat} {g c:Nat→Nat} {M:Nat→Nat→Fr} {U:World} (h:EqS B n m G g c M U) {k:Nat} (hk:k<n):U.cell? ⟨G,k,none⟩=some (.slice (some ⟨g k,0,none⟩) m (c k)):=by
 rw[h.top.cell k (by simpa using hk)]
 simp
theorem EqS.ne {B n m G:Nat} {g c:Nat→Nat} {M:Nat→Nat→Fr} {U:World} (h:EqS B n m G g c M U) {k:Nat} (hk:k<n):G≠g k:=fun e=>by
 obtain⟨_,_,cur,h3⟩:=(h.row k hk).block
 have h1:=h.top
 rw[RowV,e,h3] at h1
 have h2:=Option.some.inj h1
 injection h2 with _ h4
 exact absurd h4 (by decide)
theorem EqS.step {B n m G:Nat} {g c:Nat→Nat} {M:Nat→Nat→Fr} {U U':World} (h:EqS B n m G g c M U) (hb:Below U.heap.size U U'):EqS B n m G g c M U':=⟨h.top.below hb h.top.lt,fun k hk=>(h.row k hk).below hb,h.inj,h.gl⟩
theorem EqS.congr {B n m G:Nat} {g c:Nat→Nat} {M M':Nat→Nat→Fr} {U:World} (h:EqS B n m G g c M U) (e:∀i,i<n→M i=M' i):EqS B n m G g c M' U:=⟨h.top,fun k hk=>by rw[←e k hk];exact h.row k hk,h.inj,h.gl⟩
theorem EqS.write {B n m G:Nat} {g c:Nat→Nat} {M:Nat→Nat→Fr} {U U':World} (h:EqS B n m G g c M U) {k:Nat} {f:Nat→Fr} (hk:k<n) (hg:U.grownBy U' (some (g k))) (hr:EqR U' B (g k) m (c k) f):EqS B n m G g c (fun i=>if i=k then f else M i) U':=by
 refine⟨(hg.block G h.top.lt fun e=>h.ne hk (Option.some.inj e)).trans h.top,fun i hi=>?_,h.inj,h.gl⟩
 by_cases e:i=k
 ·subst e;rw[if_pos rfl];exact hr
 ·rw[if_neg e];exact(h.row i hi).kept hg fun e'=>e (h.inj i k hi hk e')
theorem EqS.from {B n m G:Nat} {g c:Nat→Nat} {M:Nat→Nat→Fr} {U U':World} (h:EqS B n m G g c M U) {k:Nat} (hk:k<n) (hg:U.grownBy U' (some (g k))) (hB:B≤U.heap.size):Below B U U':=(Below.refl B U).grown hg hB fun i e=>by cases e;exact(h.row k hk).block.1
def RowBo (w:World) (g:Nat) (l:List Bool):Prop:=w.heap[g]? =some (.cells (l.map Value.bool).toArray 4 (0,0))
theorem RowBo.cell {w:World} {g:Nat} {l:List Bool} (h:RowBo w g l) (j:Nat) (hj:j<l.length):w.cell? ⟨g,j,none⟩=some (.bool l[j]):=by
 rw[cell_of_row w g j _ _ (0,0) h]
 simp[hj]
theorem RowBo.fz {w:World} {g:Nat} {l:List Bool} (h:RowBo w g l) (j:Nat):w.frozen? ⟨g,j,none⟩=false:=frozen_of_row w g j _ _ h
theorem RowBo.set {w:World} {g:Nat} {l:List Bool} (h:RowBo w g l) (j:Nat) (y:Bool):RowBo (w.setCell ⟨g,j,none⟩ (.bool y)) g (l.set j y):=by
 have h2:=heap_setCell_same w g j _ _ (.bool y) h
 rw[RowBo,h2]
 simp[List.map_set]
theorem made_boolc (n:Nat):(madeCells (Value.bool false).cells (n*1)).toList=(List.replicate n false).map Value.bool:=by
 rw[show (Value.bool false).cells= #[Value.bool false] from rfl,toList_madeCells_one,Nat.mul_one]
 simp
theorem Tryz.infoBoolc:(Tryz.prog.info? 4).map (fun i=>(i.zero,i.size,i.bytes))=some (some (.bool false),1,1):=by kernel_rfl
theorem Tryz.infoBoolsc:(Tryz.prog.info? 36).map (fun i=>(i.zero,i.size,i.bytes))=some (some (.slice none 0 0),1,24):=by kernel_rfl
def topB (n c:Nat) (R:Nat→Nat):List Value:=(List.range n).map fun v=>if v<c then .slice (some ⟨R v,0,none⟩) n n else .slice none 0 0
theorem topB_length (n c:Nat) (R:Nat→Nat):(topB n c R).length=n:=by simp[topB]
theorem topB_at {n c:Nat} {R:Nat→Nat} {v:Nat} (hv:v<n) (hc:v<c):(topB n c R)[v]'(by rw[topB_length];exact hv)=.slice (some ⟨R v,0,none⟩) n n:=by simp[topB,hc]
structure BMt (W:World) (B G n c:Nat) (R:Nat→Nat) (e:Nat→Nat→Bool):Prop where
 top:W.heap[G]? =some (.cells (topB n c R).toArray 36 (0,0))
 row:∀v,v<c→v<n→RowBo W (R v) ((List.range n).map (e v))
 inj:∀v v',v<c→v'<c→R v=R v'→v=v'
 low:∀v,v<c→B≤R v
 gl:B≤G
theorem BMt.keep {W W':World} {B G n c:Nat} {R:Nat→Nat} {e:Nat→Nat→Bool} (h:BMt W B G n c R e) (h1:KeepT 36 W W') (h2:KeepT 4 W W'):BMt W' B G n c R e:=⟨h1 _ _ _ h.top,fun v hc hv=>h2 _ _ _ (h.row v hc hv),h.inj,h.low,h.gl⟩
theorem BMt.below {W W':World} {B G n c:Nat} {R:Nat→Nat} {e:Nat→Nat→Bool} (h:BMt W B G n c R e) (hb:Below W.heap.size W W'):BMt W' B G n c R e:=h.keep (KeepT.below hb) (KeepT.below hb)
theorem BMt.lt {W:World} {B G n c:Nat} {R:Nat→Nat} {e:Nat→Nat→Bool} (h:BMt W B G n c R e):G<W.heap.size:=(Array.getElem?_eq_some_iff.1 h.top).1
theorem BMt.fzt {W:World} {B G n c:Nat} {R:Nat→Nat} {e:Nat→Nat→Bool} (h:BMt W B G n c R e) (j:Nat):W.frozen? ⟨G,j,none⟩=false:=frozen_of_row W G j _ _ h.top
theorem BMt.slice {W:World} {B G n c:Nat} {R:Nat→Nat} {e:Nat→Nat→Bool} (h:BMt W B G n c R e) {v:Nat} (hv:v<n) (hc:v<c):W.cell? ⟨G,v,none⟩=some (.slice (some ⟨R v,0,none⟩) n n):=by
 rw[cell_of_row W G v _ _ (0,0) h.top,List.getElem?_toArray,List.getElem?_eq_getElem (by rw[topB_length];exact hv),topB_at hv hc]
theorem BMt.cell {W:World} {B G n c:Nat} {R:Nat→Nat} {e:Nat→Nat→Bool} (h:BMt W B G n c R e) {v u:Nat} (hv:v<n) (hc:v<c) (hu:u<n):W.cell? ⟨R v,u,none⟩=some (.bool (e v u)):=by
 rw[(h.row v hc hv).cell u (by simpa using hu)]
 simp
theorem BMt.set {W:World} {B G n c:Nat} {R:Nat→Nat} {e e':Nat→Nat→Bool} (h:BMt W B G n c R e) {v u:Nat} {b:Bool} (hv:v<n) (hc:v<c) (he:∀v' u',v'<n→u'<n→e' v' u'=if v'=v∧u'=u then b else e v' u'):BMt (W.setCell ⟨R v,u,none⟩ (.bool b)) B G n c R e':=by
 have hr:=h.row v hc hv
 refine⟨KeepT.set hr (by decide) u _ _ _ _ h.top,fun v' hc' hv'=>?_,h.inj,h.low,h.gl⟩
 by_cases ev:v'=v
 ·subst ev
  have:=hr.set u b
  have el:((List.range n).map (e v')).set u b=(List.range n).map (e' v'):=by
   refine List.ext_getElem (by simp) fun j h1 h2=>?_
   rw[List.getElem_set]
   simp only[List.getElem_map,List.getElem_range]
   rw[he v' j hv (by simpa using h2)]
   by_cases ej:u=j
   ·simp[ej]
   ·rw[if_neg ej,if_neg fun e=>ej e.2.symm]
  rwa [el] at this
 ·have ne:R v'≠R v:=fun e=>ev (h.inj v' v hc' hc e)
  have el:(List.range n).map (e' v')=(List.range n).map (e v'):=List.map_congr_left fun j hj=>by rw[he v' j hv' (List.mem_range.1 hj),if_neg fun e=>ev e.1]
  rw[el]
  exact(Below.heap_setCell W ⟨R v,u,none⟩ _ (R v') ne).trans (h.row v' hc' hv')
theorem BMt.congr {W:World} {B G n c:Nat} {R:Nat→Nat} {e e':Nat→Nat→Bool} (h:BMt W B G n c R e) (he:∀v u,v<c→u<n→e v u=e' v u):BMt W B G n c R e':=⟨h.top,fun v hc hv=>by
 have el:(List.range n).map (e' v)=(List.range n).map (e v):=List.map_congr_left fun j hj=>(he v j hc (List.mem_range.1 hj)).symm
 rw[el];exact h.row v hc hv,h.inj,h.low,h.gl⟩
theorem BMt.more {W W1:World} {B G n c g:Nat} {R:Nat→Nat} {e:Nat→Nat→Bool} (h:BMt W B G n c R e) (hb:Below W.heap.size W W1) (hg:W.heap.size≤g) (hB:B≤W.heap.size) (hr:RowBo W1 g (List.replicate n false)) (hc:c<n):BMt (W1.setCell ⟨G,c,none⟩ (.slice (some ⟨g,0,none⟩) n n)) B G n (c+1) (fun x=>if x=c then g else R x) (fun v u=>if v=c then false else e v u):=by
 have hlt:∀v,v<c→R v<W.heap.size:=fun v hv=>(Array.getElem?_eq_some_iff.1 (h.row v hv (by omega))).1
 have hG:W1.heap[G]? =some (.cells (topB n c R).toArray 36 (0,0)):=KeepT.below hb _ _ _ h.top
 have hset:=heap_setCell_same W1 G c _ _ (.slice (some ⟨g,0,none⟩) n n) hG
 have hrow:∀r l,RowBo W1 r l→RowBo (W1.setCell ⟨G,c,none⟩ (.slice (some ⟨g,0,none⟩) n n)) r l:=fun r l hl=>KeepT.set hG (by decide) c _ _ _ _ hl
 refine⟨?_,fun v hv hvn=>?_,fun v v' hv hv' e'=>?_,fun v hv=>?_,h.gl⟩
 ·rw[hset]
  have el:(topB n c R).toArray.setIfInBounds c (.slice (some ⟨g,0,none⟩) n n)=(topB n (c+1) (fun x=>if x=c then g else R x)).toArray:=by
   rw[List.setIfInBounds_toArray]
   congr 1
   refine List.ext_getElem (by simp[topB]) fun j h1 h2=>?_
   rw[List.getElem_set]
   simp only[topB,List.getElem_map,List.getElem_range]
   by_cases ej:c=j
   ·subst ej;simp
   ·rw[if_neg ej]
    by_cases hj:j<c
    ·rw[if_pos hj,if_pos (by omega),if_neg (by omega)]
    ·rw[if_neg hj,if_neg (by omega)]
  rw[el]
 ·by_cases ev:v=c
  ·subst ev
   have el:(List.range n).map (fun u=>if v=v then false else e v u)=List.replicate n false:=List.ext_getElem (by simp) fun i _ _=>by simp
   show RowBo _ (if v=v then g else R v) ((List.range n).map (fun u=>if v=v then false else e v u))
   rw[if_pos rfl,el]
   exact hrow _ _ hr
  ·show RowBo _ (if v=c then g else R v) ((List.range n).map (fun u=>if v=c then false else e v u))
   simp only[if_neg ev]
   exact hrow _ _ (KeepT.below hb _ _ _ (h.row v (by omega) hvn))
 ·have e1:(if v=c then g else R v)=(if v'=c then g else R v'):=e'
  by_cases h1:v=c
  ·by_cases h2:v'=c
   ·rw[h1,h2]
   ·rw[if_pos h1,if_neg h2] at e1
    have:=hlt v' (by omega);omega
  ·by_cases h2:v'=c
   ·rw[if_neg h1,if_pos h2] at e1
    have:=hlt v (by omega);omega
   ·rw[if_neg h1,if_neg h2] at e1
    exact h.inj v v' (by omega) (by omega) e1
 ·show B≤(if v=c then g else R v)
  by_cases h1:v=c
  ·rw[if_pos h1];omega
  ·rw[if_neg h1];exact h.low v (by omega)
end Go.Proofs.YtmbjmiioggfneaaGreatDoor

/- divide and takeTimes of package chain: they write into a row. -/
namespace Go.Proofs.YtmbjmiioggfneaaGreatDoor
open Go.RowKit Go.Shelf
structure DvS (w:World) (B g m c gB:Nat) (f:Nat→Fr) (n:Bool) (x y:ByteArray) (U:World):Prop where
 row:EqR U B g m c f
 gr:w.grownBy U (some g)
 bx:Box U gB n x y
theorem DvS.step {w U U':World} {B g m c gB:Nat} {f:Nat→Fr} {n:Bool} {x y:ByteArray} (h:DvS w B g m c gB f n x y U) (hb:Below U.heap.size U U'):DvS w B g m c gB f n x y U':=⟨h.row.below hb,grown_below h.gr hb,h.bx.below hb h.bx.lt⟩
theorem DvS.drew {w U:World} {B g m c gB:Nat} {f:Nat→Fr} {n:Bool} {x y:ByteArray} (h:DvS w B g m c gB f n x y U):DvS w B g m c gB f n x y U.drew:=h.step (Below.refl _ _).drew
theorem DvS.put {w U:World} {B g m c gB:Nat} {f:Nat→Fr} {n:Bool} {x y:ByteArray} (h:DvS w B g m c gB f n x y U) (hne:gB≠g) (k:Nat) (q:Fr):DvS w B g m c gB (fun j=>if j=k then q else f j) n x y (((U.setCell ⟨g,k*3,none⟩ (.bool q.1)).setCell ⟨g,k*3+1,none⟩ (.string q.2.1)).setCell ⟨g,k*3+2,none⟩ (.string q.2.2)):=by
 obtain⟨h1,h2⟩:=h.row.put k q
 exact⟨h1,grown_then h.gr h2,((h.bx.away g _ _ hne).away g _ _ hne).away g _ _ hne⟩
theorem DvS.congr {w U:World} {B g m c gB:Nat} {f f':Nat→Fr} {n:Bool} {x y:ByteArray} (h:DvS w B g m c gB f n x y U) (e:∀j,j<m→f j=f' j):DvS w B g m c gB f' n x y U:=⟨h.row.congr e,h.gr,h.bx⟩
theorem part_next {α:Type} {f f':Nat→α} (i:Nat):∀j,(if j=i then f' i else if j<i then f' j else f j)=if j<i+1 then f' j else f j:=fun j=>by
 by_cases e:j=i
 ·subst e;rw[if_pos rfl,if_pos (Nat.lt_succ_self _)]
 ·rw[if_neg e]
  by_cases h:j<i
  ·rw[if_pos h,if_pos (by omega)]
  ·rw[if_neg h,if_neg (by omega)]
theorem part_here {α:Type} {f f':Nat→α} (i:Nat):(if i<i then f' i else f i)=f i:=if_neg (Nat.lt_irrefl _)
set_option maxRecDepth 100000 in
set_option maxHeartbeats 2000000 in
theorem chDivide_any (B g c m:Nat) (f:Nat→Fr) (q:Fr) (w:World) (h:EqR w B g m c f) (hq:frQ q≠0) (hs:∀i,i<m→fz (f i)≤40000) (hqs:fz q≤40000) (hm:m≤100):
  Calls Tryz.prog 106 #[.slice (some ⟨g,0,none⟩) m c,.agg #[.bool q.1,.string q.2.1,.string q.2.2]] w fun e w'=>e=.returned (.tuple #[])∧EqR w' B g m c (fun i=>qF (frQ (f i)/frQ q))∧w.grownBy w' (some g):=by
 have HDIV:Hid (∀i,i<m→∀V:World,Calls Tryz.prog 57 #[.agg #[.bool (f i).1,.string (f i).2.1,.string (f i).2.2],.agg #[.bool q.1,.string q.2.1,.string q.2.2]] V fun e w'=>e=.returned (.tuple #[.agg #[.bool (qF (frQ (f i)/frQ q)).1,.string (qF (frQ (f i)/frQ q)).2.1,.string (qF (frQ (f i)/frQ q)).2.2],.int .i64 0])∧Below V.heap.size V w'):=fun i hi V=>fDiv_q (frQ (f i)/frQ q) rfl rfl hq rfl (Nat.le_trans (hs i hi) (by omega)) (Nat.le_trans hqs (by omega))
 have HF:Hid (∃f':Nat→Fr,f'=fun i=>qF (frQ (f i)/frQ q)):=⟨_,rfl⟩
 have HRW:=hid h
 have hgl:=h.lt
 clear h hs hqs
 have hne:w.heap.size≠g:=by omega
 obtain⟨f',hf'⟩:=HF.out
 have HFD:Hid (∀i,f' i=qF (frQ (f i)/frQ q)):=fun i=>by rw[hf']
 rw[←hf']
 clear HF hf' hq
 obtain⟨bn,bx,by_⟩:=q
 dsimp only at HDIV⊢
 have hA:=(Below.refl w.heap.size w).alloc (Nat.le_refl _) (FC bn bx by_)
 have HK0:Hid (DvS w B g m c w.heap.size (fun j=>if j<0 then f' j else f j) bn bx by_ (w.alloc (FC bn bx by_))):=⟨(HRW.out.below hA).congr fun j _=>(if_neg (by omega)).symm,grown_below (World.grownBy.refl _ _) hA,Box.new w bn bx by_⟩
 clear hA HRW
 go_enter Tryz.func106,Tryz.ntmps106
 go_upto_region 2 with fail
 generalize (w.alloc (FC bn bx by_))=W1 at *
 obtain⟨gB,hgB⟩:∃x,x=w.heap.size:=⟨_,rfl⟩
 simp only[←hgB] at HK0 hne⊢
 clear hgB
 go_loopw [7] (fun iv wr=>∃i:Nat,i≤m∧iv=.int .i64 i∧Hid (DvS w B g m c gB (fun j=>if j<i then f' j else f j) bn bx by_ wr)) (fun iv _=>m - (intOf iv).toNat)
 case atStart=>exact⟨0,Nat.zero_le _,rfl,HK0⟩
 case round=>
  obtain⟨i,hi,rfl,HK⟩:=hrel
  clear HK0
  by_cases hlt:i<m
  ·have HDV:=hid (HDIV.out i hlt)
   have hqn:qF (frQ (f i)/frQ (bn,bx,by_))=f' i:=(HFD.out i).symm
   rw[hqn] at HDV
   clear hqn
   have HNX:Hid (∀j,j<m→(if j=i then f' i else if j<i then f' j else f j)=if j<i+1 then f' j else f j):=fun j _=>part_next i j
   have HHE:Hid ((if i<i then f' i else f i)=f i):=part_here i
   go_upto_region 4 with fail
   replace HK:=hid HK.out.drew
   refine wp_region_held_drew (S:=fun u=>u.cell? ⟨gB,0,none⟩=some (.bool bn)∧u.cell? ⟨gB,1,none⟩=some (.string bx)∧u.cell? ⟨gB,2,none⟩=some (.string by_)) (by kernel_rfl) ⟨HK.out.bx.c0,HK.out.bx.c1,HK.out.bx.c2⟩ (fun hSd=>?_)
   generalize wr.drew=u0 at *
   obtain⟨k0,k1,k2⟩:=HK.out.row.cells hlt
   rw[HHE.out] at k0 k1 k2
   generalize f' i=qn at *
   generalize hzz:f i=zz at *
   obtain⟨an,ax,ay⟩:=zz
   simp only at k0 k1 k2 HDV
   refine tkB 0 (.slice (some ⟨g,0,none⟩) m c) ?_
   try simp only[gE,aP]
   refine tkB 1 (.int .i64 (i:Nat)) ?_
   try simp only[gE,aP]
   refine tkB 2 (.slice (some ⟨g,0,none⟩) m c) ?_
   try simp only[gE,aP]
   refine tkB 3 (.int .i64 (i:Nat)) ?_
   try simp only[gE,aP]
   refine tkB 4 (.pointer (some ⟨g,i*3,none⟩)) ?_
   try simp only[gE,aP]
   refine tkB 6 (.agg #[.bool bn,.string bx,.string by_]) ?_
   try simp only[gE,aP]
   refine rdA [5] (cA ?_ AllReadyH.nil)
   ·intro K' hK'
    go_simp
    refine hK'.out _ _ ⟨HK.out.bx.c0,HK.out.bx.c1,HK.out.bx.c2⟩ (fun hSe=>?_)
    clear hK' K' hSd
    have hSd:=hSe
    clear hSe
    try simp only[gE,aP]
    refine rdA [7] (cA ?_ AllReadyH.nil)
    ·intro K' hK'
     go_simp
     refine(HDV.out _).mono ?_
     rintro e u1 ⟨rfl,hb⟩
     replace HK:=hid (HK.out.step hb)
     obtain⟨k0,k1,k2⟩:=HK.out.row.cells hlt
     refine hK'.out _ _ ⟨HK.out.bx.c0,HK.out.bx.c1,HK.out.bx.c2⟩ (fun hSe=>?_)
     clear hK' K' hSd
     have hSd:=hSe
     clear hSe
     try simp only[gE,aP]
     clear hb
     refine tkB 8 (.tuple #[.agg #[.bool qn.1,.string qn.2.1,.string qn.2.2],.int .i64 0]) ?_
     try simp only[gE,aP]
     refine tkB 9 (.agg #[.bool qn.1,.string qn.2.1,.string qn.2.2]) ?_
     try simp only[gE,aP]
     refine tkB 10 (.int .i64 0) ?_
     try simp only[gE,aP]
     refine tkB 11 (.pointer (some ⟨g,i*3,none⟩)) ?_
     try simp only[gE,aP]
     have z0:=HK.out.row.fz (i*3)
     have z1:=HK.out.row.fz (i*3+1)
     have z2:=HK.out.row.fz (i*3+2)
     refine rdA [12] (cA ?_ AllReadyH.nil)
     ·intro K' hK'
      go_simp
      have HK9:=hid (HK.out.put hne i qn)
      refine hK'.out _ _ ⟨HK9.out.bx.c0,HK9.out.bx.c1,HK9.out.bx.c2⟩ (fun _=>wpAnyH_done (by kernel_rfl) ?_ _)
      clear hK' K' hSd k0 k1 k2 z0 z1 z2 HK
      have HKn:=hid (HK9.out.congr HNX.out)
      clear HK9
      go_wp2
      go_roundw
      case rel=>exact⟨i+1,by omega,by go_num,HKn⟩
      case measure=>simp[intOf];omega
  ·obtain rfl:i=m:=by omega
   go_wp2
   go_end0
   exact⟨rfl,HK.out.row.congr fun j hj=>if_pos hj,HK.out.gr⟩
set_option maxRecDepth 100000 in
set_option maxHeartbeats 4000000 in
theorem chTake_any (B g g2 c c2 m:Nat) (f f2:Nat→Fr) (q:Fr) (w:World) (h:EqR w B g m c f) (h2:EqR w B g2 m c2 f2) (hg2:g2≠g) (hs:∀i,i<m→fz (f i)≤40000∧fz (f2 i)≤40000∧qw (frQ (f2 i)*frQ q)≤40000) (hqs:fz q≤40000) (hm:m≤100):
  Calls Tryz.prog 107 #[.slice (some ⟨g,0,none⟩) m c,.slice (some ⟨g2,0,none⟩) m c2,.agg #[.bool q.1,.string q.2.1,.string q.2.2]] w fun e w'=>e=.returned (.tuple #[])∧EqR w' B g m c (fun i=>qF (frQ (f i) - frQ (f2 i)*frQ q))∧w.grownBy w' (some g):=by
 have HMUL:Hid (∀i,i<m→∀V:World,Calls Tryz.prog 61 #[.agg #[.bool (f2 i).1,.string (f2 i).2.1,.string (f2 i).2.2],.agg #[.bool q.1,.string q.2.1,.string q.2.2]] V fun e w'=>e=.returned (.agg #[.bool (sgn (frQ (f2 i)*frQ q)),.string (nu (frQ (f2 i)*frQ q)),.string (de (frQ (f2 i)*frQ q))])∧Below V.heap.size V w'):=fun i hi V=>fMul_q (frQ (f2 i)*frQ q) rfl rfl rfl (Nat.le_trans (hs i hi).2.1 (by omega)) (Nat.le_trans hqs (by omega))
 have HSUB:Hid (∀i,i<m→∀V:World,Calls Tryz.prog 83 #[.agg #[.bool (f i).1,.string (f i).2.1,.string (f i).2.2],.agg #[.bool (sgn (frQ (f2 i)*frQ q)),.string (nu (frQ (f2 i)*frQ q)),.string (de (frQ (f2 i)*frQ q))]] V fun e w'=>e=.returned (.agg #[.bool (qF (frQ (f i) - frQ (f2 i)*frQ q)).1,.string (qF (frQ (f i) - frQ (f2 i)*frQ q)).2.1,.string (qF (frQ (f i) - frQ (f2 i)*frQ q)).2.2])∧Below V.heap.size V w'):=fun i hi V=>fSub_q (frQ (f i) - frQ (f2 i)*frQ q) rfl (val_own (frQ (f2 i)*frQ q)) rfl (Nat.le_trans (hs i hi).1 (by omega)) (by have h1:=(hs i hi).2.2;rw[←own_size] at h1;exact Nat.le_trans h1 (by omega))
 have HF:Hid (∃f':Nat→Fr,f'=fun i=>qF (frQ (f i) - frQ (f2 i)*frQ q)):=⟨_,rfl⟩
 have HRW:=hid h
 have HRW2:=hid h2
 have hgl:=h.lt
 clear h hs hqs h2
 have hne:w.heap.size≠g:=by omega
 obtain⟨f',hf'⟩:=HF.out
 have HFD:Hid (∀i,f' i=qF (frQ (f i) - frQ (f2 i)*frQ q)):=fun i=>by rw[hf']
 rw[←hf']
 clear HF hf'
 obtain⟨bn,bx,by_⟩:=q
 dsimp only at HMUL⊢
 have hA:=(Below.refl w.heap.size w).alloc (Nat.le_refl _) (FC bn bx by_)
 have HK0:Hid (DvS w B g m c w.heap.size (fun j=>if j<0 then f' j else f j) bn bx by_ (w.alloc (FC bn bx by_))):=⟨(HRW.out.below hA).congr fun j _=>(if_neg (by omega)).symm,grown_below (World.grownBy.refl _ _) hA,Box.new w bn bx by_⟩
 have HF0:=hid (HRW2.out.below hA)
 clear hA HRW HRW2
 go_enter Tryz.func107,Tryz.ntmps107
 go_upto_region 2 with fail
 generalize (w.alloc (FC bn bx by_))=W1 at *
 obtain⟨gB,hgB⟩:∃x,x=w.heap.size:=⟨_,rfl⟩
 simp only[←hgB] at HK0 hne⊢
 clear hgB
 go_loopw [9] (fun iv wr=>∃i:Nat,i≤m∧iv=.int .i64 i∧Hid (DvS w B g m c gB (fun j=>if j<i then f' j else f j) bn bx by_ wr)∧Hid (EqR wr B g2 m c2 f2)) (fun iv _=>m - (intOf iv).toNat)
 case atStart=>exact⟨0,Nat.zero_le _,rfl,HK0,HF0⟩
 case round=>
  obtain⟨i,hi,rfl,HK,HF2⟩:=hrel
  clear HK0 HF0
  by_cases hlt:i<m
  ·have HMU:=hid (HMUL.out i hlt)
   have HSB:=hid (HSUB.out i hlt)
   have hqn:qF (frQ (f i) - frQ (f2 i)*frQ (bn,bx,by_))=f' i:=(HFD.out i).symm
   rw[hqn] at HSB
   clear hqn HMUL HSUB HFD
   have HNX:Hid (∀j,j<m→(if j=i then f' i else if j<i then f' j else f j)=if j<i+1 then f' j else f j):=fun j _=>part_next i j
   have HHE:Hid ((if i<i then f' i else f i)=f i):=part_here i
   have HFC:Hid (∀u:World,EqR u B g2 m c2 f2→u.cell? ⟨g2,i*3,none⟩=some (.bool (f2 i).1)∧u.cell? ⟨g2,i*3+1,none⟩=some (.string (f2 i).2.1)∧u.cell? ⟨g2,i*3+2,none⟩=some (.string (f2 i).2.2)):=fun u hu=>hu.cells hlt
   generalize sgn (frQ (f2 i)*frQ (bn,bx,by_))=en at *
   generalize nu (frQ (f2 i)*frQ (bn,bx,by_))=ex at *
   generalize de (frQ (f2 i)*frQ (bn,bx,by_))=ey at *
   go_upto_region 4 with fail
   replace HK:=hid HK.out.drew
   replace HF2:=hid (HF2.out.below (Below.refl _ _).drew)
   generalize hzd:f2 i=zd at *
   obtain⟨dn,dx,dy⟩:=zd
   simp only at HFC HMU
   refine wp_region_held_drew (S:=fun u=>u.cell? ⟨gB,0,none⟩=some (.bool bn)∧u.cell? ⟨gB,1,none⟩=some (.string bx)∧u.cell? ⟨gB,2,none⟩=some (.string by_)∧u.cell? ⟨g2,i*3,none⟩=some (.bool dn)∧u.cell? ⟨g2,i*3+1,none⟩=some (.string dx)∧u.cell? ⟨g2,i*3+2,none⟩=some (.string dy)) (by kernel_rfl) ⟨HK.out.bx.c0,HK.out.bx.c1,HK.out.bx.c2,HFC.out _ HF2.out⟩ (fun hSd=>?_)
   generalize wr.drew=u0 at *
   obtain⟨k0,k1,k2⟩:=HK.out.row.cells hlt
   rw[HHE.out] at k0 k1 k2
   generalize f' i=qn at *
   generalize hzz:f i=zz at *
   obtain⟨an,ax,ay⟩:=zz
   simp only at k0 k1 k2 HSB
   refine tkB 0 (.slice (some ⟨g,0,none⟩) m c) ?_
   try simp only[gE,aP]
   refine tkB 1 (.int .i64 (i:Nat)) ?_
   try simp only[gE,aP]
   refine tkB 2 (.slice (some ⟨g,0,none⟩) m c) ?_
   try simp only[gE,aP]
   refine tkB 3 (.int .i64 (i:Nat)) ?_
   try simp only[gE,aP]
   refine tkB 4 (.pointer (some ⟨g,i*3,none⟩)) ?_
   try simp only[gE,aP]
   refine tkB 6 (.slice (some ⟨g2,0,none⟩) m c2) ?_
   try simp only[gE,aP]
   refine tkB 7 (.int .i64 (i:Nat)) ?_
   try simp only[gE,aP]
   refine tkB 8 (.pointer (some ⟨g2,i*3,none⟩)) ?_
   try simp only[gE,aP]
   refine tkB 9 (.agg #[.bool dn,.string dx,.string dy]) ?_
   try simp only[gE,aP]
   refine tkB 10 (.agg #[.bool bn,.string bx,.string by_]) ?_
   try simp only[gE,aP]
   refine rdA [5,11] (cA ?_ (cA ?_ AllReadyH.nil))
   ·intro K' hK'
    go_simp
    refine hK'.out _ _ ⟨HK.out.bx.c0,HK.out.bx.c1,HK.out.bx.c2,HFC.out _ HF2.out⟩ (fun hSe=>?_)
    clear hK' K' hSd
    have hSd:=hSe
    clear hSe
    try simp only[gE,aP]
    refine rdA [11] (cA ?_ AllReadyH.nil)
    ·intro K' hK'
     go_simp
     refine(HMU.out _).mono ?_
     rintro e u1 ⟨rfl,hb⟩
     replace HK:=hid (HK.out.step hb)
     replace HF2:=hid (HF2.out.below hb)
     refine hK'.out _ _ ⟨HK.out.bx.c0,HK.out.bx.c1,HK.out.bx.c2,HFC.out _ HF2.out⟩ (fun hSe=>?_)
     clear hK' K' hSd
     have hSd:=hSe
     clear hSe
     try simp only[gE,aP]
     clear hb
     refine rdA [12] (cA ?_ AllReadyH.nil)
     ·intro K' hK'
      go_simp
      refine(HSB.out _).mono ?_
      rintro e u2 ⟨rfl,hb⟩
      replace HK:=hid (HK.out.step hb)
      replace HF2:=hid (HF2.out.below hb)
      clear k0 k1 k2
      obtain⟨k0,k1,k2⟩:=HK.out.row.cells hlt
      refine hK'.out _ _ ⟨HK.out.bx.c0,HK.out.bx.c1,HK.out.bx.c2,HFC.out _ HF2.out⟩ (fun hSe=>?_)
      clear hK' K' hSd
      have hSd:=hSe
      clear hSe
      try simp only[gE,aP]
      clear hb
      refine tkB 13 (.pointer (some ⟨g,i*3,none⟩)) ?_
      try simp only[gE,aP]
      have z0:=HK.out.row.fz (i*3)
      have z1:=HK.out.row.fz (i*3+1)
      have z2:=HK.out.row.fz (i*3+2)
      refine rdA [14] (cA ?_ AllReadyH.nil)
      ·intro K' hK'
       go_simp
       have HK9:=hid (HK.out.put hne i qn)
       have HF9:=hid (HF2.out.kept (HK.out.row.put i qn).2 hg2)
       refine hK'.out _ _ ⟨HK9.out.bx.c0,HK9.out.bx.c1,HK9.out.bx.c2,HFC.out _ HF9.out⟩ (fun _=>wpAnyH_done (by kernel_rfl) ?_ _)
       clear hK' K' hSd k0 k1 k2 z0 z1 z2 HK
       have HKn:=hid (HK9.out.congr HNX.out)
       clear HK9 HF2
       go_wp2
       go_roundw
       case rel=>exact⟨i+1,by omega,by go_num,HKn,HF9⟩
       case measure=>simp[intOf];omega
   ·intro K' hK'
    go_simp
    refine(HMU.out _).mono ?_
    rintro e u1 ⟨rfl,hb⟩
    replace HK:=hid (HK.out.step hb)
    replace HF2:=hid (HF2.out.below hb)
    clear k0 k1 k2
    obtain⟨k0,k1,k2⟩:=HK.out.row.cells hlt
    rw[part_here,hzz] at k0 k1 k2
    simp only at k0 k1 k2
    refine hK'.out _ _ ⟨HK.out.bx.c0,HK.out.bx.c1,HK.out.bx.c2,HFC.out _ HF2.out⟩ (fun hSe=>?_)
    clear hK' K' hSd
    have hSd:=hSe
    clear hSe
    try simp only[gE,aP]
    clear hb
    refine rdA [5] (cA ?_ AllReadyH.nil)
    ·intro K' hK'
     go_simp
     refine hK'.out _ _ ⟨HK.out.bx.c0,HK.out.bx.c1,HK.out.bx.c2,HFC.out _ HF2.out⟩ (fun hSe=>?_)
     clear hK' K' hSd
     have hSd:=hSe
     clear hSe
     try simp only[gE,aP]
     refine rdA [12] (cA ?_ AllReadyH.nil)
     ·intro K' hK'
      go_simp
      refine(HSB.out _).mono ?_
      rintro e u2 ⟨rfl,hb⟩
      replace HK:=hid (HK.out.step hb)
      replace HF2:=hid (HF2.out.below hb)
      clear k0 k1 k2
      obtain⟨k0,k1,k2⟩:=HK.out.row.cells hlt
      refine hK'.out _ _ ⟨HK.out.bx.c0,HK.out.bx.c1,HK.out.bx.c2,HFC.out _ HF2.out⟩ (fun hSe=>?_)
      clear hK' K' hSd
      have hSd:=hSe
      clear hSe
      try simp only[gE,aP]
      clear hb
      refine tkB 13 (.pointer (some ⟨g,i*3,none⟩)) ?_
      try simp only[gE,aP]
      have z0:=HK.out.row.fz (i*3)
      have z1:=HK.out.row.fz (i*3+1)
      have z2:=HK.out.row.fz (i*3+2)
      refine rdA [14] (cA ?_ AllReadyH.nil)
      ·intro K' hK'
       go_simp
       have HK9:=hid (HK.out.put hne i qn)
       have HF9:=hid (HF2.out.kept (HK.out.row.put i qn).2 hg2)
       refine hK'.out _ _ ⟨HK9.out.bx.c0,HK9.out.bx.c1,HK9.out.bx.c2,HFC.out _ HF9.out⟩ (fun _=>wpAnyH_done (by kernel_rfl) ?_ _)
       clear hK' K' hSd k0 k1 k2 z0 z1 z2 HK
       have HKn:=hid (HK9.out.congr HNX.out)
       clear HK9 HF2
       go_wp2
       go_roundw
       case rel=>exact⟨i+1,by omega,by go_num,HKn,HF9⟩
       case measure=>simp[intOf];omega
  ·obtain rfl:i=m:=by omega
   go_wp2
   go_end0
   exact⟨rfl,HK.out.row.congr fun j hj=>if_pos hj,HK.out.gr⟩
end Go.Proofs.YtmbjmiioggfneaaGreatDoor
