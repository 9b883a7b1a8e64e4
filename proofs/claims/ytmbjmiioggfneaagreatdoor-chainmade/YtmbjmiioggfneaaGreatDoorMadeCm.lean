/- What the law of made chains wants beyond the law of exact chains. -/
import Derived.Test.YtmbjmiioggfneaaGreatDoorRegTCxNum
import Derived.Test.YtmbjmiioggfneaaGreatDoorShelfCx
import Derived.Test.YtmbjmiioggfneaaGreatDoorCore1CxCore2b
import Derived.Test.YtmbjmiioggfneaaGreatDoorReckBCxShiftB
import Derived.Test.YtmbjmiioggfneaaGreatDoorMostACxRefA
import Derived.Test.YtmbjmiioggfneaaGreatDoorRefCCxNumR
import Derived.Test.YtmbjmiioggfneaaGreatDoorFracACxRefR
import Derived.Test.YtmbjmiioggfneaaGreatDoorRefSCxDicP
import Derived.Test.YtmbjmiioggfneaaGreatDoorChnPCxNetD
import Derived.Test.YtmbjmiioggfneaaGreatDoorHidACxChnB
import Derived.Test.YtmbjmiioggfneaaGreatDoorChnCCxCexZ
import Derived.Test.YtmbjmiioggfneaaGreatDoorChnXCxAnyU
import Derived.Test.YtmbjmiioggfneaaGreatDoorChnFCx
import Derived.Test.YtmbjmiioggfneaaGreatDoorChnDCxStlP
import Derived.Test.YtmbjmiioggfneaaGreatDoorStlACxStlQ
import Derived.Test.YtmbjmiioggfneaaGreatDoorStlDCxTrnC
import Derived.Test.YtmbjmiioggfneaaGreatDoorTrnDCxStlE
import Derived.Test.YtmbjmiioggfneaaGreatDoorStlFCxPowA
import Derived.Test.YtmbjmiioggfneaaGreatDoorPowBCxSumN
import Derived.Test.YtmbjmiioggfneaaGreatDoorMadDCxCeyB
import Derived.Test.YtmbjmiioggfneaaGreatDoorCeyCCx
import Derived.Test.YtmbjmiioggfneaaGreatDoorHexSCxCeyD
import Derived.Test.YtmbjmiioggfneaaGreatDoorCeyECx
import Derived.Test.YtmbjmiioggfneaaGreatDoorCeyFCxCeyN
import Derived.Test.YtmbjmiioggfneaaGreatDoorCeyHCx
import Derived.Test.YtmbjmiioggfneaaGreatDoorCeyICx
import Derived.Test.YtmbjmiioggfneaaGreatDoorCeyJCx
import Derived.Test.YtmbjmiioggfneaaGreatDoorCeyKCxSamA
import Derived.Test.YtmbjmiioggfneaaGreatDoorCeyOCxHandA
import Derived.WalkKit
import Derived.WalkSpells
import Derived.WalkLawsBesides
import Derived.Deep.QuietTactic
import Derived.BigQuiet
import Derived.Laws.BitsAllLaws
import Derived.Shelf.Strings.Trim
import Derived.Shelf.Small.Utf8
import Derived.Shelf.Small.Bits
import Derived.Shelf.Small.Strs
import Derived.Shelf.Small.Wraps
import Derived.Shelf.Strings.Search1
import Derived.Shelf.Unicode.Decode
import Derived.Shelf.Strings.Runes
import Derived.Shelf.Strings.AsciiSet
import Derived.Shelf.Bits.Mul64
import Derived.Shelf.Unicode.DecodeSlow
import Derived.Shelf.Unicode.DecodeAny
import Derived.Shelf.Slices.Turned
import Derived.Ground.Names2Prog
import Derived.Shelf.Slices.SearchI
import Derived.Shelf.Strings.Builder1
import Derived.Shelf.Strings.Builder2
import Derived.Shelf.Strings.OnBuilder
import Derived.Shelf.Strings.BuilderF
import Derived.Shelf.Strings.BuilderK
import Derived.Shelf.Strings.Builder2Cap
import Derived.Shelf.Strconv.Itoa0
import Derived.Shelf.Strconv.Itoa1
import Derived.Shelf.LaysM
import Derived.Shelf.Strconv.Itoa2
import Derived.Shelf.Strings.Prefix
import Derived.Shelf.Strings.Repeat
import Derived.Shelf.Strings.BuilderCap
import Derived.RangeFuncNested
import Derived.RangeFuncBound
import Derived.RangeFuncCalls
import Derived.RangeFuncLeaves
import Derived.RangeFuncBox
import Derived.Shelf.Abstract
import Derived.Shelf.RegionOpen
import Derived.OwnWalkIn
import Derived.TacticsInMore
import Derived.LoopNIn
import Derived.LoopIn
import Derived.Maps.AppendAt
import Derived.Laws.BytesArg
import Derived.Laws.CopyOwn
import Derived.Deep.RegionLaw
import Derived.Deep.LoopGhost
import Derived.Lib.ItoaMem
import Derived.Lib.BitFns
import Derived.Deep.RegionHeld3
import Derived.Deep.CutRange
import Derived.Laws.Rows
import Derived.Laws.ResultCell
import Derived.Laws.EntriesVeiled
import Derived.Deep.OwnRows
import Derived.Sort.OwnSortedInts
import Derived.Lib.AppendZerosOnto
import Derived.Laws.AppendOwnNone
import Derived.WalkMore
import Derived.Shelf.Slices.CompactI
import Derived.Lib.ItoaNum
import Derived.OrdersHeld
import Derived.Deep.RegionHeld
set_option linter.unusedVariables false
set_option linter.unusedSimpArgs false
namespace Go.Proofs.YtmbjmiioggfneaaGreatDoor
open Go.RowKit
theorem Up.ge {l:List Int} {n:Nat} (h:Up l n):∀i (hi:i<l.length),(i:Int)≤l[i]:=by
 intro i
 induction i with
 |zero=>intro hi;exact(h.each 0 hi).1
 |succ i ih=>
  intro hi
  have:=ih (by omega)
  have:=h.lt i (i+1) hi (by omega)
  omega
theorem Up.length {l:List Int} {n:Nat} (h:Up l n):l.length≤n:=by
 rcases Nat.eq_zero_or_pos l.length with h0 |h0
 ·omega
 ·have h1:=h.ge (l.length - 1) (by omega)
  have h2:=(h.each (l.length - 1) (by omega)).2
  omega
end Go.Proofs.YtmbjmiioggfneaaGreatDoor

namespace Go.Proofs.YtmbjmiioggfneaaGreatDoor
open Go.RowKit Go.Shelf
theorem one_int (w:World) (u:Int):IntS (w.alloc (.cells #[.int .i64 u] 3)) (some ⟨w.heap.size,0,none⟩) [u]:=fun k hk=>by
 obtain rfl:k=0:=by simp at hk;omega
 exact⟨w.heap.size,0,rfl,by simp,(Boxed.new w _ _).cell⟩
end Go.Proofs.YtmbjmiioggfneaaGreatDoor

namespace Go.Proofs.YtmbjmiioggfneaaGreatDoor
open Go.RowKit Go.Shelf
theorem up_iff {l:List Int} {n:Nat}:Up l n↔(∀x∈l,0≤x∧x<n)∧l.Pairwise (·<·):=by
 constructor
 ·intro h
  refine⟨fun x hx=>?_,List.pairwise_iff_getElem.2 fun i j hi hj hij=>h.lt i j hj hij⟩
  obtain⟨i,hi,rfl⟩:=List.getElem_of_mem hx
  exact h.each i hi
 ·rintro⟨h1,h2⟩
  exact⟨fun i hi=>h1 _ (List.getElem_mem hi),fun i j hj hi=>List.pairwise_iff_getElem.1 h2 i j (by omega) hj hi⟩
end Go.Proofs.YtmbjmiioggfneaaGreatDoor

namespace Go.Proofs.YtmbjmiioggfneaaGreatDoor
open Go.RowKit Go.Shelf
def pickN (c:Int) (n:Nat):Nat:=(if c<0 then(-(c+1)).toNat else c.toNat) % n
theorem pickN_lt (c:Int) {n:Nat} (h:1≤n):pickN c n<n:=Nat.mod_lt _ h
set_option maxRecDepth 100000 in
set_option maxHeartbeats 1000000 in
theorem rPick_same (c:Int) (n:Nat) (w:World) (h1: -9223372036854775808≤c) (h2:c≤9223372036854775807) (hn:1≤n) (hn':n≤1000):
  Calls Tryz.prog 27 #[.int .i64 c,.int .i64 (n:Nat)] w fun e w'=>e=.returned (.int .i64 (pickN c n:Nat))∧w'=w:=by
 have HP:Hid (pickN c n=(if c<0 then(-(c+1)).toNat else c.toNat) % n):=rfl
 have hlt:=pickN_lt c hn
 generalize pickN c n=P at *
 by_cases hc:c<0
 ·rw[if_pos hc] at HP
  obtain⟨d,hd⟩:∃d:Nat,c= -((d:Int)+1):=⟨(-(c+1)).toNat,by omega⟩
  subst hd
  have HE:Hid ((d:Int) % (n:Int)=(P:Int)):=by
   show _=_
   rw[HP.out,show (-(-((d:Int)+1)+1)).toNat=d by omega,Int.natCast_emod]
  have hw:IntKind.i64.wrap (-((d:Int)+1)+1)= -(d:Int):=by rw[IntKind.wrap_i64];omega
  have hw2:IntKind.i64.wrap (- -(d:Int))=(d:Int):=by rw[IntKind.wrap_i64];omega
  go_enter Tryz.func27,Tryz.ntmps27
  go_wp2
  go_ret
  exact⟨by rw[HE.out];rfl,rfl⟩
 ·rw[if_neg hc] at HP
  obtain⟨d,rfl⟩:∃d:Nat,c=d:=⟨c.toNat,by omega⟩
  have HE:Hid ((d:Int) % (n:Int)=(P:Int)):=by
   show _=_
   rw[HP.out,Int.toNat_natCast,Int.natCast_emod]
  go_enter Tryz.func27,Tryz.ntmps27
  go_wp2
  go_ret
  exact⟨by rw[HE.out];rfl,rfl⟩
theorem rPick_any (c:Int) (n:Nat) (w:World) (h1: -9223372036854775808≤c) (h2:c≤9223372036854775807) (hn:1≤n) (hn':n≤1000):
  Calls Tryz.prog 27 #[.int .i64 c,.int .i64 (n:Nat)] w fun e w'=>e=.returned (.int .i64 (pickN c n:Nat))∧Below w.heap.size w w':=by
 refine(rPick_same c n w h1 h2 hn hn').mono ?_
 rintro e w' ⟨h,rfl⟩
 exact⟨h,Below.refl _ _⟩
end Go.Proofs.YtmbjmiioggfneaaGreatDoor

namespace Go.Proofs.YtmbjmiioggfneaaGreatDoor
open Go.RowKit Go.Shelf
theorem mkRat_int (k:Int):mkRat k 1=(k:Rat):=by
 rw[Rat.mkRat_one]
end Go.Proofs.YtmbjmiioggfneaaGreatDoor

namespace Go.Proofs.YtmbjmiioggfneaaGreatDoor
open Go.RowKit Go.Shelf Go.Lib
def rawF (Ls:List Nat):List Fr:=Ls.map fun a:Nat=>qF ((a:Rat)/(Ls.sum:Rat))
theorem rawF_length (Ls:List Nat):(rawF Ls).length=Ls.length:=by simp[rawF]
theorem qw_nat {n:Nat} (h:n<256):qw (n:Rat)≤2:=by
 have h1:(n:Rat).num.natAbs=n:=by simp
 have h2:(n:Rat).den=1:=rfl
 rw[qw,h1,h2,B_size,B_size]
 have h3:=bn_fits 1 n (by omega)
 have h4:=bn_fits 1 1 (by omega)
 omega
theorem sum_le6:∀ {Ls:List Nat},(∀a∈Ls,a≤6)→Ls.sum≤6*Ls.length
 |[],_=>Nat.le_refl _
 |a::l,h=>by
  have h1:=h a List.mem_cons_self
  have h2:=sum_le6 fun b hb=>h b (List.mem_cons_of_mem _ hb)
  simp only[List.sum_cons,List.length_cons]
  omega
end Go.Proofs.YtmbjmiioggfneaaGreatDoor

namespace Go.Proofs.YtmbjmiioggfneaaGreatDoor
open Go.RowKit Go.Shelf Go.Lib
theorem iL_sum_snoc (Ls:List Nat) (a:Nat):iL (Ls++[a])=iL Ls++[(a:Int)]:=by simp[iL]
theorem RwI.put {w:World} {B g n cap:Nat} {l:List Int} (h:RwI w B (.slice (some ⟨g,0,none⟩) n cap) l) (j:Nat) (y:Int):RwI (w.setCell ⟨g,j,none⟩ (.int .i64 y)) B (.slice (some ⟨g,0,none⟩) n cap) (l.set j y):=by
 rcases h.2 with ⟨h1,_⟩ |⟨g',cap',cur,h1,h2,h3,h4,h5,h6,h7⟩
 ·cases h1
 ·cases h1
  refine⟨by simp,.inr ⟨g,cap,_,by simp,h2,heap_setCell_same w g j _ _ _ h3,by simpa using h4,h5,by simpa using h6,?_⟩⟩
  rw[Array.toList_setIfInBounds,List.length_set,List.map_set,←h7,List.take_set]
theorem RwI.emptyB (w:World) (B:Nat):RwI w B (.slice none 0 0) []:=⟨rfl,.inl ⟨rfl,rfl⟩⟩
structure Wts (Ls:List Nat) (i:Nat):Prop where
 len:Ls.length=i
 six:∀a∈Ls,a≤6
set_option maxRecDepth 100000 in
set_option maxHeartbeats 2000000 in
theorem rowOf_any (d:Option Addr) (cd k n:Nat) (W:List Int) (w:World) (hW:IntS w d W) (hr:∀x∈W, -9223372036854775808≤x∧x≤9223372036854775807) (hk:k≤100000) (hn1:1≤n) (hn3:n≤5) (hWl:W.length≤140737488355328):
  Calls Tryz.prog 63 #[.slice d W.length cd,.int .i64 (k:Nat),.int .i64 (n:Nat)] w fun e w'=>∃(x:Value) (Ls:List Nat),e=.returned x∧RwF w' w.heap.size x (rawF Ls)∧Wts Ls n∧1≤Ls.sum∧Below w.heap.size w w':=by
 have HW:=hid hW
 have HR:=hid hr
 have HPK:=hid (fun (c:Int) (h: -9223372036854775808≤c∧c≤9223372036854775807) (U:World)=>rPick_any c 7 U h.1 h.2 (by omega) (by omega))
 have HPL:=hid (fun (c:Int)=>pickN_lt c (n:=7) (by omega))
 have HOF:=hid (fun (a:Nat) (h:a≤100) (U:World)=>rOfF_any (a:Int) U (by omega) (by omega))
 have HOF':Hid (∀(a:Nat),a≤100→∀U:World,Calls Tryz.prog 35 #[.int .i64 (a:Nat)] U fun e w'=>e=.returned (frV (qF (a:Rat)))∧Below U.heap.size U w'):=fun a ha U=>by
  have h:=HOF.out a ha U
  rw[mkRat_int] at h
  exact h
 have HDV:Hid (∀(a s:Nat),a≤100→1≤s→s≤100→∀U:World,Calls Tryz.prog 82 #[frV (qF (a:Rat)),frV (qF (s:Rat))] U fun e w'=>e=.returned (.tuple #[frV (qF ((a:Rat)/(s:Rat))),.int .i64 0])∧Below U.heap.size U w'):=fun a s ha hs1 hs2 U=>by
  have hne:(s:Rat)≠0:=fun e=>by
   have e':s=0:=by exact_mod_cast e
   omega
  have h:=rDivF_yes (sgn (a:Rat)) (sgn (s:Rat)) (nu (a:Rat)) (de (a:Rat)) (nu (s:Rat)) (de (s:Rat)) U (by rw[val_own];exact hne) (by rw[own_size];have:=qw_nat (n:=a) (by omega);omega) (by rw[own_size];have:=qw_nat (n:=s) (by omega);omega)
  rw[val_own,val_own] at h
  exact h
 clear HOF
 have HOF:=HOF'
 clear HOF' hW hr
 go_enter Tryz.func63,Tryz.ntmps63
 go_wp2_with fail
 go_loopw [7,8,9] (fun x sv iv wr=>∃(i:Nat) (Ls:List Nat),i≤n∧iv=.int .i64 i∧sv=.int .i64 (Ls.sum:Nat)∧Hid (Wts Ls i)∧Hid (RwI wr w.heap.size x (iL Ls))∧Hid (Below w.heap.size w wr)) (fun _ _ iv _=>n - (Go.RowKit.intOf iv).toNat)
 case atStart=>exact⟨0,[],Nat.zero_le _,rfl,rfl,⟨rfl,fun a ha=>by cases ha⟩,RwI.emptyB _ _,Below.refl _ _⟩
 case round=>
  obtain⟨i,Ls,hi,rfl,rfl,HL,HX,HB⟩:=hrel
  by_cases hlt:i<n
  ·have hs18:Ls.sum≤100:=by have:=sum_le6 HL.out.six;have:=HL.out.len;omega
   have hll:=HL.out.len
   by_cases hw0:0<W.length
   ·obtain⟨ki,hki⟩:∃ki,ki=k+i:=⟨_,rfl⟩
    have hwr:IntKind.i64.wrap ((k:Int)+(i:Int))=(ki:Int):=by rw[IntKind.wrap_i64];omega
    obtain⟨t,ht⟩:∃t,t=ki % W.length:=⟨_,rfl⟩
    have htl:t<W.length:=by rw[ht];exact Nat.mod_lt _ hw0
    have hrem:(ki:Int) % (W.length:Int)=(t:Int):=by rw[ht,Int.natCast_emod]
    obtain⟨g',o',rfl,hg',cW⟩:=(HW.out.below HB.out) t htl
    have hxr:=HR.out W[t] (List.getElem_mem htl)
    have hpl:=HPL.out W[t]
    have HPT:=hid (fun U=>HPK.out W[t] hxr U)
    have hwpos:(0:Int)<(W.length:Int):=by omega
    have hwne:¬(W.length:Int)=0:=by omega
    have hwr2:IntKind.i64.wrap ((ki:Int) % (W.length:Int))=(t:Int):=by rw[hrem,IntKind.wrap_i64];omega
    clear ht hki hw0
    generalize W[t]=wt at *
    generalize pickN wt 7=p at *
    go_wp2_with fail
    refine(HPT.out _).mono ?_
    rintro e w1 ⟨rfl,hb1⟩
    have HX1:=hid (HX.out.below hb1)
    have HB1:=hid (HB.out.trans (hb1.mono HB.out.size))
    have HXA:=hid (HX1.out.below ((Below.refl _ w1).alloc (Nat.le_refl _) (.cells #[.int .i64 (p:Int)] 3)))
    have HBA:=hid (HB1.out.alloc HB1.out.size (.cells #[.int .i64 (p:Int)] 3))
    have HIA:=hid (one_int w1 (p:Int))
    have hbs:w.heap.size≤(w1.alloc (.cells #[.int .i64 (p:Int)] 3)).heap.size:=HBA.out.size
    have hil:(iL Ls).length=i:=by rw[iL_length];exact hll
    have HSU:=hid (iL_sum_snoc Ls p)
    have hsm:IntKind.i64.wrap ((Ls.sum:Int)+(p:Int))=(((Ls++[p]).sum:Nat):Int):=by rw[IntKind.wrap_i64];simp;omega
    have HWT:Hid (Wts (Ls++[p]) (i+1)):=⟨by simp[hll],fun a ha=>by rcases List.mem_append.1 ha with ha |ha;exact HL.out.six a ha;rw[List.mem_singleton.1 ha];omega⟩
    generalize hs2:(Ls++[p]).sum=s2 at *
    have HS2:=hid hs2
    clear hs2
    clear cW hb1 HX HB HX1 HB1
    go_wp2_with (at_builtin;refine wpList_append_ints rfl _ _ rfl w.heap.size _ (iL Ls) [(p:Int)] rfl HXA.out (some ⟨w1.heap.size,0,none⟩) 1 rfl HIA.out (fun e=>by cases e) (by simp;omega) hbs ?_;intro v' w3 hr3 hg3;have HB3:=hid (HBA.out.grown hg3 hbs (fun k e=>HXA.out.own k e)))
    go_roundw
    case rel=>exact⟨i+1,Ls++[p],by omega,by go_num,by rw[HS2.out],HWT,by rw[HSU.out];exact hr3,HB3⟩
    case measure=>simp[Go.RowKit.intOf];omega
   ·have hgt:¬(0:Int)<(W.length:Int):=by omega
    have hgt2:decide (0<W.length)=false:=decide_eq_false (by omega)
    have HXA:=hid (HX.out.below ((Below.refl _ wr).alloc (Nat.le_refl _) (.cells #[.int .i64 1] 3)))
    have HBA:=hid (HB.out.alloc HB.out.size (.cells #[.int .i64 1] 3))
    have HIA:=hid (one_int wr 1)
    have hbs:w.heap.size≤(wr.alloc (.cells #[.int .i64 1] 3)).heap.size:=HBA.out.size
    have hil:(iL Ls).length=i:=by rw[iL_length];exact hll
    have HSU:=hid (iL_sum_snoc Ls 1)
    have hsm:IntKind.i64.wrap ((Ls.sum:Int)+1)=(((Ls++[1]).sum:Nat):Int):=by rw[IntKind.wrap_i64];simp;omega
    have HWT:Hid (Wts (Ls++[1]) (i+1)):=⟨by simp[hll],fun a ha=>by rcases List.mem_append.1 ha with ha |ha;exact HL.out.six a ha;rw[List.mem_singleton.1 ha];omega⟩
    have HS2:=hid (Eq.refl (Ls++[1]).sum)
    generalize hs2:(Ls++[1]).sum=s2 at *
    have HS3:=hid hs2
    clear hs2 HS2 HX HB hw0
    go_wp2_with (at_builtin;refine wpList_append_ints rfl _ _ rfl w.heap.size _ (iL Ls) [(1:Int)] rfl HXA.out (some ⟨wr.heap.size,0,none⟩) 1 rfl HIA.out (fun e=>by cases e) (by simp;omega) hbs ?_;intro v' w3 hr3 hg3;have HB3:=hid (HBA.out.grown hg3 hbs (fun k e=>HXA.out.own k e)))
    go_roundw
    case rel=>exact⟨i+1,Ls++[1],by omega,by go_num,by rw[HS3.out],HWT,by rw[HSU.out];exact hr3,HB3⟩
    case measure=>simp[Go.RowKit.intOf];omega
  ·obtain rfl:n=i:=by omega
   have hs18:Ls.sum≤100:=by have:=sum_le6 HL.out.six;have:=HL.out.len;omega
   have hll:=HL.out.len
   by_cases hs0:Ls.sum=0
   ·have hlp:0<(iL Ls).length:=by rw[iL_length];omega
    rcases HX.out.cases with ⟨_,hnil⟩ |⟨g,cap,rfl,hg0,hg,hc1,hc2,hh⟩
    ·rw[hnil] at hlp;exact absurd hlp (by simp)
    ·have hput:=HX.out.put 0 1
     obtain⟨hc0,hf0⟩:=hh 0 (by simpa using hlp)
     rw[Nat.zero_add] at hc0 hf0
     have HBP:=hid (HB.out.setCell (p:=⟨g,0,none⟩) hg0 (.int .i64 1))
     have hilen:(iL Ls).length=n:=by rw[iL_length];exact hll
     rw[hilen]
     obtain⟨a0,l0,rfl⟩:∃a0 l0,Ls=a0::l0:=by
      cases Ls with
      |nil=>rw[←hll] at hn1;exact absurd hn1 (by simp)
      |cons a0 l0=>exact⟨a0,l0,rfl⟩
     have ha0:a0=0∧l0.sum=0:=by simp at hs0;exact hs0
     have HXP:Hid (RwI (wr.setCell ⟨g,0,none⟩ (.int .i64 1)) w.heap.size (.slice (some ⟨g,0,none⟩) n cap) (iL (1::l0))):=by
      rw[hilen] at hput
      exact hput
     have HW2:Hid (Wts (1::l0) n):=⟨by simpa using hll,fun a ha=>by rcases List.mem_cons.1 ha with rfl |ha;omega;exact HL.out.six a (List.mem_cons_of_mem _ ha)⟩
     have HSS:Hid ((1::l0).sum=1∧1≤1∧1≤100):=⟨by simp[ha0.2],by omega,by omega⟩
     have hi0:(0:Int)<(n:Int):=by omega
     rw[hs0,show ((0:Nat):Int)=0 from rfl]
     clear hs0 hput hh HX HB hilen hs18 hll HL
     go_upto_region 14 with fail
     clear hc0 hf0 ha0
     generalize (wr.setCell ⟨g,0,none⟩ (.int .i64 1))=wb at *
     have HX2:=HXP
     have HB2:=HBP
     obtain⟨S,hS⟩:∃S:Nat,S=1:=⟨1,rfl⟩
     obtain⟨Ls2,hL2⟩:∃Ls2,Ls2=1::l0:=⟨_,rfl⟩
     rw[←hL2] at HW2 HSS HX2
     have HSS2:Hid (Ls2.sum=S∧1≤S∧S≤100):=by rw[hS];exact HSS
     have e1:(1:Int)=((S:Nat):Int):=by rw[hS];rfl
     rw[e1]
     clear HSS HXP HBP hL2 hS e1
     have HSS:=HSS2
     clear HSS2
     obtain⟨d7,cd7,e7,hi7⟩:=HX2.out.ints
     have HI7:=hid hi7
     have hil2:(iL Ls2).length=n:=by rw[iL_length];exact HW2.out.len
     rw[hil2] at e7
     cases e7
     have hS1:=HSS.out.2.1
     have hS2:=HSS.out.2.2
     have HSQ:=hid HSS.out.1
     have HFL:Hid ((rawF Ls2).length=n):=by show _=_;rw[rawF_length];exact HW2.out.len
     have HFG:Hid (∀j (h:j<Ls2.length),(rawF Ls2)[j]'(by rw[rawF_length];exact h)=qF ((Ls2[j]:Rat)/(S:Rat))):=fun j h=>by simp[rawF,HSQ.out]
     clear hi7 HSS
     go_wp2_with fail
     go_loopw [11,12] (fun x iv wr2=>∃i:Nat,i≤n∧iv=.int .i64 i∧Hid (RwF wr2 wb.heap.size x ((rawF Ls2).take i))∧Hid (Below wb.heap.size wb wr2)) (fun _ iv _=>n - (Go.RowKit.intOf iv).toNat)
     case atStart=>exact⟨0,Nat.zero_le _,rfl,RwF.empty _ _,Below.refl _ _⟩
     case round=>
      obtain⟨i,hi,rfl,HY,HBB⟩:=hrel
      by_cases hlt:i<n
      ·have hiL:i<(iL Ls2).length:=by rw[hil2];exact hlt
       have hiN:i<Ls2.length:=by rw[←iL_length];exact hiL
       obtain⟨g',o',e8,hg',cL⟩:=(HI7.out.below HBB.out) i hiL
       cases e8
       (try rw[Nat.zero_add] at cL)
       have e1:(iL Ls2)[i]'hiL=((Ls2[i]'hiN:Nat):Int):=by simp[iL]
       rw[e1] at cL
       have ha6:=HW2.out.six (Ls2[i]'hiN) (List.getElem_mem hiN)
       have hfg:=HFG.out i hiN
       have HST:Hid ((rawF Ls2).take i++[qF (((Ls2[i]'hiN:Nat):Rat)/(S:Rat))]=(rawF Ls2).take (i+1)):=by show _=_;rw[List.take_succ_eq_append_getElem (by rw[HFL.out];exact hlt),hfg]
       clear e1 hfg
       generalize (Ls2[i]'hiN)=av at *
       have HO1:=hid (fun U=>HOF.out av (by omega) U)
       have HO2:=hid (fun U=>HOF.out S (by omega) U)
       have HDV2:=hid (fun U=>HDV.out av S (by omega) (by omega) (by omega) U)
       generalize qF ((av:Nat):Rat)=fa at *
       generalize qF ((S:Nat):Rat)=fs at *
       generalize qF (((av:Nat):Rat)/((S:Nat):Rat))=fq at *
       obtain⟨an,ax,ay⟩:=fa
       obtain⟨sn,sx,sy⟩:=fs
       obtain⟨qn,qx,qy⟩:=fq
       go_wp2_with fail
       refine(HO1.out _).mono ?_
       rintro e v1 ⟨rfl,hb1⟩
       go_wp2_with fail
       refine(HO2.out _).mono ?_
       rintro e v2 ⟨rfl,hb2⟩
       go_wp2_with fail
       refine(HDV2.out _).mono ?_
       rintro e v3 ⟨rfl,hb3⟩
       have hb23:=hb2.trans (hb3.mono hb2.size)
       have hb13:=hb1.trans (hb23.mono hb1.size)
       clear hb1 hb2 hb3 hb23
       have hbx:=Box.new v3 qn qx qy
       have hb4:=hb13.alloc hb13.size (FC qn qx qy)
       obtain⟨k0,k1,k2, -⟩:=hbx.facts
       have hbx2:Box ((v3.alloc (FC qn qx qy)).alloc (FC qn qx qy)) (v3.heap.size+1) qn qx qy:=by
        have h:=Box.new (v3.alloc (FC qn qx qy)) qn qx qy
        rwa [World.size_alloc] at h
       have hb5:=hb4.alloc hb4.size (FC qn qx qy)
       have HY5:=hid (HY.out.below hb5)
       have HB5:=hid (HBB.out.trans (hb5.mono HBB.out.size))
       have HBX:=hid hbx2
       have hbs:wb.heap.size≤((v3.alloc (FC qn qx qy)).alloc (FC qn qx qy)).heap.size:=HB5.out.size
       have htl:((rawF Ls2).take i).length≤5:=by rw[List.length_take,HFL.out];omega
       clear hb13 hb4 hb5 hbx hbx2 HY HBB cL
       go_wp2_with (at_builtin;refine wpList_append_fr rfl _ _ rfl wb.heap.size _ ((rawF Ls2).take i) (qn,qx,qy) rfl HY5.out (v3.heap.size+1) rfl HBX.out (by omega) hbs ?_;intro v' v6 hr6 hg6;have HB6:=hid (HB5.out.grown hg6 hbs (fun k e=>HY5.out.own k e)))
       go_roundw
       case rel=>exact⟨i+1,by omega,by go_num,by rw[←HST.out];exact hr6,HB6⟩
       case measure=>simp[Go.RowKit.intOf];omega
      ·obtain rfl:i=n:=by omega
       go_wp2
       go_ret
       have hr:=HY.out
       rw[List.take_of_length_le (by rw[HFL.out];exact Nat.le_refl _)] at hr
       exact⟨_,Ls2,rfl,hr.lower HB2.out.size,HW2.out,by rw[HSQ.out];exact hS1,HB2.out.trans (HBB.out.mono HB2.out.size)⟩
   ·have hs0':¬(Ls.sum:Int)=0:=by omega
    obtain⟨S,hS⟩:∃S,Ls.sum=S:=⟨_,rfl⟩
    have HSS:Hid (Ls.sum=S∧1≤S∧S≤100):=⟨hS,by omega,by omega⟩
    rw[hS] at hs0'⊢
    obtain⟨Ls2,hL2⟩:∃Ls2,Ls2=Ls:=⟨_,rfl⟩
    rw[←hL2] at HL HX HSS
    have HW2:=HL
    have HX2:=HX
    have HB2:=HB
    have hsb:((S:Int)==0)=false:=by simpa using hs0'
    clear hs0 hS hL2 HL HX HB hs18 hll
    go_upto_region 14 with fail
    clear hs0' hsb
    generalize wr=wb at *
    obtain⟨d7,cd7,e7,hi7⟩:=HX2.out.ints
    have HI7:=hid hi7
    have hil2:(iL Ls2).length=n:=by rw[iL_length];exact HW2.out.len
    rw[hil2] at e7
    cases e7
    have hS1:=HSS.out.2.1
    have hS2:=HSS.out.2.2
    have HSQ:=hid HSS.out.1
    have HFL:Hid ((rawF Ls2).length=n):=by show _=_;rw[rawF_length];exact HW2.out.len
    have HFG:Hid (∀j (h:j<Ls2.length),(rawF Ls2)[j]'(by rw[rawF_length];exact h)=qF ((Ls2[j]:Rat)/(S:Rat))):=fun j h=>by simp[rawF,HSQ.out]
    clear hi7 HSS
    go_wp2_with fail
    go_loopw [11,12] (fun x iv wr2=>∃i:Nat,i≤n∧iv=.int .i64 i∧Hid (RwF wr2 wb.heap.size x ((rawF Ls2).take i))∧Hid (Below wb.heap.size wb wr2)) (fun _ iv _=>n - (Go.RowKit.intOf iv).toNat)
    case atStart=>exact⟨0,Nat.zero_le _,rfl,RwF.empty _ _,Below.refl _ _⟩
    case round=>
     obtain⟨i,hi,rfl,HY,HBB⟩:=hrel
     by_cases hlt:i<n
     ·have hiL:i<(iL Ls2).length:=by rw[hil2];exact hlt
      have hiN:i<Ls2.length:=by rw[←iL_length];exact hiL
      obtain⟨g',o',e8,hg',cL⟩:=(HI7.out.below HBB.out) i hiL
      cases e8
      (try rw[Nat.zero_add] at cL)
      have e1:(iL Ls2)[i]'hiL=((Ls2[i]'hiN:Nat):Int):=by simp[iL]
      rw[e1] at cL
      have ha6:=HW2.out.six (Ls2[i]'hiN) (List.getElem_mem hiN)
      have hfg:=HFG.out i hiN
      have HST:Hid ((rawF Ls2).take i++[qF (((Ls2[i]'hiN:Nat):Rat)/(S:Rat))]=(rawF Ls2).take (i+1)):=by show _=_;rw[List.take_succ_eq_append_getElem (by rw[HFL.out];exact hlt),hfg]
      clear e1 hfg
      generalize (Ls2[i]'hiN)=av at *
      have HO1:=hid (fun U=>HOF.out av (by omega) U)
      have HO2:=hid (fun U=>HOF.out S (by omega) U)
      have HDV2:=hid (fun U=>HDV.out av S (by omega) (by omega) (by omega) U)
      generalize qF ((av:Nat):Rat)=fa at *
      generalize qF ((S:Nat):Rat)=fs at *
      generalize qF (((av:Nat):Rat)/((S:Nat):Rat))=fq at *
      obtain⟨an,ax,ay⟩:=fa
      obtain⟨sn,sx,sy⟩:=fs
      obtain⟨qn,qx,qy⟩:=fq
      go_wp2_with fail
      refine(HO1.out _).mono ?_
      rintro e v1 ⟨rfl,hb1⟩
      go_wp2_with fail
      refine(HO2.out _).mono ?_
      rintro e v2 ⟨rfl,hb2⟩
      go_wp2_with fail
      refine(HDV2.out _).mono ?_
      rintro e v3 ⟨rfl,hb3⟩
      have hb23:=hb2.trans (hb3.mono hb2.size)
      have hb13:=hb1.trans (hb23.mono hb1.size)
      clear hb1 hb2 hb3 hb23
      have hbx:=Box.new v3 qn qx qy
      have hb4:=hb13.alloc hb13.size (FC qn qx qy)
      obtain⟨k0,k1,k2, -⟩:=hbx.facts
      have hbx2:Box ((v3.alloc (FC qn qx qy)).alloc (FC qn qx qy)) (v3.heap.size+1) qn qx qy:=by
       have h:=Box.new (v3.alloc (FC qn qx qy)) qn qx qy
       rwa [World.size_alloc] at h
      have hb5:=hb4.alloc hb4.size (FC qn qx qy)
      have HY5:=hid (HY.out.below hb5)
      have HB5:=hid (HBB.out.trans (hb5.mono HBB.out.size))
      have HBX:=hid hbx2
      have hbs:wb.heap.size≤((v3.alloc (FC qn qx qy)).alloc (FC qn qx qy)).heap.size:=HB5.out.size
      have htl:((rawF Ls2).take i).length≤5:=by rw[List.length_take,HFL.out];omega
      clear hb13 hb4 hb5 hbx hbx2 HY HBB cL
      go_wp2_with (at_builtin;refine wpList_append_fr rfl _ _ rfl wb.heap.size _ ((rawF Ls2).take i) (qn,qx,qy) rfl HY5.out (v3.heap.size+1) rfl HBX.out (by omega) hbs ?_;intro v' v6 hr6 hg6;have HB6:=hid (HB5.out.grown hg6 hbs (fun k e=>HY5.out.own k e)))
      go_roundw
      case rel=>exact⟨i+1,by omega,by go_num,by rw[←HST.out];exact hr6,HB6⟩
      case measure=>simp[Go.RowKit.intOf];omega
     ·obtain rfl:i=n:=by omega
      go_wp2
      go_ret
      have hr:=HY.out
      rw[List.take_of_length_le (by rw[HFL.out];exact Nat.le_refl _)] at hr
      exact⟨_,Ls2,rfl,hr.lower HB2.out.size,HW2.out,by rw[HSQ.out];exact hS1,HB2.out.trans (HBB.out.mono HB2.out.size)⟩
end Go.Proofs.YtmbjmiioggfneaaGreatDoor

namespace Go.Proofs.YtmbjmiioggfneaaGreatDoor
open Go.RowKit Go.Shelf
theorem up_nil (n:Nat):Up [] n:=up_iff.2 ⟨fun x hx=>(by cases hx),List.Pairwise.nil⟩
theorem Up.wider {L:List Int} {i j:Nat} (h:Up L i) (hij:i≤j):Up L j:=up_iff.2 ⟨fun x hx=>by have:=(up_iff.1 h).1 x hx;omega,(up_iff.1 h).2⟩
theorem Up.snoc {L:List Int} {i:Nat} (h:Up L i):Up (L++[(i:Int)]) (i+1):=by
 refine up_iff.2 ⟨fun x hx=>?_,?_⟩
 ·rcases List.mem_append.1 hx with hx |hx
  ·have:=(up_iff.1 h).1 x hx;omega
  ·have:=List.mem_singleton.1 hx;omega
 ·rw[List.pairwise_append]
  refine⟨(up_iff.1 h).2,List.pairwise_singleton _ _,fun x hx y hy=>?_⟩
  have:=(up_iff.1 h).1 x hx
  have:=List.mem_singleton.1 hy
  omega
set_option maxRecDepth 100000 in
set_option maxHeartbeats 1000000 in
theorem rSome_any (a:Option Addr) (ca n:Nat) (l:List Int) (w:World) (hv:IntS w a l) (hr:∀x∈l, -9223372036854775808≤x∧x≤9223372036854775807) (hn:l.length≤140737488355328) (hn0:1≤n) (hn':n≤1000):
  Calls Tryz.prog 29 #[.slice a l.length ca,.int .i64 (n:Nat)] w fun e w'=>∃x L,e=.returned x∧RwI w' w.heap.size x L∧Up L n∧Below w.heap.size w w':=by
 obtain⟨i0,hi0,hz0,hz1,hz2⟩:=info_parts Tryz.infoInt
 have HV:=hid hv
 have HRG:=hid hr
 clear hv hr
 go_enter Tryz.func29,Tryz.ntmps29
 go_wp2_with fail
 go_loopw [5,6] (fun xv iv wr=>∃(i:Nat) (L:List Int),i≤n∧iv=.int .i64 i∧Hid (Up L i)∧Hid (RwI wr w.heap.size xv L)∧Hid (Below w.heap.size w wr)) (fun _ iv _=>n - (intOf iv).toNat)
 case atStart=>exact⟨0,[],Nat.zero_le _,rfl,up_nil 0,⟨rfl,.inl ⟨rfl,rfl⟩⟩,Below.refl _ _⟩
 case round=>
  obtain⟨i,L,hi,rfl,HU,HR,HB⟩:=hrel
  by_cases hlt:i<n
  ·go_wp2_with fail
   have HI0:Hid (RwI wr w.heap.size u5 L):=HR
   go_loopw [7,8] (fun bv jv wq=>∃(j:Nat) (b:Bool),j≤l.length∧jv=.int .i64 j∧bv=.bool b∧Hid (RwI wq w.heap.size u5 L)∧Hid (Below w.heap.size w wq)) (fun _ jv _=>l.length - (intOf jv).toNat)
   case atStart=>exact⟨0,false,Nat.zero_le _,rfl,rfl,HR,HB⟩
   case round=>
    obtain⟨j,b,hj,rfl,rfl,HR',HB'⟩:=hrel
    clear HR HB HI0
    by_cases hjl:j<l.length
    ·cases b with
     |true=>
      go_wp2
      go_roundw
      case rel=>exact⟨j+1,true,by omega,by go_num,rfl,HR',HB'⟩
      case measure=>simp[intOf];omega
     |false=>
      obtain⟨g,o,rfl,hg,c0⟩:=(HV.out.below HB'.out) j hjl
      have hrr:=HRG.out l[j] (List.getElem_mem hjl)
      generalize l[j]=z at *
      go_wp2_with fail
      refine(rPick_any z n _ hrr.1 hrr.2 (by omega) (by omega)).mono ?_
      rintro e w1 ⟨rfl,hb1⟩
      generalize pickN z n=P at *
      have HR1:=hid (HR'.out.below hb1)
      have HB1:=hid (HB'.out.trans (hb1.mono HB'.out.size))
      clear HR' HB' hb1 c0
      go_wp2
      go_roundw
      case rel=>exact⟨j+1,_,by omega,by go_num,rfl,HR1,HB1⟩
      case measure=>simp[intOf];omega
    ·obtain rfl:j=l.length:=by omega
     cases b with
     |false=>
      go_wp2
      go_roundw
      case rel=>exact⟨i+1,L,by omega,by go_num,HU.out.wider (by omega),HR',HB'⟩
      case measure=>simp[intOf];omega
     |true=>
      have hle:=HU.out.length
      have HOWN:=hid HR'.out.own
      have HRA:Hid (RwI (wr.alloc (.cells #[.int .i64 (i:Nat)] 3)) w.heap.size _ L):=World.ownsRow.alloc HR'.out _
      have HBA:=hid (HB'.out.alloc HB'.out.size (.cells #[.int .i64 (i:Nat)] 3))
      have HIA:=hid (new_int wr (i:Nat))
      go_wp2_with (at_builtin;refine wpList_append_ints rfl _ _ rfl w.heap.size _ L [((i:Nat):Int)] rfl HRA.out (some ⟨wr.heap.size,0,none⟩) 1 rfl HIA.out (fun e=>by cases e) (by simp;omega) HBA.out.size ?_;intro v' w3 hr3 hg3)
      have HR3:=hid hr3
      have HB3:=hid (HBA.out.grown hg3 HBA.out.size HOWN.out)
      clear hr3 hg3
      go_roundw
      case rel=>exact⟨i+1,_,by omega,by go_num,HU.out.snoc,HR3,HB3⟩
      case measure=>simp[intOf];omega
  ·obtain rfl:i=n:=by omega
   go_wp2
   go_ret
   exact⟨_,L,rfl,HR.out,HU.out,HB.out⟩
end Go.Proofs.YtmbjmiioggfneaaGreatDoor

namespace Go.Proofs.YtmbjmiioggfneaaGreatDoor
open Go.RowKit Go.Shelf Go.Lib
def RwP (i k:Nat) (P:List PR):Prop:=P.length=i∧∀p∈P,∃Ls,p.2=rawF Ls∧Wts Ls k∧1≤Ls.sum
theorem RwP.push {i k:Nat} {P:List PR} (h:RwP i k P) (q:Value) {Ls:List Nat} (h1:Wts Ls k) (h2:1≤Ls.sum):RwP (i+1) k (P++[(q,rawF Ls)]):=by
 refine⟨by rw[List.length_append,h.1];rfl,fun p hp=>?_⟩
 rcases List.mem_append.1 hp with hp |hp
 ·exact h.2 p hp
 ·rw[List.mem_singleton.1 hp]
  exact⟨Ls,rfl,h1,h2⟩
end Go.Proofs.YtmbjmiioggfneaaGreatDoor

namespace Go.Proofs.YtmbjmiioggfneaaGreatDoor
open Go.RowKit Go.Shelf
set_option maxRecDepth 100000 in
set_option maxHeartbeats 2000000 in
theorem matrixOf_any (d:Option Addr) (cd n:Nat) (W:List Int) (w:World) (hW:IntS w d W) (hr:∀x∈W, -9223372036854775808≤x∧x≤9223372036854775807) (hWl:W.length≤140737488355328) (hn1:1≤n) (hn:n≤5):
  Calls Tryz.prog 28 #[.slice d W.length cd,.int .i64 (n:Nat)] w fun e w'=>∃(y:Value) (P1:List PR),e=.returned y∧OwR w' w.heap.size y P1∧RwP n n P1∧Below w.heap.size w w':=by
 have HROW:=hid (fun (a:Option Addr) (ca:Nat) (L:List Int) (U:World) (hU:IntS U a L) (hr:∀x∈L, -9223372036854775808≤x∧x≤9223372036854775807) (hl:L.length=n)=>rowOf_any a ca 0 n L U hU hr (by omega) hn1 hn (by omega))
 have HPK:=hid (fun (c:Int) (h: -9223372036854775808≤c∧c≤9223372036854775807) (U:World)=>rPick_any c 9 U h.1 h.2 (by omega) (by omega))
 have HPL:=hid (fun (c:Int)=>pickN_lt c (n:=9) (by omega))
 have HW:=hid hW
 have HRG:=hid hr
 clear hW hr
 go_enter Tryz.func28,Tryz.ntmps28
 go_wp2_with fail
 go_loopw [5,6] (fun yv iv wr=>∃i:Nat,i≤n∧iv=.int .i64 i∧∃P1:List PR,Hid (OwR wr w.heap.size yv P1)∧Hid (RwP i n P1)∧Hid (Below w.heap.size w wr)) (fun _ iv _=>n - (intOf iv).toNat)
 case atStart=>exact⟨0,Nat.zero_le _,rfl,[],OwR.nil _ _,⟨rfl,fun p hp=>by cases hp⟩,Below.refl _ _⟩
 case round=>
  obtain⟨i,hi,rfl,P1,HK,HP1,HB⟩:=hrel
  by_cases hlt:i<n
  ·obtain⟨B0,hB0⟩:∃x,x=wr.heap.size:=⟨_,rfl⟩
   have HWR:Hid (w.heap.size≤B0):=by rw[hB0];exact HB.out.size
   have HB0:=hid hB0
   clear hB0
   go_wp2_with fail
   go_loopw [7,8] (fun lv kv wq=>∃(k:Nat) (L:List Int),k≤n∧kv=.int .i64 k∧L.length=k∧Hid (∀x∈L, -9223372036854775808≤x∧x≤9223372036854775807)∧Hid (RwI wq B0 lv L)∧Hid (OwR wq w.heap.size u5 P1)∧Hid (Below w.heap.size w wq)∧Hid (B0≤wq.heap.size)) (fun _ kv _=>n - (intOf kv).toNat)
   case atStart=>exact⟨0,[],Nat.zero_le _,rfl,rfl,(fun x hx=>by cases hx),⟨rfl,.inl ⟨rfl,rfl⟩⟩,HK,HB,Nat.le_of_eq HB0.out⟩
   case round=>
    obtain⟨k,L,hk,rfl,hLk,HLR,HL',HK',HB',HSZ'⟩:=hrel
    clear HK HB
    by_cases hlk:k<n
    ·by_cases hw0:0<W.length
     ·obtain⟨ik,hik⟩:∃ik,ik=i*n+k:=⟨_,rfl⟩
      have hin:i*n≤25:=Nat.le_trans (Nat.mul_le_mul (by omega:i≤5) hn) (by decide)
      have ein:(i:Int)*(n:Int)=((i*n:Nat):Int):=by push_cast;rfl
      have hw1:IntKind.i64.wrap ((i:Int)*(n:Int))=((i*n:Nat):Int):=by rw[ein,IntKind.wrap_i64];omega
      have hw2:IntKind.i64.wrap (((i*n:Nat):Int)+(k:Int))=(ik:Int):=by rw[IntKind.wrap_i64];omega
      generalize i*n=in_ at *
      clear ein
      obtain⟨t,ht⟩:∃t,t=ik % W.length:=⟨_,rfl⟩
      have htl:t<W.length:=by rw[ht];exact Nat.mod_lt _ hw0
      have hrem:(ik:Int) % (W.length:Int)=(t:Int):=by rw[ht,Int.natCast_emod]
      obtain⟨g',o',rfl,hg',cW⟩:=(HW.out.below HB'.out) t htl
      have hxr:=HRG.out W[t] (List.getElem_mem htl)
      have hpl:=HPL.out W[t]
      have HPT:=hid (fun U=>HPK.out W[t] hxr U)
      have hwpos:(0:Int)<(W.length:Int):=by omega
      have hwne:¬(W.length:Int)=0:=by omega
      have hwr2:IntKind.i64.wrap ((ik:Int) % (W.length:Int))=(t:Int):=by rw[hrem,IntKind.wrap_i64];omega
      clear ht hik hw0
      generalize W[t]=wt at *
      generalize pickN wt 9=p at *
      go_wp2_with fail
      refine(HPT.out _).mono ?_
      rintro e w1 ⟨rfl,hb1⟩
      have HL1:=hid (HL'.out.below hb1)
      have HK1:=hid (HK'.out.below hb1)
      have HB1:=hid (HB'.out.trans (hb1.mono HB'.out.size))
      have HSZ1:Hid (B0≤w1.heap.size):=Nat.le_trans HSZ'.out hb1.size
      clear HL' HK' HB' HSZ' hb1 cW HPT
      by_cases hp3:p<3
      ·have hneg:((p:Int) - 3<0):=by omega
       have HXA:=hid (HL1.out.below ((Below.refl _ w1).alloc (Nat.le_refl _) (.cells #[.int .i64 0] 3)))
       have HBA:=hid (HB1.out.alloc HB1.out.size (.cells #[.int .i64 0] 3))
       have HKA:=hid (HK1.out.below ((Below.refl _ w1).alloc (Nat.le_refl _) (.cells #[.int .i64 0] 3)))
       have HSA:Hid (B0≤(w1.alloc (.cells #[.int .i64 0] 3)).heap.size):=Nat.le_trans HSZ1.out (by simp)
       have HIA:=hid (one_int w1 0)
       have HLR2:Hid (∀x∈L++[(0:Int)], -9223372036854775808≤x∧x≤9223372036854775807):=fun x hx=>by
        rcases List.mem_append.1 hx with hx |hx
        ·exact HLR.out x hx
        ·rw[List.mem_singleton.1 hx];omega
       clear HL1 HK1 HB1 HSZ1 hpl
       go_wp2_with (at_builtin;refine wpList_append_ints rfl _ _ rfl B0 _ L [(0:Int)] rfl HXA.out (some ⟨w1.heap.size,0,none⟩) 1 rfl HIA.out (fun e=>by cases e) (by simp;omega) HSA.out ?_;intro v' w3 hr3 hg3;have HB3:=hid (HBA.out.grown hg3 HBA.out.size (fun k e=>Nat.le_trans HWR.out (HXA.out.own k e)));have HK3:=hid (HKA.out.keep (KeepT.grown hg3 (owns_typed HXA.out) (by decide)) (KeepT.grown hg3 (owns_typed HXA.out) (by decide)));have HS3:Hid (B0≤w3.heap.size):=Nat.le_trans HSA.out hg3.size)
       go_roundw
       case rel=>exact⟨k+1,L++[(0:Int)],by omega,by go_num,by simp[hLk],HLR2,hr3,HK3,HB3,HS3⟩
       case measure=>simp[intOf];omega
      ·have hneg:¬((p:Int) - 3<0):=by omega
       obtain⟨z,hz⟩:∃z:Nat,z=p - 3:=⟨_,rfl⟩
       have hzz:((p:Int) - 3)=(z:Int):=by omega
       have hnz:¬((z:Int)<0):=by omega
       have hz9:z<9:=by omega
       clear hz
       have HXA:=hid (HL1.out.below ((Below.refl _ w1).alloc (Nat.le_refl _) (.cells #[.int .i64 (z:Int)] 3)))
       have HBA:=hid (HB1.out.alloc HB1.out.size (.cells #[.int .i64 (z:Int)] 3))
       have HKA:=hid (HK1.out.below ((Below.refl _ w1).alloc (Nat.le_refl _) (.cells #[.int .i64 (z:Int)] 3)))
       have HSA:Hid (B0≤(w1.alloc (.cells #[.int .i64 (z:Int)] 3)).heap.size):=Nat.le_trans HSZ1.out (by simp)
       have HIA:=hid (one_int w1 (z:Int))
       have HLR2:Hid (∀x∈L++[((z:Int):Int)], -9223372036854775808≤x∧x≤9223372036854775807):=fun x hx=>by
        rcases List.mem_append.1 hx with hx |hx
        ·exact HLR.out x hx
        ·rw[List.mem_singleton.1 hx];omega
       clear HL1 HK1 HB1 HSZ1 hpl hneg
       go_wp2_with (at_builtin;refine wpList_append_ints rfl _ _ rfl B0 _ L [((z:Int):Int)] rfl HXA.out (some ⟨w1.heap.size,0,none⟩) 1 rfl HIA.out (fun e=>by cases e) (by simp;omega) HSA.out ?_;intro v' w3 hr3 hg3;have HB3:=hid (HBA.out.grown hg3 HBA.out.size (fun k e=>Nat.le_trans HWR.out (HXA.out.own k e)));have HK3:=hid (HKA.out.keep (KeepT.grown hg3 (owns_typed HXA.out) (by decide)) (KeepT.grown hg3 (owns_typed HXA.out) (by decide)));have HS3:Hid (B0≤w3.heap.size):=Nat.le_trans HSA.out hg3.size)
       go_roundw
       case rel=>exact⟨k+1,L++[((z:Int):Int)],by omega,by go_num,by simp[hLk],HLR2,hr3,HK3,HB3,HS3⟩
       case measure=>simp[intOf];omega
     ·have hgt:¬(0:Int)<(W.length:Int):=by omega
      have hgt2:decide (0<W.length)=false:=decide_eq_false (by omega)
      have HXA:=hid (HL'.out.below ((Below.refl _ wr).alloc (Nat.le_refl _) (.cells #[.int .i64 1] 3)))
      have HBA:=hid (HB'.out.alloc HB'.out.size (.cells #[.int .i64 1] 3))
      have HKA:=hid (HK'.out.below ((Below.refl _ wr).alloc (Nat.le_refl _) (.cells #[.int .i64 1] 3)))
      have HSA:Hid (B0≤(wr.alloc (.cells #[.int .i64 1] 3)).heap.size):=Nat.le_trans HSZ'.out (by simp)
      have HIA:=hid (one_int wr 1)
      have HLR2:Hid (∀x∈L++[(1:Int)], -9223372036854775808≤x∧x≤9223372036854775807):=fun x hx=>by
       rcases List.mem_append.1 hx with hx |hx
       ·exact HLR.out x hx
       ·rw[List.mem_singleton.1 hx];omega
      clear HL' HK' HB' HSZ'
      go_wp2_with (at_builtin;refine wpList_append_ints rfl _ _ rfl B0 _ L [(1:Int)] rfl HXA.out (some ⟨wr.heap.size,0,none⟩) 1 rfl HIA.out (fun e=>by cases e) (by simp;omega) HSA.out ?_;intro v' w3 hr3 hg3;have HB3:=hid (HBA.out.grown hg3 HBA.out.size (fun k e=>Nat.le_trans HWR.out (HXA.out.own k e)));have HK3:=hid (HKA.out.keep (KeepT.grown hg3 (owns_typed HXA.out) (by decide)) (KeepT.grown hg3 (owns_typed HXA.out) (by decide)));have HS3:Hid (B0≤w3.heap.size):=Nat.le_trans HSA.out hg3.size)
      go_roundw
      case rel=>exact⟨k+1,L++[(1:Int)],by omega,by go_num,by simp[hLk],HLR2,hr3,HK3,HB3,HS3⟩
      case measure=>simp[intOf];omega
    ·obtain rfl:k=n:=by omega
     obtain⟨dl,cl,rfl,hii⟩:=RwI.ints HL'.out
     have HRO:Hid (Calls Tryz.prog 63 #[.slice dl k cl,.int .i64 0,.int .i64 (k:Nat)] wr fun e w'=>∃(x:Value) (Ls:List Nat),e=.returned x∧RwF w' wr.heap.size x (rawF Ls)∧Wts Ls k∧1≤Ls.sum∧Below wr.heap.size wr w'):=by
      have h:=HROW.out dl cl L _ hii HLR.out hLk
      rw[hLk] at h
      exact h
     clear hii HL'
     go_wp2_with fail
     refine HRO.out.mono ?_
     rintro e w3 ⟨xa,La,rfl,hxa,hwa,hsa,hb3⟩
     obtain⟨da,na,ca,rfl⟩:=hxa.slv
     obtain⟨dy,cy,rfl, -⟩:=owns_slice HK'.out.1
     have hAL:=(Below.refl w3.heap.size w3).alloc (Nat.le_refl _) (.cells #[.slice da na ca] 23)
     have hone:(w3.alloc (.cells #[.slice da na ca] 23)).heap[w3.heap.size]? =some (.cells #[.slice da na ca] 23 (0,0)):=heap_alloc_new w3 _
     have HC1:Hid ((w3.alloc (.cells #[.slice da na ca] 23)).cell? ⟨w3.heap.size,0,none⟩=some (.slice da na ca)):=by
      show _=_
      rw[cell_of_row _ _ _ _ _ (0,0) hone]
      rfl
     have HB4:=hid ((HB'.out.trans (hb3.mono HB'.out.size)).alloc (Nat.le_trans HB'.out.size hb3.size) (.cells #[.slice da na ca] 23))
     have HA:=hid ((hxa.lower HB'.out.size).below hAL)
     have HK4:=hid ((HK'.out.below hb3).below hAL)
     have HPP:=hid (HP1.out.push (.slice da na ca) hwa hsa)
     have HL1:=hid HP1.out.1
     clear hone hAL hxa hwa hsa hb3 HK' HB'
     go_wp2_with (at_builtin;refine wpList_append_rs rfl _ _ rfl w.heap.size (.slice dy P1.length cy) P1 (.slice da na ca) ⟨_,_,_,rfl⟩ rfl HK4.out.1 w3.heap.size rfl HC1.out (by rw[HL1.out];omega) HB4.out.size ?_;intro v5 w5 hr5 hg5;have HK5:=hid (HK4.out.push hr5 hg5 HA.out);have HB5:=hid (HB4.out.grown hg5 HB4.out.size (fun k e=>owns_from HK4.out.1 k e)))
     go_roundw
     case rel=>exact⟨i+1,by omega,by go_num,_,HK5,HPP,HB5⟩
     case measure=>simp[intOf];omega
  ·obtain rfl:i=n:=by omega
   go_wp2
   go_ret
   exact⟨_,P1,rfl,HK.out,HP1.out,HB.out⟩
end Go.Proofs.YtmbjmiioggfneaaGreatDoor

namespace Go.Proofs.YtmbjmiioggfneaaGreatDoor
open Go.RowKit Go.Shelf
theorem OwR.rowsM {W:World} {B:Nat} {z:Value} {Rs:List PR} (h:OwR W B z Rs):∃a c,z=.slice a (rOf Rs).length c∧FsS W a (rOf Rs):=h.rows
theorem raw_hmu {n:Nat} {P:List PR} (hn:n≤5) (hP:RwP n n P):HMu (rOf P):=by
 refine⟨by rw[rOf,List.length_map,hP.1];omega,fun r hr=>?_⟩
 obtain⟨p,hp,rfl⟩:=List.mem_map.1 hr
 obtain⟨L,e,hL,hL1⟩:=hP.2 p hp
 rw[e]
 refine⟨by rw[rawF_length,hL.len];omega,fun f hf=>?_⟩
 obtain⟨a,ha,rfl⟩:=List.mem_map.1 hf
 have h6:=sum_le6 hL.six
 have h1:=hL.six a ha
 have hsum:L.sum<256:=by rw[hL.len] at h6;omega
 have hne:L.sum≠0:=by omega
 have hfit:Fits 1 ((a:Rat)/(L.sum:Rat)):=⟨(a:Int),L.sum,hne,by rw[Rat.mkRat_eq_div];rfl,by omega,by simp;omega⟩
 have h2:=fits_qw hfit
 have h3:(nu ((a:Rat)/(L.sum:Rat))).size+(de ((a:Rat)/(L.sum:Rat))).size≤2:=by rw[own_size];omega
 show (nu ((a:Rat)/(L.sum:Rat))).size≤_∧(de ((a:Rat)/(L.sum:Rat))).size≤_
 omega
set_option maxRecDepth 100000 in
theorem chainMade_big (a0 a2:Option Addr) (c0 c2:Nat) (W0 W2:List Int) (n1 n3 n4:Int) (w:World) (h0:W0.length≤140737488355328) (h2:W2.length≤140737488355328) (h:256<W0.length+W2.length):
  Calls Tryz.prog 4 #[.slice a0 W0.length c0,.int .i64 n1,.slice a2 W2.length c2,.int .i64 n3,.int .i64 n4] w fun e w'=>e=.returned (.bool true)∧Below w.heap.size w w':=by
 have e1:IntKind.i64.wrap ((W0.length:Int)+(W2.length:Int))=(W0.length:Int)+(W2.length:Int):=by rw[IntKind.wrap_i64];omega
 have hg:(256:Int)<(W0.length:Int)+(W2.length:Int):=by omega
 go_enter Tryz.func4,Tryz.ntmps4
 go_wp2
 go_ret
 exact⟨rfl,Below.refl _ _⟩
set_option maxRecDepth 100000 in
set_option maxHeartbeats 2000000 in
theorem chainMade_walk (a0 a2:Option Addr) (c0 c2:Nat) (X0 X2:List Int) (n1 n3 n4:Int) (w:World) (h0:IntS w a0 X0) (h2:IntS w a2 X2) (r0:∀x∈X0, -9223372036854775808≤x∧x≤9223372036854775807) (r2:∀x∈X2, -9223372036854775808≤x∧x≤9223372036854775807) (hn1: -9223372036854775808≤n1∧n1≤9223372036854775807) (hn3: -9223372036854775808≤n3∧n3≤9223372036854775807) (hn4: -9223372036854775808≤n4∧n4≤9223372036854775807) (hle:X0.length+X2.length≤256):
  Calls Tryz.prog 4 #[.slice a0 X0.length c0,.int .i64 n1,.slice a2 X2.length c2,.int .i64 n3,.int .i64 n4] w fun e w'=>e=.returned (.bool true)∧Below w.heap.size w w':=by
 have HPN:=hid (fun U:World=>rPick_any n1 4 U hn1.1 hn1.2 (by omega) (by omega))
 have HPK:=hid (fun U:World=>rPick_any n3 6 U hn3.1 hn3.2 (by omega) (by omega))
 have hp1:=pickN_lt n1 (n:=4) (by omega)
 clear hn1 hn3
 generalize pickN n1 4=p1 at *
 generalize pickN n3 6=p3 at *
 obtain⟨n,hnn⟩:∃n,n=1+p1:=⟨_,rfl⟩
 have HEN:Hid ((1:Int)+(p1:Int)=(n:Int)):=by show _=_;omega
 have hn1:1≤n:=by omega
 have hn5:n≤4:=by omega
 have HPI:=hid (fun U:World=>rPick_any n4 n U hn4.1 hn4.2 hn1 (by omega))
 generalize pickN n4 n=p4 at *
 have HMO:=hid (fun (U:World) (hU:Below w.heap.size w U)=>matrixOf_any a0 c0 n X0 U (h0.below hU) r0 (by omega) hn1 (by omega))
 have HSO:=hid (fun (U:World) (hU:Below w.heap.size w U)=>rSome_any a2 c2 n X2 U (h2.below hU) r2 (by omega) hn1 (by omega))
 clear h0 h2 r0 r2 hnn hn4
 have e1:IntKind.i64.wrap ((X0.length:Int)+(X2.length:Int))=(X0.length:Int)+(X2.length:Int):=by rw[IntKind.wrap_i64];omega
 have hg:¬(256:Int)<(X0.length:Int)+(X2.length:Int):=by omega
 go_enter Tryz.func4,Tryz.ntmps4
 go_wp2_with fail
 refine(HPN.out _).mono ?_
 rintro e w1 ⟨rfl,hb1⟩
 have HB1:=hid hb1
 clear hb1 HPN
 go_wp2_with fail
 rw[HEN.out]
 refine(HMO.out _ HB1.out).mono ?_
 rintro e w3 ⟨y,P1,rfl,hy,hrp,hb3⟩
 have HB:=hid (HB1.out.trans (hb3.mono HB1.out.size))
 obtain⟨ay,cy,rfl,hyf⟩:=hy.rowsM
 have HU:=hid (raw_hmu (by omega) hrp)
 have hrl:(rOf P1).length=n:=by rw[rOf,List.length_map,hrp.1]
 have HF:Hid (∀U:World,Below w3.heap.size w3 U→FsS U ay (rOf P1)):=fun U hU=>hyf.below hU
 generalize rOf P1=R at *
 obtain⟨gm,om,bm,cm,hae,hgm,m0,hfr, -⟩:=hyf 0 (by omega)
 subst hae
 have HFR:Hid (∀U:World,Below w3.heap.size w3 U→FrS U bm R[0]):=fun U hU=>hfr.below hU
 have HL0:Hid (R[0].length≤140737488355328∧∀f∈R[0],f.2.1.size≤140737488355328∧f.2.2.size≤140737488355328):=HU.out.each _ (List.getElem_mem _)
 generalize R[0]=r0 at *
 rw[hrl]
 have HRL:=hid hrl
 obtain⟨k0,hk0⟩:∃k,r0.length=k:=⟨_,rfl⟩
 rw[hk0] at m0
 have HK0:=hid hk0
 have HELD:Hid (∀u,Below w3.heap.size w3 u→u.cell? ⟨gm,om,none⟩=some (.slice bm k0 cm)):=fun u h=>(h.cell (p:=⟨gm,_,none⟩) hgm).trans m0
 have hnp:(0:Int)<(n:Int):=by omega
 have hn0:¬n=0:=by omega
 clear hy hrp hb3 hyf hfr hrl hk0 HB1 HMO HEN m0
 go_upto_region 5 with fail
 have HB5:Hid (Below w3.heap.size w3 w3.drew):=(Below.refl w3.heap.size w3).drew
 refine wp_region_held_drew (S:=fun u=>u.cell? ⟨gm,om,none⟩=some (.slice bm k0 cm)) (by kernel_rfl) (HELD.out _ HB5.out) (fun hSd=>?_)
 generalize w3.drew=u0 at *
 refine wpAnyH_take (i:=0) (oi:=_) (v:=.slice (some ⟨gm,om,none⟩) n cy) rfl (by kernel_rfl) (by kernel_rfl) (by kernel_rfl) (fun _ _ _ h=>h) (Or.inl ⟨by rfl,?_⟩) (by assumption) ?_
 ·intro u' hSu
  (try simp only[List.getElem_toArray,List.getElem_cons_zero])
  go_simp
 (try simp only[List.getElem_toArray,List.getElem_cons_zero])
 (try simp only[Act.put,List.setIfInBounds_toArray,List.set_cons_zero,List.set_cons_succ])
 refine wpAnyH_take (i:=1) (oi:=_) (v:=.slice (some ⟨gm,om,none⟩) n cy) rfl (by kernel_rfl) (by kernel_rfl) (by kernel_rfl) (fun _ _ _ h=>h) (Or.inl ⟨by rfl,?_⟩) (by assumption) ?_
 ·intro u' hSu
  (try simp only[List.getElem_toArray,List.getElem_cons_zero,List.getElem_cons_succ])
  go_simp
 (try simp only[List.getElem_toArray,List.getElem_cons_zero,List.getElem_cons_succ])
 (try simp only[Act.put,List.setIfInBounds_toArray,List.set_cons_zero,List.set_cons_succ])
 refine wpAnyH_take (i:=2) (oi:=_) (v:=.pointer (some ⟨gm,om,none⟩)) rfl (by kernel_rfl) (by kernel_rfl) (by kernel_rfl) (fun _ _ _ h=>h) (Or.inl ⟨by rfl,?_⟩) (by assumption) ?_
 ·intro u' hSu
  (try simp only[List.getElem_toArray,List.getElem_cons_zero,List.getElem_cons_succ])
  go_simp
 (try simp only[List.getElem_toArray,List.getElem_cons_zero,List.getElem_cons_succ])
 (try simp only[Act.put,List.setIfInBounds_toArray,List.set_cons_zero,List.set_cons_succ])
 refine wpAnyH_take (i:=3) (oi:=_) (v:=.slice bm k0 cm) rfl (by kernel_rfl) (by kernel_rfl) (by kernel_rfl) (fun _ _ _ h=>h) (Or.inl ⟨by rfl,?_⟩) (by assumption) ?_
 ·intro u' hSu
  (try simp only[List.getElem_toArray,List.getElem_cons_zero,List.getElem_cons_succ])
  go_simp
 (try simp only[List.getElem_toArray,List.getElem_cons_zero,List.getElem_cons_succ])
 (try simp only[Act.put,List.setIfInBounds_toArray,List.set_cons_zero,List.set_cons_succ])
 refine wpAnyH_take (i:=4) (oi:=_) (v:=.int .i64 n3) rfl (by kernel_rfl) (by kernel_rfl) (by kernel_rfl) (fun _ _ _ h=>h) (Or.inl ⟨by rfl,?_⟩) (by assumption) ?_
 ·intro u' hSu
  (try simp only[List.getElem_toArray,List.getElem_cons_zero,List.getElem_cons_succ])
  go_simp
 (try simp only[List.getElem_toArray,List.getElem_cons_zero,List.getElem_cons_succ])
 (try simp only[Act.put,List.setIfInBounds_toArray,List.set_cons_zero,List.set_cons_succ])
 refine wpAnyH_take (i:=6) (oi:=_) (v:=.slice a2 X2.length c2) rfl (by kernel_rfl) (by kernel_rfl) (by kernel_rfl) (fun _ _ _ h=>h) (Or.inl ⟨by rfl,?_⟩) (by assumption) ?_
 ·intro u' hSu
  (try simp only[List.getElem_toArray,List.getElem_cons_zero,List.getElem_cons_succ])
  go_simp
 (try simp only[List.getElem_toArray,List.getElem_cons_zero,List.getElem_cons_succ])
 (try simp only[Act.put,List.setIfInBounds_toArray,List.set_cons_zero,List.set_cons_succ])
 refine wpAnyH_take (i:=7) (oi:=_) (v:=.int .i64 (n:Nat)) rfl (by kernel_rfl) (by kernel_rfl) (by kernel_rfl) (fun _ _ _ h=>h) (Or.inl ⟨by rfl,?_⟩) (by assumption) ?_
 ·intro u' hSu
  (try simp only[List.getElem_toArray,List.getElem_cons_zero,List.getElem_cons_succ])
  go_simp
 (try simp only[List.getElem_toArray,List.getElem_cons_zero,List.getElem_cons_succ])
 (try simp only[Act.put,List.setIfInBounds_toArray,List.set_cons_zero,List.set_cons_succ])
 refine wpAnyH_take (i:=9) (oi:=_) (v:=.int .i64 n4) rfl (by kernel_rfl) (by kernel_rfl) (by kernel_rfl) (fun _ _ _ h=>h) (Or.inl ⟨by rfl,?_⟩) (by assumption) ?_
 ·intro u' hSu
  (try simp only[List.getElem_toArray,List.getElem_cons_zero,List.getElem_cons_succ])
  go_simp
 (try simp only[List.getElem_toArray,List.getElem_cons_zero,List.getElem_cons_succ])
 (try simp only[Act.put,List.setIfInBounds_toArray,List.set_cons_zero,List.set_cons_succ])
 refine wpAnyH_take (i:=10) (oi:=_) (v:=.int .i64 (n:Nat)) rfl (by kernel_rfl) (by kernel_rfl) (by kernel_rfl) (fun _ _ _ h=>h) (Or.inl ⟨by rfl,?_⟩) (by assumption) ?_
 ·intro u' hSu
  (try simp only[List.getElem_toArray,List.getElem_cons_zero,List.getElem_cons_succ])
  go_simp
 (try simp only[List.getElem_toArray,List.getElem_cons_zero,List.getElem_cons_succ])
 (try simp only[Act.put,List.setIfInBounds_toArray,List.set_cons_zero,List.set_cons_succ])
 refine wpAnyH_ready (rs:=[5]) (by kernel_rfl) (by simp) (AllReadyH.cons rfl ?_ (AllReadyH.nil))
 ·intro K' hK'
  (try simp only[List.getElem_toArray,List.getElem_cons_zero,List.getElem_cons_succ])
  go_simp
  refine(HPK.out _).mono ?_
  rintro e u1 ⟨rfl,hb⟩
  replace HB5:=hid (HB5.out.trans (hb.mono HB5.out.size))
  refine hK'.out _ _ (HELD.out _ HB5.out) (fun hSe=>?_)
  clear hb
  clear hK' K' hSd
  have hSd:=hSe
  clear hSe
  (try simp only[List.getElem_toArray,List.getElem_cons_zero,List.getElem_cons_succ])
  (try simp only[Act.put,List.setIfInBounds_toArray,List.set_cons_zero,List.set_cons_succ])
  refine wpAnyH_ready (rs:=[8]) (by kernel_rfl) (by simp) (AllReadyH.cons rfl ?_ (AllReadyH.nil))
  ·intro K' hK'
   (try simp only[List.getElem_toArray,List.getElem_cons_zero,List.getElem_cons_succ])
   go_simp
   refine(HSO.out _ (HB.out.trans (HB5.out.mono HB.out.size))).mono ?_
   rintro e u2 ⟨xq,Q,rfl,hq,hup,hb⟩
   obtain⟨dq,cq,hxq,hiq⟩:=hq.ints
   subst hxq
   have HIQ:=hid hiq
   have HUP:Hid (Q.length≤1000):=by
    obtain⟨S,hS,hp,hlt⟩:=up_nats hup
    have h9:=nod_most (hp.imp fun h=>Nat.ne_of_lt h) hlt
    show _≤_
    rw[hS,iL_length]
    omega
   obtain⟨kq,hkq⟩:∃k,Q.length=k:=⟨_,rfl⟩
   simp only[hkq]
   have HKQ:=hid hkq
   clear hq hup hiq hkq
   replace HB5:=hid (HB5.out.trans (hb.mono HB5.out.size))
   refine hK'.out _ _ (HELD.out _ HB5.out) (fun hSe=>?_)
   clear hb
   clear hK' K' hSd
   have hSd:=hSe
   clear hSe
   (try simp only[List.getElem_toArray,List.getElem_cons_zero,List.getElem_cons_succ])
   (try simp only[Act.put,List.setIfInBounds_toArray,List.set_cons_zero,List.set_cons_succ])
   refine wpAnyH_ready (rs:=[11]) (by kernel_rfl) (by simp) (AllReadyH.cons rfl ?_ (AllReadyH.nil))
   ·intro K' hK'
    (try simp only[List.getElem_toArray,List.getElem_cons_zero,List.getElem_cons_succ])
    go_simp
    refine(HPI.out _).mono ?_
    rintro e u3 ⟨rfl,hb⟩
    have HIQ3:=hid (HIQ.out.below hb)
    replace HB5:=hid (HB5.out.trans (hb.mono HB5.out.size))
    refine hK'.out _ _ (HELD.out _ HB5.out) (fun hSe=>?_)
    clear hb
    clear hK' K' hSd
    have hSd:=hSe
    clear hSe
    (try simp only[List.getElem_toArray,List.getElem_cons_zero,List.getElem_cons_succ])
    (try simp only[Act.put,List.setIfInBounds_toArray,List.set_cons_zero,List.set_cons_succ])
    refine wpAnyH_ready (rs:=[12]) (by kernel_rfl) (by simp) (AllReadyH.cons rfl ?_ (AllReadyH.nil))
    ·intro K' hK'
     (try simp only[List.getElem_toArray,List.getElem_cons_zero,List.getElem_cons_succ])
     go_simp
     have hbu:Below w3.heap.size w3 u3:=HB5.out
     have HXY:=hid (chainExact_any (some ⟨gm,om,none⟩) bm dq cy cm cq n k0 kq (p3:Nat) (p4:Nat) R r0 Q u3 (HF.out _ hbu) (HFR.out _ hbu) (HIQ3.out) HU.out HL0.out (by have:=HUP.out;omega) HRL.out HK0.out HKQ.out)
     refine HXY.out.mono ?_
     rintro e u4 ⟨rfl,hb⟩
     have HBZ:=hid (HB.out.trans ((HB5.out.trans (hb.mono HB5.out.size)).mono HB.out.size))
     refine hK'.out _ _ (HELD.out _ (HB5.out.trans (hb.mono HB5.out.size))) (fun hSe=>?_)
     clear hb
     clear hK' K' hSd
     have hSd:=hSe
     clear hSe
     (try simp only[List.getElem_toArray,List.getElem_cons_zero,List.getElem_cons_succ])
     (try simp only[Act.put,List.setIfInBounds_toArray,List.set_cons_zero,List.set_cons_succ])
     refine wpAnyH_take (i:=13) (oi:=_) (v:=.bool true) rfl (by kernel_rfl) (by kernel_rfl) (by kernel_rfl) (fun _ _ _ h=>h) (Or.inl ⟨by rfl,?_⟩) (by assumption) ?_
     ·intro u' hSu
      (try simp only[List.getElem_toArray,List.getElem_cons_zero,List.getElem_cons_succ])
      go_simp
     (try simp only[List.getElem_toArray,List.getElem_cons_zero,List.getElem_cons_succ])
     (try simp only[Act.put,List.setIfInBounds_toArray,List.set_cons_zero,List.set_cons_succ])
     refine wpAnyH_done (by kernel_rfl) ?_ _
     clear hSd
     go_wp2
     go_ret
     exact⟨rfl,HBZ.out⟩
theorem chainMade_any (a0 a2:Option Addr) (c0 c2:Nat) (X0 X2:List Int) (n1 n3 n4:Int) (w:World) (h0:IntS w a0 X0) (h2:IntS w a2 X2) (r0:∀x∈X0, -9223372036854775808≤x∧x≤9223372036854775807) (r2:∀x∈X2, -9223372036854775808≤x∧x≤9223372036854775807) (hn1: -9223372036854775808≤n1∧n1≤9223372036854775807) (hn3: -9223372036854775808≤n3∧n3≤9223372036854775807) (hn4: -9223372036854775808≤n4∧n4≤9223372036854775807) (l0:X0.length≤140737488355328) (l2:X2.length≤140737488355328):
  Calls Tryz.prog 4 #[.slice a0 X0.length c0,.int .i64 n1,.slice a2 X2.length c2,.int .i64 n3,.int .i64 n4] w fun e w'=>e=.returned (.bool true)∧Below w.heap.size w w':=by
 by_cases h:256<X0.length+X2.length
 ·exact chainMade_big a0 a2 c0 c2 X0 X2 n1 n3 n4 w l0 l2 h
 ·exact chainMade_walk a0 a2 c0 c2 X0 X2 n1 n3 n4 w h0 h2 r0 r2 hn1 hn3 hn4 (by omega)
end Go.Proofs.YtmbjmiioggfneaaGreatDoor
