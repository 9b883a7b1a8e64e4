/- The document's answer: a row of raw weights. -/
import Derived.Test.YtgamblainfkiaaaGreatDoorHidCHxMadA
import Derived.Test.YtgamblainfkiaaaGreatDoorFillBHxHidQ
import Derived.Deep.QuietTactic
import Derived.BigQuiet
import Derived.Test.YtgamblainfkiaaaGreatDoorRefSHxFillA
import Derived.Test.YtgamblainfkiaaaGreatDoorCore1HxCore2b
import Derived.Deep.RegionHeld3
import Derived.Lib.AppendZerosOnto
import Derived.Laws.AppendOwnNone
namespace Go.Proofs.YtgamblainfkiaaaGreatDoor
open Go.RowKit Go.Shelf Go.Lib
theorem iL_sum_snoc (Ls:List Nat) (a:Nat):iL (Ls++[a])=iL Ls++[(a:Int)]:=by simp[iL]
theorem RwI.put {w:World} {B g n cap:Nat} {l:List Int} (h:RwI w B (.slice (some ⟨g,0,none⟩) n cap) l) (j:Nat) (y:Int):RwI (w.setCell ⟨g,j,none⟩ (.int .i64 y)) B (.slice (some ⟨g,0,none⟩) n cap) (l.set j y):=by
 rcases h.2 with ⟨h1,_⟩ |⟨g',cap',cur,h1,h2,h3,h4,h5,h6,h7⟩
 ·cases h1
 ·cases h1
  refine⟨by simp,.inr ⟨g,cap,_,by simp,h2,heap_setCell_same w g j _ _ _ h3,by simpa using h4,h5,by simpa using h6,?_⟩⟩
  rw[Array.toList_setIfInBounds,List.length_set,List.map_set,←h7,List.take_set]
theorem RwF.lower {w:World} {B B':Nat} {v:Value} {l:List Fr} (h:RwF w B v l) (hb:B'≤B):RwF w B' v l:=by
 refine⟨h.1,?_⟩
 rcases h.2 with h1 |⟨g,cap,cur,h1,h2,h3,h4⟩
 ·exact .inl h1
 ·exact .inr ⟨g,cap,cur,h1,Nat.le_trans hb h2,h3,h4⟩
theorem RwI.lower {w:World} {B B':Nat} {v:Value} {l:List Int} (h:RwI w B v l) (hb:B'≤B):RwI w B' v l:=by
 refine⟨h.1,?_⟩
 rcases h.2 with h1 |⟨g,cap,cur,h1,h2,h3,h4⟩
 ·exact .inl h1
 ·exact .inr ⟨g,cap,cur,h1,Nat.le_trans hb h2,h3,h4⟩
theorem RwI.emptyB (w:World) (B:Nat):RwI w B (.slice none 0 0) []:=⟨rfl,.inl ⟨rfl,rfl⟩⟩
structure Wts (Ls:List Nat) (i:Nat):Prop where
 len:Ls.length=i
 six:∀a∈Ls,a≤6
set_option maxRecDepth 100000 in
set_option maxHeartbeats 2000000 in
theorem rowOf_any (d:Option Addr) (cd k n:Nat) (W:List Int) (w:World) (hW:IntS w d W) (hr:∀x∈W, -9223372036854775808≤x∧x≤9223372036854775807) (hk:k≤100000) (hn1:1≤n) (hn3:n≤5) (hWl:W.length≤140737488355328):
  Calls Tryz.prog 65 #[.slice d W.length cd,.int .i64 (k:Nat),.int .i64 (n:Nat)] w fun e w'=>∃(x:Value) (Ls:List Nat),e=.returned x∧RwF w' w.heap.size x (rawF Ls)∧Wts Ls n∧1≤Ls.sum∧Below w.heap.size w w':=by
 have HW:=hid hW
 have HR:=hid hr
 have HPK:=hid (fun (c:Int) (h: -9223372036854775808≤c∧c≤9223372036854775807) (U:World)=>rPick_any c 7 U h.1 h.2 (by omega) (by omega))
 have HPL:=hid (fun (c:Int)=>pickN_lt c (n:=7) (by omega))
 have HOF:=hid (fun (a:Nat) (h:a≤100) (U:World)=>rOfF_any (a:Int) U (by omega) (by omega))
 have HOF':Hid (∀(a:Nat),a≤100→∀U:World,Calls Tryz.prog 33 #[.int .i64 (a:Nat)] U fun e w'=>e=.returned (frV (qF (a:Rat)))∧Below U.heap.size U w'):=fun a ha U=>by
  have h:=HOF.out a ha U
  rw[mkRat_int] at h
  exact h
 have HDV:Hid (∀(a s:Nat),a≤100→1≤s→s≤100→∀U:World,Calls Tryz.prog 87 #[frV (qF (a:Rat)),frV (qF (s:Rat))] U fun e w'=>e=.returned (.tuple #[frV (qF ((a:Rat)/(s:Rat))),.int .i64 0])∧Below U.heap.size U w'):=fun a s ha hs1 hs2 U=>by
  have hne:(s:Rat)≠0:=fun e=>by
   have e':s=0:=by exact_mod_cast e
   omega
  have h:=rDivF_yes (sgn (a:Rat)) (sgn (s:Rat)) (nu (a:Rat)) (de (a:Rat)) (nu (s:Rat)) (de (s:Rat)) U (by rw[val_own];exact hne) (by rw[own_size];have:=qw_nat (n:=a) (by omega);omega) (by rw[own_size];have:=qw_nat (n:=s) (by omega);omega)
  rw[val_own,val_own] at h
  exact h
 clear HOF
 have HOF:=HOF'
 clear HOF' hW hr
 go_enter Tryz.func65,Tryz.ntmps65
 go_wp2_with fail
 go_loopw [7,8,9] (fun x sv iv wr=>∃(i:Nat) (Ls:List Nat),i≤n∧iv=.int .i64 i∧sv=.int .i64 (Ls.sum:Nat)∧Hid (Wts Ls i)∧Hid (RwI wr w.heap.size x (iL Ls))∧Hid (Below w.heap.size w wr)) (fun _ _ iv _=>n - (Go.RowKit.intOf iv).toNat)
 case atStart=>exact⟨0,[],Nat.zero_le _,rfl,rfl,⟨rfl,fun a ha=>by cases ha⟩,RwI.emptyB _ _,Below.refl _ _⟩
 case round=>
  obtain⟨i,Ls,hi,rfl,rfl,HL,HX,HB⟩:=hrel
  by_cases hlt:i<n
  ·have hs18:Ls.sum≤100:=by have:=sum_le6 HL.out.six;have:=HL.out.len;omega
   have hll:=HL.out.len
   by_cases hw0:0<W.length
   ·obtain⟨ki,hki⟩:∃ki,ki=k+i:=⟨_,rfl⟩
    have hwr:IntKind.i64.wrap ((k:Int)+(i:Int))=(ki:Int):=by rw[IntKind.wrap_i64];omega
    obtain⟨t,ht⟩:∃t,t=ki % W.length:=⟨_,rfl⟩
    have htl:t<W.length:=by rw[ht];exact Nat.mod_lt _ hw0
    have hrem:(ki:Int) % (W.length:Int)=(t:Int):=by rw[ht,Int.natCast_emod]
    obtain⟨g',o',rfl,hg',cW⟩:=(HW.out.below HB.out) t htl
    have hxr:=HR.out W[t] (List.getElem_mem htl)
    have hpl:=HPL.out W[t]
    have HPT:=hid (fun U=>HPK.out W[t] hxr U)
    have hwpos:(0:Int)<(W.length:Int):=by omega
    have hwne:¬(W.length:Int)=0:=by omega
    have hwr2:IntKind.i64.wrap ((ki:Int) % (W.length:Int))=(t:Int):=by rw[hrem,IntKind.wrap_i64];omega
    clear ht hki hw0
    generalize W[t]=wt at *
    generalize pickN wt 7=p at *
    go_wp2_with fail
    refine(HPT.out _).mono ?_
    rintro e w1 ⟨rfl,hb1⟩
    have HX1:=hid (HX.out.below hb1)
    have HB1:=hid (HB.out.trans (hb1.mono HB.out.size))
    have HXA:=hid (HX1.out.below ((Below.refl _ w1).alloc (Nat.le_refl _) (.cells #[.int .i64 (p:Int)] 3)))
    have HBA:=hid (HB1.out.alloc HB1.out.size (.cells #[.int .i64 (p:Int)] 3))
    have HIA:=hid (one_int w1 (p:Int))
    have hbs:w.heap.size≤(w1.alloc (.cells #[.int .i64 (p:Int)] 3)).heap.size:=HBA.out.size
    have hil:(iL Ls).length=i:=by rw[iL_length];exact hll
    have HSU:=hid (iL_sum_snoc Ls p)
    have hsm:IntKind.i64.wrap ((Ls.sum:Int)+(p:Int))=(((Ls++[p]).sum:Nat):Int):=by rw[IntKind.wrap_i64];simp;omega
    have HWT:Hid (Wts (Ls++[p]) (i+1)):=⟨by simp[hll],fun a ha=>by rcases List.mem_append.1 ha with ha |ha;exact HL.out.six a ha;rw[List.mem_singleton.1 ha];omega⟩
    generalize hs2:(Ls++[p]).sum=s2 at *
    have HS2:=hid hs2
    clear hs2
    clear cW hb1 HX HB HX1 HB1
    go_wp2_with (at_builtin;refine wpList_append_ints rfl _ _ rfl w.heap.size _ (iL Ls) [(p:Int)] rfl HXA.out (some ⟨w1.heap.size,0,none⟩) 1 rfl HIA.out (fun e=>by cases e) (by simp;omega) hbs ?_;intro v' w3 hr3 hg3;have HB3:=hid (HBA.out.grown hg3 hbs (fun k e=>HXA.out.own k e)))
    go_roundw
    case rel=>exact⟨i+1,Ls++[p],by omega,by go_num,by rw[HS2.out],HWT,by rw[HSU.out];exact hr3,HB3⟩
    case measure=>simp[Go.RowKit.intOf];omega
   ·have hgt:¬(0:Int)<(W.length:Int):=by omega
    have hgt2:decide (0<W.length)=false:=decide_eq_false (by omega)
    have HXA:=hid (HX.out.below ((Below.refl _ wr).alloc (Nat.le_refl _) (.cells #[.int .i64 1] 3)))
    have HBA:=hid (HB.out.alloc HB.out.size (.cells #[.int .i64 1] 3))
    have HIA:=hid (one_int wr 1)
    have hbs:w.heap.size≤(wr.alloc (.cells #[.int .i64 1] 3)).heap.size:=HBA.out.size
    have hil:(iL Ls).length=i:=by rw[iL_length];exact hll
    have HSU:=hid (iL_sum_snoc Ls 1)
    have hsm:IntKind.i64.wrap ((Ls.sum:Int)+1)=(((Ls++[1]).sum:Nat):Int):=by rw[IntKind.wrap_i64];simp;omega
    have HWT:Hid (Wts (Ls++[1]) (i+1)):=⟨by simp[hll],fun a ha=>by rcases List.mem_append.1 ha with ha |ha;exact HL.out.six a ha;rw[List.mem_singleton.1 ha];omega⟩
    have HS2:=hid (Eq.refl (Ls++[1]).sum)
    generalize hs2:(Ls++[1]).sum=s2 at *
    have HS3:=hid hs2
    clear hs2 HS2 HX HB hw0
    go_wp2_with (at_builtin;refine wpList_append_ints rfl _ _ rfl w.heap.size _ (iL Ls) [(1:Int)] rfl HXA.out (some ⟨wr.heap.size,0,none⟩) 1 rfl HIA.out (fun e=>by cases e) (by simp;omega) hbs ?_;intro v' w3 hr3 hg3;have HB3:=hid (HBA.out.grown hg3 hbs (fun k e=>HXA.out.own k e)))
    go_roundw
    case rel=>exact⟨i+1,Ls++[1],by omega,by go_num,by rw[HS3.out],HWT,by rw[HSU.out];exact hr3,HB3⟩
    case measure=>simp[Go.RowKit.intOf];omega
  ·obtain rfl:n=i:=by omega
   have hs18:Ls.sum≤100:=by have:=sum_le6 HL.out.six;have:=HL.out.len;omega
   have hll:=HL.out.len
   by_cases hs0:Ls.sum=0
   ·have hlp:0<(iL Ls).length:=by rw[iL_length];omega
    rcases HX.out.cases with ⟨_,hnil⟩ |⟨g,cap,rfl,hg0,hg,hc1,hc2,hh⟩
    ·rw[hnil] at hlp;exact absurd hlp (by simp)
    ·have hput:=HX.out.put 0 1
     obtain⟨hc0,hf0⟩:=hh 0 (by simpa using hlp)
     rw[Nat.zero_add] at hc0 hf0
     have HBP:=hid (HB.out.setCell (p:=⟨g,0,none⟩) hg0 (.int .i64 1))
     have hilen:(iL Ls).length=n:=by rw[iL_length];exact hll
     rw[hilen]
     obtain⟨a0,l0,rfl⟩:∃a0 l0,Ls=a0::l0:=by
      cases Ls with
      |nil=>rw[←hll] at hn1;exact absurd hn1 (by simp)
      |cons a0 l0=>exact⟨a0,l0,rfl⟩
     have ha0:a0=0∧l0.sum=0:=by simp at hs0;exact hs0
     have HXP:Hid (RwI (wr.setCell ⟨g,0,none⟩ (.int .i64 1)) w.heap.size (.slice (some ⟨g,0,none⟩) n cap) (iL (1::l0))):=by
      rw[hilen] at hput
      exact hput
     have HW2:Hid (Wts (1::l0) n):=⟨by simpa using hll,fun a ha=>by rcases List.mem_cons.1 ha with rfl |ha;omega;exact HL.out.six a (List.mem_cons_of_mem _ ha)⟩
     have HSS:Hid ((1::l0).sum=1∧1≤1∧1≤100):=⟨by simp[ha0.2],by omega,by omega⟩
     have hi0:(0:Int)<(n:Int):=by omega
     rw[hs0,show ((0:Nat):Int)=0 from rfl]
     clear hs0 hput hh HX HB hilen hs18 hll HL
     go_upto_region 14 with fail
     clear hc0 hf0 ha0
     generalize (wr.setCell ⟨g,0,none⟩ (.int .i64 1))=wb at *
     have HX2:=HXP
     have HB2:=HBP
     obtain⟨S,hS⟩:∃S:Nat,S=1:=⟨1,rfl⟩
     obtain⟨Ls2,hL2⟩:∃Ls2,Ls2=1::l0:=⟨_,rfl⟩
     rw[←hL2] at HW2 HSS HX2
     have HSS2:Hid (Ls2.sum=S∧1≤S∧S≤100):=by rw[hS];exact HSS
     have e1:(1:Int)=((S:Nat):Int):=by rw[hS];rfl
     rw[e1]
     clear HSS HXP HBP hL2 hS e1
     have HSS:=HSS2
     clear HSS2
     obtain⟨d7,cd7,e7,hi7⟩:=HX2.out.ints
     have HI7:=hid hi7
     have hil2:(iL Ls2).length=n:=by rw[iL_length];exact HW2.out.len
     rw[hil2] at e7
     cases e7
     have hS1:=HSS.out.2.1
     have hS2:=HSS.out.2.2
     have HSQ:=hid HSS.out.1
     have HFL:Hid ((rawF Ls2).length=n):=by show _=_;rw[rawF_length];exact HW2.out.len
     have HFG:Hid (∀j (h:j<Ls2.length),(rawF Ls2)[j]'(by rw[rawF_length];exact h)=qF ((Ls2[j]:Rat)/(S:Rat))):=fun j h=>by simp[rawF,HSQ.out]
     clear hi7 HSS
     go_wp2_with fail
     go_loopw [11,12] (fun x iv wr2=>∃i:Nat,i≤n∧iv=.int .i64 i∧Hid (RwF wr2 wb.heap.size x ((rawF Ls2).take i))∧Hid (Below wb.heap.size wb wr2)) (fun _ iv _=>n - (Go.RowKit.intOf iv).toNat)
     case atStart=>exact⟨0,Nat.zero_le _,rfl,RwF.empty _ _,Below.refl _ _⟩
     case round=>
      obtain⟨i,hi,rfl,HY,HBB⟩:=hrel
      by_cases hlt:i<n
      ·have hiL:i<(iL Ls2).length:=by rw[hil2];exact hlt
       have hiN:i<Ls2.length:=by rw[←iL_length];exact hiL
       obtain⟨g',o',e8,hg',cL⟩:=(HI7.out.below HBB.out) i hiL
       cases e8
       (try rw[Nat.zero_add] at cL)
       have e1:(iL Ls2)[i]'hiL=((Ls2[i]'hiN:Nat):Int):=by simp[iL]
       rw[e1] at cL
       have ha6:=HW2.out.six (Ls2[i]'hiN) (List.getElem_mem hiN)
       have hfg:=HFG.out i hiN
       have HST:Hid ((rawF Ls2).take i++[qF (((Ls2[i]'hiN:Nat):Rat)/(S:Rat))]=(rawF Ls2).take (i+1)):=by show _=_;rw[List.take_succ_eq_append_getElem (by rw[HFL.out];exact hlt),hfg]
       clear e1 hfg
       generalize (Ls2[i]'hiN)=av at *
       have HO1:=hid (fun U=>HOF.out av (by omega) U)
       have HO2:=hid (fun U=>HOF.out S (by omega) U)
       have HDV2:=hid (fun U=>HDV.out av S (by omega) (by omega) (by omega) U)
       generalize qF ((av:Nat):Rat)=fa at *
       generalize qF ((S:Nat):Rat)=fs at *
       generalize qF (((av:Nat):Rat)/((S:Nat):Rat))=fq at *
       obtain⟨an,ax,ay⟩:=fa
       obtain⟨sn,sx,sy⟩:=fs
       obtain⟨qn,qx,qy⟩:=fq
       go_wp2_with fail
       refine(HO1.out _).mono ?_
       rintro e v1 ⟨rfl,hb1⟩
       go_wp2_with fail
       refine(HO2.out _).mono ?_
       rintro e v2 ⟨rfl,hb2⟩
       go_wp2_with fail
       refine(HDV2.out _).mono ?_
       rintro e v3 ⟨rfl,hb3⟩
       have hb23:=hb2.trans (hb3.mono hb2.size)
       have hb13:=hb1.trans (hb23.mono hb1.size)
       clear hb1 hb2 hb3 hb23
       have hbx:=Box.new v3 qn qx qy
       have hb4:=hb13.alloc hb13.size (FC qn qx qy)
       obtain⟨k0,k1,k2, -⟩:=hbx.facts
       have hbx2:Box ((v3.alloc (FC qn qx qy)).alloc (FC qn qx qy)) (v3.heap.size+1) qn qx qy:=by
        have h:=Box.new (v3.alloc (FC qn qx qy)) qn qx qy
        rwa [World.size_alloc] at h
       have hb5:=hb4.alloc hb4.size (FC qn qx qy)
       have HY5:=hid (HY.out.below hb5)
       have HB5:=hid (HBB.out.trans (hb5.mono HBB.out.size))
       have HBX:=hid hbx2
       have hbs:wb.heap.size≤((v3.alloc (FC qn qx qy)).alloc (FC qn qx qy)).heap.size:=HB5.out.size
       have htl:((rawF Ls2).take i).length≤5:=by rw[List.length_take,HFL.out];omega
       clear hb13 hb4 hb5 hbx hbx2 HY HBB cL
       go_wp2_with (at_builtin;refine wpList_append_fr rfl _ _ rfl wb.heap.size _ ((rawF Ls2).take i) (qn,qx,qy) rfl HY5.out (v3.heap.size+1) rfl HBX.out (by omega) hbs ?_;intro v' v6 hr6 hg6;have HB6:=hid (HB5.out.grown hg6 hbs (fun k e=>HY5.out.own k e)))
       go_roundw
       case rel=>exact⟨i+1,by omega,by go_num,by rw[←HST.out];exact hr6,HB6⟩
       case measure=>simp[Go.RowKit.intOf];omega
      ·obtain rfl:i=n:=by omega
       go_wp2
       go_ret
       have hr:=HY.out
       rw[List.take_of_length_le (by rw[HFL.out];exact Nat.le_refl _)] at hr
       exact⟨_,Ls2,rfl,hr.lower HB2.out.size,HW2.out,by rw[HSQ.out];exact hS1,HB2.out.trans (HBB.out.mono HB2.out.size)⟩
   ·have hs0':¬(Ls.sum:Int)=0:=by omega
    obtain⟨S,hS⟩:∃S,Ls.sum=S:=⟨_,rfl⟩
    have HSS:Hid (Ls.sum=S∧1≤S∧S≤100):=⟨hS,by omega,by omega⟩
    rw[hS] at hs0'⊢
    obtain⟨Ls2,hL2⟩:∃Ls2,Ls2=Ls:=⟨_,rfl⟩
    rw[←hL2] at HL HX HSS
    have HW2:=HL
    have HX2:=HX
    have HB2:=HB
    have hsb:((S:Int)==0)=false:=by simpa using hs0'
    clear hs0 hS hL2 HL HX HB hs18 hll
    go_upto_region 14 with fail
    clear hs0' hsb
    generalize wr=wb at *
    obtain⟨d7,cd7,e7,hi7⟩:=HX2.out.ints
    have HI7:=hid hi7
    have hil2:(iL Ls2).length=n:=by rw[iL_length];exact HW2.out.len
    rw[hil2] at e7
    cases e7
    have hS1:=HSS.out.2.1
    have hS2:=HSS.out.2.2
    have HSQ:=hid HSS.out.1
    have HFL:Hid ((rawF Ls2).length=n):=by show _=_;rw[rawF_length];exact HW2.out.len
    have HFG:Hid (∀j (h:j<Ls2.length),(rawF Ls2)[j]'(by rw[rawF_length];exact h)=qF ((Ls2[j]:Rat)/(S:Rat))):=fun j h=>by simp[rawF,HSQ.out]
    clear hi7 HSS
    go_wp2_with fail
    go_loopw [11,12] (fun x iv wr2=>∃i:Nat,i≤n∧iv=.int .i64 i∧Hid (RwF wr2 wb.heap.size x ((rawF Ls2).take i))∧Hid (Below wb.heap.size wb wr2)) (fun _ iv _=>n - (Go.RowKit.intOf iv).toNat)
    case atStart=>exact⟨0,Nat.zero_le _,rfl,RwF.empty _ _,Below.refl _ _⟩
    case round=>
     obtain⟨i,hi,rfl,HY,HBB⟩:=hrel
     by_cases hlt:i<n
     ·have hiL:i<(iL Ls2).length:=by rw[hil2];exact hlt
      have hiN:i<Ls2.length:=by rw[←iL_length];exact hiL
      obtain⟨g',o',e8,hg',cL⟩:=(HI7.out.below HBB.out) i hiL
      cases e8
      (try rw[Nat.zero_add] at cL)
      have e1:(iL Ls2)[i]'hiL=((Ls2[i]'hiN:Nat):Int):=by simp[iL]
      rw[e1] at cL
      have ha6:=HW2.out.six (Ls2[i]'hiN) (List.getElem_mem hiN)
      have hfg:=HFG.out i hiN
      have HST:Hid ((rawF Ls2).take i++[qF (((Ls2[i]'hiN:Nat):Rat)/(S:Rat))]=(rawF Ls2).take (i+1)):=by show _=_;rw[List.take_succ_eq_append_getElem (by rw[HFL.out];exact hlt),hfg]
      clear e1 hfg
      generalize (Ls2[i]'hiN)=av at *
      have HO1:=hid (fun U=>HOF.out av (by omega) U)
      have HO2:=hid (fun U=>HOF.out S (by omega) U)
      have HDV2:=hid (fun U=>HDV.out av S (by omega) (by omega) (by omega) U)
      generalize qF ((av:Nat):Rat)=fa at *
      generalize qF ((S:Nat):Rat)=fs at *
      generalize qF (((av:Nat):Rat)/((S:Nat):Rat))=fq at *
      obtain⟨an,ax,ay⟩:=fa
      obtain⟨sn,sx,sy⟩:=fs
      obtain⟨qn,qx,qy⟩:=fq
      go_wp2_with fail
      refine(HO1.out _).mono ?_
      rintro e v1 ⟨rfl,hb1⟩
      go_wp2_with fail
      refine(HO2.out _).mono ?_
      rintro e v2 ⟨rfl,hb2⟩
      go_wp2_with fail
      refine(HDV2.out _).mono ?_
      rintro e v3 ⟨rfl,hb3⟩
      have hb23:=hb2.trans (hb3.mono hb2.size)
      have hb13:=hb1.trans (hb23.mono hb1.size)
      clear hb1 hb2 hb3 hb23
      have hbx:=Box.new v3 qn qx qy
      have hb4:=hb13.alloc hb13.size (FC qn qx qy)
      obtain⟨k0,k1,k2, -⟩:=hbx.facts
      have hbx2:Box ((v3.alloc (FC qn qx qy)).alloc (FC qn qx qy)) (v3.heap.size+1) qn qx qy:=by
       have h:=Box.new (v3.alloc (FC qn qx qy)) qn qx qy
       rwa [World.size_alloc] at h
      have hb5:=hb4.alloc hb4.size (FC qn qx qy)
      have HY5:=hid (HY.out.below hb5)
      have HB5:=hid (HBB.out.trans (hb5.mono HBB.out.size))
      have HBX:=hid hbx2
      have hbs:wb.heap.size≤((v3.alloc (FC qn qx qy)).alloc (FC qn qx qy)).heap.size:=HB5.out.size
      have htl:((rawF Ls2).take i).length≤5:=by rw[List.length_take,HFL.out];omega
      clear hb13 hb4 hb5 hbx hbx2 HY HBB cL
      go_wp2_with (at_builtin;refine wpList_append_fr rfl _ _ rfl wb.heap.size _ ((rawF Ls2).take i) (qn,qx,qy) rfl HY5.out (v3.heap.size+1) rfl HBX.out (by omega) hbs ?_;intro v' v6 hr6 hg6;have HB6:=hid (HB5.out.grown hg6 hbs (fun k e=>HY5.out.own k e)))
      go_roundw
      case rel=>exact⟨i+1,by omega,by go_num,by rw[←HST.out];exact hr6,HB6⟩
      case measure=>simp[Go.RowKit.intOf];omega
     ·obtain rfl:i=n:=by omega
      go_wp2
      go_ret
      have hr:=HY.out
      rw[List.take_of_length_le (by rw[HFL.out];exact Nat.le_refl _)] at hr
      exact⟨_,Ls2,rfl,hr.lower HB2.out.size,HW2.out,by rw[HSQ.out];exact hS1,HB2.out.trans (HBB.out.mono HB2.out.size)⟩
end Go.Proofs.YtgamblainfkiaaaGreatDoor

/- Nets: the document's answer: NetCheck. -/
namespace Go.Proofs.YtgamblainfkiaaaGreatDoor
open Go.RowKit Go.Shelf
structure NetI (w:World) (a b c:Option Addr) (V:List Vr) (L:List (List Int)) (R:List (List Fr)):Prop where
 vars:VsS w a V
 pars:LsS w b L
 rows:FsS w c R
theorem NetI.below {w w':World} {a b c:Option Addr} {V:List Vr} {L:List (List Int)} {R:List (List Fr)} (h:NetI w a b c V L R) (hb:Below w.heap.size w w'):NetI w' a b c V L R:=⟨h.vars.below hb,h.pars.below hb,h.rows.below hb⟩
def NK (w wr:World) (x y z:Value):Prop:=NBox wr w.heap.size x y z∧Below w.heap.size w wr
end Go.Proofs.YtgamblainfkiaaaGreatDoor

/- The document's answer: arrays of what a call makes: variables, lists of parents, lists of rows. -/
namespace Go.Proofs.YtgamblainfkiaaaGreatDoor
open Go.RowKit Go.Shelf Go.Lib
def KeepT (t:TypeId) (w w':World):Prop:=∀(k:Nat) (c:Array Value) (fr:Nat×Nat),w.heap[k]? =some (Obj.cells c t fr)→w'.heap[k]? =some (Obj.cells c t fr)
theorem KeepT.below {t:TypeId} {w w':World} (hb:Below w.heap.size w w'):KeepT t w w':=fun k _ _ h=>(hb.block k (Array.getElem?_eq_some_iff.1 h).1).trans h
theorem KeepT.grown {t t':TypeId} {w w':World} {row:Option Nat} (hg:w.grownBy w' row) (hr:∀g,row=some g→∃c fr,w.heap[g]? =some (.cells c t' fr)) (hne:t≠t'):KeepT t w w':=fun k c fr h=>by
 refine(hg.block k (Array.getElem?_eq_some_iff.1 h).1 fun e=>?_).trans h
 obtain⟨c',fr',h'⟩:=hr k e.symm
 rw[h] at h'
 cases h'
 exact hne rfl
theorem KeepT.set {t t':TypeId} {w:World} {b:Nat} {c':Array Value} {fr':Nat×Nat} (hb:w.heap[b]? =some (.cells c' t' fr')) (hne:t≠t') (j:Nat) (y:Value):KeepT t w (w.setCell ⟨b,j,none⟩ y):=fun k c fr h=>by
 refine(Below.heap_setCell w ⟨b,j,none⟩ y k fun e=>?_).trans h
 have e':k=b:=e
 subst e'
 rw[h] at hb
 cases hb
 exact hne rfl
theorem KeepT.trans {t:TypeId} {a b c:World} (h:KeepT t a b) (k:KeepT t b c):KeepT t a c:=fun i cs fr hi=>k i cs fr (h i cs fr hi)
theorem owns_keep {w w':World} {B:Nat} {e:TypeId} {s:Nat} {v:Value} {n:Nat} {xs:List Value} (h:w.ownsRow B e s v n xs) (hk:KeepT e w w'):w'.ownsRow B e s v n xs:=by
 refine⟨h.1,?_⟩
 rcases h.2 with h1 |⟨g,cap,cur,h1,h2,h3,h4⟩
 ·exact .inl h1
 ·exact .inr ⟨g,cap,cur,h1,h2,hk _ _ _ h3,h4⟩
theorem owns_typed {w:World} {B:Nat} {e:TypeId} {s:Nat} {v:Value} {n:Nat} {xs:List Value} (h:w.ownsRow B e s v n xs):∀g,v.ownBlock=some g→∃c fr,w.heap[g]? =some (.cells c e fr):=fun g hg=>by
 rcases h.2 with ⟨rfl,_⟩ |⟨g',cap,cur,rfl,h2,h3,h4⟩
 ·cases hg
 ·cases hg
  exact⟨_,_,h3⟩
theorem owns_from {w:World} {B:Nat} {e:TypeId} {s:Nat} {v:Value} {n:Nat} {xs:List Value} (h:w.ownsRow B e s v n xs):∀g,v.ownBlock=some g→B≤g:=fun g hg=>by
 rcases h.2 with ⟨rfl,_⟩ |⟨g',cap,cur,rfl,h2,h3,h4⟩
 ·cases hg
 ·cases hg
  exact h2
theorem owns_slice {w:World} {B:Nat} {e:TypeId} {s:Nat} {v:Value} {n:Nat} {xs:List Value} (h:w.ownsRow B e s v n xs):∃a c,v=.slice a n c∧(a=none→c=0):=by
 rcases h.2 with ⟨rfl,rfl⟩ |⟨g',cap,cur,rfl,h2,h3,h4⟩
 ·exact⟨none,0,rfl,fun _=>rfl⟩
 ·exact⟨_,_,rfl,fun e=>by cases e⟩
theorem owns_lower {w:World} {B B':Nat} {e:TypeId} {s:Nat} {v:Value} {n:Nat} {xs:List Value} (h:w.ownsRow B e s v n xs) (hb:B'≤B):w.ownsRow B' e s v n xs:=by
 refine⟨h.1,?_⟩
 rcases h.2 with h1 |⟨g,cap,cur,h1,h2,h3,h4⟩
 ·exact .inl h1
 ·exact .inr ⟨g,cap,cur,h1,Nat.le_trans hb h2,h3,h4⟩
theorem owns_cell {w:World} {B:Nat} {e:TypeId} {s:Nat} {a:Option Addr} {n c:Nat} {xs:List Value} (h:w.ownsRow B e s (.slice a n c) n xs) {j:Nat} (hj:j<xs.length):∃g,a=some ⟨g,0,none⟩∧g<w.heap.size∧w.cell? ⟨g,j,none⟩=some xs[j]:=by
 rcases h.2 with ⟨h1,h2⟩ |⟨g',cap,cur,h1,h2,h3,h4,h5,h6,h7⟩
 ·have:=h.1
  subst h2
  rw[Nat.zero_mul] at this
  omega
 ·cases h1
  refine⟨g',rfl,(Array.getElem?_eq_some_iff.1 h3).1,?_⟩
  have hl:j<n*s:=by have:=h.1;omega
  rw[cell_of_row w g' j _ _ (0,0) h3]
  have e':cur[j]? =(cur.toList.take (n*s))[j]?:=by
   rw[List.getElem?_take,if_pos hl,Array.getElem?_toList]
  rw[e',h7,List.getElem?_eq_getElem hj]
abbrev PV:Type:=ByteArray×Value×List ByteArray
def vC:List PV→List Value
 |[]=>[]
 |p::l=>.string p.1::p.2.1::vC l
theorem vC_length:∀l,(vC l).length=l.length*2
 |[]=>rfl
 |p::l=>by
  show (vC l).length+1+1=(l.length+1)*2
  rw[vC_length l]
  omega
theorem vC_append (p:PV):∀l,vC (l++[p])=vC l++[.string p.1,p.2.1]
 |[]=>rfl
 |q::l=>by
  show Value.string q.1::q.2.1::vC (l++[p])=_
  rw[vC_append p l]
  rfl
theorem vC_get:∀(l:List PV) (k:Nat) (h:k<l.length),(vC l)[k*2]'(by rw[vC_length];omega)=.string l[k].1∧(vC l)[k*2+1]'(by rw[vC_length];omega)=l[k].2.1
 |p::l,0,_=>⟨rfl,rfl⟩
 |p::l,k+1,h=>by
  obtain⟨h1,h2⟩:=vC_get l k (by simpa using h)
  refine⟨?_,?_⟩
  ·simp only[show (k+1)*2=k*2+1+1 by omega]
   exact h1
  ·simp only[show (k+1)*2+1=k*2+1+1+1 by omega]
   exact h2
def OwV (w:World) (B:Nat) (x:Value) (P:List PV):Prop:=w.ownsRow B 85 2 x P.length (vC P)∧∀p∈P,RwS w B p.2.1 p.2.2
abbrev PL:Type:=Value×List Int
def OwL (w:World) (B:Nat) (y:Value) (P:List PL):Prop:=w.ownsRow B 26 1 y P.length (P.map (·.1))∧∀p∈P,RwI w B p.1 p.2
abbrev PR:Type:=Value×List Fr
def OwR (w:World) (B:Nat) (z:Value) (P:List PR):Prop:=w.ownsRow B 22 1 z P.length (P.map (·.1))∧∀p∈P,RwF w B p.1 p.2
theorem OwV.keep {w w':World} {B:Nat} {x:Value} {P:List PV} (h:OwV w B x P) (h1:KeepT 85 w w') (h2:KeepT 9 w w'):OwV w' B x P:=⟨owns_keep h.1 h1,fun p hp=>owns_keep (h.2 p hp) h2⟩
theorem OwL.keep {w w':World} {B:Nat} {x:Value} {P:List PL} (h:OwL w B x P) (h1:KeepT 26 w w') (h2:KeepT 3 w w'):OwL w' B x P:=⟨owns_keep h.1 h1,fun p hp=>owns_keep (h.2 p hp) h2⟩
theorem OwR.keep {w w':World} {B:Nat} {x:Value} {P:List PR} (h:OwR w B x P) (h1:KeepT 22 w w') (h2:KeepT 30 w w'):OwR w' B x P:=⟨owns_keep h.1 h1,fun p hp=>owns_keep (h.2 p hp) h2⟩
theorem OwV.nil (w:World) (B:Nat):OwV w B (.slice none 0 0) []:=⟨⟨rfl,.inl ⟨rfl,rfl⟩⟩,fun p hp=>by cases hp⟩
theorem OwL.nil (w:World) (B:Nat):OwL w B (.slice none 0 0) []:=⟨⟨rfl,.inl ⟨rfl,rfl⟩⟩,fun p hp=>by cases hp⟩
theorem OwR.nil (w:World) (B:Nat):OwR w B (.slice none 0 0) []:=⟨⟨rfl,.inl ⟨rfl,rfl⟩⟩,fun p hp=>by cases hp⟩
theorem Tryz.infoInts:(Tryz.prog.info? 26).map (fun i=>(i.zero,i.size,i.bytes))=some (some (.slice none 0 0),1,24):=by kernel_rfl
theorem Tryz.infoFracs:(Tryz.prog.info? 22).map (fun i=>(i.zero,i.size,i.bytes))=some (some (.slice none 0 0),1,24):=by kernel_rfl
theorem Tryz.infoVar:(Tryz.prog.info? 85).map (fun i=>(i.zero,i.size,i.bytes))=some (some (.agg #[.string ⟨#[]⟩,.slice none 0 0]),2,40):=by kernel_rfl
theorem wpList_append_rs {w:World} {ops:Array Oper} {rest:List Oper} {o:Oper} {a:Act} {Q:Exit→Act→World→Prop} (hgd:o.guard=none) (s x:Operand)
  (ho:o.op=.call {callee:=.builtin .append,args:= #[s,x],argTypes:= #[23,23]}) (base:Nat) (v:Value) (P:List PR) (q:Value) (hq:SlV q) (hs:a.eval s=v) (hown:w.ownsRow base 22 1 v P.length (P.map (·.1))) (g:Nat) (hx:a.eval x=.slice (some ⟨g,0,none⟩) 1 1) (hg:w.cell? ⟨g,0,none⟩=some q) (hlen:P.length+1≤100000) (hbase:base≤w.heap.size)
  (h:∀v' w',w'.ownsRow base 22 1 v' (P.length+1) (P.map (·.1)++[q])→w.grownBy w' v.ownBlock→wpList Tryz.prog ops Q rest (a.put o.dst v') w'):wpList Tryz.prog ops Q (o::rest) a w:=by
 obtain⟨i0,hi0,hz0,hz1,hz2⟩:=info_parts Tryz.infoFracs
 refine wpList_append_own _ hgd s x 23 ho base 22 i0 (.slice none 0 0) 1 24 Tryz.underlying23 hi0 hz0 hz1 hz2 rfl (by decide) v P.length _ hs hown ⟨g,0,none⟩ 1 1 [q] hx rfl ?_ ?_ (by unfold maxLen;omega) (by omega) hbase ?_
 ·intro j u hj
  match j,hj with
  |0,hj=>cases hj;exact hg
  |j+1,hj=>simp at hj
 ·intro u hu
  simp only[List.mem_cons,List.not_mem_nil,or_false] at hu
  subst hu
  obtain⟨_,_,_,rfl⟩:=hq
  rfl
 ·intro v' w' h1 h2 _
  exact h v' w' h1 h2
theorem wp_append_var {w:World} {o:Oper} {a:Act} {K:Act→World→Prop} {Q:Exit→Act→World→Prop} (s x:Operand)
  (ho:o.op=.call {callee:=.builtin .append,args:= #[s,x],argTypes:= #[41,41]}) (base:Nat) (v:Value) (P:List PV) (nm:ByteArray) (q:Value) (hq:SlV q) (hs:a.eval s=v) (hown:w.ownsRow base 85 2 v P.length (vC P)) (g:Nat) (hx:a.eval x=.slice (some ⟨g,0,none⟩) 1 1) (hg0:w.cell? ⟨g,0,none⟩=some (.string nm)) (hg1:w.cell? ⟨g,1,none⟩=some q) (hlen:P.length+1≤100000) (hbase:base≤w.heap.size)
  (h:∀v' w',w'.ownsRow base 85 2 v' (P.length+1) (vC P++[.string nm,q])→w.grownBy w' v.ownBlock→K (a.put o.dst v') w'):o.wp Tryz.prog a w K Q:=by
 obtain⟨i0,hi0,hz0,hz1,hz2⟩:=info_parts Tryz.infoVar
 refine wp_append_own _ s x 41 ho base 85 i0 (.agg #[.string ⟨#[]⟩,.slice none 0 0]) 2 40 Tryz.underlying41 hi0 hz0 hz1 hz2 rfl (by decide) v P.length _ hs hown ⟨g,0,none⟩ 1 1 [.string nm,q] hx rfl ?_ ?_ (by unfold maxLen;omega) (by omega) hbase ?_
 ·intro j u hj
  match j,hj with
  |0,hj=>cases hj;exact hg0
  |1,hj=>cases hj;exact hg1
  |j+2,hj=>simp at hj
 ·intro u hu
  simp only[List.mem_cons,List.not_mem_nil,or_false] at hu
  rcases hu with rfl |rfl
  ·rfl
  ·obtain⟨_,_,_,rfl⟩:=hq
   rfl
 ·intro v' w' h1 h2 _
  exact h v' w' h1 h2
theorem frC_append (a:List Fr):∀l,frC (l++a)=frC l++frC a
 |[]=>rfl
 |f::l=>by
  show Value.bool f.1::Value.string f.2.1::Value.string f.2.2::frC (l++a)=_
  rw[frC_append a l]
  rfl
theorem frC_cell {w:World} {g o:Nat}:∀ {l:List Fr},FrS w (some ⟨g,o,none⟩) l→∀j u,(frC l)[j]? =some u→w.cell? ((⟨g,o,none⟩:Addr).add j)=some u∧u.oneCell'=true:=by
 intro l h j u hj
 have hjl:j<(frC l).length:=(List.getElem?_eq_some_iff.1 hj).1
 rw[frC_length] at hjl
 have hk:j/3<l.length:=by omega
 obtain⟨g',o',e,_,h0,h1,h2⟩:=h (j/3) hk
 cases e
 have hadd:(⟨g,o,none⟩:Addr).add j=⟨g,o+j,none⟩:=by
  rw[Addr.add]
  by_cases h0:j=0
  ·subst h0;simp
  ·simp[h0]
 have hget:=frC_get l (j/3) hk
 rw[hadd]
 have hm:j % 3=0∨j % 3=1∨j % 3=2:=by omega
 rcases hm with hm |hm |hm
 ·have e:j=j/3*3:=by omega
  rw[e] at hj⊢
  rw[hget.1] at hj
  cases hj
  exact⟨h0,rfl⟩
 ·have e:j=j/3*3+1:=by omega
  rw[e] at hj⊢
  rw[hget.2.1] at hj
  cases hj
  exact⟨by rw[←Nat.add_assoc];exact h1,rfl⟩
 ·have e:j=j/3*3+2:=by omega
  rw[e] at hj⊢
  rw[hget.2.2] at hj
  cases hj
  exact⟨by rw[←Nat.add_assoc];exact h2,rfl⟩
theorem wpList_append_frs {w:World} {ops:Array Oper} {rest:List Oper} {o:Oper} {a:Act} {Q:Exit→Act→World→Prop} (hgd:o.guard=none) (s x:Operand)
  (ho:o.op=.call {callee:=.builtin .append,args:= #[s,x],argTypes:= #[22,22]}) (base:Nat) (v:Value) (l la:List Fr) (hs:a.eval s=v) (hown:RwF w base v l) (g og ca:Nat) (hx:a.eval x=.slice (some ⟨g,og,none⟩) la.length ca) (hf:FrS w (some ⟨g,og,none⟩) la) (hlen:l.length+la.length≤100000) (hbase:base≤w.heap.size)
  (h:∀v' w',RwF w' base v' (l++la)→w.grownBy w' v.ownBlock→wpList Tryz.prog ops Q rest (a.put o.dst v') w'):wpList Tryz.prog ops Q (o::rest) a w:=by
 obtain⟨i0,hi0,hz0,hz1,hz2⟩:=info_parts Tryz.infoFrac
 refine wpList_append_own _ hgd s x 22 ho base 30 i0 (.agg #[.bool false,.string ⟨#[]⟩,.string ⟨#[]⟩]) 3 40 Tryz.underlying22 hi0 hz0 hz1 hz2 rfl (by decide) v l.length _ hs hown ⟨g,og,none⟩ la.length ca (frC la) hx (by rw[frC_length];omega) (fun j u hj=>(frC_cell hf j u hj).1) (fun u hu=>?_) (by unfold maxLen;omega) (by omega) hbase ?_
 ·obtain⟨j,hj,rfl⟩:=List.getElem_of_mem hu
  exact(frC_cell hf j _ (List.getElem?_eq_getElem hj)).2
 ·intro v' w' h1 h2 _
  refine h v' w' ?_ h2
  rw[RwF,List.length_append,frC_append]
  exact h1
end Go.Proofs.YtgamblainfkiaaaGreatDoor

/- Lists of lists of fractions: slices.Grow of nothing, slices.Concat of three. -/
namespace Go.Proofs.YtgamblainfkiaaaGreatDoor
open Go.RowKit Go.Shelf
def VaS (w:World) (a:Option Addr) (X:List Value):Prop:=∀k (h:k<X.length),∃g o,a=some ⟨g,o,none⟩∧g<w.heap.size∧w.cell? ⟨g,o+k,none⟩=some X[k]∧SlV X[k]
theorem VaS.below {w w':World} {a:Option Addr} {X:List Value} (h:VaS w a X) (hb:Below w.heap.size w w'):VaS w' a X:=fun k hk=>by
 obtain⟨g,o,h1,h2,h3,h4⟩:=h k hk
 exact⟨g,o,h1,Nat.lt_of_lt_of_le h2 hb.size,(hb.cell (p:=⟨g,o+k,none⟩) h2).trans h3,h4⟩
def RwX (w:World) (B:Nat) (v:Value) (X:List Value):Prop:=w.ownsRow B 22 1 v X.length X
set_option maxRecDepth 100000 in
set_option maxHeartbeats 400000 in
theorem slGrowR_nil (n:Nat) (hn:n≤100000) (w:World):
  Calls Tryz.prog 82 #[.slice none 0 0,.int .i64 (n:Nat)] w fun e w'=>∃v,e=.returned v∧RwX w' w.heap.size v []∧Below w.heap.size w w':=by
 obtain⟨i0,hi0,hz0,hz1,hz2⟩:=info_parts Tryz.infoFracs
 by_cases h:n=0
 ·subst h
  go_enter Tryz.func82,Tryz.ntmps82
  go_wp2
  go_ret
  exact⟨_,rfl,⟨rfl,.inl ⟨rfl,rfl⟩⟩,Below.refl _ _⟩
 ·have hold:(Builtin.firstCells i0.size 0 (.slice none 0 0)).run Tryz.prog w.drew=.ok ([]:List Value).toArray w.drew:=run_firstCells_none w.drew i0.size 0 0 0
  have hrz:∀ty,(Builtin.append_ #[23,3] ty #[.slice none 0 0,.int .i64 (n:Int)]).run Tryz.prog w=.ok (.slice (some ⟨w.heap.size,0,none⟩) (0+n) (grownCap w (0+n) 0 22)) (w.drew.alloc (.cells (([]:List Value).toArray++Builtin.zeroCells (Value.slice none 0 0).cells n++Builtin.zeroCells (Value.slice none 0 0).cells (grownCap w (0+n) 0 22 - (0+n))) 22)):=fun ty=>
   Lib.run_append_grow_zeros w 23 3 ty 22 i0 (.slice none 0 0) .i64 .i64 Tryz.underlying23 Tryz.underlying3 hi0 hz0 none 0 0 [] hold n (by omega) (by omega) (by omega) (by omega) (by rw[hz2];omega) (growslice_fits (by omega) (by rw[hz2];omega))
  have hGn:0+n≤grownCap w (0+n) 0 22:=grownCap_ge w _ _ _
  have hGm:=grownCap_le_maxLen w (0+n) 0 22 (by unfold maxLen;omega)
  rw[Nat.zero_add] at hrz hGn hGm
  obtain⟨G,hG⟩:∃G,G=grownCap w n 0 22:=⟨_,rfl⟩
  rw[←hG] at hrz hGn hGm
  have HGM:=hid hGm
  have hG63:G≤9223372036854775807:=by unfold maxLen at hGm;omega
  have hn0:(0:Int)<(n:Int):=by omega
  clear hold hG hGm
  go_enter Tryz.func82,Tryz.ntmps82
  go_wp2_with (at_builtin;refine Lib.wpList_append_run _ rfl _ _ _ _ rfl _ _ rfl rfl _ _ (hrz _) ?_)
  go_ret
  refine⟨_,rfl,⟨rfl,.inr ⟨w.heap.size,G,_,rfl,Nat.le_refl _,heap_alloc_new w.drew _,Nat.zero_le _,HGM.out,?_,by simp⟩⟩,((Below.refl _ w).drew).alloc (Nat.le_refl _) _⟩
  simp[size_zeroCells]
  omega
theorem wpList_append_vas {w:World} {ops:Array Oper} {rest:List Oper} {o:Oper} {a:Act} {Q:Exit→Act→World→Prop} (hgd:o.guard=none) (s x:Operand)
  (ho:o.op=.call {callee:=.builtin .append,args:= #[s,x],argTypes:= #[23,23]}) (base:Nat) (v:Value) (xs la:List Value) (hs:a.eval s=v) (hown:RwX w base v xs) (p:Option Addr) (ca:Nat) (hx:a.eval x=.slice p la.length ca) (hi:VaS w p la) (hp:p=none→ca=0) (hlen:xs.length+la.length≤100000) (hbase:base≤w.heap.size)
  (h:∀v' w',RwX w' base v' (xs++la)→w.grownBy w' v.ownBlock→wpList Tryz.prog ops Q rest (a.put o.dst v') w'):wpList Tryz.prog ops Q (o::rest) a w:=by
 obtain⟨i0,hi0,hz0,hz1,hz2⟩:=info_parts Tryz.infoFracs
 cases p with
 |none=>
  have hl:la=[]:=by
   cases la with
   |nil=>rfl
   |cons x l=>obtain⟨g,o,e,_⟩:=hi 0 (by simp);cases e
  subst hl
  have h0:=hp rfl
  subst h0
  have h1:=h v w (by rw[List.append_nil];exact hown) ⟨rfl,rfl,rfl,Nat.le_refl _,fun _ _ _=>rfl⟩
  exact wpList_append_own_none hgd s x 23 ho base 22 i0 1 Tryz.underlying23 hi0 v xs.length _ hs hown hx h1
 |some ad=>
  refine wpList_append_own _ hgd s x 23 ho base 22 i0 (.slice none 0 0) 1 24 Tryz.underlying23 hi0 hz0 hz1 hz2 rfl (by decide) v xs.length _ hs hown ad la.length ca la hx (by simp) ?_ ?_ (by unfold maxLen;omega) (by omega) hbase ?_
  ·intro j u hj
   obtain⟨hj1,hj2⟩:=List.getElem?_eq_some_iff.1 hj
   obtain⟨g,o',e,_,hc,_⟩:=hi j hj1
   cases e
   rw[←hj2]
   rw[Addr.add]
   by_cases h0:j=0
   ·subst h0;simpa using hc
   ·simpa [h0] using hc
  ·intro u hu
   obtain⟨j,hj,rfl⟩:=List.getElem_of_mem hu
   obtain⟨g,o',e,_,_,hs⟩:=hi j hj
   obtain⟨_,_,_,e⟩:=hs
   rw[e]
   rfl
  ·intro v' w' h1 h2 _
   refine h v' w' ?_ h2
   rw[RwX,List.length_append]
   exact h1
def frstV (la lb lc:List Value) (i:Nat):List Value:=if i=0 then[] else if i=1 then la else if i=2 then la++lb else la++lb++lc
theorem RwX.own {w:World} {B:Nat} {v:Value} {l:List Value} (h:RwX w B v l):∀k,v.ownBlock=some k→B≤k:=by
 intro k hk
 rcases h.2 with ⟨rfl,_⟩ |⟨g,cap,cur,rfl,h2,_⟩
 ·cases hk
 ·cases hk
  exact h2
theorem frstV_len {la lb lc:List Value} (hla:la.length≤1000) (hlb:lb.length≤1000) (hlc:lc.length≤1000) (i:Nat):(frstV la lb lc i).length≤3000:=by
 rw[frstV]
 by_cases h:i=0
 ·rw[if_pos h];simp
 ·rw[if_neg h]
  by_cases h1:i=1
  ·rw[if_pos h1];omega
  ·rw[if_neg h1]
   by_cases h2:i=2
   ·rw[if_pos h2,List.length_append];omega
   ·rw[if_neg h2,List.length_append,List.length_append];omega
set_option maxRecDepth 100000 in
set_option maxHeartbeats 800000 in
theorem slConcatR_any (R:Nat) (a b d:Option Addr) (ca cb cd:Nat) (la lb ld:List Value) (w:World) (hR:R<w.heap.size) (r0:w.cell? ⟨R,0,none⟩=some (.slice a la.length ca)) (r1:w.cell? ⟨R,1,none⟩=some (.slice b lb.length cb)) (r2:w.cell? ⟨R,2,none⟩=some (.slice d ld.length cd)) (ha:VaS w a la) (hb:VaS w b lb) (hd:VaS w d ld) (ha0:a=none→ca=0) (hb0:b=none→cb=0) (hd0:d=none→cd=0) (hla:la.length≤1000) (hlb:lb.length≤1000) (hld:ld.length≤1000):
  Calls Tryz.prog 40 #[.slice (some ⟨R,0,none⟩) 3 3] w fun e w'=>∃v,e=.returned v∧RwX w' w.heap.size v (la++lb++ld)∧Below w.heap.size w w':=by
 have one:∀i,i<3→∃(p:Option Addr) (c:Nat) (l:List Value),w.cell? ⟨R,i,none⟩=some (.slice p l.length c)∧VaS w p l∧(p=none→c=0)∧l.length≤1000∧frstV la lb ld (i+1)=frstV la lb ld i++l:=by
  intro i hi
  by_cases h:i=0
  ·subst h
   exact⟨a,ca,la,r0,ha,ha0,hla,by simp[frstV]⟩
  ·by_cases h:i=1
   ·subst h
    exact⟨b,cb,lb,r1,hb,hb0,hlb,by simp[frstV]⟩
   ·obtain rfl:i=2:=by omega
    exact⟨d,cd,ld,r2,hd,hd0,hld,by simp[frstV]⟩
 have HONE:=hid one
 have HFL:=hid (fun i=>frstV_len hla hlb hld i)
 have h2:frstV la lb ld 3=la++lb++ld:=by simp[frstV]
 rw[←h2]
 have hz:frstV la lb ld 0=[]:=rfl
 clear one r0 r1 r2 ha hb hd ha0 hb0 hd0 h2 hla hlb hld
 generalize frstV la lb ld=F at *
 go_enter Tryz.func40,Tryz.ntmps40
 go_wp2_with fail
 go_loopw [3,11] (fun sv iv wr=>∃i:Nat,i≤3∧iv=.int .i64 i∧sv=.int .i64 ((F i).length:Nat)∧Hid (Below w.heap.size w wr)) (fun _ iv _=>3 - (intOf iv).toNat)
 case atStart=>exact⟨0,by omega,rfl,by rw[hz];rfl,Below.refl _ _⟩
 case round=>
  obtain⟨i,hi,rfl,rfl,HW⟩:=hrel
  by_cases hlt:i<3
  ·obtain⟨p,c,l,hc,hI,hp,hl,hf⟩:=HONE.out i hlt
   have hcw:=(HW.out.cell (p:=⟨R,i,none⟩) hR).trans hc
   have hfl:=HFL.out i
   have hw1:IntKind.i64.wrap (((F i).length:Int)+(l.length:Int))=((F i).length:Int)+(l.length:Int):=by rw[IntKind.wrap_i64];omega
   have HE:Hid (((F (i+1)).length:Int)=((F i).length:Int)+(l.length:Int)):=by show _=_;rw[hf,List.length_append];exact Int.natCast_add _ _
   have hnn:(0:Int)≤((F i).length:Int)+(l.length:Int):=by omega
   clear hf hc hp hI
   go_wp2
   go_roundw
   case rel=>exact⟨i+1,by omega,by go_num,by rw[HE.out],HW⟩
   case measure=>simp[intOf];omega
  ·obtain rfl:i=3:=by omega
   have hfl:=HFL.out 3
   go_wp2_with fail
   refine(slGrowR_nil (F 3).length (by omega) _).mono ?_
   rintro e w1 ⟨v1,rfl,hr1,hb1⟩
   have HB1:=hid (HW.out.trans (hb1.mono HW.out.size))
   have HR1:Hid (∀b,b≤wr.heap.size→RwX w1 b v1 []):=fun b hb=>⟨hr1.1,hr1.2.imp id (fun ⟨g,cap,cur,h1,h2,h3⟩=>⟨g,cap,cur,h1,Nat.le_trans hb h2,h3⟩)⟩
   have HR:=hid (HR1.out w.heap.size HW.out.size)
   clear hr1 hb1 HR1
   go_wp2_with fail
   go_loopw [6,27] (fun sv iv wr=>∃i:Nat,i≤3∧iv=.int .i64 i∧Hid (RwX wr w.heap.size sv (F i))∧Hid (Below w.heap.size w wr)) (fun _ iv _=>3 - (intOf iv).toNat)
   case atStart=>exact⟨0,by omega,rfl,by rw[hz];exact HR,HB1⟩
   case round=>
    obtain⟨i,hi,rfl,HRR,HWW⟩:=hrel
    by_cases hlt:i<3
    ·obtain⟨p,c,l,hc,hI,hp,hl,hf⟩:=HONE.out i hlt
     have hcw:=(HWW.out.cell (p:=⟨R,i,none⟩) hR).trans hc
     have hfl:=HFL.out i
     have HI:=hid (hI.below HWW.out)
     have HP:=hid hp
     have HE:=hid hf
     have HOWN:=hid HRR.out.own
     clear hf hc hp hI
     go_wp2_with (at_builtin;refine wpList_append_vas rfl _ _ rfl w.heap.size _ (F i) l rfl HRR.out p c rfl HI.out HP.out (by omega) HWW.out.size ?_;intro v' w2 hr2 hg2)
     have HR2:=hid hr2
     have HB2:=hid (HWW.out.grown hg2 HWW.out.size HOWN.out)
     clear hr2 hg2
     go_roundw
     case rel=>exact⟨i+1,by omega,by go_num,by rw[HE.out];exact HR2,HB2⟩
     case measure=>simp[intOf];omega
    ·obtain rfl:i=3:=by omega
     go_wp2
     go_ret
     exact⟨_,rfl,HRR.out,HWW.out⟩
end Go.Proofs.YtgamblainfkiaaaGreatDoor

/- slices.IndexFunc and slices.ContainsFunc of numbers, whatever is asked; package infer: the closure of Posterior. -/
namespace Go.Proofs.YtgamblainfkiaaaGreatDoor
open Go.RowKit Go.Shelf
set_option maxRecDepth 100000 in
set_option maxHeartbeats 400000 in
theorem idxFI_any (a:Option Addr) (ca f:Nat) (lb:Array Value) (F:List Int) (p:Int→Bool) (w:World) (h:IntS w a F) (hn:F.length≤1000) (eF:∀args w,(callFunc f args).run Tryz.prog w=.ok (.enter f args) w)
  (hp:∀q∈F,∀U:World,Below w.heap.size w U→Calls Tryz.prog f (#[.int .i64 q]++lb) U fun e w'=>e=.returned (.bool (p q))∧Below U.heap.size U w'):
  Calls Tryz.prog 98 #[.slice a F.length ca,.func (.func f) #[] lb] w fun e w'=>∃j:Int,e=.returned (.int .i64 j)∧decide (0≤j)=F.any p∧Below w.heap.size w w':=by
 have HF:=hid h
 have HP:=hid hp
 have HNO:Hid ((∀i (hi:i<F.length),p F[i]=false)→F.any p=false):=fun hh=>List.any_eq_false.2 fun q hq=>by
  obtain⟨i,hi,rfl⟩:=List.getElem_of_mem hq
  rw[hh i hi];decide
 have HYE:Hid (∀i (hi:i<F.length),p F[i]=true→F.any p=true):=fun i hi hh=>List.any_eq_true.2 ⟨_,List.getElem_mem hi,hh⟩
 clear h hp
 generalize F.any p=R at *
 go_enter Tryz.func98,Tryz.ntmps98
 go_wp2_with fail
 go_loopw [8] (fun iv wr=>∃i:Nat,i≤F.length∧iv=.int .i64 i∧Hid (∀j (hj:j<F.length),j<i→p F[j]=false)∧Hid (Below w.heap.size w wr)) (fun iv _=>F.length - (intOf iv).toNat)
 case atStart=>exact⟨0,Nat.zero_le _,rfl,(fun j _ hj=>absurd hj (by omega)),Below.refl _ _⟩
 case round=>
  obtain⟨i,hi,rfl,HN,HB⟩:=hrel
  by_cases hlt:i<F.length
  ·obtain⟨g,o,rfl,hg,h0⟩:=HF.out i hlt
   have k0:=(HB.out.cell (p:=⟨g,_,none⟩) hg).trans h0
   have HC:=hid (HP.out F[i] (List.getElem_mem hlt) wr HB.out)
   have HYi:=hid (HYE.out i hlt)
   have HNX:Hid (p F[i]=false→∀j (hj:j<F.length),j<i+1→p F[j]=false):=fun e j hj hlt'=>by
    rcases Nat.lt_or_ge j i with h2 |h2
    ·exact HN.out j hj h2
    ·obtain rfl:j=i:=by omega
     exact e
   clear h0
   generalize p F[i]=q at *
   generalize F[i]=f1 at *
   go_wp2_with fail
   refine HC.out.mono ?_
   rintro e w2 ⟨rfl,hb2⟩
   have HB2:=hid (HB.out.trans (hb2.mono HB.out.size))
   clear hb2 HC
   cases q with
   |true=>
    have HE:=hid (HYi.out rfl)
    go_wp2
    go_ret
    exact⟨(i:Nat),rfl,by rw[HE.out];simp,HB2.out⟩
   |false=>
    have HE:=hid (HNX.out rfl)
    go_wp2
    go_roundw
    case rel=>exact⟨i+1,by omega,by go_num,HE,HB2⟩
    case measure=>simp[intOf];omega
  ·obtain rfl:i=F.length:=by omega
   have HE:=hid (HNO.out fun j hj=>HN.out j hj hj)
   go_wp2
   go_ret
   exact⟨-1,rfl,by rw[HE.out];rfl,HB.out⟩
set_option maxRecDepth 100000 in
set_option maxHeartbeats 400000 in
theorem conFI_any (a:Option Addr) (ca f:Nat) (lb:Array Value) (F:List Int) (p:Int→Bool) (w:World) (h:IntS w a F) (hn:F.length≤1000) (eF:∀args w,(callFunc f args).run Tryz.prog w=.ok (.enter f args) w)
  (hp:∀q∈F,∀U:World,Below w.heap.size w U→Calls Tryz.prog f (#[.int .i64 q]++lb) U fun e w'=>e=.returned (.bool (p q))∧Below U.heap.size U w'):
  Calls Tryz.prog 66 #[.slice a F.length ca,.func (.func f) #[] lb] w fun e w'=>e=.returned (.bool (F.any p))∧Below w.heap.size w w':=by
 have HI:=hid (idxFI_any a ca f lb F p w h hn eF hp)
 clear h hp
 generalize F.any p=R at *
 go_enter Tryz.func66,Tryz.ntmps66
 go_wp2_with fail
 refine HI.out.mono ?_
 rintro e w2 ⟨j,rfl,hj,hb2⟩
 have HB:=hid hb2
 have HJ:=hid hj
 clear hb2 hj
 go_wp2
 go_ret
 exact⟨by rw[←HJ.out];rfl,HB.out⟩
end Go.Proofs.YtgamblainfkiaaaGreatDoor
