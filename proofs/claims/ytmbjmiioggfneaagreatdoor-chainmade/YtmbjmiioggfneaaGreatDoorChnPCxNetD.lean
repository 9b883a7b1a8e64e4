/- Chains, plainly: how long numbers are when equations are solved. -/
import Derived.Test.YtmbjmiioggfneaaGreatDoorRefSCxDicP
import Derived.Test.YtmbjmiioggfneaaGreatDoorProg
import Derived.WalkKit
import Derived.WalkSpells
import Derived.WalkLawsBesides
import Derived.Deep.QuietTactic
import Derived.BigQuiet
import Derived.Test.YtmbjmiioggfneaaGreatDoorMostACxRefA
import Derived.Test.YtmbjmiioggfneaaGreatDoorCore1CxCore2b
import Derived.Deep.RegionHeld3
import Derived.Deep.OwnRows
import Derived.Laws.EntriesVeiled
import Derived.Laws.BitsAllLaws
import Derived.Test.YtmbjmiioggfneaaGreatDoorReckBCxShiftB
import Derived.Test.YtmbjmiioggfneaaGreatDoorShelfCx
import Derived.Sort.OwnSortedInts
import Derived.Lib.AppendZerosOnto
import Derived.Laws.AppendOwnNone
import Derived.WalkMore
namespace Go.Proofs.YtmbjmiioggfneaaGreatDoor
theorem fits_neg {m:Nat} {q:Rat} (h:Fits m q):Fits m (-q):=by
 obtain⟨A,D,hD,rfl,h1,h2⟩:=h
 exact⟨-A,D,hD,(Rat.neg_mkRat A D),h1,by rw[Int.natAbs_neg];exact h2⟩
theorem mk_cancel {A:Int} {D:Nat} (h:D≠0):mkRat A D*(D:Rat)=(A:Rat):=by
 have hd:(D:Rat)≠0:=by exact_mod_cast h
 rw[Rat.mkRat_eq_div,Rat.div_def,Rat.mul_assoc,Rat.inv_mul_cancel _ hd,Rat.mul_one]
theorem mk_of {A:Int} {D:Nat} {q:Rat} (h:D≠0) (e:q*(D:Rat)=(A:Rat)):q=mkRat A D:=by
 have hd:(D:Rat)≠0:=by exact_mod_cast h
 rw[Rat.mkRat_eq_div,←e,Rat.div_def,Rat.mul_assoc,Rat.mul_inv_cancel _ hd,Rat.mul_one]
theorem fits_divq {m k:Nat} {p q:Rat} (hp:Fits m p) (hq:Fits k q) (h0:q≠0):Fits (m+k) (p/q):=by
 obtain⟨A,D,hD,rfl,h1,h2⟩:=hp
 obtain⟨A',D',hD',rfl,h3,h4⟩:=hq
 have hA:A'≠0:=fun e=>h0 (by rw[e,Rat.zero_mkRat])
 have hn:A'.natAbs≠0:=by omega
 refine⟨A*(D'*A'.sign),D*A'.natAbs,Nat.mul_ne_zero hD hn,mk_of (Nat.mul_ne_zero hD hn) ?_,?_,?_⟩
 ·have e1:=mk_cancel (A:=A) hD
  have e2:=mk_cancel (A:=A') hD'
  have e3:((A'.natAbs:Nat):Rat)=(A':Rat)*(A'.sign:Rat):=by
   have:((A'.natAbs:Nat):Int)=A'*A'.sign:=by rw[Int.mul_sign_self]
   exact_mod_cast this
  generalize mkRat A D=p at *
  generalize mkRat A' D'=q at *
  have e4:p/q*q=p:=by rw[Rat.div_def,Rat.mul_assoc,Rat.inv_mul_cancel _ h0,Rat.mul_one]
  push_cast
  rw[e3,←e1,←e2]
  generalize p/q=r at *
  rw[←e4]
  grind
 ·rw[Nat.pow_add]
  exact Nat.mul_lt_mul'' h1 h4
 ·have hs:A'.sign.natAbs=1:=by rw[Int.natAbs_sign,if_neg hA]
  rw[Int.natAbs_mul,Int.natAbs_mul,hs,Nat.mul_one,Int.natAbs_natCast,Nat.pow_add]
  exact Nat.mul_lt_mul'' h2 h3
theorem fits_up {m n:Nat} {q:Rat} (h:Fits m q) (hm:m≤n):Fits n q:=by
 obtain⟨A,D,hD,e,h1,h2⟩:=h
 exact⟨A,D,hD,e,Nat.lt_of_lt_of_le h1 (pow_mono hm),Nat.lt_of_lt_of_le h2 (pow_mono hm)⟩
theorem fits_zero:Fits 1 0:=⟨0,1,by decide,rfl,by decide,by decide⟩
theorem fits_one:Fits 1 1:=⟨1,1,by decide,rfl,by decide,by decide⟩
theorem fits_sumR {c:Nat} {f:Nat→Rat}:∀ {n:Nat},(∀i,i<n→Fits c (f i))→Fits (n*(c+1)+1) (sumR f n)
 |0,_=>fits_up fits_zero (by omega)
 |n+1,h=>fits_up (fits_add (fits_sumR fun i hi=>h i (by omega)) (h n (by omega))) (by rw[Nat.add_mul];omega)
theorem cmpQ_pos {p q:Rat}:0<cmpQ p q↔q<p:=by
 by_cases h:p<q
 ·rw[cmpQ,if_pos h];exact⟨fun h1=>absurd h1 (by decide),fun h1=>absurd h1 (by grind)⟩
 ·by_cases e:p=q
  ·subst e;rw[cmpQ,if_neg Rat.lt_irrefl,if_pos rfl];exact⟨fun h1=>absurd h1 (by decide),fun h1=>absurd h1 Rat.lt_irrefl⟩
  ·rw[cmpQ,if_neg h,if_neg e];exact⟨fun _=>Rat.lt_of_le_of_ne (Rat.not_lt.1 h) (Ne.symm e),fun _=>by decide⟩
end Go.Proofs.YtmbjmiioggfneaaGreatDoor

/- Lists of ints in memory; the document's answer: what is in a list, sizes that may be, lists that rise. -/
namespace Go.Proofs.YtmbjmiioggfneaaGreatDoor
open Go.RowKit
theorem hid {p:Prop} (h:p):Hid p:=h
def IntS (w:World) (a:Option Addr) (l:List Int):Prop:=∀k (h:k<l.length),∃g o,a=some ⟨g,o,none⟩∧g<w.heap.size∧w.cell? ⟨g,o+k,none⟩=some (.int .i64 l[k])
theorem IntS.below {w w':World} {a:Option Addr} {l:List Int} (h:IntS w a l) (hb:Below w.heap.size w w'):IntS w' a l:=fun k hk=>by
 obtain⟨g,o,h1,h2,h3⟩:=h k hk
 exact⟨g,o,h1,Nat.lt_of_lt_of_le h2 hb.size,(hb.cell (p:=⟨g,_,none⟩) h2).trans h3⟩
theorem below_dn {B:Nat} {a b:World} (h:Below B a b) (k:Nat):Below B a (b.drewN k):=⟨h.os,h.tape,h.output,h.size,h.block⟩
def inB (k:Int) (l:List Int):Bool:=l.any (·==k)
theorem inB_take {k:Int} {l:List Int} {i:Nat} (h:i<l.length):inB k (l.take (i+1))=(inB k (l.take i) ||l[i]==k):=by
 rw[List.take_succ_eq_append_getElem h,inB,inB,List.any_append];simp
theorem inB_hit {k:Int} {l:List Int} {i:Nat} (h:i<l.length) (e:l[i]=k):inB k l=true:=by
 rw[inB,List.any_eq_true];exact⟨l[i],List.getElem_mem h,by simp[e]⟩
set_option maxRecDepth 100000 in
set_option maxHeartbeats 1000000 in
theorem rIn_any (k:Int) (a:Option Addr) (cap:Nat) (l:List Int) (w:World) (h:IntS w a l) (hn:l.length≤140737488355328):
  Calls Tryz.prog 39 #[.int .i64 k,.slice a l.length cap] w fun e w'=>e=.returned (.bool (inB k l))∧w'=w:=by
 have HF:=hid h
 clear h
 go_enter Tryz.func39,Tryz.ntmps39
 go_wp2_with fail
 go_loop [5] (fun iv=>∃i:Nat,i≤l.length∧iv=.int .i64 i∧Hid (inB k (l.take i)=false)) (fun iv=>l.length - (intOf iv).toNat)
 case atStart=>exact⟨0,Nat.zero_le _,rfl,rfl⟩
 case round=>
  obtain⟨i,hi,rfl,HI⟩:=hrel
  by_cases hlt:i<l.length
  ·obtain⟨g,o,rfl,hg,c0⟩:=HF.out i hlt
   by_cases e:l[i]=k
   ·have HE:=hid (inB_hit hlt e)
    go_wp2
    go_ret
    exact⟨by rw[HE.out];rfl,rfl⟩
   ·have HS:Hid (inB k (l.take (i+1))=false):=by show _=_;rw[inB_take hlt,HI.out];simp[e]
    have eb:(l[i]==k)=false:=by simp[e]
    generalize l[i]=x at *
    go_wp2
    go_round
    case rel=>exact⟨i+1,by omega,by go_num,HS.out⟩
    case measure=>simp[intOf];omega
  ·have HE:Hid (inB k l=false):=by
    show _=_
    have:=HI.out
    rwa [List.take_of_length_le (by omega)] at this
   go_wp2
   go_ret
   exact⟨by rw[HE.out];rfl,rfl⟩
end Go.Proofs.YtmbjmiioggfneaaGreatDoor

/- The document's answer: lists that rise. -/
namespace Go.Proofs.YtmbjmiioggfneaaGreatDoor
open Go.RowKit
def okAt (l:List Int) (n:Int) (i:Nat):Bool:=decide (0≤l.getD i 0∧l.getD i 0<n∧(0<i→l.getD (i - 1) 0<l.getD i 0))
def risB (l:List Int) (n:Int):Bool:=(List.range l.length).all (okAt l n)
theorem risB_bad {l:List Int} {n:Int} {i:Nat} (h:i<l.length) (e:okAt l n i=false):risB l n=false:=by
 rw[risB,List.all_eq_false];exact⟨i,List.mem_range.2 h,by rw[e];decide⟩
theorem ris_succ {l:List Int} {n:Int} {i:Nat} (h0:(List.range i).all (okAt l n)=true) (e:okAt l n i=true):(List.range (i+1)).all (okAt l n)=true:=by
 rw[List.range_succ,List.all_append,h0];simp[e]
theorem getD_eq {l:List Int} {i:Nat} (h:i<l.length):l.getD i 0=l[i]:=by simp[List.getD,h]
set_option maxRecDepth 100000 in
set_option maxHeartbeats 400000 in
theorem rRising_any (a:Option Addr) (cap:Nat) (l:List Int) (n:Int) (w:World) (h:IntS w a l) (hn:l.length≤140737488355328):
  Calls Tryz.prog 52 #[.slice a l.length cap,.int .i64 n] w fun e w'=>e=.returned (.bool (risB l n))∧Below w.heap.size w w':=by
 have HF:=hid h
 clear h
 have HB:=hid (fun i h e=>risB_bad (l:=l) (n:=n) (i:=i) h e)
 have HT:Hid ((List.range l.length).all (okAt l n)=true→risB l n=true):=id
 generalize risB l n=rb at *
 go_enter Tryz.func52,Tryz.ntmps52
 go_wp2_with fail
 go_loopw [5] (fun iv wr=>∃i:Nat,i≤l.length∧iv=.int .i64 i∧Hid ((List.range i).all (okAt l n)=true)∧Below w.heap.size w wr) (fun iv _=>l.length - (intOf iv).toNat)
 case atStart=>exact⟨0,Nat.zero_le _,rfl,rfl,Below.refl _ _⟩
 case round=>
  obtain⟨i,hi,rfl,HI,hB⟩:=hrel
  by_cases hlt:i<l.length
  ·obtain⟨g,o,rfl,hg,c0⟩:=(HF.out.below hB) i hlt
   have HO:Hid (okAt l n i=decide (0≤l[i]∧l[i]<n∧(0<i→l.getD (i - 1) 0<l[i]))):=by show _=_;rw[okAt,getD_eq hlt]
   by_cases e0:l[i]<0
   ·have HE:Hid (rb=false):=HB.out i hlt (by rw[HO.out];exact decide_eq_false (by omega))
    generalize l[i]=x at *
    have d0:decide (x<0)=true:=decide_eq_true e0
    go_wp2_with fail
    go_quiet (fail)
    go_wp2
    go_ret
    exact⟨by rw[HE.out];rfl,below_dn hB _⟩
   ·by_cases e1:n≤l[i]
    ·have HE:Hid (rb=false):=HB.out i hlt (by rw[HO.out];exact decide_eq_false (by omega))
     generalize l[i]=x at *
     have d0:decide (x<0)=false:=decide_eq_false e0
     have d1:decide (n≤x)=true:=decide_eq_true e1
     go_wp2_with fail
     go_quiet (fail)
     go_wp2
     go_ret
     exact⟨by rw[HE.out];rfl,below_dn hB _⟩
    ·by_cases e2:i=0
     ·have HS:=hid (ris_succ HI.out (i:=i) (by rw[HO.out];exact decide_eq_true ⟨by omega,by omega,fun h=>absurd h (by omega)⟩))
      clear HO
      generalize l[i]=x at *
      have d0:decide (x<0)=false:=decide_eq_false e0
      have d1:decide (n≤x)=false:=decide_eq_false e1
      have d2:decide (0<i)=false:=decide_eq_false (by omega)
      have e2':¬0<(i:Int):=by omega
      have E2:=hid e2
      clear e2
      go_wp2_with fail
      go_quiet (fail)
      go_wp2
      go_roundw
      case rel=>exact⟨i+1,by omega,by go_num,HS.out,below_dn hB _⟩
      case measure=>simp[intOf];omega
     ·have hip:0<i:=by omega
      obtain⟨g',o',he',hg',c1⟩:=(HF.out.below hB) (i - 1) (by omega)
      simp only[Option.some.injEq,Addr.mk.injEq] at he'
      obtain⟨rfl,rfl, -⟩:=he'
      have hgd:l.getD (i - 1) 0=l[i - 1]:=getD_eq (by omega)
      rw[hgd] at HO
      have hix:((i:Int) - 1).toNat=i - 1:=by omega
      by_cases e3:l[i]≤l[i - 1]
      ·have HE:Hid (rb=false):=HB.out i hlt (by rw[HO.out];exact decide_eq_false (fun h=>absurd (h.2.2 hip) (by omega)))
       clear hgd HO
       generalize l[i]=x at *
       generalize l[i - 1]=y at *
       have d0:decide (x<0)=false:=decide_eq_false e0
       have d1:decide (n≤x)=false:=decide_eq_false e1
       have d2:decide (0<(i:Int))=true:=decide_eq_true (by omega)
       have d3:decide (x≤y)=true:=decide_eq_true e3
       go_wp2_with fail
       go_quiet (fail)
       go_wp2
       go_ret
       exact⟨by rw[HE.out];rfl,below_dn hB _⟩
      ·have HS:=hid (ris_succ HI.out (i:=i) (by rw[HO.out];exact decide_eq_true ⟨by omega,by omega,fun _=>by omega⟩))
       clear hgd HO
       generalize l[i]=x at *
       generalize l[i - 1]=y at *
       have d0:decide (x<0)=false:=decide_eq_false e0
       have d1:decide (n≤x)=false:=decide_eq_false e1
       have d2:decide (0<(i:Int))=true:=decide_eq_true (by omega)
       have d3:decide (x≤y)=false:=decide_eq_false e3
       go_wp2_with fail
       go_quiet (fail)
       go_wp2
       go_roundw
       case rel=>exact⟨i+1,by omega,by go_num,HS.out,below_dn hB _⟩
       case measure=>simp[intOf];omega
  ·obtain rfl:i=l.length:=by omega
   have HE:=hid (HT.out HI.out)
   go_wp2
   go_ret
   exact⟨by rw[HE.out];rfl,hB⟩
end Go.Proofs.YtmbjmiioggfneaaGreatDoor

/- Plain facts on assignments of variables and their places in tables; nothing of the program is named here. -/
namespace Go.Proofs.YtmbjmiioggfneaaGreatDoor
def sz (S:List Nat) (v:Nat):Nat:=S[v]?.getD 1
def cnt (S:List Nat):List Nat→Nat
 |[]=>1
 |v::vs=>sz S v*cnt S vs
def asg (S:List Nat):List Nat→Nat→Nat→Nat
 |[],_,_=>0
 |u::vs,k,v=>if v=u then k/cnt S vs else asg S vs (k % cnt S vs) v
theorem asg_out {S:List Nat}:∀ {vs:List Nat} {k v:Nat},¬v∈vs→asg S vs k v=0
 |[],_,_,_=>rfl
 |u::vs,k,v,h=>by
  rw[asg,if_neg (fun e=>h (by rw[e];exact List.mem_cons_self))]
  exact asg_out fun e=>h (List.mem_cons_of_mem _ e)
def stp (S:List Nat):List Nat→Nat→Nat
 |[],_=>0
 |u::vs,v=>if v=u then cnt S vs else stp S vs v
theorem stp_out {S:List Nat}:∀ {vs:List Nat} {v:Nat},¬v∈vs→stp S vs v=0
 |[],_,_=>rfl
 |u::vs,v,h=>by
  rw[stp,if_neg (fun e=>h (by rw[e];exact List.mem_cons_self))]
  exact stp_out fun e=>h (List.mem_cons_of_mem _ e)
def pos (S:List Nat) (f:Nat→Nat) (vs:List Nat):Nat:=vs.foldl (fun k v=>k*sz S v+f v) 0
def sumL (g:Nat→Nat):List Nat→Nat
 |[]=>0
 |v::vs=>g v+sumL g vs
theorem sumL_append (g:Nat→Nat) (a b:List Nat):sumL g (a++b)=sumL g a+sumL g b:=by
 induction a with
 |nil=>simp[sumL]
 |cons v a ih=>simp only[List.cons_append,sumL,ih];omega
theorem sumL_congr {g h:Nat→Nat}:∀ {l:List Nat},(∀v∈l,g v=h v)→sumL g l=sumL h l
 |[],_=>rfl
 |v::l,e=>by rw[sumL,sumL,e v List.mem_cons_self,sumL_congr fun u hu=>e u (List.mem_cons_of_mem _ hu)]
theorem foldl_pos (S:List Nat) (f:Nat→Nat):∀(vs:List Nat) (k:Nat),vs.foldl (fun k v=>k*sz S v+f v) k=k*cnt S vs+pos S f vs
 |[],k=>by simp[pos,cnt]
 |v::vs,k=>by
  have e:pos S f (v::vs)=f v*cnt S vs+pos S f vs:=by
   show vs.foldl (fun k v=>k*sz S v+f v) (0*sz S v+f v)=_
   rw[foldl_pos S f vs,Nat.zero_mul,Nat.zero_add]
  rw[List.foldl_cons,foldl_pos S f vs,e,cnt,Nat.add_mul,Nat.mul_assoc]
  omega
theorem pos_sum (S:List Nat) (f:Nat→Nat):∀ {vs:List Nat},vs.Nodup→pos S f vs=sumL (fun v=>f v*stp S vs v) vs
 |[],_=>rfl
 |u::vs,h=>by
  rw[List.nodup_cons] at h
  rw[pos,List.foldl_cons,foldl_pos,sumL,pos_sum S f h.2,Nat.zero_mul,Nat.zero_add]
  congr 1
  ·rw[stp,if_pos rfl]
  ·exact sumL_congr fun v hv=>by rw[stp,if_neg (fun e=>h.1 (by rw[←e];exact hv))]
theorem sumL_all (g:Nat→Nat) (n:Nat):∀ {vs:List Nat},vs.Nodup→(∀v∈vs,v<n)→(∀v,¬v∈vs→g v=0)→sumL g vs=sumL g (List.range n):=by
 intro vs hn hlt h0
 have key:∀ {vs:List Nat},vs.Nodup→(∀v∈vs,v<n)→sumL g vs=sumL (fun v=>if v∈vs then g v else 0) (List.range n):=by
  intro vs
  induction vs with
  |nil=>
   intro _ _
   have:∀l:List Nat,sumL (fun v=>if v∈([]:List Nat) then g v else 0) l=0:=by
    intro l
    induction l with
    |nil=>rfl
    |cons x l ih=>rw[sumL,ih];simp
   rw[this];rfl
  |cons u vs ih=>
   intro hn hlt
   rw[List.nodup_cons] at hn
   rw[sumL,ih hn.2 fun v hv=>hlt v (List.mem_cons_of_mem _ hv)]
   have hu:=hlt u List.mem_cons_self
   have one:∀m,u<m→sumL (fun v=>if v∈u::vs then g v else 0) (List.range m)=g u+sumL (fun v=>if v∈vs then g v else 0) (List.range m):=by
    intro m
    induction m with
    |zero=>intro h;omega
    |succ m ihm=>
     intro h
     rw[List.range_succ,sumL_append,sumL_append]
     by_cases e:u=m
     ·subst e
      have:sumL (fun v=>if v∈u::vs then g v else 0) (List.range u)=sumL (fun v=>if v∈vs then g v else 0) (List.range u):=sumL_congr fun v hv=>by
       have:¬v=u:=by have:=List.mem_range.1 hv;omega
       simp[this]
      rw[this]
      simp[sumL,hn.1]
      omega
     ·rw[ihm (by omega)]
      have:¬m=u:=fun h=>e h.symm
      simp[sumL,this]
      omega
   rw[one n hu]
 rw[key hn hlt]
 exact sumL_congr fun v _=>by
  by_cases h:v∈vs
  ·rw[if_pos h]
  ·rw[if_neg h,h0 v h]
theorem stand {S vs other:List Nat} (n k:Nat) (hv:vs.Nodup) (ho:other.Nodup) (hvl:∀v∈vs,v<n) (hol:∀v∈other,v<n):sumL (fun v=>asg S vs k v*stp S other v) vs=pos S (asg S vs k) other:=by
 rw[pos_sum S _ ho,sumL_all _ n hv hvl,sumL_all _ n ho hol]
 ·intro v h;rw[stp_out h,Nat.mul_zero]
 ·intro v h;rw[asg_out h,Nat.zero_mul]
end Go.Proofs.YtmbjmiioggfneaaGreatDoor

/- Sizes and variables that may be, as natural numbers; the document's answer: how many assignments there are. -/
namespace Go.Proofs.YtmbjmiioggfneaaGreatDoor
open Go.RowKit
def toN (l:List Int):List Nat:=l.map Int.toNat
structure Up (l:List Int) (n:Nat):Prop where
 each:∀i (h:i<l.length),0≤l[i]∧l[i]<n
 lt:∀i j (hj:j<l.length) (hi:i<j),l[i]<l[j]
theorem ris_up {l:List Int} {n:Nat} (h:risB l n=true):Up l n:=by
 have hok:∀i (hi:i<l.length),0≤l[i]∧l[i]<(n:Int)∧(0<i→l.getD (i - 1) 0<l[i]):=fun i hi=>by
  have:=List.all_eq_true.1 h i (List.mem_range.2 hi)
  rw[okAt,decide_eq_true_iff,getD_eq hi] at this
  exact this
 refine⟨fun i hi=>⟨(hok i hi).1,(hok i hi).2.1⟩,?_⟩
 intro i j
 induction j with
 |zero=>intro _ h;omega
 |succ j ih=>
  intro hj hi
  have h1:=(hok (j+1) hj).2.2 (by omega)
  rw[Nat.add_sub_cancel,getD_eq (by omega)] at h1
  rcases Nat.lt_or_ge i j with h2 |h2
  ·have:=ih (by omega) h2
   omega
  ·obtain rfl:i=j:=by omega
   exact h1
end Go.Proofs.YtmbjmiioggfneaaGreatDoor

/- Package table: how many assignments there are, and the place of one. -/
namespace Go.Proofs.YtmbjmiioggfneaaGreatDoor
open Go.RowKit
def least (l:List Int) (i:Nat):Int:=if i=0 then 0 else l.getD (i - 1) 0+1
end Go.Proofs.YtmbjmiioggfneaaGreatDoor

/- The document's answer: the assignment of a place. -/
namespace Go.Proofs.YtmbjmiioggfneaaGreatDoor
open Go.RowKit
def iL (l:List Nat):List Int:=l.map fun x:Nat=>(x:Int)
theorem iL_length (l:List Nat):(iL l).length=l.length:=by simp[iL]
theorem toN_iL (l:List Nat):toN (iL l)=l:=by simp[toN,iL,Function.comp_def]
end Go.Proofs.YtmbjmiioggfneaaGreatDoor

/- Package table: join. -/
namespace Go.Proofs.YtmbjmiioggfneaaGreatDoor
open Go.RowKit Go.Shelf
abbrev frV (f:Fr):Value:=.agg #[.bool f.1,.string f.2.1,.string f.2.2]
end Go.Proofs.YtmbjmiioggfneaaGreatDoor

/- Package table: the ways of joining. -/
namespace Go.Proofs.YtmbjmiioggfneaaGreatDoor
open Go.RowKit Go.Shelf
abbrev frQ (f:Fr):Rat:=val f.1 f.2.1 f.2.2
def great (f g:Fr):Fr:=if cmpQ (frQ f) (frQ g)<0 then g else f
end Go.Proofs.YtmbjmiioggfneaaGreatDoor

/- Package graph: lists of lists, and their sets. -/
namespace Go.Proofs.YtmbjmiioggfneaaGreatDoor
open Go.RowKit
def LsS (w:World) (a:Option Addr) (L:List (List Int)):Prop:=∀k (h:k<L.length),∃g o b c,a=some ⟨g,o,none⟩∧g<w.heap.size∧w.cell? ⟨g,o+k,none⟩=some (.slice b L[k].length c)∧IntS w b L[k]
theorem LsS.below {w w':World} {a:Option Addr} {L:List (List Int)} (h:LsS w a L) (hb:Below w.heap.size w w'):LsS w' a L:=fun k hk=>by
 obtain⟨g,o,b,c,h1,h2,h3,h4⟩:=h k hk
 exact⟨g,o,b,c,h1,Nat.lt_of_lt_of_le h2 hb.size,(hb.cell (p:=⟨g,o+k,none⟩) h2).trans h3,h4.below hb⟩
def LsN (w:World) (a:Option Addr) (L:List (List Int)):Prop:=∀k,k<L.length→∀g o b n c,a=some ⟨g,o,none⟩→w.cell? ⟨g,o+k,none⟩=some (.slice b n c)→b=none→c=0
def allRis (L:List (List Int)) (n:Nat):Bool:=L.all fun l=>risB l n
end Go.Proofs.YtmbjmiioggfneaaGreatDoor

/- Package graph: readOthers. -/
namespace Go.Proofs.YtmbjmiioggfneaaGreatDoor
open Go.RowKit
def noSelf (L:List (List Int)):Bool:=(List.range L.length).all fun v=>!decide (v∈toN (L.getD v []))
def gB (L:List (List Int)):Bool:=decide (1≤L.length∧L.length≤8)&&allRis L L.length&&noSelf L
end Go.Proofs.YtmbjmiioggfneaaGreatDoor

/- Plain: the order of nodes, each behind its parents, the least first. -/
namespace Go.Proofs.YtmbjmiioggfneaaGreatDoor
theorem iL_append (a b:List Nat):iL (a++b)=iL a++iL b:=by simp[iL]
end Go.Proofs.YtmbjmiioggfneaaGreatDoor

/- Lists of names: checkNames of package net, namesOK of the document's answer. -/
namespace Go.Proofs.YtmbjmiioggfneaaGreatDoor
open Go.RowKit
theorem bytes_eq {a b:ByteArray}:(a.toList==b.toList)=decide (a=b):=by
 rw[Bool.eq_iff_iff,beq_iff_eq,decide_eq_true_iff]
 constructor
 ·intro h
  rw[toList_data,toList_data] at h
  obtain⟨⟨x⟩⟩:=a
  obtain⟨⟨y⟩⟩:=b
  simp only at h
  rw[h]
 ·intro h;rw[h]
end Go.Proofs.YtmbjmiioggfneaaGreatDoor

/- Rows of chances: isRow of package net. -/
namespace Go.Proofs.YtmbjmiioggfneaaGreatDoor
open Go.RowKit Go.Shelf
def rowB (l:List Fr):Bool:=(l.all fun f=>decide (¬frQ f<0))&&decide (fsum l=1)
theorem cmp_below {p:Rat}:cmpQ p 0<0↔p<0:=by
 rw[cmpQ]
 by_cases h:p<0
 ·rw[if_pos h];exact⟨fun _=>h,fun _=>by decide⟩
 ·rw[if_neg h]
  by_cases e:p=0
  ·rw[if_pos e];exact⟨fun h=>absurd h (by decide),fun h'=>absurd h' h⟩
  ·rw[if_neg e];exact⟨fun h=>absurd h (by decide),fun h'=>absurd h' h⟩
theorem cmp_same {p:Rat}:(cmpQ p 1==0)=decide (p=1):=by
 rw[Bool.eq_iff_iff,beq_iff_eq,decide_eq_true_iff,cmpQ]
 by_cases h:p<1
 ·rw[if_pos h];exact⟨fun h=>absurd h (by decide),fun e=>by rw[e] at h;exact absurd h (by decide)⟩
 ·rw[if_neg h]
  by_cases e:p=1
  ·rw[if_pos e];exact⟨fun _=>e,fun _=>rfl⟩
  ·rw[if_neg e];exact⟨fun h=>absurd h (by decide),fun h'=>absurd h' e⟩
theorem rowB_neg {l:List Fr} {i:Nat} (h:i<l.length) (e:frQ l[i]<0):rowB l=false:=by
 have:(l.all fun f=>decide (¬frQ f<0))=false:=by
  rw[List.all_eq_false];exact⟨l[i],List.getElem_mem h,by simpa using e⟩
 rw[rowB,this];rfl
theorem rowB_all {l:List Fr} (h:∀i (hi:i<l.length),¬frQ l[i]<0):rowB l=decide (fsum l=1):=by
 have:(l.all fun f=>decide (¬frQ f<0))=true:=by
  rw[List.all_eq_true]
  intro f hf
  obtain⟨i,hi,rfl⟩:=List.getElem_of_mem hf
  exact decide_eq_true (h i hi)
 rw[rowB,this,Bool.true_and]
theorem qw_one2:qw 1≤2:=by
 show (B 1).size+(B 1).size≤2
 have:=B_one_size
 omega
theorem fw_each {l:List Fr} {i:Nat} (h:i<l.length) (hw:fw l≤10000):l[i].2.1.size+l[i].2.2.size≤10000:=by have:=fw_mem (List.getElem_mem h);omega
end Go.Proofs.YtmbjmiioggfneaaGreatDoor

/- slices.IndexFunc and slices.ContainsFunc of fractions, whatever is asked; the first number of which something holds. -/
namespace Go.Proofs.YtmbjmiioggfneaaGreatDoor
open Go.RowKit Go.Shelf
set_option maxRecDepth 100000 in
set_option maxHeartbeats 400000 in
theorem idxFr_any (a:Option Addr) (ca f:Nat) (lb:Array Value) (F:List Fr) (p:Fr→Bool) (w:World) (h:FrS w a F) (hn:F.length≤10000) (eF:∀args w,(callFunc f args).run Tryz.prog w=.ok (.enter f args) w)
  (hp:∀q∈F,∀U:World,Below w.heap.size w U→Calls Tryz.prog f (#[.agg #[.bool q.1,.string q.2.1,.string q.2.2]]++lb) U fun e w'=>e=.returned (.bool (p q))∧Below U.heap.size U w'):
  Calls Tryz.prog 95 #[.slice a F.length ca,.func (.func f) #[] lb] w fun e w'=>∃j:Int,e=.returned (.int .i64 j)∧decide (0≤j)=F.any p∧Below w.heap.size w w':=by
 have HF:=hid h
 have HP:=hid hp
 have HNO:Hid ((∀i (hi:i<F.length),p F[i]=false)→F.any p=false):=fun hh=>List.any_eq_false.2 fun q hq=>by
  obtain⟨i,hi,rfl⟩:=List.getElem_of_mem hq
  rw[hh i hi];decide
 have HYE:Hid (∀i (hi:i<F.length),p F[i]=true→F.any p=true):=fun i hi hh=>List.any_eq_true.2 ⟨_,List.getElem_mem hi,hh⟩
 clear h hp
 generalize F.any p=R at *
 go_enter Tryz.func95,Tryz.ntmps95
 go_wp2_with fail
 go_loopw [8] (fun iv wr=>∃i:Nat,i≤F.length∧iv=.int .i64 i∧Hid (∀j (hj:j<F.length),j<i→p F[j]=false)∧Hid (Below w.heap.size w wr)) (fun iv _=>F.length - (intOf iv).toNat)
 case atStart=>exact⟨0,Nat.zero_le _,rfl,(fun j _ hj=>absurd hj (by omega)),Below.refl _ _⟩
 case round=>
  obtain⟨i,hi,rfl,HN,HB⟩:=hrel
  by_cases hlt:i<F.length
  ·obtain⟨g,o,rfl,hg,h0,h1,h2⟩:=HF.out i hlt
   have k0:=(HB.out.cell (p:=⟨g,_,none⟩) hg).trans h0
   have k1:=(HB.out.cell (p:=⟨g,_,none⟩) hg).trans h1
   have k2:=(HB.out.cell (p:=⟨g,_,none⟩) hg).trans h2
   have HC:=hid (HP.out F[i] (List.getElem_mem hlt) wr HB.out)
   have HYi:=hid (HYE.out i hlt)
   have HNX:Hid (p F[i]=false→∀j (hj:j<F.length),j<i+1→p F[j]=false):=fun e j hj hlt'=>by
    rcases Nat.lt_or_ge j i with h2 |h2
    ·exact HN.out j hj h2
    ·obtain rfl:j=i:=by omega
     exact e
   clear h0 h1 h2
   generalize p F[i]=q at *
   generalize F[i].1=f1 at *
   generalize F[i].2.1=f2 at *
   generalize F[i].2.2=f3 at *
   go_wp2_with fail
   refine HC.out.mono ?_
   rintro e w2 ⟨rfl,hb2⟩
   have HB2:=hid (HB.out.trans (hb2.mono HB.out.size))
   clear hb2 HC
   cases q with
   |true=>
    have HE:=hid (HYi.out rfl)
    go_wp2
    go_ret
    exact⟨(i:Nat),rfl,by rw[HE.out];simp,HB2.out⟩
   |false=>
    have HE:=hid (HNX.out rfl)
    go_wp2
    go_roundw
    case rel=>exact⟨i+1,by omega,by go_num,HE,HB2⟩
    case measure=>simp[intOf];omega
  ·obtain rfl:i=F.length:=by omega
   have HE:=hid (HNO.out fun j hj=>HN.out j hj hj)
   go_wp2
   go_ret
   exact⟨-1,rfl,by rw[HE.out];rfl,HB.out⟩
set_option maxRecDepth 100000 in
set_option maxHeartbeats 400000 in
theorem conFr_any (a:Option Addr) (ca f:Nat) (lb:Array Value) (F:List Fr) (p:Fr→Bool) (w:World) (h:FrS w a F) (hn:F.length≤10000) (eF:∀args w,(callFunc f args).run Tryz.prog w=.ok (.enter f args) w)
  (hp:∀q∈F,∀U:World,Below w.heap.size w U→Calls Tryz.prog f (#[.agg #[.bool q.1,.string q.2.1,.string q.2.2]]++lb) U fun e w'=>e=.returned (.bool (p q))∧Below U.heap.size U w'):
  Calls Tryz.prog 66 #[.slice a F.length ca,.func (.func f) #[] lb] w fun e w'=>e=.returned (.bool (F.any p))∧Below w.heap.size w w':=by
 have HI:=hid (idxFr_any a ca f lb F p w h hn eF hp)
 clear h hp
 generalize F.any p=R at *
 go_enter Tryz.func66,Tryz.ntmps66
 go_wp2_with fail
 refine HI.out.mono ?_
 rintro e w2 ⟨j,rfl,hj,hb2⟩
 have HB:=hid hb2
 have HJ:=hid hj
 clear hb2 hj
 go_wp2
 go_ret
 exact⟨by rw[←HJ.out];rfl,HB.out⟩
end Go.Proofs.YtmbjmiioggfneaaGreatDoor

/- Rows of chances: Chances of the document's answer. -/
namespace Go.Proofs.YtmbjmiioggfneaaGreatDoor
open Go.RowKit Go.Shelf
theorem one_eq {α:Type} {s:Rat} {T F:α}:(if sgn s=sgn 1 then if (nu s).toList=(nu 1).toList then if (de s).toList=(de 1).toList then T else F else F else F)=if s=1 then T else F:=by
 by_cases h:s=1
 ·subst h;simp
 ·rw[if_neg h]
  by_cases h1:sgn s=sgn 1
  ·by_cases h2:(nu s).toList=(nu 1).toList
   ·by_cases h3:(de s).toList=(de 1).toList
    ·exfalso
     apply h
     have e2:nu s=nu 1:=of_decide_eq_true (bytes_eq.symm.trans (beq_iff_eq.2 h2))
     have e3:de s=de 1:=of_decide_eq_true (bytes_eq.symm.trans (beq_iff_eq.2 h3))
     rw[←val_own s,h1,e2,e3,val_own]
    ·rw[if_pos h1,if_pos h2,if_neg h3]
   ·rw[if_pos h1,if_neg h2]
  ·rw[if_neg h1]
theorem rOf_zero (w:World):Calls Tryz.prog 35 #[.int .i64 0] w fun e w'=>e=.returned (.agg #[.bool (sgn 0),.string (nu 0),.string (de 0)])∧Below w.heap.size w w':=by
 have:=rOfF_any 0 w (by omega) (by omega)
 exact this
theorem rOf_one (w:World):Calls Tryz.prog 35 #[.int .i64 1] w fun e w'=>e=.returned (.agg #[.bool (sgn 1),.string (nu 1),.string (de 1)])∧Below w.heap.size w w':=by
 have:=rOfF_any 1 w (by omega) (by omega)
 exact this
set_option maxRecDepth 100000 in
set_option maxHeartbeats 1000000 in
theorem chances_any (a:Option Addr) (ca:Nat) (l:List Fr) (w:World) (h:FrS w a l) (hw:fw l≤10000) (hn:l.length≤10000):
  Calls Tryz.prog 67 #[.slice a l.length ca] w fun e w'=>e=.returned (.bool (rowB l))∧Below w.heap.size w w':=by
 have HF:=hid h
 have HW:=hid hw
 have HO:=hid rOf_zero
 have HO1:=hid rOf_one
 have HS:Hid (∀V:World,FrS V a l→Calls Tryz.prog 81 #[.slice a l.length ca] V fun e w'=>e=.returned (.agg #[.bool (sgn (fsum l)),.string (nu (fsum l)),.string (de (fsum l))])∧Below V.heap.size V w'):=fun V hV=>rSum_any a ca l V hV hw hn
 have HN:=hid (fun i h e=>rowB_neg (l:=l) (i:=i) h e)
 have HA:=hid (fun h=>rowB_all (l:=l) h)
 have HZ:Hid (val (sgn 0) (nu 0) (de 0)=0∧(nu 0).size+(de 0).size≤50000):=⟨val_own _,by have:=qw_zero;rw[own_size];omega⟩
 generalize rowB l=rb at *
 clear h hw
 go_enter Tryz.func67,Tryz.ntmps67
 go_wp2_with fail
 go_loopw [3] (fun iv wr=>∃i:Nat,i≤l.length∧iv=.int .i64 i∧Hid (∀j (hj:j<l.length),j<i→¬frQ l[j]<0)∧Hid (Below w.heap.size w wr)) (fun iv _=>l.length - (intOf iv).toNat)
 case atStart=>exact⟨0,Nat.zero_le _,rfl,fun j _ h=>absurd h (by omega),Below.refl _ _⟩
 case round=>
  obtain⟨i,hi,rfl,HP,HB⟩:=hrel
  by_cases hlt:i<l.length
  ·obtain⟨g,o,rfl,hg,c0,c1,c2⟩:=(HF.out.below HB.out) i hlt
   have hfe:=fw_each hlt HW.out
   have HNi:=hid (HN.out i hlt)
   have HPi:Hid (¬frQ l[i]<0→∀j (hj:j<l.length),j<i+1→¬frQ l[j]<0):=fun h j hj hji=>by
    rcases Nat.lt_or_ge j i with h2 |h2
    ·exact HP.out j hj h2
    ·obtain rfl:j=i:=by omega
     exact h
   generalize l[i]=f at *
   obtain⟨fn,fx,fy⟩:=f
   simp only at c0 c1 c2 hfe
   go_upto_region 4 with fail
   refine wp_region_held_drew (S:=fun u=>u.cell? ⟨g,o+i*3,none⟩=some (.bool fn)∧u.cell? ⟨g,o+i*3+1,none⟩=some (.string fx)∧u.cell? ⟨g,o+i*3+2,none⟩=some (.string fy)) (by kernel_rfl) ⟨c0,c1,c2⟩ (fun hSd=>?_)
   have hSg:g<wr.drew.heap.size:=hg
   have HBd:=hid HB.out.drew
   clear c0 c1 c2
   generalize wr.drew=u0 at *
   (try simp only[List.getElem_toArray,List.getElem_cons_zero,List.getElem_cons_succ])
   (try simp only[Act.put,List.setIfInBounds_toArray,List.set_cons_zero,List.set_cons_succ])
   refine wpAnyH_take (i:=0) (oi:=_) (v:=.slice (some ⟨g,o,none⟩) l.length ca) rfl (by kernel_rfl) (by kernel_rfl) (by kernel_rfl) (fun _ _ _ h=>h) (Or.inl ⟨by rfl,?_⟩) (by assumption) ?_
   ·intro u' hSu
    (try simp only[List.getElem_toArray,List.getElem_cons_zero])
    go_simp
   (try simp only[List.getElem_toArray,List.getElem_cons_zero])
   (try simp only[Act.put,List.setIfInBounds_toArray,List.set_cons_zero,List.set_cons_succ])
   refine wpAnyH_take (i:=1) (oi:=_) (v:=.int .i64 (i:Nat)) rfl (by kernel_rfl) (by kernel_rfl) (by kernel_rfl) (fun _ _ _ h=>h) (Or.inl ⟨by rfl,?_⟩) (by assumption) ?_
   ·intro u' hSu
    (try simp only[List.getElem_toArray,List.getElem_cons_zero,List.getElem_cons_succ])
    go_simp
   (try simp only[List.getElem_toArray,List.getElem_cons_zero,List.getElem_cons_succ])
   (try simp only[Act.put,List.setIfInBounds_toArray,List.set_cons_zero,List.set_cons_succ])
   refine wpAnyH_take (i:=2) (oi:=_) (v:=.pointer (some ⟨g,o+i*3,none⟩)) rfl (by kernel_rfl) (by kernel_rfl) (by kernel_rfl) (fun _ _ _ h=>h) (Or.inl ⟨by rfl,?_⟩) (by assumption) ?_
   ·intro u' hSu
    (try simp only[List.getElem_toArray,List.getElem_cons_zero,List.getElem_cons_succ])
    go_simp
   (try simp only[List.getElem_toArray,List.getElem_cons_zero,List.getElem_cons_succ])
   (try simp only[Act.put,List.setIfInBounds_toArray,List.set_cons_zero,List.set_cons_succ])
   refine wpAnyH_take (i:=3) (oi:=_) (v:=.agg #[.bool fn,.string fx,.string fy]) rfl (by kernel_rfl) (by kernel_rfl) (by kernel_rfl) (fun _ _ _ h=>h) (Or.inl ⟨by rfl,?_⟩) (by assumption) ?_
   ·intro u' hSu
    (try simp only[List.getElem_toArray,List.getElem_cons_zero,List.getElem_cons_succ])
    obtain⟨s0,s1,s2⟩:=hSu
    go_simp
   (try simp only[List.getElem_toArray,List.getElem_cons_zero,List.getElem_cons_succ])
   (try simp only[Act.put,List.setIfInBounds_toArray,List.set_cons_zero,List.set_cons_succ])
   refine wpAnyH_ready (rs:=[4]) (by kernel_rfl) (by simp) (AllReadyH.cons rfl ?_ (AllReadyH.nil))
   ·intro K' hK'
    (try simp only[List.getElem_toArray,List.getElem_cons_zero,List.getElem_cons_succ])
    go_simp
    refine(HO.out _).mono ?_
    rintro e u1 ⟨rfl,hb⟩
    refine hK'.out _ _ ⟨(hb.cell (p:=⟨g,o+i*3,none⟩) hSg).trans hSd.1,(hb.cell (p:=⟨g,o+i*3+1,none⟩) hSg).trans hSd.2.1,(hb.cell (p:=⟨g,o+i*3+2,none⟩) hSg).trans hSd.2.2⟩ (fun hSe=>?_)
    clear hK' K' hSd
    have hSd:=hSe
    clear hSe
    have hSg:=Nat.lt_of_lt_of_le hSg hb.size
    replace HBd:=hid (HBd.out.trans (hb.mono HBd.out.size))
    clear hb
    (try simp only[List.getElem_toArray,List.getElem_cons_zero,List.getElem_cons_succ])
    (try simp only[Act.put,List.setIfInBounds_toArray,List.set_cons_zero,List.set_cons_succ])
    refine wpAnyH_ready (rs:=[5]) (by kernel_rfl) (by simp) (AllReadyH.cons rfl ?_ (AllReadyH.nil))
    ·intro K' hK'
     (try simp only[List.getElem_toArray,List.getElem_cons_zero,List.getElem_cons_succ])
     go_simp
     refine(rCmpF_any fn (sgn 0) fx fy (nu 0) (de 0) _ (by omega) HZ.out.2).mono ?_
     rintro e u2 ⟨rfl,hb⟩
     rw[HZ.out.1]
     refine hK'.out _ _ ⟨(hb.cell (p:=⟨g,o+i*3,none⟩) hSg).trans hSd.1,(hb.cell (p:=⟨g,o+i*3+1,none⟩) hSg).trans hSd.2.1,(hb.cell (p:=⟨g,o+i*3+2,none⟩) hSg).trans hSd.2.2⟩ (fun hSe=>?_)
     clear hK' K' hSd
     have hSd:=hSe
     clear hSe
     have hSg:=Nat.lt_of_lt_of_le hSg hb.size
     replace HBd:=hid (HBd.out.trans (hb.mono HBd.out.size))
     clear hb
     (try simp only[List.getElem_toArray,List.getElem_cons_zero,List.getElem_cons_succ])
     (try simp only[Act.put,List.setIfInBounds_toArray,List.set_cons_zero,List.set_cons_succ])
     refine wpAnyH_take (i:=6) (oi:=_) (v:=.int .i64 (cmpQ (val fn fx fy) 0)) rfl (by kernel_rfl) (by kernel_rfl) (by kernel_rfl) (fun _ _ _ h=>h) (Or.inl ⟨by rfl,?_⟩) (by assumption) ?_
     ·intro u' hSu
      (try simp only[List.getElem_toArray,List.getElem_cons_zero,List.getElem_cons_succ])
      go_simp
     (try simp only[List.getElem_toArray,List.getElem_cons_zero,List.getElem_cons_succ])
     (try simp only[Act.put,List.setIfInBounds_toArray,List.set_cons_zero,List.set_cons_succ])
     refine wpAnyH_done (by kernel_rfl) ?_ _
     clear hSd hSg
     by_cases hneg:val fn fx fy<0
     ·have HE:=hid (HNi.out hneg)
      have hc:cmpQ (val fn fx fy) 0<0:=cmp_below.2 hneg
      clear hneg
      generalize cmpQ (val fn fx fy) 0=q at *
      go_wp2
      go_ret
      exact⟨by rw[HE.out];rfl,HBd.out⟩
     ·have HE:=hid (HPi.out hneg)
      have hc:0≤cmpQ (val fn fx fy) 0:=by
       have:¬cmpQ (val fn fx fy) 0<0:=fun h=>hneg (cmp_below.1 h)
       omega
      clear hneg
      generalize cmpQ (val fn fx fy) 0=q at *
      go_wp2
      go_roundw
      case rel=>exact⟨i+1,by omega,by go_num,HE,HBd⟩
      case measure=>simp[intOf];omega
  ·obtain rfl:i=l.length:=by omega
   have HE:=hid (HA.out fun j hj=>HP.out j hj hj)
   generalize fsum l=s at *
   go_wp2_with fail
   refine(HS.out _ (HF.out.below HB.out)).mono ?_
   rintro e w5 ⟨rfl,hb5⟩
   have HB5:=hid (HB.out.trans (hb5.mono HB.out.size))
   have HBX:=hid (Box.new w5 (sgn s) (nu s) (de s))
   have HBA:=hid (HB5.out.alloc HB5.out.size (FC (sgn s) (nu s) (de s)))
   clear hb5
   go_upto_region 8 with fail
   have hBd:Box (w5.alloc (FC (sgn s) (nu s) (de s))).drew w5.heap.size (sgn s) (nu s) (de s):=HBX.out
   have HBd:=hid HBA.out.drew
   generalize w5.heap.size=B5 at *
   refine wp_region_held_drew (S:=fun u=>u.cell? ⟨B5,0,none⟩=some (.bool (sgn s))∧u.cell? ⟨B5,1,none⟩=some (.string (nu s))∧u.cell? ⟨B5,2,none⟩=some (.string (de s))) (by kernel_rfl) ⟨hBd.c0,hBd.c1,hBd.c2⟩ (fun hSd=>?_)
   generalize (w5.alloc (FC (sgn s) (nu s) (de s))).drew=u0 at *
   (try simp only[List.getElem_toArray,List.getElem_cons_zero,List.getElem_cons_succ])
   (try simp only[Act.put,List.setIfInBounds_toArray,List.set_cons_zero,List.set_cons_succ])
   refine wpAnyH_take (i:=0) (oi:=_) (v:=.agg #[.bool (sgn s),.string (nu s),.string (de s)]) rfl (by kernel_rfl) (by kernel_rfl) (by kernel_rfl) (fun _ _ _ h=>h) (Or.inl ⟨by rfl,?_⟩) (by assumption) ?_
   ·intro u' hSu
    (try simp only[List.getElem_toArray,List.getElem_cons_zero])
    obtain⟨s0,s1,s2⟩:=hSu
    go_simp
   (try simp only[List.getElem_toArray,List.getElem_cons_zero])
   (try simp only[Act.put,List.setIfInBounds_toArray,List.set_cons_zero,List.set_cons_succ])
   refine wpAnyH_ready (rs:=[1]) (by kernel_rfl) (by simp) (AllReadyH.cons rfl ?_ (AllReadyH.nil))
   ·intro K' hK'
    (try simp only[List.getElem_toArray,List.getElem_cons_zero,List.getElem_cons_succ])
    go_simp
    refine(HO1.out _).mono ?_
    rintro e u1 ⟨rfl,hb⟩
    replace hBd:=hBd.below hb hBd.lt
    refine hK'.out _ _ ⟨hBd.c0,hBd.c1,hBd.c2⟩ (fun hSe=>?_)
    clear hK' K' hSd
    have hSd:=hSe
    clear hSe
    replace HBd:=hid (HBd.out.trans (hb.mono HBd.out.size))
    clear hb
    (try simp only[List.getElem_toArray,List.getElem_cons_zero,List.getElem_cons_succ])
    (try simp only[Act.put,List.setIfInBounds_toArray,List.set_cons_zero,List.set_cons_succ])
    refine wpAnyH_ready (rs:=[2]) (by kernel_rfl) (by simp) (AllReadyH.cons rfl ?_ (AllReadyH.nil))
    ·intro K' hK'
     (try simp only[List.getElem_toArray,List.getElem_cons_zero,List.getElem_cons_succ])
     go_simp
     rw[one_eq]
     by_cases h1:s=1
     ·rw[if_pos h1]
      go_simp
      refine hK'.out _ _ ⟨hBd.c0,hBd.c1,hBd.c2⟩ (fun hSe=>?_)
      clear hK' K' hSe
      have HT:Hid (decide (s=1)=true):=decide_eq_true h1
      clear h1
      (try simp only[List.getElem_toArray,List.getElem_cons_zero,List.getElem_cons_succ])
      (try simp only[Act.put,List.setIfInBounds_toArray,List.set_cons_zero,List.set_cons_succ])
      refine wpAnyH_take (i:=3) (oi:=_) (v:=.bool true) rfl (by kernel_rfl) (by kernel_rfl) (by kernel_rfl) (fun _ _ _ h=>h) (Or.inl ⟨by rfl,?_⟩) (by assumption) ?_
      ·intro u' hSu
       (try simp only[List.getElem_toArray,List.getElem_cons_zero,List.getElem_cons_succ])
       go_simp
      (try simp only[List.getElem_toArray,List.getElem_cons_zero,List.getElem_cons_succ])
      (try simp only[Act.put,List.setIfInBounds_toArray,List.set_cons_zero,List.set_cons_succ])
      refine wpAnyH_done (by kernel_rfl) ?_ _
      go_wp2
      go_ret
      exact⟨by rw[HE.out,HT.out];rfl,HBd.out⟩
     ·rw[if_neg h1]
      go_simp
      refine hK'.out _ _ ⟨hBd.c0,hBd.c1,hBd.c2⟩ (fun hSe=>?_)
      clear hK' K' hSe
      have HT:Hid (decide (s=1)=false):=decide_eq_false h1
      clear h1
      (try simp only[List.getElem_toArray,List.getElem_cons_zero,List.getElem_cons_succ])
      (try simp only[Act.put,List.setIfInBounds_toArray,List.set_cons_zero,List.set_cons_succ])
      refine wpAnyH_take (i:=3) (oi:=_) (v:=.bool false) rfl (by kernel_rfl) (by kernel_rfl) (by kernel_rfl) (fun _ _ _ h=>h) (Or.inl ⟨by rfl,?_⟩) (by assumption) ?_
      ·intro u' hSu
       (try simp only[List.getElem_toArray,List.getElem_cons_zero,List.getElem_cons_succ])
       go_simp
      (try simp only[List.getElem_toArray,List.getElem_cons_zero,List.getElem_cons_succ])
      (try simp only[Act.put,List.setIfInBounds_toArray,List.set_cons_zero,List.set_cons_succ])
      refine wpAnyH_done (by kernel_rfl) ?_ _
      go_wp2
      go_ret
      exact⟨by rw[HE.out,HT.out];rfl,HBd.out⟩
end Go.Proofs.YtmbjmiioggfneaaGreatDoor

/- Rows of fractions. -/
namespace Go.Proofs.YtmbjmiioggfneaaGreatDoor
open Go.RowKit Go.Shelf
def frC:List Fr→List Value
 |[]=>[]
 |f::l=>.bool f.1::.string f.2.1::.string f.2.2::frC l
theorem frC_length:∀l:List Fr,(frC l).length=3*l.length
 |[]=>rfl
 |f::l=>by simp only[frC,List.length_cons,frC_length l];omega
theorem frC_get:∀(l:List Fr) (k:Nat) (h:k<l.length),(frC l)[k*3]? =some (.bool l[k].1)∧(frC l)[k*3+1]? =some (.string l[k].2.1)∧(frC l)[k*3+2]? =some (.string l[k].2.2)
 |[],_,h=>absurd h (by simp)
 |f::l,0,_=>⟨rfl,rfl,rfl⟩
 |f::l,k+1,h=>by
  have h':k<l.length:=by simpa using h
  obtain⟨h1,h2,h3⟩:=frC_get l k h'
  have e:(k+1)*3=k*3+1+1+1:=by omega
  refine⟨?_,?_,?_⟩
  ·rw[e];exact h1
  ·rw[show (k+1)*3+1=(k*3+1)+1+1+1 by omega];exact h2
  ·rw[show (k+1)*3+2=(k*3+2)+1+1+1 by omega];exact h3
theorem frC_set:∀(l:List Fr) (k:Nat) (f:Fr),(((frC l).set (k*3) (.bool f.1)).set (k*3+1) (.string f.2.1)).set (k*3+2) (.string f.2.2)=frC (l.set k f)
 |[],k,f=>by simp[frC]
 |x::l,0,f=>by simp[frC]
 |x::l,k+1,f=>by
  rw[show (k+1)*3=k*3+1+1+1 by omega,show k*3+1+1+1+1=(k*3+1)+1+1+1 by omega,show k*3+1+1+1+2=(k*3+2)+1+1+1 by omega]
  simp only[frC,List.set_cons_succ,frC_set l k f]
def RowF (w:World) (g:Nat) (l:List Fr):Prop:=w.heap[g]? =some (.cells (frC l).toArray 44 (0,0))
theorem RowF.lt {w:World} {g:Nat} {l:List Fr} (h:RowF w g l):g<w.heap.size:=(Array.getElem?_eq_some_iff.1 h).1
theorem RowF.fz {w:World} {g:Nat} {l:List Fr} (h:RowF w g l) (j:Nat):w.frozen? ⟨g,j,none⟩=false:=frozen_of_row w g j _ _ h
theorem RowF.below {w w':World} {g b:Nat} {l:List Fr} (h:RowF w g l) (hb:Below b w w') (hg:g<b):RowF w' g l:=(hb.block g hg).trans h
theorem RowF.cells {w:World} {g:Nat} {l:List Fr} (h:RowF w g l) (k:Nat) (hk:k<l.length):w.cell? ⟨g,k*3,none⟩=some (.bool l[k].1)∧w.cell? ⟨g,k*3+1,none⟩=some (.string l[k].2.1)∧w.cell? ⟨g,k*3+2,none⟩=some (.string l[k].2.2):=by
 obtain⟨h1,h2,h3⟩:=frC_get l k hk
 refine⟨?_,?_,?_⟩<;>rw[cell_of_row w g _ _ _ (0,0) h]<;>simpa using (by assumption)
theorem RowF.fr {w:World} {g:Nat} {l:List Fr} (h:RowF w g l):FrS w (some ⟨g,0,none⟩) l:=fun k hk=>by
 obtain⟨h1,h2,h3⟩:=h.cells k hk
 refine⟨g,0,rfl,h.lt,?_,?_,?_⟩
 ·rw[Nat.zero_add];exact h1
 ·rw[Nat.zero_add];exact h2
 ·rw[Nat.zero_add];exact h3
theorem RowF.put {w:World} {g:Nat} {l:List Fr} (h:RowF w g l) (k:Nat) (f:Fr):RowF (((w.setCell ⟨g,k*3,none⟩ (.bool f.1)).setCell ⟨g,k*3+1,none⟩ (.string f.2.1)).setCell ⟨g,k*3+2,none⟩ (.string f.2.2)) g (l.set k f):=by
 have h1:=heap_setCell_same w g (k*3) _ _ (.bool f.1) h
 have h2:=heap_setCell_same _ g (k*3+1) _ _ (.string f.2.1) h1
 have h3:=heap_setCell_same _ g (k*3+2) _ _ (.string f.2.2) h2
 rw[RowF,h3,←frC_set]
 simp
end Go.Proofs.YtmbjmiioggfneaaGreatDoor

/- Package table: fill. -/
namespace Go.Proofs.YtmbjmiioggfneaaGreatDoor
open Go.RowKit Go.Shelf
def frZ:Fr:=(false,⟨#[]⟩,⟨#[]⟩)
def partF (l:List Fr) (i:Nat):List Fr:=l.take i++List.replicate (l.length - i) frZ
theorem partF_zero (l:List Fr):partF l 0=List.replicate l.length frZ:=by simp[partF]
theorem partF_length (l:List Fr) {i:Nat} (h:i≤l.length):(partF l i).length=l.length:=by simp[partF];omega
theorem partF_all (l:List Fr):partF l l.length=l:=by simp[partF]
theorem partF_set (l:List Fr) {i:Nat} (h:i<l.length):(partF l i).set i l[i]=partF l (i+1):=by
 rw[partF,partF,List.set_append_right _ _ (by simp;omega),List.take_succ_eq_append_getElem h]
 have e:l.length - i=(l.length - (i+1))+1:=by omega
 rw[e,List.replicate_succ,List.length_take,Nat.min_eq_left (by omega),Nat.sub_self,List.set_cons_zero,List.append_assoc]
 rfl
theorem Tryz.infoFrac:(Tryz.prog.info? 44).map (fun i=>(i.zero,i.size,i.bytes))=some (some (.agg #[.bool false,.string ⟨#[]⟩,.string ⟨#[]⟩]),3,40):=by kernel_rfl
theorem block_of_own3 {w:World} {base g n:Nat} {t:TypeId} {xs:List Value} (h:w.ownsRow base t 3 (.slice (some ⟨g,0,none⟩) n n) n xs):w.heap[g]? =some (.cells xs.toArray t (0,0)):=by
 rcases h.2 with ⟨h',_⟩ |⟨g',cap',cur,h',_,hg,hnc,_,hsz,htk⟩
 ·cases h'
 ·cases h'
  rw[hg,←htk,List.take_of_length_le (by simp;omega)]
theorem frC_zero_at:∀(n j:Nat),j<3*n→(frC (List.replicate n frZ))[j]? =some (#[Value.bool false,Value.string ⟨#[]⟩,Value.string ⟨#[]⟩][j % 3]!)
 |0,j,h=>by omega
 |n+1,0,_=>rfl
 |n+1,1,_=>rfl
 |n+1,2,_=>rfl
 |n+1,j+3,h=>by
  rw[show (j+3) % 3=j % 3 by omega,List.replicate_succ]
  exact frC_zero_at n j (by omega)
theorem made_frs (n:Nat):(madeCells (Value.agg #[Value.bool false,Value.string ⟨#[]⟩,Value.string ⟨#[]⟩]).cells (n*3)).toList=frC (List.replicate n frZ):=by
 apply List.ext_getElem?
 intro j
 by_cases h:j<3*n
 ·rw[frC_zero_at n j h,madeCells]
  have h':j<n*3:=by omega
  simp[h',Value.cells]
 ·rw[List.getElem?_eq_none (by rw[Array.length_toList,size_madeCells];omega),List.getElem?_eq_none (by rw[frC_length,List.length_replicate];omega)]
end Go.Proofs.YtmbjmiioggfneaaGreatDoor

/- What the calls on tables answer, as plain functions of lists. -/
namespace Go.Proofs.YtmbjmiioggfneaaGreatDoor
open Go.RowKit Go.Shelf
def qF (q:Rat):Fr:=(sgn q,nu q,de q)
theorem frQ_qF (q:Rat):frQ (qF q)=q:=val_own q
def celF (l:List Fr) (k:Nat):Fr:=l[k]?.getD frZ
theorem celF_eq {l:List Fr} {k:Nat} (h:k<l.length):celF l k=l[k]:=by rw[celF,List.getElem?_eq_getElem h];rfl
def normL (l:List Fr):List Fr:=l.map fun f=>qF (frQ f*(1/fsum l))
end Go.Proofs.YtmbjmiioggfneaaGreatDoor

/- How many bytes a list of fractions has; one fraction held against another beside errors. -/
namespace Go.Proofs.YtmbjmiioggfneaaGreatDoor
open Go.RowKit
def sw:List Fr→Nat
 |[]=>0
 |f::l=>f.2.1.size+f.2.2.size+sw l
theorem sw_snoc (l:List Fr) (f:Fr):sw (l++[f])=sw l+(f.2.1.size+f.2.2.size):=by
 induction l with
 |nil=>simp[sw]
 |cons g l ih=>simp only[List.cons_append,sw,ih];omega
theorem sw_take {l:List Fr} {k:Nat} (h:k<l.length):sw (l.take (k+1))=sw (l.take k)+(l[k].2.1.size+l[k].2.2.size):=by
 rw[List.take_succ_eq_append_getElem h,sw_snoc]
theorem fw_sw (l:List Fr):fw l=sw l+2*l.length:=by
 induction l with
 |nil=>rfl
 |cons f l ih=>simp only[fw,sw,List.length_cons,ih];omega
set_option maxRecDepth 100000 in
set_option maxHeartbeats 2000000 in
theorem fracBytes_any (a:Option Addr) (cap:Nat) (l:List Fr) (w:World) (h:FrS w a l) (hn:l.length≤140737488355328) (hs:∀f∈l,f.2.1.size≤140737488355328∧f.2.2.size≤140737488355328):
  Calls Tryz.prog 6 #[.slice a l.length cap] w fun e w'=>(∃r:Nat,e=.returned (.int .i64 r)∧r≤1000000000000000∧(r≤4096→r=l.length+sw l))∧Below w.heap.size w w':=by
 have HF:=hide h
 have HS:=hide hs
 clear h hs
 have HFIN:Hid (sw (l.take l.length)=sw l):=by show _=_;rw[List.take_length]
 go_enter Tryz.func6,Tryz.ntmps6
 go_wp2_with fail
 go_loopw [3,4] (fun nv iv wr=>∃(k n:Nat),k≤l.length∧iv=.int .i64 k∧nv=.int .i64 n∧n≤1000000000000000∧Hid (n=l.length+sw (l.take k))∧Below w.heap.size w wr) (fun _ iv _=>l.length - (intOf iv).toNat)
 case atStart=>exact⟨0,l.length,Nat.zero_le _,rfl,rfl,by omega,(show _=_ by simp[sw]),Below.refl _ _⟩
 case round=>
  obtain⟨k,n,hk,rfl,rfl,hn1,HN,hBr⟩:=hrel
  by_cases hlt:k<l.length
  ·by_cases hsm:n≤4096
   ·obtain⟨g,o,rfl,hg,c0,c1,c2⟩:=(HF.out.below hBr) k hlt
    obtain⟨s1,s2⟩:=HS.out l[k] (List.getElem_mem hlt)
    have HN2:Hid (n+l[k].2.1.size+l[k].2.2.size=l.length+sw (l.take (k+1))):=by show _=_;rw[HN.out,sw_take hlt];omega
    clear HN
    generalize l[k].1=fn at *
    generalize l[k].2.1=fx at *
    generalize l[k].2.2=fy at *
    go_wp2_with fail
    go_quiet (fail)
    go_wp2
    go_roundw
    case rel=>exact⟨k+1,n+fx.size+fy.size,by omega,by go_num,by go_num,by omega,HN2.out,below_drewN hBr _⟩
    case measure=>simp[intOf];omega
   ·go_wp2
    go_ret
    exact⟨⟨n,rfl,hn1,fun h=>absurd h hsm⟩,hBr⟩
  ·obtain rfl:k=l.length:=by omega
   go_wp2
   all_goals
    go_ret
    exact⟨⟨n,rfl,hn1,fun _=>by rw[HN.out,HFIN.out]⟩,hBr⟩
end Go.Proofs.YtmbjmiioggfneaaGreatDoor

/- Lists of ints: clones, what is in them, lists without one. -/
namespace Go.Proofs.YtmbjmiioggfneaaGreatDoor
open Go.RowKit Go.Shelf Go.Sort Go.Lib
def RwI (w:World) (B:Nat) (v:Value) (l:List Int):Prop:=w.ownsRow B 3 1 v l.length (l.map (Value.int .i64))
theorem RwI.cases {w:World} {B:Nat} {v:Value} {l:List Int} (h:RwI w B v l):(v=.slice none 0 0∧l=[])∨∃g cap,v=.slice (some ⟨g,0,none⟩) l.length cap∧B≤g∧g<w.heap.size∧l.length≤cap∧cap≤maxLen∧Holds (Value.int .i64) w g 0 l.toArray:=by
 rcases h.2 with ⟨h1,h2⟩ |⟨g,cap,cur,h1,h2,h3,h4,h5,h6,h7⟩
 ·exact .inl ⟨h1,List.length_eq_zero_iff.1 h2⟩
 ·refine .inr ⟨g,cap,h1,h2,(Array.getElem?_eq_some_iff.1 h3).1,h4,h5,fun j hj=>?_⟩
  have hj':j<l.length:=by simpa using hj
  refine⟨?_,frozen_of_row w g _ _ _ h3⟩
  rw[Nat.zero_add,cell_of_row w g j _ _ (0,0) h3]
  have e:cur[j]? =(cur.toList.take (l.length*1))[j]?:=by
   rw[List.getElem?_take,if_pos (by omega),Array.getElem?_toList]
  rw[e,h7,List.getElem?_map,List.getElem?_eq_getElem hj']
  simp[hj']
theorem holds_ints {w:World} {g:Nat} {d:Array Int} {l:List Int} (h:Holds (Value.int .i64) w g 0 d) (hg:g<w.heap.size) (hl:∀j (hj:j<l.length),∃hd:j<d.size,d[j]=l[j]):IntS w (some ⟨g,0,none⟩) l:=fun k hk=>by
 obtain⟨hd,e⟩:=hl k hk
 refine⟨g,0,rfl,hg,?_⟩
 have:=(h k hd).1
 rw[getElem!_pos d k hd,e] at this
 exact this
theorem RwI.ints {w:World} {B:Nat} {v:Value} {l:List Int} (h:RwI w B v l):∃d cd,v=.slice d l.length cd∧IntS w d l:=by
 rcases h.cases with ⟨rfl,rfl⟩ |⟨g,cap,rfl,_,hg,_,_,hh⟩
 ·exact⟨none,0,rfl,fun k hk=>absurd hk (by simp)⟩
 ·exact⟨_,_,rfl,holds_ints hh hg fun j hj=>⟨by simpa using hj,by simp⟩⟩
end Go.Proofs.YtmbjmiioggfneaaGreatDoor

/- Tables as answers. -/
namespace Go.Proofs.YtmbjmiioggfneaaGreatDoor
open Go.RowKit Go.Shelf
def SlV (v:Value):Prop:=∃a n c,v=Value.slice a n c
end Go.Proofs.YtmbjmiioggfneaaGreatDoor

/- Lists of ints: slices.Grow of nothing, slices.Concat of two. -/
namespace Go.Proofs.YtmbjmiioggfneaaGreatDoor
open Go.RowKit Go.Shelf
theorem wpList_append_ints {w:World} {ops:Array Oper} {rest:List Oper} {o:Oper} {a:Act} {Q:Exit→Act→World→Prop} (hgd:o.guard=none) (s x:Operand)
  (ho:o.op=.call {callee:=.builtin .append,args:= #[s,x],argTypes:= #[24,24]}) (base:Nat) (v:Value) (xs la:List Int) (hs:a.eval s=v) (hown:RwI w base v xs) (p:Option Addr) (ca:Nat) (hx:a.eval x=.slice p la.length ca) (hi:IntS w p la) (hp:p=none→ca=0) (hlen:xs.length+la.length≤100000) (hbase:base≤w.heap.size)
  (h:∀v' w',RwI w' base v' (xs++la)→w.grownBy w' v.ownBlock→wpList Tryz.prog ops Q rest (a.put o.dst v') w'):wpList Tryz.prog ops Q (o::rest) a w:=by
 obtain⟨i0,hi0,hz0,hz1,hz2⟩:=info_parts Tryz.infoInt
 cases p with
 |none=>
  have hl:la=[]:=by
   cases la with
   |nil=>rfl
   |cons x l=>obtain⟨g,o,e,_⟩:=hi 0 (by simp);cases e
  subst hl
  have h0:=hp rfl
  subst h0
  have h1:=h v w (by rw[List.append_nil];exact hown) ⟨rfl,rfl,rfl,Nat.le_refl _,fun _ _ _=>rfl⟩
  exact wpList_append_own_none hgd s x 24 ho base 3 i0 1 Tryz.underlying24 hi0 v xs.length _ hs hown hx h1
 |some ad=>
  refine wpList_append_own _ hgd s x 24 ho base 3 i0 (.int .i64 0) 1 8 Tryz.underlying24 hi0 hz0 hz1 hz2 rfl (by decide) v xs.length _ hs hown ad la.length ca (la.map (Value.int .i64)) hx (by simp) ?_ ?_ (by unfold maxLen;omega) (by omega) hbase ?_
  ·intro j u hj
   rw[List.getElem?_map] at hj
   cases hq:la[j]? with
   |none=>rw[hq] at hj;cases hj
   |some z=>
    rw[hq] at hj
    cases hj
    obtain⟨hj1,hj2⟩:=List.getElem?_eq_some_iff.1 hq
    obtain⟨g,o',e,_,hc⟩:=hi j hj1
    cases e
    rw[←hj2]
    rw[Addr.add]
    by_cases h0:j=0
    ·subst h0;simpa using hc
    ·simpa [h0] using hc
  ·intro u hu
   obtain⟨z,_,rfl⟩:=List.mem_map.1 hu
   rfl
  ·intro v' w' h1 h2 _
   refine h v' w' ?_ h2
   rw[RwI,List.length_append,List.map_append]
   exact h1
theorem RwI.own {w:World} {B:Nat} {v:Value} {l:List Int} (h:RwI w B v l):∀k,v.ownBlock=some k→B≤k:=by
 intro k hk
 rcases h.2 with ⟨rfl,_⟩ |⟨g,cap,cur,rfl,h2,_⟩
 ·cases hk
 ·cases hk
  exact h2
end Go.Proofs.YtmbjmiioggfneaaGreatDoor

/- The document's answer: listsOK, Order, GraphCheck. -/
namespace Go.Proofs.YtmbjmiioggfneaaGreatDoor
open Go.RowKit Go.Shelf
theorem inB_mem {k:Int} {l:List Int}:inB k l=true↔k∈l:=by simp[inB]
theorem inB_nat {l:List Int} {x:Int} (hx:0≤x) (hl:∀y∈l,0≤y):inB x l=decide (x.toNat∈toN l):=by
 rw[Bool.eq_iff_iff,decide_eq_true_iff,inB_mem]
 constructor
 ·intro h;exact List.mem_map.2 ⟨x,h,rfl⟩
 ·intro h
  obtain⟨y,hy,e⟩:=List.mem_map.1 h
  have:=hl y hy
  obtain rfl:y=x:=by omega
  exact hy
theorem inB_iL (l:List Nat) {x:Int} (hx:0≤x):inB x (iL l)=decide (x.toNat∈l):=by
 rw[inB_nat hx fun y hy=>by obtain⟨z,_,rfl⟩:=List.mem_map.1 hy;omega,toN_iL]
end Go.Proofs.YtmbjmiioggfneaaGreatDoor

/- The document's answer: tables that grow cell by cell. -/
namespace Go.Proofs.YtmbjmiioggfneaaGreatDoor
open Go.RowKit Go.Shelf
def RwF (w:World) (B:Nat) (v:Value) (l:List Fr):Prop:=w.ownsRow B 44 3 v l.length (frC l)
theorem RwF.empty (w:World) (B:Nat):RwF w B (.slice none 0 0) []:=⟨rfl,.inl ⟨rfl,rfl⟩⟩
theorem RwF.below {w w':World} {B:Nat} {v:Value} {l:List Fr} (h:RwF w B v l) (hb:Below w.heap.size w w'):RwF w' B v l:=by
 refine⟨h.1,h.2.imp id ?_⟩
 rintro⟨g,cap,cur,h1,h2,h3,h4⟩
 exact⟨g,cap,cur,h1,h2,(hb.block g (Array.getElem?_eq_some_iff.1 h3).1).trans h3,h4⟩
theorem RwF.off {w:World} {B:Nat} {v:Value} {l:List Fr} (h:RwF w B v l) (b j:Nat) (y:Value) (hb:b<B):RwF (w.setCell ⟨b,j,none⟩ y) B v l:=by
 refine⟨h.1,h.2.imp id ?_⟩
 rintro⟨g,cap,cur,h1,h2,h3,h4⟩
 exact⟨g,cap,cur,h1,h2,(Below.heap_setCell w ⟨b,j,none⟩ y g (by show g≠b;omega)).trans h3,h4⟩
theorem RwF.own {w:World} {B:Nat} {v:Value} {l:List Fr} (h:RwF w B v l):∀k,v.ownBlock=some k→B≤k:=by
 intro k hk
 rcases h.2 with ⟨rfl,_⟩ |⟨g,cap,cur,rfl,h2,_⟩
 ·cases hk
 ·cases hk
  exact h2
theorem RwF.fr {w:World} {B:Nat} {v:Value} {l:List Fr} (h:RwF w B v l):∃d cd,v=.slice d l.length cd∧FrS w d l:=by
 rcases h.2 with ⟨h1,h2⟩ |⟨g,cap,cur,h1,h2,h3,h4,h5,h6,h7⟩
 ·have:l=[]:=List.length_eq_zero_iff.1 h2
  subst this
  exact⟨none,0,h1,fun k hk=>absurd hk (by simp)⟩
 ·refine⟨_,_,h1,fun k hk=>?_⟩
  obtain⟨e1,e2,e3⟩:=frC_get l k hk
  have at_:∀j,j<l.length*3→cur[j]? =(frC l)[j]?:=fun j hj=>by
   rw[←h7,List.getElem?_take,if_pos hj,Array.getElem?_toList]
  refine⟨g,0,rfl,(Array.getElem?_eq_some_iff.1 h3).1,?_,?_,?_⟩
  ·rw[cell_of_row w g _ _ _ (0,0) h3,Nat.zero_add,at_ _ (by omega)];exact e1
  ·rw[cell_of_row w g _ _ _ (0,0) h3,Nat.zero_add,at_ _ (by omega)];exact e2
  ·rw[cell_of_row w g _ _ _ (0,0) h3,Nat.zero_add,at_ _ (by omega)];exact e3
theorem RwF.slv {w:World} {B:Nat} {v:Value} {l:List Fr} (h:RwF w B v l):SlV v:=by
 obtain⟨d,cd,e,_⟩:=h.fr
 exact⟨d,_,cd,e⟩
theorem frC_snoc (l:List Fr) (f:Fr):frC (l++[f])=frC l++[.bool f.1,.string f.2.1,.string f.2.2]:=by
 induction l with
 |nil=>rfl
 |cons x l ih=>simp only[List.cons_append,frC,ih]
theorem wpList_append_fr {w:World} {ops:Array Oper} {rest:List Oper} {o:Oper} {a:Act} {Q:Exit→Act→World→Prop} (hgd:o.guard=none) (s x:Operand)
  (ho:o.op=.call {callee:=.builtin .append,args:= #[s,x],argTypes:= #[23,23]}) (base:Nat) (v:Value) (l:List Fr) (f:Fr) (hs:a.eval s=v) (hown:RwF w base v l) (g:Nat) (hx:a.eval x=.slice (some ⟨g,0,none⟩) 1 1) (hg:Box w g f.1 f.2.1 f.2.2) (hlen:l.length+1≤100000) (hbase:base≤w.heap.size)
  (h:∀v' w',RwF w' base v' (l++[f])→w.grownBy w' v.ownBlock→wpList Tryz.prog ops Q rest (a.put o.dst v') w'):wpList Tryz.prog ops Q (o::rest) a w:=by
 obtain⟨i0,hi0,hz0,hz1,hz2⟩:=info_parts Tryz.infoFrac
 refine wpList_append_own _ hgd s x 23 ho base 44 i0 (.agg #[.bool false,.string ⟨#[]⟩,.string ⟨#[]⟩]) 3 40 Tryz.underlying23 hi0 hz0 hz1 hz2 rfl (by decide) v l.length _ hs hown ⟨g,0,none⟩ 1 1 [.bool f.1,.string f.2.1,.string f.2.2] hx rfl ?_ ?_ (by unfold maxLen;omega) (by omega) hbase ?_
 ·intro j u hj
  match j,hj with
  |0,hj=>cases hj;exact hg.c0
  |1,hj=>cases hj;exact hg.c1
  |2,hj=>cases hj;exact hg.c2
  |j+3,hj=>simp at hj
 ·intro u hu
  simp only[List.mem_cons,List.not_mem_nil,or_false] at hu
  rcases hu with rfl |rfl |rfl<;>rfl
 ·intro v' w' h1 h2 _
  refine h v' w' ?_ h2
  rw[RwF,List.length_append,frC_snoc]
  exact h1
end Go.Proofs.YtmbjmiioggfneaaGreatDoor

/- Nets: what is wrong with rows; the document's answer: NetCheck, as far as the names. -/
namespace Go.Proofs.YtmbjmiioggfneaaGreatDoor
open Go.RowKit Go.Shelf
def FsS (w:World) (a:Option Addr) (R:List (List Fr)):Prop:=∀k (h:k<R.length),∃g o b c,a=some ⟨g,o,none⟩∧g<w.heap.size∧w.cell? ⟨g,o+k,none⟩=some (.slice b R[k].length c)∧FrS w b R[k]∧R[k].length≤c
theorem FsS.below {w w':World} {a:Option Addr} {R:List (List Fr)} (h:FsS w a R) (hb:Below w.heap.size w w'):FsS w' a R:=fun k hk=>by
 obtain⟨g,o,b,c,h1,h2,h3,h4,h5⟩:=h k hk
 exact⟨g,o,b,c,h1,Nat.lt_of_lt_of_le h2 hb.size,(hb.cell (p:=⟨g,o+k,none⟩) h2).trans h3,h4.below hb,h5⟩
end Go.Proofs.YtmbjmiioggfneaaGreatDoor
