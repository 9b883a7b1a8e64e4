/- plus of package nat, and nat.Add. -/
import Derived.Test.YtmbjmiioggfneaaGreatDoorCore1CxCore2b
import Derived.Lib.ItoaMem
import Derived.Deep.QuietTactic
import Derived.BigQuiet
namespace Go.Proofs.YtmbjmiioggfneaaGreatDoor
open Go.RowKit
theorem made_u32 (n:Nat):(madeCells (Value.int .u32 0).cells (n*1)).toList=(List.replicate n 0).map u32:=by
 rw[show (Value.int .u32 0).cells= #[Value.int .u32 0] from rfl,toList_madeCells_one,Nat.mul_one,List.map_replicate];rfl
theorem lies_of_block {w:World} {g:Nat} {l:List Nat} (h:w.heap[g]? =some (.cells (l.map u32).toArray 134 (0,0))):Lies w g 0 l:=
 ⟨_,h,by simp,fun j hj=>by simp[List.getElem?_eq_getElem hj]⟩
theorem splice_front (l:List Nat):splice ((List.replicate (l.length+1) 0).map u32) 0 (l.map u32)=(l++[0]).map u32:=by
 rw[splice_map,splice,List.take_zero,List.nil_append,Nat.zero_add,List.drop_replicate];simp
theorem cells_of_lies {w:World} {g:Nat} {l:List Nat} (h:Lies w g 0 l):∀j v,(l.map u32)[j]? =some v→w.cell? ((⟨g,0,none⟩:Addr).add j)=some v:=by
 intro j v hj
 have hjl:j<l.length:=by
  rcases Nat.lt_or_ge j l.length with h |h
  ·exact h
  ·rw[List.getElem?_eq_none (by simpa using h)] at hj;cases hj
 rw[Lib.add_plain,h.cell j hjl]
 rw[List.getElem?_map,List.getElem?_eq_getElem hjl] at hj
 rw[List.getElem?_eq_getElem hjl]
 exact hj
theorem ones_u32 (l:List Nat):∀v∈l.map u32,v.oneCell'=true:=by
 intro v hv
 obtain⟨x,_,rfl⟩:=List.mem_map.1 hv
 rfl
theorem sum_fits {xs ys:List Nat} (hx:Small xs) (hy:Small ys) (h:ys.length≤xs.length):nw xs+nw ys<W^(xs.length+1):=by
 have h1:=nw_lt xs hx
 have h2:=nw_lt ys hy
 have h3:W^ys.length≤W^xs.length:=Nat.pow_le_pow_right W_pos h
 have h4:W^(xs.length+1)=W^xs.length*W:=Nat.pow_succ ..
 have h5:W^xs.length*2≤W^xs.length*W:=Nat.mul_le_mul_left _ (by decide)
 omega
set_option maxRecDepth 100000 in
set_option maxHeartbeats 2000000 in
theorem plus_ge (gx capx gy capy:Nat) (xs ys:List Nat) (w:World) (hsx:Small xs) (hsy:Small ys) (hlen:xs.length≤17592186044416) (hyx:ys.length≤xs.length) (hx:Lies w gx 0 xs) (hy:Lies w gy 0 ys):
  Calls Tryz.prog 108 #[.slice (some ⟨gx,0,none⟩) xs.length capx,.slice (some ⟨gy,0,none⟩) ys.length capy] w fun e w'=>∃v l,e=.returned v∧Has w' w.heap.size v l∧Small l∧l.length=xs.length+1∧nw l=nw xs+nw ys∧Below w.heap.size w w':=by
 obtain⟨i0,hi,hz0,hz1,hz2⟩:=info_parts Tryz.infoU32
 have hnl:¬xs.length<ys.length:=by omega
 have hgx:=hx.lt
 have hgy:=hy.lt
 go_enter Tryz.func108,Tryz.ntmps108
 go_wp2_with (first
  |(at_make;refine wpList_make_full _ rfl _ _ 112 rfl w.heap.size 134 i0 (.int .u32 0) 1 Tryz.underlying112 hi hz0 hz1 .i64 .i64 _ _ (xs.length+1) rfl rfl (by omega) (by omega) (by rw[hz2];omega) (by unfold maxLen;omega) (Nat.le_refl _) ?_;intro w2 hown2 hgrow2;have hb2:=block_of_own hown2;rw[made_u32] at hb2;have HB2:=hide hb2;have hB2:Below w.heap.size w w2:=(Below.refl _ w).grown hgrow2 (Nat.le_refl _) (fun k e=>by cases e);have hx2:=hx.below hB2 hgx;clear hown2 hgrow2 hb2)
  |(refine wpList_copy_splice rfl (.tmp 17) (.tmp 18) 112 112 rfl 134 Tryz.underlying112 (by kernel_rfl) _ _ _ _ _ _ rfl rfl w.heap.size 0 ((List.replicate (xs.length+1) 0).map u32) 134 (by exact HB2.out) (xs.map u32) (by rw[List.length_map];exact(Nat.min_eq_left (Nat.le_succ _)).symm) (fun _=>⟨rfl,_,rfl,cells_of_lies hx2⟩) (by simp) (ones_u32 xs) w.heap.size w hB2 (Nat.le_refl _) ?_;intro w3 hg3 hB3))
 rw[splice_front] at hg3
 have hl3:=lies_of_block hg3.out
 have hy3:=hy.below hB3 hgy
 have e1:(xs++[0]).length=xs.length+1:=by simp
 have hs1:Small (xs++[0]):=small_append hsx (fun x hx=>by simp at hx;subst hx;exact W_pos)
 have hpb:=putBack_any w.heap.size 0 (xs.length+1) gy 0 capy (xs++[0]) ys w3 hs1 hsy (by omega) (by omega) hl3 hy3 (by omega)
 rw[e1,nw_snoc,Nat.mul_zero,Nat.add_zero] at hpb
 refine hpb.mono ?_
 rintro e w4 ⟨c,l4,rfl,hl4,hs4,hn4,hlies4,hu4⟩
 have hB4:Below w.heap.size w w4:=Upd.below hB3 hu4 (Nat.le_refl _) hB3.size
 obtain⟨cur,hc4,hcs,_⟩:=hu4.inside _ hg3.out
 have hown4:=own_of_lies (base:=w.heap.size) (cap:=xs.length+1) cur hc4 (by rw[hcs];simp) (Nat.le_refl _) (by unfold maxLen;omega) (by omega) hlies4
 have HN:Hid (nw l4=nw xs+nw ys):=by
  show _=_
  cases c with
  |false=>simpa using hn4
  |true=>
   have hf:=sum_fits hsx hsy hyx
   simp only[if_true] at hn4
   omega
 have HL:=hide hl4
 rw[hl4] at hown4
 clear hn4 hl4 hc4 hcs hpb hg3 hlies4 hu4
 go_wp2
 go_ret
 exact⟨_,l4,rfl,by rw[Has,HL.out];exact hown4,hs4,HL.out,HN.out,hB4⟩
set_option maxRecDepth 100000 in
set_option maxHeartbeats 2000000 in
theorem plus_lt (gx capx gy capy:Nat) (xs ys:List Nat) (w:World) (hsx:Small xs) (hsy:Small ys) (hlen:xs.length≤17592186044416) (hlt:ys.length<xs.length) (hx:Lies w gx 0 xs) (hy:Lies w gy 0 ys):
  Calls Tryz.prog 108 #[.slice (some ⟨gy,0,none⟩) ys.length capy,.slice (some ⟨gx,0,none⟩) xs.length capx] w fun e w'=>∃v l,e=.returned v∧Has w' w.heap.size v l∧Small l∧l.length=xs.length+1∧nw l=nw xs+nw ys∧Below w.heap.size w w':=by
 obtain⟨i0,hi,hz0,hz1,hz2⟩:=info_parts Tryz.infoU32
 have hyx:ys.length≤xs.length:=by omega
 have hgx:=hx.lt
 have hgy:=hy.lt
 go_enter Tryz.func108,Tryz.ntmps108
 go_wp2_with (first
  |(at_make;refine wpList_make_full _ rfl _ _ 112 rfl w.heap.size 134 i0 (.int .u32 0) 1 Tryz.underlying112 hi hz0 hz1 .i64 .i64 _ _ (xs.length+1) rfl rfl (by omega) (by omega) (by rw[hz2];omega) (by unfold maxLen;omega) (Nat.le_refl _) ?_;intro w2 hown2 hgrow2;have hb2:=block_of_own hown2;rw[made_u32] at hb2;have HB2:=hide hb2;have hB2:Below w.heap.size w w2:=(Below.refl _ w).grown hgrow2 (Nat.le_refl _) (fun k e=>by cases e);have hx2:=hx.below hB2 hgx;clear hown2 hgrow2 hb2)
  |(refine wpList_copy_splice rfl (.tmp 17) (.tmp 18) 112 112 rfl 134 Tryz.underlying112 (by kernel_rfl) _ _ _ _ _ _ rfl rfl w.heap.size 0 ((List.replicate (xs.length+1) 0).map u32) 134 (by exact HB2.out) (xs.map u32) (by rw[List.length_map];exact(Nat.min_eq_left (Nat.le_succ _)).symm) (fun _=>⟨rfl,_,rfl,cells_of_lies hx2⟩) (by simp) (ones_u32 xs) w.heap.size w hB2 (Nat.le_refl _) ?_;intro w3 hg3 hB3))
 rw[splice_front] at hg3
 have hl3:=lies_of_block hg3.out
 have hy3:=hy.below hB3 hgy
 have e1:(xs++[0]).length=xs.length+1:=by simp
 have hs1:Small (xs++[0]):=small_append hsx (fun x hx=>by simp at hx;subst hx;exact W_pos)
 have hpb:=putBack_any w.heap.size 0 (xs.length+1) gy 0 capy (xs++[0]) ys w3 hs1 hsy (by omega) (by omega) hl3 hy3 (by omega)
 rw[e1,nw_snoc,Nat.mul_zero,Nat.add_zero] at hpb
 refine hpb.mono ?_
 rintro e w4 ⟨c,l4,rfl,hl4,hs4,hn4,hlies4,hu4⟩
 have hB4:Below w.heap.size w w4:=Upd.below hB3 hu4 (Nat.le_refl _) hB3.size
 obtain⟨cur,hc4,hcs,_⟩:=hu4.inside _ hg3.out
 have hown4:=own_of_lies (base:=w.heap.size) (cap:=xs.length+1) cur hc4 (by rw[hcs];simp) (Nat.le_refl _) (by unfold maxLen;omega) (by omega) hlies4
 have HN:Hid (nw l4=nw xs+nw ys):=by
  show _=_
  cases c with
  |false=>simpa using hn4
  |true=>
   have hf:=sum_fits hsx hsy hyx
   simp only[if_true] at hn4
   omega
 have HL:=hide hl4
 rw[hl4] at hown4
 clear hn4 hl4 hc4 hcs hpb hg3 hlies4 hu4
 go_wp2
 go_ret
 exact⟨_,l4,rfl,by rw[Has,HL.out];exact hown4,hs4,HL.out,HN.out,hB4⟩
theorem plus_any (gx capx gy capy:Nat) (xs ys:List Nat) (w:World) (hsx:Small xs) (hsy:Small ys) (hlx:xs.length≤17592186044416) (hly:ys.length≤17592186044416) (hx:Lies w gx 0 xs) (hy:Lies w gy 0 ys):
  Calls Tryz.prog 108 #[.slice (some ⟨gx,0,none⟩) xs.length capx,.slice (some ⟨gy,0,none⟩) ys.length capy] w fun e w'=>∃v l,e=.returned v∧Has w' w.heap.size v l∧Small l∧l.length≤17592186044417∧nw l=nw xs+nw ys∧Below w.heap.size w w':=by
 by_cases h:ys.length≤xs.length
 ·refine(plus_ge gx capx gy capy xs ys w hsx hsy hlx h hx hy).mono ?_
  rintro e w' ⟨v,l,rfl,h1,h2,h3,h4,h5⟩
  exact⟨v,l,rfl,h1,h2,by omega,h4,h5⟩
 ·refine(plus_lt gy capy gx capx ys xs w hsy hsx hly (by omega) hy hx).mono ?_
  rintro e w' ⟨v,l,rfl,h1,h2,h3,h4,h5⟩
  exact⟨v,l,rfl,h1,h2,by omega,by omega,h5⟩
theorem has_lies {w w':World} {base g cap n:Nat} {l:List Nat} (h:Has w base (.slice (some ⟨g,0,none⟩) n cap) l) (hb:Below w.heap.size w w'):Lies w' g 0 l:=by
 rcases h.cases with ⟨e,_⟩ |⟨g',cap',e,_,_,hl⟩
 ·cases e
 ·cases e;exact hl.below hb hl.lt
theorem words_len_le (s:ByteArray) (k:Nat) (h:s.size≤4*k):(words (N s)).length≤k:=by
 rw[words_length,←B_size]
 have:=B_size_le s
 omega
set_option maxRecDepth 100000 in
set_option maxHeartbeats 1000000 in
theorem Add_any (a b:ByteArray) (w:World) (ha:a.size≤1099511627776) (hb:b.size≤1099511627776):
  Calls Tryz.prog 84 #[.string a,.string b] w fun e w'=>e=.returned (.string (B (N a+N b)))∧Below w.heap.size w w':=by
 have hla:=words_len_le a 274877906944 (by omega)
 have hlb:=words_len_le b 274877906944 (by omega)
 go_enter Tryz.func84,Tryz.ntmps84
 go_wp2_with fail
 refine(spread_some a _ (by omega)).mono ?_
 rintro e w1 ⟨g1,c1,rfl,h1,hb1⟩
 go_wp2_with fail
 refine(spread_some b _ (by omega)).mono ?_
 rintro e w2 ⟨g2,c2,rfl,h2,hb2⟩
 have hl1:=has_lies h1 hb2
 have hl2:=has_lies h2 (Below.refl _ _)
 have hB2:Below w.heap.size w w2:=hb1.trans (hb2.mono hb1.size)
 go_wp2_with fail
 refine(plus_any g1 c1 g2 c2 _ _ _ (words_small _) (words_small _) (by omega) (by omega) hl1 hl2).mono ?_
 rintro e w3 ⟨v,l,rfl,h3,hs3,hn3,hv3,hb3⟩
 have hB3:Below w.heap.size w w3:=hB2.trans (hb3.mono hB2.size)
 have HV:=hide hv3
 clear hv3
 go_wp2_with fail
 refine(gather_own _ _ _ _ hs3 (by omega) h3).mono ?_
 rintro e w4 ⟨rfl,hb4⟩
 go_wp2
 go_ret
 exact⟨by rw[HV.out,nw_words,nw_words];rfl,hB3.trans (hb4.mono hB3.size)⟩
end Go.Proofs.YtmbjmiioggfneaaGreatDoor

/- allDigits and appendDigit of package nat. -/
namespace Go.Proofs.YtmbjmiioggfneaaGreatDoor
open Go.RowKit
theorem toList_data (s:ByteArray):s.toList=s.data.toList:=by
 obtain⟨⟨l⟩⟩:=s
 simp
theorem ret_bool {a b:Bool} (h:a=b):Ending.returned (.bool a)=.returned (.bool b):=by rw[h]
end Go.Proofs.YtmbjmiioggfneaaGreatDoor

/- cmp.Compare at api.Nat, and nat.Cmp. -/
namespace Go.Proofs.YtmbjmiioggfneaaGreatDoor
open Go.RowKit
def cmpI (m n:Nat):Int:=if m<n then -1 else if m=n then 0 else 1
theorem less_nb:∀(l m:List UInt8),l.length=m.length→Op.bytesLess l m=decide (nb l<nb m)
 |[],[],_=>rfl
 |x::l,y::m,h=>by
  have hl:l.length=m.length:=by simpa using h
  have ih:=less_nb l m hl
  have h1:=nb_lt l
  have h2:=nb_lt m
  rw[nb_cons,nb_cons,←hl]
  rw[←hl] at h2
  rw[Op.bytesLess]
  rcases Nat.lt_trichotomy x.toNat y.toNat with e |e |e
  ·have hxy:(decide (x<y))=true:=by simpa [UInt8.lt_iff_toNat_lt] using e
   have:(x.toNat+1)*256^l.length≤y.toNat*256^l.length:=Nat.mul_le_mul_right _ e
   rw[Nat.add_mul] at this
   rw[hxy,Bool.true_or]
   symm;rw[decide_eq_true_eq];omega
  ·have hxy:x=y:=UInt8.toNat_inj.1 e
   subst hxy
   have h3:(decide (x<x))=false:=by simp
   rw[h3,Bool.false_or,beq_self_eq_true,Bool.true_and,ih]
   congr 1
   apply propext
   omega
  ·have h3:(decide (x<y))=false:=by simp[UInt8.lt_iff_toNat_lt];omega
   have h4:(x==y)=false:=by rw[beq_eq_false_iff_ne];rintro rfl;omega
   have:(y.toNat+1)*256^l.length≤x.toNat*256^l.length:=Nat.mul_le_mul_right _ e
   rw[Nat.add_mul] at this
   rw[h3,h4,Bool.false_or,Bool.false_and]
   symm;rw[decide_eq_false_iff_not];omega
theorem nb_inj:∀(l m:List UInt8),l.length=m.length→nb l=nb m→l=m
 |[],[],_,_=>rfl
 |x::l,y::m,h,e=>by
  have hl:l.length=m.length:=by simpa using h
  have h1:=nb_lt l
  have h2:=nb_lt m
  rw[nb_cons,nb_cons,←hl] at e
  rw[←hl] at h2
  have hp:0<256^l.length:=Nat.pow_pos (by decide)
  have hx:x.toNat=y.toNat:=by
   rcases Nat.lt_trichotomy x.toNat y.toNat with c |c |c
   ·have:(x.toNat+1)*256^l.length≤y.toNat*256^l.length:=Nat.mul_le_mul_right _ c
    rw[Nat.add_mul] at this
    omega
   ·exact c
   ·have:(y.toNat+1)*256^l.length≤x.toNat*256^l.length:=Nat.mul_le_mul_right _ c
    rw[Nat.add_mul] at this
    omega
  rw[hx] at e
  rw[UInt8.toNat_inj.1 hx,nb_inj l m hl (by omega)]
set_option maxHeartbeats 1000000 in
theorem CompareNat_any (a b:ByteArray) (w:World) (h:a.size=b.size):
  Calls Tryz.prog 129 #[.string a,.string b] w fun e w'=>e=.returned (.int .i64 (cmpI (N a) (N b)))∧w'=w:=by
 have hlt:=less_nb a.data.toList b.data.toList (by rw[Array.length_toList,Array.length_toList];exact h)
 rcases Nat.lt_trichotomy (N a) (N b) with h1 |h1 |h1
 ·have hL:Op.bytesLess a.toList b.toList=true:=by rw[toList_data,toList_data,hlt];simpa [N] using h1
  have HR:Hid (cmpI (N a) (N b)= -1):=by show _=_;rw[cmpI,if_pos h1]
  clear hlt h1
  go_enter Tryz.func129,Tryz.ntmps129
  go_wp2
  go_ret
  exact⟨ret_int HR.out.symm,rfl⟩
 ·have hL:Op.bytesLess a.toList b.toList=false:=by rw[toList_data,toList_data,hlt];simp only[N] at h1;rw[decide_eq_false_iff_not];omega
  have hE:(a.toList==b.toList)=true:=by
   rw[toList_data,toList_data,nb_inj a.data.toList b.data.toList (by rw[Array.length_toList,Array.length_toList];exact h) h1]
   simp
  have HR:Hid (cmpI (N a) (N b)=0):=by show _=_;rw[cmpI,if_neg (by omega),if_pos h1]
  clear hlt h1
  go_enter Tryz.func129,Tryz.ntmps129
  go_wp2
  go_ret
  exact⟨ret_int HR.out.symm,rfl⟩
 ·have hL:Op.bytesLess a.toList b.toList=false:=by rw[toList_data,toList_data,hlt];simp only[N] at h1;rw[decide_eq_false_iff_not];omega
  have hE:(a.toList==b.toList)=false:=by
   rw[toList_data,toList_data,beq_eq_false_iff_ne]
   intro e
   rw[N,N,e] at h1
   omega
  have HR:Hid (cmpI (N a) (N b)=1):=by show _=_;rw[cmpI,if_neg (by omega),if_neg (by omega)]
  clear hlt h1
  go_enter Tryz.func129,Tryz.ntmps129
  go_wp2
  go_ret
  exact⟨ret_int HR.out.symm,rfl⟩
set_option maxHeartbeats 1000000 in
theorem Cmp_any (a b:ByteArray) (w:World):
  Calls Tryz.prog 114 #[.string a,.string b] w fun e w'=>e=.returned (.int .i64 (cmpI (N a) (N b)))∧w'=w:=by
 by_cases h:(B (N a)).size=(B (N b)).size
 ·have hc:=fun V=>CompareNat_any (B (N a)) (B (N b)) V h
  simp only[N_B] at hc
  have HC:=hide hc
  have hne:(((B (N a)).size:Int) !=((B (N b)).size:Int))=false:=by rw[h];simp
  clear hc h
  go_enter Tryz.func114,Tryz.ntmps114
  go_wp2_with fail
  refine(bare_any _ _).mono ?_
  rintro e w1 ⟨rfl,hw⟩
  subst hw
  go_wp2_with fail
  refine(bare_any _ _).mono ?_
  rintro e w2 ⟨rfl,hw⟩
  subst hw
  go_wp2_with fail
  refine(HC.out _).mono ?_
  rintro e w3 ⟨rfl,hw⟩
  subst hw
  go_wp2
  go_ret
  exact⟨rfl,rfl⟩
 ·have hne:(((B (N a)).size:Int) !=((B (N b)).size:Int))=true:=by rw[bne_iff_ne];omega
  have HR:Hid (Lib.compareInt (((B (N a)).size:Nat):Int) (((B (N b)).size:Nat):Int)=cmpI (N a) (N b)):=by
   show _=_
   rw[B_size,B_size] at h⊢
   unfold Lib.compareInt cmpI
   rcases Nat.lt_or_ge (N a) (N b) with c |c
   ·have:=bn_length_mono (Nat.le_of_lt c)
    rw[if_pos (by omega),if_pos c]
   ·have:=bn_length_mono c
    rw[if_neg (by omega),if_pos (by omega),if_neg (by omega),if_neg (by intro e;rw[e] at h;exact h rfl)]
  clear h
  go_enter Tryz.func114,Tryz.ntmps114
  go_wp2_with fail
  refine(bare_any _ _).mono ?_
  rintro e w1 ⟨rfl,hw⟩
  subst hw
  go_wp2_with fail
  refine(bare_any _ _).mono ?_
  rintro e w2 ⟨rfl,hw⟩
  subst hw
  go_wp2_with fail
  refine(Tryz.cmp_Compare_int _ _ _).mono ?_
  rintro e w3 ⟨rfl,hw⟩
  subst hw
  go_wp2
  go_ret
  exact⟨ret_int HR.out,rfl⟩
end Go.Proofs.YtmbjmiioggfneaaGreatDoor

/- Plain facts on taking a multiple away part by part. -/
namespace Go.Proofs.YtmbjmiioggfneaaGreatDoor
def sbm (xs ys:List Nat) (f:Nat):Nat→List Nat×Nat×Nat
 |0=>([],0,0)
 |k+1=>((sbm xs ys f k).1++[(xs[k]?.getD 0+2*W - ((sbm xs ys f k).2.1+ys[k]?.getD 0*f) % W - (sbm xs ys f k).2.2) % W],
   ((sbm xs ys f k).2.1+ys[k]?.getD 0*f)/W,if xs[k]?.getD 0<((sbm xs ys f k).2.1+ys[k]?.getD 0*f) % W+(sbm xs ys f k).2.2 then 1 else 0)
theorem sbm_length (xs ys:List Nat) (f k:Nat):(sbm xs ys f k).1.length=k:=by
 induction k with
 |zero=>rfl
 |succ k ih=>simp[sbm,ih]
theorem sbm_small (xs ys:List Nat) (f k:Nat):Small (sbm xs ys f k).1:=by
 induction k with
 |zero=>intro x hx;simp[sbm] at hx
 |succ k ih=>
  intro x hx
  rw[sbm] at hx
  rcases List.mem_append.1 hx with hx |hx
  ·exact ih x hx
  ·simp only[List.mem_singleton] at hx;subst hx;exact Nat.mod_lt _ W_pos
theorem sbm_borrow (xs ys:List Nat) (f k:Nat):(sbm xs ys f k).2.2≤1:=by
 cases k with
 |zero=>exact Nat.zero_le _
 |succ k=>
  rw[sbm]
  show (if _ then 1 else 0)≤1
  split<;>omega
theorem sbm_carry (xs ys:List Nat) (f:Nat) (hy:Small ys) (hf:f<W) (k:Nat):(sbm xs ys f k).2.1<W:=by
 induction k with
 |zero=>exact W_pos
 |succ k ih=>
  rw[sbm]
  refine Nat.div_lt_of_lt_mul ?_
  have h1:=getD_lt hy k
  have h2:ys[k]?.getD 0*f≤(W - 1)*(W - 1):=Nat.mul_le_mul (by omega) (by omega)
  have h3:(W - 1)*(W - 1)+W≤W*W:=by decide
  omega
theorem sbm_step (x c t b:Nat) (hx:x<W) (hb:b≤1):
  (x+2*W - (c+t) % W - b) % W+t+b+c=x+W*((c+t)/W+if x<(c+t) % W+b then 1 else 0):=by
 have e:=Nat.mod_add_div (c+t) W
 have hlo:=Nat.mod_lt (c+t) W_pos
 generalize (c+t) % W=lo at *
 generalize (c+t)/W=q at *
 rw[Nat.mul_add]
 by_cases h:x<lo+b
 ·rw[if_pos h]
  have:(x+2*W - lo - b) % W=x+W - lo - b:=by
   rw[show x+2*W - lo - b=(x+W - lo - b)+W by omega,Nat.add_mod_right]
   exact Nat.mod_eq_of_lt (by omega)
  omega
 ·rw[if_neg h]
  have:(x+2*W - lo - b) % W=x - lo - b:=by
   rw[show x+2*W - lo - b=(x - lo - b)+W+W by omega,Nat.add_mod_right,Nat.add_mod_right]
   exact Nat.mod_eq_of_lt (by omega)
  omega
theorem sbm_eq (xs ys:List Nat) (f:Nat) (hx:Small xs) (k:Nat):
  nw (sbm xs ys f k).1+f*nw (ys.take k)=nw (xs.take k)+W^k*((sbm xs ys f k).2.1+(sbm xs ys f k).2.2):=by
 rw[←nwF_take xs k,←nwF_take ys k]
 induction k with
 |zero=>simp[sbm,nwF,nw_nil]
 |succ k ih=>
  have hb:=sbm_borrow xs ys f k
  have st:=sbm_step (xs[k]?.getD 0) (sbm xs ys f k).2.1 (ys[k]?.getD 0*f) (sbm xs ys f k).2.2 (getD_lt hx k) hb
  have e3:f*(nwF (fun j=>ys[j]?.getD 0) k+W^k*ys[k]?.getD 0)=f*nwF (fun j=>ys[j]?.getD 0) k+W^k*(ys[k]?.getD 0*f):=by
   rw[Nat.mul_add,Nat.mul_left_comm,Nat.mul_comm f (ys[k]?.getD 0)]
  rw[sbm,nwF,nwF,nw_snoc,sbm_length,e3]
  show _=_+W^(k+1)*(_+if _ then 1 else 0)
  rw[Nat.pow_succ,Nat.mul_assoc]
  generalize (xs[k]?.getD 0+2*W - ((sbm xs ys f k).2.1+ys[k]?.getD 0*f) % W - (sbm xs ys f k).2.2) % W=d at *
  generalize (((sbm xs ys f k).2.1+ys[k]?.getD 0*f)/W+if xs[k]?.getD 0<((sbm xs ys f k).2.1+ys[k]?.getD 0*f) % W+(sbm xs ys f k).2.2 then 1 else 0)=z at *
  generalize (sbm xs ys f k).2.1=c at *
  generalize (sbm xs ys f k).2.2=b at *
  generalize ys[k]?.getD 0*f=t at *
  have:=congrArg (W^k*·) st
  simp only[Nat.mul_add] at this ih⊢
  omega
end Go.Proofs.YtmbjmiioggfneaaGreatDoor

/- takeTimes of package nat: a multiple taken away, in the place of its first argument; does it fall below 0? -/
namespace Go.Proofs.YtmbjmiioggfneaaGreatDoor
open Go.RowKit
theorem and_mask (t:Nat) (ht:t<18446744073709551616):bits .and .u64 (t:Int) 4294967295=((t % 4294967296:Nat):Int):=by
 have e:(4294967295:Int)=((4294967295:Nat):Int):=rfl
 rw[e,u64_and_nat t 4294967295 ht (by omega)]
 congr 1
 exact Nat.and_two_pow_sub_one_eq_mod t 32
theorem sub_word (x lo b:Nat) (hx:x<4294967296) (hlo:lo<4294967296) (hb:b≤1):
  IntKind.u64.wrap (IntKind.u64.wrap ((x:Int) - (lo:Int)) - (b:Int))/9223372036854775808=((if x<lo+b then 1 else 0:Nat):Int)∧
  IntKind.u64.wrap (IntKind.u64.wrap ((x:Int) - (lo:Int)) - (b:Int)) % 4294967296=(((x+2*W - lo - b) % W:Nat):Int):=by
 rw[IntKind.wrap_u64,IntKind.wrap_u64,W_eq]
 by_cases h:x<lo+b
 ·rw[if_pos h]
  have e:(((x:Int) - (lo:Int)) % 18446744073709551616 - (b:Int)) % 18446744073709551616=(x:Int) - (lo:Int) - (b:Int)+18446744073709551616:=by omega
  rw[e]
  omega
 ·rw[if_neg h]
  have e:(((x:Int) - (lo:Int)) % 18446744073709551616 - (b:Int)) % 18446744073709551616=(x:Int) - (lo:Int) - (b:Int):=by omega
  rw[e]
  omega
set_option maxRecDepth 100000 in
set_option maxHeartbeats 4000000 in
theorem takeTimes_any (g off cap b offy capy:Nat) (xs ys:List Nat) (f:Nat) (w:World) (hsx:Small xs) (hsy:Small ys) (hf:f<W) (hlen:xs.length≤35184372088832) (hyx:ys.length≤xs.length) (hx:Lies w g off xs) (hy:Lies w b offy ys) (hgb:b≠g):
  Calls Tryz.prog 130 #[.slice (some ⟨g,off,none⟩) xs.length cap,.slice (some ⟨b,offy,none⟩) ys.length capy,.int .u32 (f:Nat)] w fun e w'=>∃(s:Nat) (l':List Nat),e=.returned (.bool (decide (s≠0)))∧l'.length=xs.length∧Small l'∧nw l'+f*nw ys=nw xs+W^xs.length*s∧Lies w' g off l'∧Upd g off xs.length w w':=by
 have hf2:f<4294967296:=hf
 go_enter Tryz.func130,Tryz.ntmps130
 go_wp2
 go_loopw [7,8,13] (fun c bo i wr=>∃k:Nat,k≤xs.length∧i=.int .i64 k∧c=.int .u64 ((sbm xs ys f k).2.1:Nat)∧bo=.int .u64 ((sbm xs ys f k).2.2:Nat)∧Lies wr g off ((sbm xs ys f k).1++xs.drop k)∧Upd g off xs.length w wr)
  (fun _ _ i _=>xs.length - (intOf i).toNat)
 case atStart=>exact⟨0,Nat.zero_le _,rfl,rfl,rfl,by simpa [sbm] using hx,Upd.refl _ _ _ _⟩
 case round=>
  obtain⟨k,hk,rfl,rfl,rfl,hlr,hur⟩:=hrel
  have hcy:=sbm_carry xs ys f hsy hf k
  have hbo:=sbm_borrow xs ys f k
  have hql:=sbm_length xs ys f k
  have hqs:=sbm_small xs ys f k
  have HQ:=hide (sbm_eq xs ys f hsx k)
  rw[W_eq] at hcy
  by_cases hlt:k<xs.length
  ·have hlen2:k<((sbm xs ys f k).1++xs.drop k).length:=by rw[List.length_append,hql,List.length_drop];omega
   have hcell:=hlr.cell k hlen2
   have hfz:=hlr.frozen (off+k)
   have hset:=fun y=>hlr.set k hlen2 y
   simp only[drop_set_append _ xs k _ hql hlt] at hset
   have hgm:((sbm xs ys f k).1++xs.drop k)[k]?.getD 0=xs[k]?.getD 0:=by
    rw[List.getElem?_append_right (by omega),hql,Nat.sub_self,List.getElem?_drop,Nat.add_zero]
   rw[hgm] at hcell
   have HG:Hid (sbm xs ys f (k+1)=((sbm xs ys f k).1++[(xs[k]?.getD 0+2*W - ((sbm xs ys f k).2.1+ys[k]?.getD 0*f) % W - (sbm xs ys f k).2.2) % W],
    ((sbm xs ys f k).2.1+ys[k]?.getD 0*f)/W,if xs[k]?.getD 0<((sbm xs ys f k).2.1+ys[k]?.getD 0*f) % W+(sbm xs ys f k).2.2 then 1 else 0)):=rfl
   have hxk:=getD_lt hsx k
   have hyk:=getD_lt hsy k
   have hprod:ys[k]?.getD 0*f≤4294967295*4294967295:=Nat.mul_le_mul (by rw[W_eq] at hyk;omega) (by rw[W_eq] at hf;omega)
   rw[W_eq] at hxk hyk
   by_cases hky:k<ys.length
   ·have hcy2:=(hy.apart hur hgb).cell k hky
    generalize (sbm xs ys f k).2.1=c at *
    generalize (sbm xs ys f k).2.2=bo at *
    generalize (sbm xs ys f k).1=q at *
    generalize xs[k]?.getD 0=x at *
    generalize ys[k]?.getD 0=y at *
    have hp1:(y:Int)*(f:Int)≤18446744065119617025:=by rw[←Int.natCast_mul];omega
    have hp0:0≤(y:Int)*(f:Int):=by rw[←Int.natCast_mul];omega
    obtain⟨lo,hlo⟩:∃lo,lo=(c+y*f) % 4294967296:=⟨_,rfl⟩
    have hand:bits .and .u64 ((c:Int)+(y:Int)*(f:Int)) 4294967295=(lo:Int):=by
     have:=and_mask (c+y*f) (by omega)
     rw[←hlo] at this
     rw[←this,Int.natCast_add,Int.natCast_mul]
    have hlob:lo<4294967296:=by omega
    have HLO:=hide hlo
    have HSET:=hide hset
    clear hset hgm hlen2 hlr HQ hlo hprod
    go_wp2
    obtain⟨v1,v2⟩:=sub_word x lo bo hxk hlob hbo
    rw[v1,v2]
    have hv2:Value.int .u64 (((c:Int)+(y:Int)*(f:Int))/4294967296)=.int .u64 (((c+y*f)/W:Nat):Int):=int_eq (by rw[W_eq,Int.natCast_ediv,Int.natCast_add,Int.natCast_mul];rfl)
    rw[hv2]
    have hq:=HSET.out ((x+2*W - lo - bo) % W)
    have HL2:Hid ((c+y*f) % W=lo):=HLO.out.symm
    have HG2:=HG.out
    rw[HL2.out] at HG2
    go_roundw
    case rel=>exact⟨k+1,by omega,by go_num,by rw[HG2],by rw[HG2],by rw[HG2];exact hq,hur.trans (Upd.setCell (Nat.le_add_right _ _) (by omega) _)⟩
    case measure=>simp[intOf];omega
   ·have hyk0:ys[k]?.getD 0=0:=by rw[List.getElem?_eq_none (by omega)];rfl
    by_cases hc0:(sbm xs ys f k).2.1=0∧(sbm xs ys f k).2.2=0
    ·obtain⟨hc1,hc2⟩:=hc0
     have HE:Hid (nw ((sbm xs ys f k).1++xs.drop k)+f*nw ys=nw xs):=by
      show _=_
      have e:=HQ.out
      rw[hc1,hc2,Nat.mul_zero,Nat.add_zero,List.take_of_length_le (show ys.length≤k by omega)] at e
      have e2:=nw_cut_le xs k hk
      rw[nw_append,hql];omega
     have hsm:=small_append hqs (small_drop hsx k)
     have hll:((sbm xs ys f k).1++xs.drop k).length=xs.length:=by rw[List.length_append,hql,List.length_drop];omega
     rw[hc1,hc2]
     generalize (sbm xs ys f k).1++xs.drop k=q at *
     clear hset hcell hfz HG hgm hlen2 HQ hprod
     go_wp2
     go_ret
     exact⟨0,q,rfl,hll,hsm,by rw[HE.out,Nat.mul_zero,Nat.add_zero],hlr,hur⟩
    ·have HG2:=HG.out
     simp only[hyk0,Nat.zero_mul,Nat.add_zero] at HG2
     generalize (sbm xs ys f k).2.1=c at *
     generalize (sbm xs ys f k).2.2=bo at *
     generalize (sbm xs ys f k).1=q at *
     generalize xs[k]?.getD 0=x at *
     have hcm:c % W=c:=Nat.mod_eq_of_lt hcy
     simp only[hcm] at HG2
     have hand:bits .and .u64 (c:Int) 4294967295=(c:Int):=by
      have:=and_mask c (by omega)
      rwa [Nat.mod_eq_of_lt hcy] at this
     have HG3:=hide HG2
     have HSET:=hide hset
     clear hset hgm hlen2 hlr HQ hyk0 hprod HG HG2 hcm
     by_cases hcz:c=0
     ·subst hcz
      have hb1:bo=1:=by omega
      subst hb1
      clear hc0
      go_wp2
      obtain⟨v1,v2⟩:=sub_word x 0 1 hxk (by omega) (by omega)
      have hz:bits .and .u64 0 4294967295=((0:Nat):Int):=and_mask 0 (by omega)
      rw[hz,show IntKind.u64.wrap (IntKind.u64.wrap ((x:Int) - ((0:Nat):Int)) - 1)=IntKind.u64.wrap (IntKind.u64.wrap ((x:Int) - ((0:Nat):Int)) - ((1:Nat):Int)) from rfl,v1,v2]
      have hq:=HSET.out ((x+2*W - 0 - 1) % W)
      go_roundw
      case rel=>exact⟨k+1,by omega,by go_num,by rw[HG3.out];rfl,by rw[HG3.out],by rw[HG3.out];exact hq,hur.trans (Upd.setCell (Nat.le_add_right _ _) (by omega) _)⟩
      case measure=>simp[intOf];omega
     ·have hcb:((c:Int)==0)=false:=by rw[beq_eq_false_iff_ne];omega
      clear hc0
      go_wp2
      obtain⟨v1,v2⟩:=sub_word x c bo hxk hcy hbo
      rw[v1,v2]
      have hv2:Value.int .u64 ((c:Int)/4294967296)=.int .u64 ((c/W:Nat):Int):=int_eq (by rw[W_eq];omega)
      have hq:=HSET.out ((x+2*W - c - bo) % W)
      rw[hv2]
      go_roundw
      case rel=>exact⟨k+1,by omega,by go_num,by rw[HG3.out],by rw[HG3.out],by rw[HG3.out];exact hq,hur.trans (Upd.setCell (Nat.le_add_right _ _) (by omega) _)⟩
      case measure=>simp[intOf];omega
  ·obtain rfl:k=xs.length:=by omega
   rw[List.drop_length,List.append_nil] at hlr
   have HE:Hid (nw (sbm xs ys f xs.length).1+f*nw ys=nw xs+W^xs.length*((sbm xs ys f xs.length).2.1+(sbm xs ys f xs.length).2.2)):=by
    show _=_
    have e:=HQ.out
    rwa [List.take_length,List.take_of_length_le hyx] at e
   generalize (sbm xs ys f xs.length).1=q at *
   generalize (sbm xs ys f xs.length).2.1=c at *
   generalize (sbm xs ys f xs.length).2.2=bo at *
   clear HQ
   by_cases hcz:c=0
   ·subst hcz
    rcases (show bo=0∨bo=1 by omega) with rfl |rfl
    ·go_wp2
     go_ret
     exact⟨0,q,rfl,hql,hqs,HE.out,hlr,hur⟩
    ·go_wp2
     go_ret
     exact⟨1,q,rfl,hql,hqs,HE.out,hlr,hur⟩
   ·have hcb:((c:Int) !=0)=true:=by rw[bne_iff_ne];omega
    go_wp2
    go_ret
    exact⟨c+bo,q,ret_bool (by symm;rw[decide_eq_true_eq];omega),hql,hqs,HE.out,hlr,hur⟩
end Go.Proofs.YtmbjmiioggfneaaGreatDoor

/- nat.Sub. -/
namespace Go.Proofs.YtmbjmiioggfneaaGreatDoor
open Go.RowKit
theorem words_mono {m n:Nat} (h:m≤n):(words m).length≤(words n).length:=by
 rw[words_length,words_length]
 have:=bn_length_mono h
 omega
set_option maxHeartbeats 1000000 in
theorem Sub_no (a b:ByteArray) (w:World) (h:N a<N b):
  Calls Tryz.prog 116 #[.string a,.string b] w fun e w'=>e=.returned (.tuple #[.string ⟨#[]⟩,.bool false])∧Below w.heap.size w w':=by
 have hc:cmpI (N a) (N b)= -1:=by rw[cmpI,if_pos h]
 have hC:=fun V=>Cmp_any a b V
 simp only[hc] at hC
 have HC:=hide hC
 clear hC hc
 go_enter Tryz.func116,Tryz.ntmps116
 go_wp2_with fail
 refine(HC.out _).mono ?_
 rintro e w1 ⟨rfl,hw⟩
 subst hw
 go_wp2
 go_ret2
 exact⟨rfl,Below.refl _ _⟩
set_option maxRecDepth 100000 in
set_option maxHeartbeats 2000000 in
theorem Sub_yes (a b:ByteArray) (w:World) (ha:a.size≤1099511627776) (hb:b.size≤1099511627776) (h:N b≤N a):
  Calls Tryz.prog 116 #[.string a,.string b] w fun e w'=>e=.returned (.tuple #[.string (B (N a - N b)),.bool true])∧Below w.heap.size w w':=by
 have hc:0≤cmpI (N a) (N b):=by
  rw[cmpI,if_neg (by omega)]
  split<;>omega
 have hC:=fun V=>Cmp_any a b V
 generalize cmpI (N a) (N b)=ci at *
 have HC:=hide hC
 clear hC
 have hla:=words_len_le a 274877906944 (by omega)
 have hlb:=words_len_le b 274877906944 (by omega)
 go_enter Tryz.func116,Tryz.ntmps116
 go_wp2_with fail
 refine(HC.out _).mono ?_
 rintro e w0 ⟨rfl,hw⟩
 subst hw
 go_wp2_with fail
 refine(spread_some a _ (by omega)).mono ?_
 rintro e w1 ⟨g1,c1,rfl,h1,hb1⟩
 go_wp2_with fail
 refine(spread_some b _ (by omega)).mono ?_
 rintro e w2 ⟨g2,c2,rfl,h2,hb2⟩
 have hl1:=has_lies h1 hb2
 have hl2:=has_lies h2 (Below.refl _ _)
 have h12:=h1.below hb2 (Nat.le_refl _)
 have hg1:g1<w1.heap.size:=(has_lies h1 (Below.refl _ _)).lt
 have hg2:w1.heap.size≤g2:=by
  rcases h2.cases with ⟨e,_⟩ |⟨g',cap',e,_,hbg,_⟩
  ·cases e
  ·cases e;exact hbg
 have hg0:w0.heap.size≤g1:=by
  rcases h1.cases with ⟨e,_⟩ |⟨g',cap',e,_,hbg,_⟩
  ·cases e
  ·cases e;exact hbg
 have hB2:Below w0.heap.size w0 w2:=hb1.trans (hb2.mono hb1.size)
 go_wp2_with fail
 refine(takeTimes_any g1 0 c1 g2 0 c2 _ _ 1 _ (words_small _) (words_small _) (by decide) (by omega) (words_mono h) hl1 hl2 (by omega)).mono ?_
 rintro e w3 ⟨s,l,rfl,hll,hsm,hn,hlies,hu⟩
 have hs0:s=0:=by
  have hlt:=nw_lt l hsm
  rw[hll] at hlt
  rw[nw_words,nw_words] at hn
  rcases Nat.eq_zero_or_pos s with e |e
  ·exact e
  ·have:W^(words (N a)).length*1≤W^(words (N a)).length*s:=Nat.mul_le_mul_left _ e
   omega
 have HN:Hid (nw l=N a - N b):=by
  show _=_
  rw[nw_words,nw_words,hs0] at hn
  omega
 have hH:=h12.upd hu hlies hll
 have hB3:Below w0.heap.size w0 w3:=Upd.below hB2 hu hg0 hB2.size
 have HLL:=hide hll
 clear hn hll hl1 hl2 h12 hlies hu h1 h2 hs0
 go_wp2_with fail
 refine(gather_own _ _ _ _ hsm (by rw[HLL.out];omega) hH).mono ?_
 rintro e w4 ⟨rfl,hb4⟩
 go_wp2
 go_ret2
 exact⟨by rw[HN.out];rfl,hB3.trans (hb4.mono hB3.size)⟩
end Go.Proofs.YtmbjmiioggfneaaGreatDoor

/- Plain facts on long multiplication. -/
namespace Go.Proofs.YtmbjmiioggfneaaGreatDoor
def rowF (x:Nat) (ys p:List Nat) (i j:Nat):Nat:=x*ys[j]?.getD 0+p[i+j]?.getD 0
theorem rowF_carry (x:Nat) (ys p:List Nat) (i:Nat) (hx:x<W) (hy:Small ys) (hp:Small p) (k:Nat):(acc (rowF x ys p i) k).2<W:=by
 have h:=acc_carry (rowF x ys p i) (W - 1) k fun j _=>by
  have h1:=getD_lt hy j
  have h2:=getD_lt hp (i+j)
  have h3:x*ys[j]?.getD 0≤(W - 1)*(W - 1):=Nat.mul_le_mul (by omega) (by omega)
  have h4:(W - 1)*(W - 1)+W+W≤W*W+1:=by decide
  unfold rowF
  rw[Nat.sub_add_cancel W_pos]
  omega
 have:=W_pos
 omega
theorem rowF_nw (x:Nat) (ys p:List Nat) (i:Nat):nwF (rowF x ys p i) ys.length=x*nw ys+nw ((p.drop i).take ys.length):=by
 rw[show rowF x ys p i=fun j=>(fun j=>x*(fun j=>ys[j]?.getD 0) j) j+(fun j=>p[i+j]?.getD 0) j from rfl,nwF_add,nwF_mul,nwF_list ys _ (Nat.le_refl _)]
 congr 1
 rw[←nwF_take]
 exact nwF_congr fun j _=>by rw[List.getElem?_drop]
def mulRow (x:Nat) (ys p:List Nat) (i:Nat):List Nat:=p.take i++((acc (rowF x ys p i) ys.length).1++[(acc (rowF x ys p i) ys.length).2])++p.drop (i+(ys.length+1))
theorem nw_drop_zero (p:List Nat) (k:Nat) (h:∀j,k≤j→p[j]?.getD 0=0):nw (p.drop k)=0:=by
 have:p.drop k=List.replicate (p.drop k).length 0:=by
  apply List.ext_getElem
  ·simp
  ·intro j h1 h2
   have:=h (k+j) (by omega)
   rw[List.length_drop] at h1
   rw[List.getElem?_eq_getElem (by omega)] at this
   simpa using this
 rw[this,nw_zeros]
theorem mulRow_spec (x:Nat) (ys p:List Nat) (i:Nat) (hx:x<W) (hy:Small ys) (hp:Small p) (hi:i+ys.length<p.length) (hz:∀j,i+ys.length≤j→p[j]?.getD 0=0):
  (mulRow x ys p i).length=p.length∧Small (mulRow x ys p i)∧nw (mulRow x ys p i)=nw p+W^i*(x*nw ys)∧∀j,i+1+ys.length≤j→(mulRow x ys p i)[j]?.getD 0=0:=by
 have hl:=acc_length (rowF x ys p i) ys.length
 have hti:(p.take i).length=i:=by rw[List.length_take];omega
 have hmid:(p.take i++((acc (rowF x ys p i) ys.length).1++[(acc (rowF x ys p i) ys.length).2])).length=i+(ys.length+1):=by
  rw[List.length_append,List.length_append,hti,hl];rfl
 refine⟨?_,?_,?_,?_⟩
 ·rw[mulRow,List.length_append,hmid,List.length_drop];omega
 ·refine small_append (small_append (small_take hp i) (small_append (acc_small _ _) ?_)) (small_drop hp _)
  intro z hz'
  simp only[List.mem_singleton] at hz'
  subst hz'
  exact rowF_carry x ys p i hx hy hp _
 ·have e1:=acc_eq (rowF x ys p i) ys.length
  rw[rowF_nw] at e1
  have e2:=nw_cut_le p i (by omega)
  have e3:=nw_cut_le (p.drop i) ys.length (by rw[List.length_drop];omega)
  rw[List.drop_drop,nw_drop_zero p (i+ys.length) hz,Nat.mul_zero,Nat.add_zero] at e3
  have e4:=nw_drop_zero p (i+(ys.length+1)) (fun j hj=>hz j (by omega))
  rw[mulRow,nw_append,e4,Nat.mul_zero,Nat.add_zero,nw_append,hti,nw_snoc,hl,e1,e2,e3,Nat.mul_add]
  omega
 ·intro j hj
  rw[mulRow,List.getElem?_append_right (by omega),hmid,List.getElem?_drop]
  exact hz _ (by omega)
end Go.Proofs.YtmbjmiioggfneaaGreatDoor

/- times of package nat, and nat.Mul. -/
namespace Go.Proofs.YtmbjmiioggfneaaGreatDoor
open Go.RowKit
theorem Upd.drewN {g off n:Nat} {a b:World} (h:Upd g off n a b) (k:Nat):Upd g off n a (b.drewN k):=⟨⟨h.grown.os,h.grown.tape,h.grown.output,h.grown.size,h.grown.block⟩,h.inside⟩
theorem Lies.drewN {w:World} {g off:Nat} {l:List Nat} (h:Lies w g off l) (k:Nat):Lies (w.drewN k) g off l:=h
set_option maxRecDepth 100000 in
set_option maxHeartbeats 4000000 in
theorem times_any (gx capx gy capy:Nat) (xs ys:List Nat) (w:World) (hsx:Small xs) (hsy:Small ys) (hlx:xs.length≤8796093022208) (hly:ys.length≤8796093022208) (hx:Lies w gx 0 xs) (hy:Lies w gy 0 ys):
  Calls Tryz.prog 101 #[.slice (some ⟨gx,0,none⟩) xs.length capx,.slice (some ⟨gy,0,none⟩) ys.length capy] w fun e w'=>∃v l,e=.returned v∧Has w' w.heap.size v l∧Small l∧l.length=xs.length+ys.length∧nw l=nw xs*nw ys∧Below w.heap.size w w':=by
 obtain⟨i0,hi,hz0,hz1,hz2⟩:=info_parts Tryz.infoU32
 have hgx:=hx.lt
 have hgy:=hy.lt
 go_enter Tryz.func101,Tryz.ntmps101
 go_wp2_with (first
  |(at_make;refine wpList_make_full _ rfl _ _ 112 rfl w.heap.size 134 i0 (.int .u32 0) 1 Tryz.underlying112 hi hz0 hz1 .i64 .i64 _ _ (xs.length+ys.length) rfl rfl (by omega) (by omega) (by rw[hz2];omega) (by unfold maxLen;omega) (Nat.le_refl _) ?_;intro w2 hown2 hgrow2;have hb2:=block_of_own hown2;rw[made_u32] at hb2;have HB2:=hide hb2;have hB2:Below w.heap.size w w2:=(Below.refl _ w).grown hgrow2 (Nat.le_refl _) (fun k e=>by cases e);have hx2:=hx.below hB2 hgx;have hy2:=hy.below hB2 hgy;clear hown2 hgrow2 hb2))
 have hl2:=lies_of_block HB2.out
 go_loopw [17] (fun i wr=>∃(k:Nat) (p:List Nat),k≤xs.length∧i=.int .i64 k∧p.length=xs.length+ys.length∧Small p∧Hid (nw p=nw (xs.take k)*nw ys)∧Hid (∀j,k+ys.length≤j→p[j]?.getD 0=0)∧Lies wr w.heap.size 0 p∧Upd w.heap.size 0 (xs.length+ys.length) w2 wr)
  (fun i _=>xs.length - (intOf i).toNat)
 case atStart=>exact⟨0,_,Nat.zero_le _,rfl,by simp,small_zeros _,by show _=_;rw[nw_zeros];simp[nw_nil],fun j _=>by rw[List.getElem?_replicate];split<;>rfl,hl2,Upd.refl _ _ _ _⟩
 case round=>
  obtain⟨k,p,hk,rfl,hpl,hps,hpn,hpz,hlr,hur⟩:=hrel
  obtain⟨wo,rfl⟩:∃wo:World,wo=wr:=⟨_,rfl⟩
  by_cases hlt:k<xs.length
  ·have hcx:=fun V (hV:Upd w.heap.size 0 (xs.length+ys.length) w2 V)=>(hx2.apart hV (by omega)).cell k hlt
   have hxk:=getD_lt hsx k
   have hspec:=mulRow_spec (xs[k]?.getD 0) ys p k hxk hsy hps (by omega) hpz.out
   have HX:Hid (nw (xs.take (k+1))=nw (xs.take k)+W^k*xs[k]?.getD 0):=by
    show _=_
    rw[nw_take_succ xs k hlt,List.getElem?_eq_getElem hlt];rfl
   generalize xs[k]?.getD 0=x at *
   have HXC:=hide hcx
   have HSP:=hide hspec
   have hfr:Lies wo w.heap.size 0 (p.take k++(acc (rowF x ys p k) 0).1++p.drop (k+0)):=by simpa [acc] using hlr
   clear hcx hspec
   go_wp2
   go_loopw [7,22] (fun c j wr=>∃m:Nat,m≤ys.length∧j=.int .i64 m∧c=.int .u64 ((acc (rowF x ys p k) m).2:Nat)∧Lies wr w.heap.size 0 (p.take k++(acc (rowF x ys p k) m).1++p.drop (k+m))∧Upd w.heap.size 0 (xs.length+ys.length) w2 wr)
    (fun _ j _=>ys.length - (intOf j).toNat)
   case atStart=>exact⟨0,Nat.zero_le _,rfl,rfl,hfr,hur⟩
   case round=>
    obtain⟨m,hm,rfl,rfl,hlr2,hur2⟩:=hrel
    have hcy:=rowF_carry x ys p k hxk hsy hps m
    have hql:=acc_length (rowF x ys p k) m
    have htk:(p.take k).length=k:=by rw[List.length_take];omega
    rw[W_eq] at hcy
    by_cases hmt:m<ys.length
    ·have hlen2:k+m<(p.take k++(acc (rowF x ys p k) m).1++p.drop (k+m)).length:=by rw[List.length_append,List.length_append,htk,hql,List.length_drop];omega
     have hcell:=hlr2.cell (k+m) hlen2
     have hfz:=hlr2.frozen (k+m)
     rw[seg_get _ _ _ k m htk hql,Nat.zero_add] at hcell
     have hset:=fun z n=>(hlr2.drewN n).set (k+m) hlen2 z
     simp only[seg_set _ _ p k m _ htk hql (by omega),Nat.zero_add] at hset
     have hcxk:=HXC.out wr hur2
     rw[Nat.zero_add] at hcxk
     have hcyk:=(hy2.apart hur2 (by omega)).cell m hmt
     rw[Nat.zero_add] at hcyk
     have hyk:=getD_lt hsy m
     have hpk:=getD_lt hps (k+m)
     have HG:Hid (acc (rowF x ys p k) (m+1)=((acc (rowF x ys p k) m).1++[((acc (rowF x ys p k) m).2+rowF x ys p k m) % W],((acc (rowF x ys p k) m).2+rowF x ys p k m)/W)):=rfl
     have HF:Hid (rowF x ys p k m=x*ys[m]?.getD 0+p[k+m]?.getD 0):=rfl
     have hprod:x*ys[m]?.getD 0≤4294967295*4294967295:=Nat.mul_le_mul (by rw[W_eq] at hxk;omega) (by rw[W_eq] at hyk;omega)
     rw[W_eq] at hyk hpk
     have hx32:x<4294967296:=hxk
     generalize (acc (rowF x ys p k) m).2=c at *
     generalize (acc (rowF x ys p k) m).1=q at *
     generalize rowF x ys p k m=s at *
     generalize ys[m]?.getD 0=y at *
     generalize p[k+m]?.getD 0=z at *
     have hp1:(x:Int)*(y:Int)≤18446744065119617025:=by rw[←Int.natCast_mul];omega
     have hp0:0≤(x:Int)*(y:Int):=by rw[←Int.natCast_mul];omega
     have hkI:(k:Int)<(xs.length:Int):=by omega
     have hmI:(m:Int)<(ys.length:Int):=by omega
     have hkmI:(k:Int)+(m:Int)<(xs.length:Int)+(ys.length:Int):=by omega
     have hkmT:((k:Int)+(m:Int)).toNat=k+m:=by omega
     have HSET:=hide hset
     clear hset hlen2 hlr2 hprod
     go_wp2_with fail
     go_quiet (fail)
     go_wp2
     have hv:Value.int .u32 (((c:Int)+((x:Int)*(y:Int)+(z:Int))) % 4294967296)=.int .u32 (((c+s) % W:Nat):Int):=int_eq (by rw[W_eq,HF.out,Int.natCast_emod,Int.natCast_add,Int.natCast_add,Int.natCast_mul];rfl)
     have hv2:Value.int .u64 (((c:Int)+((x:Int)*(y:Int)+(z:Int)))/4294967296)=.int .u64 (((c+s)/W:Nat):Int):=int_eq (by rw[W_eq,HF.out,Int.natCast_ediv,Int.natCast_add,Int.natCast_add,Int.natCast_mul];rfl)
     rw[hv,hv2]
     have hq:=HSET.out ((c+s) % W) nq
     go_roundw
     case rel=>exact⟨m+1,by omega,by go_num,by rw[HG.out],by rw[HG.out];exact hq,(hur2.drewN nq).trans (Upd.setCell (Nat.zero_le _) (by omega) _)⟩
     case measure=>simp[intOf];omega
    ·obtain rfl:m=ys.length:=by omega
     have hlen2:k+ys.length<(p.take k++(acc (rowF x ys p k) ys.length).1++p.drop (k+ys.length)).length:=by rw[List.length_append,List.length_append,htk,hql,List.length_drop];omega
     have hcell:=hlr2.cell (k+ys.length) hlen2
     have hfz:=hlr2.frozen (k+ys.length)
     rw[Nat.zero_add] at hcell
     have hset:=hlr2.set (k+ys.length) hlen2 (acc (rowF x ys p k) ys.length).2
     rw[seg_set _ _ p k ys.length _ htk hql (by omega),Nat.zero_add] at hset
     change Lies _ _ _ (mulRow x ys p k) at hset
     have HSET:=hide hset
     have hkT:((k:Int)+(ys.length:Int)).toNat=k+ys.length:=by omega
     generalize (p.take k++(acc (rowF x ys p k) ys.length).1++p.drop (k+ys.length))[k+ys.length]?.getD 0=old at *
     generalize (acc (rowF x ys p k) ys.length).2=c at *
     obtain⟨s1,s2,s3,s4⟩:=HSP.out
     have HS3:Hid (nw (mulRow x ys p k)=nw (xs.take (k+1))*nw ys):=by
      show _=_
      rw[s3,hpn.out,HX.out,Nat.add_mul,Nat.mul_assoc]
     have HS1:=hide s1
     have HS2:=hide s2
     have HS4:=hide s4
     generalize mulRow x ys p k=p2 at *
     clear hset hlen2 hlr2 HSP s1 s2 s3 s4 HX hfr hlr
     go_wp2
     go_roundw
     case rel=>exact⟨k+1,p2,by omega,by go_num,by rw[HS1.out,hpl],HS2.out,HS3,fun j hj=>HS4.out j (by omega),HSET.out,hur2.trans (Upd.setCell (Nat.zero_le _) (by omega) _)⟩
     case measure=>simp[intOf];omega
  ·obtain rfl:k=xs.length:=by omega
   obtain⟨cur,hc4,hcs,_⟩:=hur.inside _ HB2.out
   have hown4:=own_of_lies (base:=w.heap.size) (cap:=xs.length+ys.length) cur hc4 (by rw[hcs];simp) (Nat.le_refl _) (by unfold maxLen;omega) (by omega) hlr
   have hB4:Below w.heap.size w wo:=Upd.below hB2 hur (Nat.le_refl _) hB2.size
   have HPL:=hide hpl
   rw[hpl] at hown4
   clear hpl hc4 hcs hlr hur
   go_wp2
   go_ret
   exact⟨_,p,rfl,by rw[Has,HPL.out];exact hown4,hps,HPL.out,by have:=hpn.out;rwa [List.take_length] at this,hB4⟩
set_option maxRecDepth 100000 in
set_option maxHeartbeats 1000000 in
theorem Mul_any (a b:ByteArray) (w:World) (ha:a.size≤1099511627776) (hb:b.size≤1099511627776):
  Calls Tryz.prog 70 #[.string a,.string b] w fun e w'=>e=.returned (.string (B (N a*N b)))∧Below w.heap.size w w':=by
 have hla:=words_len_le a 274877906944 (by omega)
 have hlb:=words_len_le b 274877906944 (by omega)
 go_enter Tryz.func70,Tryz.ntmps70
 go_wp2_with fail
 refine(spread_some a _ (by omega)).mono ?_
 rintro e w1 ⟨g1,c1,rfl,h1,hb1⟩
 go_wp2_with fail
 refine(spread_some b _ (by omega)).mono ?_
 rintro e w2 ⟨g2,c2,rfl,h2,hb2⟩
 have hl1:=has_lies h1 hb2
 have hl2:=has_lies h2 (Below.refl _ _)
 have hB2:Below w.heap.size w w2:=hb1.trans (hb2.mono hb1.size)
 go_wp2_with fail
 refine(times_any g1 c1 g2 c2 _ _ _ (words_small _) (words_small _) (by omega) (by omega) hl1 hl2).mono ?_
 rintro e w3 ⟨v,l,rfl,h3,hs3,hn3,hv3,hb3⟩
 have hB3:Below w.heap.size w w3:=hB2.trans (hb3.mono hB2.size)
 have HV:=hide hv3
 have HN:=hide hn3
 clear hv3 hn3
 go_wp2_with fail
 refine(gather_own _ _ _ _ hs3 (by rw[HN.out];omega) h3).mono ?_
 rintro e w4 ⟨rfl,hb4⟩
 go_wp2
 go_ret
 exact⟨by rw[HV.out,nw_words,nw_words];rfl,hB3.trans (hb4.mono hB3.size)⟩
end Go.Proofs.YtmbjmiioggfneaaGreatDoor

/- nat.Of, wordOf and gcdOfWords of package nat. -/
namespace Go.Proofs.YtmbjmiioggfneaaGreatDoor
open Go.RowKit
set_option maxHeartbeats 1000000 in
theorem Of_any (n:Int) (w:World) (h0: -9223372036854775808≤n) (h1:n≤9223372036854775807):
  Calls Tryz.prog 69 #[.int .i64 n] w fun e w'=>e=.returned (.string (B n.toNat))∧Below w.heap.size w w':=by
 have hO:=fun V=>ofWord_any n.toNat V (by omega)
 by_cases hn:0≤n
 ·obtain⟨m,rfl⟩:=Int.eq_ofNat_of_zero_le hn
  rw[Int.toNat_natCast] at hO⊢
  have HO:=hide hO
  have hmx:max (m:Int) 0=(m:Int):=by omega
  clear hO
  go_enter Tryz.func69,Tryz.ntmps69
  go_wp2_with fail
  refine(HO.out _).mono ?_
  rintro e w1 ⟨rfl,hb⟩
  go_wp2
  go_ret
  exact⟨rfl,hb⟩
 ·have e0:n.toNat=0:=by omega
  rw[e0] at hO⊢
  have HO:=hide hO
  have hmx:max n 0=0:=by omega
  clear hO e0
  go_enter Tryz.func69,Tryz.ntmps69
  go_wp2_with fail
  refine(HO.out _).mono ?_
  rintro e w1 ⟨rfl,hb⟩
  go_wp2
  go_ret
  exact⟨rfl,hb⟩
set_option maxRecDepth 100000 in
set_option maxHeartbeats 1000000 in
theorem gcdOfWords_any (a b:Nat) (w:World) (ha:a<18446744073709551616) (hb:b<18446744073709551616):
  Calls Tryz.prog 118 #[.int .u64 (a:Nat),.int .u64 (b:Nat)] w fun e w'=>e=.returned (.int .u64 (Nat.gcd a b:Nat))∧Below w.heap.size w w':=by
 go_enter Tryz.func118,Tryz.ntmps118
 go_wp2
 go_loopw [0,1] (fun x y wr=>∃m n:Nat,x=.int .u64 m∧y=.int .u64 n∧m<18446744073709551616∧n<18446744073709551616∧Hid (Nat.gcd m n=Nat.gcd a b)∧Below w.heap.size w wr) (fun _ y _=>(intOf y).toNat)
 case atStart=>exact⟨a,b,rfl,rfl,ha,hb,rfl,Below.refl _ _⟩
 case round=>
  obtain⟨m,n,rfl,rfl,hm,hn,hg,hbr⟩:=hrel
  by_cases h0:n=0
  ·subst h0
   go_wp2
   go_ret
   exact⟨ret_int (by rw[←hg.out,Nat.gcd_zero_right]),hbr⟩
  ·have hnb:((n:Int) !=0)=true:=by rw[bne_iff_ne];omega
   have hne:((n:Int)==0)=false:=by rw[beq_eq_false_iff_ne];omega
   have hn0:¬(n:Int)=0:=by omega
   have hpos:0<n:=by omega
   have hr:m % n<n:=Nat.mod_lt _ hpos
   have HG:Hid (Nat.gcd n (m % n)=Nat.gcd a b):=by show _=_;rw[←hg.out,←Nat.gcd_comm (m % n) n,←Nat.gcd_rec,Nat.gcd_comm]
   go_wp2_with fail
   go_region
   all_goals go_wp2
   rw[show ((m:Int) % (n:Int))=((m % n:Nat):Int) from (Int.natCast_emod m n).symm]
   go_roundw
   case rel=>exact⟨n,m % n,rfl,rfl,hn,by omega,HG,hbr.drew⟩
   case measure=>simp[intOf];omega
theorem or_high (a b:Nat) (ha:a<4294967296) (hb:b<4294967296):bits .or .u64 (a:Int) ((b:Int)*4294967296)=((a+b*4294967296:Nat):Int):=by
 have e1:(b:Int)*4294967296=((b*4294967296:Nat):Int):=by omega
 rw[e1,u64_or_nat _ _ (by omega) (by omega)]
 congr 1
 have:=nat_join 32 (b*4294967296) a (by omega) (by omega)
 have e2:a |||b*4294967296=b*4294967296 |||a:=Nat.or_comm _ _
 omega
theorem or_zero (a:Nat) (ha:a<4294967296):bits .or .u64 0 (a:Int)=(a:Int):=by
 have:=u64_or_nat 0 a (by omega) (by omega)
 rw[show ((0:Nat):Int)=0 from rfl] at this
 rw[this,Nat.zero_or]
set_option maxRecDepth 100000 in
set_option maxHeartbeats 1000000 in
theorem wordOf_any (g cap:Nat) (l:List Nat) (w:World) (hs:Small l) (hlen:l.length≤2) (hl:Lies w g 0 l):
  Calls Tryz.prog 119 #[.slice (some ⟨g,0,none⟩) l.length cap] w fun e w'=>e=.returned (.int .u64 (nw l:Nat))∧w'=w:=by
 match l,hlen with
 |[],_=>
  go_enter Tryz.func119,Tryz.ntmps119
  go_wp2
  refine wp_loop_rounds 1 ?_
  rw[rounds_succ]
  go_wp2
  go_ret
  exact⟨rfl,rfl⟩
 |[a],_=>
  have h0:=hl.cell 0 (by simp)
  have ha:a<4294967296:=hs a (by simp)
  have ho:=or_zero a ha
  simp only[Nat.zero_add,List.getElem?_cons_zero,Option.getD_some] at h0
  go_enter Tryz.func119,Tryz.ntmps119
  go_wp2
  refine wp_loop_rounds 2 ?_
  rw[rounds_succ]
  go_wp2
  rw[rounds_succ]
  go_wp2
  go_ret
  exact⟨ret_int (by simp[nw_cons,nw_nil]),rfl⟩
 |[a,b],_=>
  have h0:=hl.cell 0 (by simp)
  have h1:=hl.cell 1 (by simp)
  have ha:a<4294967296:=hs a (by simp)
  have hb:b<4294967296:=hs b (by simp)
  have ho:=or_zero a ha
  have ho2:=or_high a b ha hb
  simp only[Nat.zero_add,List.getElem?_cons_zero,List.getElem?_cons_succ,Option.getD_some] at h0 h1
  go_enter Tryz.func119,Tryz.ntmps119
  go_wp2
  refine wp_loop_rounds 3 ?_
  rw[rounds_succ]
  go_wp2
  rw[rounds_succ]
  go_wp2
  rw[rounds_succ]
  go_wp2
  go_ret
  exact⟨ret_int (by simp only[nw_cons,nw_nil,W_eq];omega),rfl⟩
end Go.Proofs.YtmbjmiioggfneaaGreatDoor

/- shiftUp and shiftDown of package nat. -/
namespace Go.Proofs.YtmbjmiioggfneaaGreatDoor
open Go.RowKit
def shF (xs:List Nat) (s j:Nat):Nat:=2^s*xs[j]?.getD 0
theorem shF_nw (xs:List Nat) (s:Nat):nwF (shF xs s) xs.length=2^s*nw xs:=by
 rw[show shF xs s=fun j=>2^s*(fun j=>xs[j]?.getD 0) j from rfl,nwF_mul,nwF_list xs _ (Nat.le_refl _)]
theorem shF_carry (xs:List Nat) (hx:Small xs) (s k:Nat):(acc (shF xs s) k).2<2^s:=by
 have hp:0<2^s:=Nat.pow_pos (by decide)
 have h:=acc_carry (shF xs s) (2^s - 1) k fun j _=>by
  have h1:=getD_lt hx j
  have h2:2^s*(xs[j]?.getD 0+1)≤2^s*W:=Nat.mul_le_mul_left _ h1
  rw[Nat.mul_add] at h2
  unfold shF
  rw[Nat.sub_add_cancel hp]
  omega
 omega
theorem pow_lt_W {s:Nat} (hs:s<32):2^s≤2147483648:=by
 have:2^s≤2^31:=Nat.pow_le_pow_right (by decide) (by omega)
 simpa using this
theorem shl_or (c x s:Nat) (hs:s<32) (hc:c<2^s) (hx:x<4294967296):bits .or .u64 (c:Int) (IntKind.u64.wrap ((x:Int)*2^s))=((c+2^s*x:Nat):Int):=by
 have hp:=pow_lt_W hs
 have hm:x*2^s≤4294967295*2147483648:=Nat.mul_le_mul (by omega) hp
 have e1:IntKind.u64.wrap ((x:Int)*2^s)=((x*2^s:Nat):Int):=by
  rw[IntKind.wrap_u64,show ((x:Int)*2^s)=((x*2^s:Nat):Int) by simp]
  omega
 rw[e1,u64_or_nat _ _ (by omega) (by omega),Nat.or_comm,nat_join s _ _ (Nat.mul_mod_left _ _) hc]
 congr 1
 rw[Nat.mul_comm];omega
set_option maxRecDepth 100000 in
set_option maxHeartbeats 4000000 in
theorem shiftUp_any (gx capx:Nat) (xs:List Nat) (s:Nat) (w:World) (hsx:Small xs) (hs:s<32) (hlx:xs.length≤8796093022208) (hx:Lies w gx 0 xs):
  Calls Tryz.prog 132 #[.slice (some ⟨gx,0,none⟩) xs.length capx,.int .i64 (s:Nat)] w fun e w'=>∃v l,e=.returned v∧Has w' w.heap.size v l∧Small l∧l.length=xs.length+1∧nw l=2^s*nw xs∧Below w.heap.size w w':=by
 obtain⟨i0,hi,hz0,hz1,hz2⟩:=info_parts Tryz.infoU32
 have hgx:=hx.lt
 go_enter Tryz.func132,Tryz.ntmps132
 go_wp2_with (first
  |(at_make;refine wpList_make_full _ rfl _ _ 112 rfl w.heap.size 134 i0 (.int .u32 0) 1 Tryz.underlying112 hi hz0 hz1 .i64 .i64 _ _ (xs.length+1) rfl rfl (by omega) (by omega) (by rw[hz2];omega) (by unfold maxLen;omega) (Nat.le_refl _) ?_;intro w2 hown2 hgrow2;have hb2:=block_of_own hown2;rw[made_u32] at hb2;have HB2:=hide hb2;have hB2:Below w.heap.size w w2:=(Below.refl _ w).grown hgrow2 (Nat.le_refl _) (fun k e=>by cases e);have hx2:=hx.below hB2 hgx;clear hown2 hgrow2 hb2))
 have hl2:=lies_of_block HB2.out
 go_loopw [6,15] (fun c i wr=>∃k:Nat,k≤xs.length∧i=.int .i64 k∧c=.int .u64 ((acc (shF xs s) k).2:Nat)∧Lies wr w.heap.size 0 ((acc (shF xs s) k).1++(List.replicate (xs.length+1) 0).drop k)∧Upd w.heap.size 0 (xs.length+1) w2 wr)
  (fun _ i _=>xs.length - (intOf i).toNat)
 case atStart=>exact⟨0,Nat.zero_le _,rfl,rfl,by simpa [acc] using hl2,Upd.refl _ _ _ _⟩
 case round=>
  obtain⟨k,hk,rfl,rfl,hlr,hur⟩:=hrel
  have hql:=acc_length (shF xs s) k
  by_cases hlt:k<xs.length
  ·have hcx:=(hx2.apart hur (by omega)).cell k hlt
   rw[Nat.zero_add] at hcx
   have hlen2:k<((acc (shF xs s) k).1++(List.replicate (xs.length+1) 0).drop k).length:=by rw[List.length_append,hql,List.length_drop,List.length_replicate];omega
   have hcell:=hlr.cell k hlen2
   have hfz:=hlr.frozen k
   have hset:=fun y=>hlr.set k hlen2 y
   rw[Nat.zero_add] at hcell
   simp only[drop_set_append _ (List.replicate (xs.length+1) 0) k _ hql (by simp;omega),Nat.zero_add] at hset
   have hxb:=getD_lt hsx k
   have hcs:=shF_carry xs hsx s k
   have HG:Hid (acc (shF xs s) (k+1)=((acc (shF xs s) k).1++[((acc (shF xs s) k).2+shF xs s k) % W],((acc (shF xs s) k).2+shF xs s k)/W)):=rfl
   have HF:Hid (shF xs s k=2^s*xs[k]?.getD 0):=rfl
   rw[W_eq] at hxb
   have hor:=shl_or (acc (shF xs s) k).2 (xs[k]?.getD 0) s hs hcs hxb
   have hm:2^s*xs[k]?.getD 0≤2147483648*4294967295:=Nat.mul_le_mul (pow_lt_W hs) (by omega)
   have hp:=pow_lt_W hs
   rw[←HF.out] at hor hm
   generalize shF xs s k=f at *
   generalize (acc (shF xs s) k).2=c at *
   generalize (acc (shF xs s) k).1=q at *
   generalize xs[k]?.getD 0=x at *
   generalize (q++(List.replicate (xs.length+1) 0).drop k)[k]?.getD 0=old at *
   obtain⟨t,ht⟩:∃t,t=c+f:=⟨_,rfl⟩
   rw[←ht] at hor
   have htb:t<18446744073709551615:=by omega
   have HT:=hide ht
   have HSET:=hide hset
   have hc32:c<4294967296:=by omega
   clear hset hlen2 hlr ht hm hp hcs HF
   go_wp2
   have hv:Value.int .u32 ((t:Int) % 4294967296)=.int .u32 (((c+f) % W:Nat):Int):=int_eq (by rw[W_eq,←HT.out];omega)
   have hv2:Value.int .u64 ((t:Int)/4294967296)=.int .u64 (((c+f)/W:Nat):Int):=int_eq (by rw[W_eq,←HT.out];omega)
   rw[hv,hv2]
   have hq:=HSET.out ((c+f) % W)
   go_roundw
   case rel=>exact⟨k+1,by omega,by go_num,by rw[HG.out],by rw[HG.out];exact hq,hur.trans (Upd.setCell (Nat.zero_le _) (by omega) _)⟩
   case measure=>simp[intOf];omega
  ·obtain rfl:k=xs.length:=by omega
   have hlen2:xs.length<((acc (shF xs s) xs.length).1++(List.replicate (xs.length+1) 0).drop xs.length).length:=by rw[List.length_append,hql,List.length_drop,List.length_replicate];omega
   have hcell:=hlr.cell xs.length hlen2
   have hfz:=hlr.frozen xs.length
   have hset:=hlr.set xs.length hlen2 (acc (shF xs s) xs.length).2
   rw[drop_set_append _ (List.replicate (xs.length+1) 0) xs.length _ hql (by simp),List.drop_of_length_le (by simp),List.append_nil,Nat.zero_add] at hset
   rw[Nat.zero_add] at hcell
   have hcs:=shF_carry xs hsx s xs.length
   have hp:=pow_lt_W hs
   have HE:=hide (acc_eq (shF xs s) xs.length)
   have hqs:=acc_small (shF xs s) xs.length
   have HF:=hide (shF_nw xs s)
   obtain⟨cur,hc4,hcz,_⟩:=hur.inside _ HB2.out
   generalize ((acc (shF xs s) xs.length).1++(List.replicate (xs.length+1) 0).drop xs.length)[xs.length]?.getD 0=old at *
   generalize (acc (shF xs s) xs.length).2=c at *
   generalize (acc (shF xs s) xs.length).1=q at *
   have hc32:c<4294967296:=by omega
   have hur4:Upd w.heap.size 0 (xs.length+1) w2 (wr.setCell ⟨w.heap.size,xs.length,none⟩ (.int .u32 (c:Nat))):=hur.trans (Upd.setCell (Nat.zero_le _) (by omega) _)
   obtain⟨cur2,hc5,hcz2,_⟩:=hur4.inside _ HB2.out
   have hql2:(q++[c]).length=xs.length+1:=by rw[List.length_append,hql];rfl
   have hown4:=own_of_lies (base:=w.heap.size) (cap:=xs.length+1) cur2 hc5 (by rw[hcz2];simp) (Nat.le_refl _) (by unfold maxLen;omega) (by omega) hset
   have hB4:=Upd.below hB2 hur4 (Nat.le_refl _) hB2.size
   have HO:=hide hown4
   have HQL:=hide hql2
   have HQ0:=hide hql
   clear hset hlen2 hlr hc4 hcz hc5 hcz2 hown4 hur4 hql2 hql hp hcs
   go_wp2
   go_ret
   refine⟨_,q++[c],rfl,?_,?_,HQL.out,?_,hB4⟩
   ·rw[Has,HQL.out];have:=HO.out;rwa [HQL.out] at this
   ·exact small_append hqs (fun z hz=>by simp at hz;subst hz;exact hc32)
   ·rw[nw_snoc,HQ0.out,HE.out,HF.out]
end Go.Proofs.YtmbjmiioggfneaaGreatDoor

/- Plain facts on shifting parts down. -/
namespace Go.Proofs.YtmbjmiioggfneaaGreatDoor
def shd (s:Nat):List Nat→List Nat
 |[]=>[]
 |x::r=>(x+W*r[0]?.getD 0)/2^s % W::shd s r
theorem shd_length (s:Nat) (l:List Nat):(shd s l).length=l.length:=by
 induction l with
 |nil=>rfl
 |cons x r ih=>rw[shd,List.length_cons,ih,List.length_cons]
theorem shd_small (s:Nat) (l:List Nat):Small (shd s l):=by
 induction l with
 |nil=>intro x hx;simp[shd] at hx
 |cons x r ih=>
  intro y hy
  rw[shd] at hy
  rcases List.mem_cons.1 hy with rfl |hy
  ·exact Nat.mod_lt _ W_pos
  ·exact ih y hy
theorem nw_head (l:List Nat) (h:Small l):nw l % W=l[0]?.getD 0:=by
 cases l with
 |nil=>rfl
 |cons x r=>rw[nw_cons,Nat.add_mul_mod_self_left];exact Nat.mod_eq_of_lt (h x List.mem_cons_self)
theorem W_split {s:Nat} (hs:s≤32):W=2^s*2^(32 - s):=by rw[←Nat.pow_add,show s+(32 - s)=32 by omega];rfl
theorem shd_nw (s:Nat) (hs:s≤32) (l:List Nat) (hl:Small l):nw (shd s l)=nw l/2^s:=by
 induction l with
 |nil=>simp[shd,nw_nil]
 |cons x r ih=>
  have hr:Small r:=fun y hy=>hl y (List.mem_cons_of_mem _ hy)
  have hx:=hl x List.mem_cons_self
  have hp:0<2^s:=Nat.pow_pos (by decide)
  rw[shd,nw_cons,nw_cons,ih hr,←nw_head r hr]
  generalize nw r=n
  have e1:=Nat.div_add_mod n (2^s)
  have hb:=Nat.mod_lt n hp
  generalize hq:n/2^s=a at *
  generalize hbb:n % 2^s=b at *
  have hdig:(x+W*b)/2^s<W:=by
   refine Nat.div_lt_of_lt_mul ?_
   have:W*(b+1)≤W*2^s:=Nat.mul_le_mul_left _ hb
   rw[Nat.mul_add,Nat.mul_comm W (2^s)] at this
   omega
  have e2:(x+W*n)/2^s=(x+W*b)/2^s+W*a:=by
   rw[←e1,Nat.mul_add,←Nat.add_assoc,Nat.add_right_comm,show W*(2^s*a)=2^s*(W*a) by rw[Nat.mul_left_comm],Nat.add_mul_div_left _ _ hp]
  have e3:(x+W*(n % W))/2^s % W=(x+W*b)/2^s:=by
   have hW:=W_split hs
   have hmm:n % W % 2^s=b:=by rw[←hbb,hW,Nat.mod_mul_right_mod]
   have e4:=Nat.div_add_mod (n % W) (2^s)
   rw[hmm] at e4
   generalize n % W/2^s=c at *
   rw[←e4,Nat.mul_add,←Nat.add_assoc,Nat.add_right_comm,show W*(2^s*c)=2^s*(W*c) by rw[Nat.mul_left_comm],Nat.add_mul_div_left _ _ hp,Nat.add_mul_mod_self_left]
   exact Nat.mod_eq_of_lt hdig
  rw[e2,e3]
end Go.Proofs.YtmbjmiioggfneaaGreatDoor

/- shiftDown of package nat. -/
namespace Go.Proofs.YtmbjmiioggfneaaGreatDoor
open Go.RowKit
theorem shl_full (a x:Nat) (hx:x<4294967296):bits .or .u64 (IntKind.u64.wrap ((a:Int)*4294967296)) (x:Int)=((a % 4294967296*4294967296+x:Nat):Int):=by
 have e:IntKind.u64.wrap ((a:Int)*4294967296)=((a % 4294967296:Nat):Int)*4294967296:=by rw[IntKind.wrap_u64];omega
 rw[e]
 exact or_u64 (a % 4294967296) x (by omega) hx
set_option maxRecDepth 100000 in
set_option maxHeartbeats 4000000 in
theorem shiftDown_any (g cap:Nat) (l:List Nat) (s:Nat) (w:World) (hsl:Small l) (hs:s<32) (hlen:l.length≤35184372088832) (hl:Lies w g 0 l):
  Calls Tryz.prog 134 #[.slice (some ⟨g,0,none⟩) l.length cap,.int .i64 (s:Nat)] w fun e w'=>e=.returned (.tuple #[])∧Lies w' g 0 (shd s l)∧Upd g 0 l.length w w':=by
 go_enter Tryz.func134,Tryz.ntmps134
 go_wp2
 go_loopw [4,9] (fun a i wr=>∃k ab:Nat,k≤l.length∧i=.int .i64 k∧a=.int .u64 (ab:Nat)∧ab<18446744073709551616∧Hid (ab % 4294967296=(l.drop (l.length - k))[0]?.getD 0)∧Lies wr g 0 (l.take (l.length - k)++shd s (l.drop (l.length - k)))∧Upd g 0 l.length w wr)
  (fun _ i _=>l.length - (intOf i).toNat)
 case atStart=>exact⟨0,0,Nat.zero_le _,rfl,rfl,by omega,by show _=_;simp,by simpa [shd] using hl,Upd.refl _ _ _ _⟩
 case round=>
  obtain⟨k,ab,hk,rfl,rfl,hab,hah,hlr,hur⟩:=hrel
  by_cases hlt:k<l.length
  ·obtain⟨m,hm⟩:∃m,m+1=l.length - k:=⟨l.length - k - 1,by omega⟩
   have hml:m<l.length:=by omega
   have e1:l.length - (k+1)=m:=by omega
   have hd:l.drop m=l[m]::l.drop (m+1):=List.drop_eq_getElem_cons hml
   have hx:=hsl _ (List.getElem_mem hml)
   rw[←hm] at hlr hah
   have hlen2:m<(l.take (m+1)++shd s (l.drop (m+1))).length:=by simp;omega
   have hcell:=hlr.cell m hlen2
   have hfz:=hlr.frozen (0+m)
   have hset:=fun y=>hlr.set m hlen2 y
   simp only[take_set_append l _ m _ hml] at hset
   have hgm:(l.take (m+1)++shd s (l.drop (m+1)))[m]?.getD 0=l[m]:=by
    rw[List.getElem?_append_left (by simp;omega),List.getElem?_take,if_pos (by omega),List.getElem?_eq_getElem hml];rfl
   rw[hgm] at hcell
   rw[Nat.zero_add] at hcell hfz
   have HG:Hid (shd s (l.drop m)=(l[m]+W*(l.drop (m+1))[0]?.getD 0)/2^s % W::shd s (l.drop (m+1))):=by show _=_;rw[hd];rfl
   have HH:Hid ((l.drop m)[0]?.getD 0=l[m]):=by show _=_;rw[hd];rfl
   rw[W_eq] at hx
   rw[←hah.out] at HG
   generalize shd s (l.drop (m+1))=q at *
   generalize l[m]=x at *
   obtain⟨t,ht⟩:∃t,t=ab % 4294967296*4294967296+x:=⟨_,rfl⟩
   have hor:bits .or .u64 (IntKind.u64.wrap ((ab:Int)*4294967296)) (x:Int)=(t:Int):=by rw[ht];exact shl_full ab x hx
   have htb:t<18446744073709551616:=by omega
   have htm:t % 4294967296=x:=by omega
   have HTM:=hide htm
   have HT:=hide ht
   have hmk:(l.length:Int) - 1 - (k:Int)=(m:Int):=by omega
   have HSET:=hide hset
   clear ht hgm hset hd hlen2 hlr hah htm
   go_wp2
   have hv:Value.int .u32 ((t:Int)/2^s % 4294967296)=.int .u32 (((x+W*(ab % 4294967296))/2^s % W:Nat):Int):=int_eq (by
    have e:x+W*(ab % 4294967296)=t:=by rw[HT.out,W_eq,Nat.mul_comm];omega
    rw[e,W_eq,Int.natCast_emod,Int.natCast_ediv,Int.natCast_pow];rfl)
   rw[hv]
   have hq:=HSET.out ((x+W*(ab % 4294967296))/2^s % W)
   rw[Nat.zero_add] at hq
   go_roundw
   case rel=>exact⟨k+1,t,by omega,by go_num,rfl,htb,by show _=_;rw[e1,HH.out];exact HTM.out,by rw[e1,HG.out];exact hq,hur.trans (Upd.setCell (Nat.zero_le _) (by omega) _)⟩
   case measure=>simp[intOf];omega
  ·obtain rfl:k=l.length:=by omega
   go_wp2
   go_end0
   refine⟨rfl,?_,hur⟩
   simpa using hlr
end Go.Proofs.YtmbjmiioggfneaaGreatDoor
