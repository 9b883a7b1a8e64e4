/- Unroll: rows of fractions one behind the other (slices.Grow, Concat), names of values, numbers in a row of one's own. -/
import Derived.Test.YtgamblainfkiaaaGreatDoorHidDHxUnrA
import Derived.Test.YtgamblainfkiaaaGreatDoorHidCHxMadA
import Derived.Lib.AppendZerosOnto
import Derived.Laws.AppendOwnNone
import Derived.OrdersHeld
import Derived.Deep.RegionHeld
namespace Go.Proofs.YtgamblainfkiaaaGreatDoor
open Go.RowKit Go.Shelf Go.Lib
set_option maxRecDepth 100000 in
set_option maxHeartbeats 400000 in
theorem slGrowFU_nil (n:Nat) (hn:n≤100000) (w:World):
  Calls Tryz.prog 117 #[.slice none 0 0,.int .i64 (n:Nat)] w fun e w'=>∃v,e=.returned v∧RwF w' w.heap.size v []∧Below w.heap.size w w':=by
 obtain⟨i0,hi0,hz0,hz1,hz2⟩:=info_parts Tryz.infoFrac
 by_cases h:n=0
 ·subst h
  go_enter Tryz.func117,Tryz.ntmps117
  go_wp2
  go_ret
  exact⟨_,rfl,⟨rfl,.inl ⟨rfl,rfl⟩⟩,Below.refl _ _⟩
 ·have hold:(Builtin.firstCells i0.size 0 (.slice none 0 0)).run Tryz.prog w.drew=.ok ([]:List Value).toArray w.drew:=run_firstCells_none w.drew i0.size 0 0 0
  have hrz:∀ty,(Builtin.append_ #[22,3] ty #[.slice none 0 0,.int .i64 (n:Int)]).run Tryz.prog w=.ok (.slice (some ⟨w.heap.size,0,none⟩) (0+n) (grownCap w (0+n) 0 30)) (w.drew.alloc (.cells (([]:List Value).toArray++Builtin.zeroCells (Value.agg #[.bool false,.string ⟨#[]⟩,.string ⟨#[]⟩]).cells n++Builtin.zeroCells (Value.agg #[.bool false,.string ⟨#[]⟩,.string ⟨#[]⟩]).cells (grownCap w (0+n) 0 30 - (0+n))) 30)):=fun ty=>
   Lib.run_append_grow_zeros w 22 3 ty 30 i0 (.agg #[.bool false,.string ⟨#[]⟩,.string ⟨#[]⟩]) .i64 .i64 Tryz.underlying22 Tryz.underlying3 hi0 hz0 none 0 0 [] hold n (by omega) (by omega) (by omega) (by omega) (by rw[hz2];omega) (growslice_fits (by omega) (by rw[hz2];omega))
  have hGn:0+n≤grownCap w (0+n) 0 30:=grownCap_ge w _ _ _
  have hGm:=grownCap_le_maxLen w (0+n) 0 30 (by unfold maxLen;omega)
  rw[Nat.zero_add] at hrz hGn hGm
  obtain⟨G,hG⟩:∃G,G=grownCap w n 0 30:=⟨_,rfl⟩
  rw[←hG] at hrz hGn hGm
  have HGM:=hid hGm
  have hG63:G≤9223372036854775807:=by unfold maxLen at hGm;omega
  have hn0:(0:Int)<(n:Int):=by omega
  clear hold hG hGm
  go_enter Tryz.func117,Tryz.ntmps117
  go_wp2_with (at_builtin;refine Lib.wpList_append_run _ rfl _ _ _ _ rfl _ _ rfl rfl _ _ (hrz _) ?_)
  go_ret
  refine⟨_,rfl,⟨rfl,.inr ⟨w.heap.size,G,_,rfl,Nat.le_refl _,heap_alloc_new w.drew _,Nat.zero_le _,HGM.out,?_,by simp[frC]⟩⟩,((Below.refl _ w).drew).alloc (Nat.le_refl _) _⟩
  simp[size_zeroCells]
  omega
set_option maxRecDepth 100000 in
set_option maxHeartbeats 1000000 in
theorem called_nine (k:Nat) (w:World) (hk:k≤9):
  Calls Tryz.prog 61 #[.int .i64 (k:Nat)] w fun e w'=>∃x,e=.returned x∧RwS w' w.heap.size x (valsN k)∧Below w.heap.size w w':=by
 have HT1:=hid (fun (i:Nat) (hi:i≤1000) (U:World)=>rNumText i U hi)
 have HT2:=hid (fun (i:Nat) (hi:i≤1000) (U:World)=>rTextOf i U hi)
 go_enter Tryz.func61,Tryz.ntmps61
 go_wp2_with fail
 go_loopw [3,4] (fun x iv wr=>∃i:Nat,i≤k∧iv=.int .i64 i∧Hid (RwS wr w.heap.size x (valsN i))∧Hid (Below w.heap.size w wr)) (fun _ iv _=>k - (intOf iv).toNat)
 case atStart=>exact⟨0,Nat.zero_le _,rfl,RwS.empty _ _,Below.refl _ _⟩
 case round=>
  obtain⟨i,hi,rfl,HR,HB⟩:=hrel
  by_cases hlt:i<k
  ·go_wp2_with fail
   refine(HT1.out i (by omega) _).mono ?_
   rintro e w1 ⟨rfl,hb1⟩
   go_wp2_with fail
   refine(HT2.out i (by omega) _).mono ?_
   rintro e w2 ⟨rfl,hb2⟩
   have hb12:=hb1.trans (hb2.mono hb1.size)
   have HR2:=hid (HR.out.step hb12)
   have HB2:=hid (HB.out.trans (hb12.mono HB.out.size))
   clear hb1 hb2 hb12 HR HB
   have HRA:=hid (HR2.out.step ((Below.refl _ w2).alloc (Nat.le_refl _) (.cells #[.string (nmB 118 i)] 9)))
   have HBA:=hid (HB2.out.alloc HB2.out.size (.cells #[.string (nmB 118 i)] 9))
   have HCA:=hid (one_str w2 (nmB 118 i))
   have hbs:w.heap.size≤(w2.alloc (.cells #[.string (nmB 118 i)] 9)).heap.size:=HBA.out.size
   have hvl:=valsN_length i
   have HSU:=hid (valsN_succ i)
   have hdz:=dgB_size (i:=i) (by omega)
   go_wp2_with (at_builtin;refine wpList_append_str rfl _ _ rfl w.heap.size _ (valsN i) (nmB 118 i) rfl HRA.out w2.heap.size rfl HCA.out (by omega) hbs ?_;intro v' w3 hr3 hg3;have HB3:=hid (HBA.out.grown hg3 hbs (fun k e=>HRA.out.own k e)))
   go_roundw
   case rel=>exact⟨i+1,by omega,by go_num,by rw[HSU.out];exact hr3,HB3⟩
   case measure=>simp[intOf];omega
  ·obtain rfl:i=k:=by omega
   go_wp2
   go_ret
   exact⟨_,rfl,HR.out,HB.out⟩
theorem RwF.putU {w:World} {B g n cap:Nat} {l:List Fr} (h:RwF w B (.slice (some ⟨g,0,none⟩) n cap) l) (k:Nat) (f:Fr):RwF (((w.setCell ⟨g,k*3,none⟩ (.bool f.1)).setCell ⟨g,k*3+1,none⟩ (.string f.2.1)).setCell ⟨g,k*3+2,none⟩ (.string f.2.2)) B (.slice (some ⟨g,0,none⟩) n cap) (l.set k f):=by
 obtain⟨h1,h2⟩:=h
 rcases h2 with ⟨e,_⟩ |⟨g',cap',cur,e,hB,hg,h4,h5,h6,h7⟩
 ·cases e
 ·injection e with e1 e2 e3
  injection e1 with e1
  injection e1 with e1
  subst e1 e2 e3
  refine⟨by rw[frC_length,List.length_set];omega,.inr ⟨g,cap,((cur.setIfInBounds (k*3) (.bool f.1)).setIfInBounds (k*3+1) (.string f.2.1)).setIfInBounds (k*3+2) (.string f.2.2),by rw[List.length_set],hB,heap_setCell_row _ _ _ _ _ _ (heap_setCell_row _ _ _ _ _ _ (heap_setCell_row _ _ _ _ _ _ hg)),by rw[List.length_set];exact h4,h5,by simp[h6],?_⟩⟩
  rw[←frC_set,←h7,List.length_set]
  simp only[Array.toList_setIfInBounds,List.take_set]
theorem row_factsU {w:World} {B g n cap:Nat} {l:List Fr} (h:RwF w B (.slice (some ⟨g,0,none⟩) n cap) l) {k:Nat} (hk:k<l.length):w.cell? ⟨g,k*3,none⟩=some (.bool l[k].1)∧w.cell? ⟨g,k*3+1,none⟩=some (.string l[k].2.1)∧w.cell? ⟨g,k*3+2,none⟩=some (.string l[k].2.2)∧w.frozen? ⟨g,k*3,none⟩=false∧w.frozen? ⟨g,k*3+1,none⟩=false∧w.frozen? ⟨g,k*3+2,none⟩=false:=by
 obtain⟨h1,h2⟩:=h
 rcases h2 with ⟨e,_⟩ |⟨g',cap',cur,e,hB,hg,h4,h5,h6,h7⟩
 ·cases e
 ·injection e with e1 e2 e3
  injection e1 with e1
  injection e1 with e1
  subst e1 e2 e3
  obtain⟨a0,a1,a2⟩:=frC_get l k hk
  rw[←h7] at a0 a1 a2
  refine⟨?_,?_,?_,frozen_of_row w g _ _ _ hg,frozen_of_row w g _ _ _ hg,frozen_of_row w g _ _ _ hg⟩
  ·rw[cell_of_row w g _ _ _ (0,0) hg,←Array.getElem?_toList]
   rw[List.getElem?_take] at a0
   split at a0
   ·exact a0
   ·cases a0
  ·rw[cell_of_row w g _ _ _ (0,0) hg,←Array.getElem?_toList]
   rw[List.getElem?_take] at a1
   split at a1
   ·exact a1
   ·cases a1
  ·rw[cell_of_row w g _ _ _ (0,0) hg,←Array.getElem?_toList]
   rw[List.getElem?_take] at a2
   split at a2
   ·exact a2
   ·cases a2
def ftR (R:List (List Fr)):List Fr:=R.flatten
theorem ftR_more {R:List (List Fr)} {i:Nat} (h:i<R.length):ftR (R.take (i+1))=ftR (R.take i)++R[i]:=by
 rw[List.take_succ_eq_append_getElem h,ftR,List.flatten_append]
 simp[ftR]
theorem ftR_len {R:List (List Fr)} (h:∀r∈R,r.length≤4):(ftR R).length≤4*R.length:=by
 induction R with
 |nil=>simp[ftR]
 |cons r R ih=>
  have h1:=ih fun x hx=>h x (List.mem_cons_of_mem _ hx)
  have h2:=h r List.mem_cons_self
  have e:ftR (r::R)=r++ftR R:=by simp[ftR]
  rw[e,List.length_append,List.length_cons]
  omega
theorem cnF_ftR (R:List (List Fr)):cnF (ftR R)=cnR R:=by simp[cnF,ftR,cnR,List.map_flatten];rfl
set_option maxRecDepth 100000 in
set_option maxHeartbeats 800000 in
theorem slConcatFU_any (a:Option Addr) (ca:Nat) (R:List (List Fr)) (w:World) (h:FsS w a R) (hk:Few4 R) (h1:∀r∈R,1≤r.length):
  Calls Tryz.prog 92 #[.slice a R.length ca] w fun e w'=>∃v,e=.returned v∧RwF w' w.heap.size v (ftR R)∧Below w.heap.size w w':=by
 obtain⟨n,hn⟩:∃n,R.length=n:=⟨_,rfl⟩
 have hn4:n≤4:=hn▸hk.l
 have one:∀i,i<n→∃(g o g' o' c:Nat) (l:List Fr),a=some ⟨g,o,none⟩∧g<w.heap.size∧w.cell? ⟨g,o+i,none⟩=some (.slice (some ⟨g',o',none⟩) l.length c)∧FrS w (some ⟨g',o',none⟩) l∧l.length≤4∧ftR (R.take (i+1))=ftR (R.take i)++l:=by
  intro i hi
  have hi':i<R.length:=by omega
  obtain⟨g,o,b,c,e,hg,hc,hf⟩:=h.raw' hi'
  have hm:=List.getElem_mem hi'
  have h1':=h1 _ hm
  obtain⟨g',o',e',_⟩:=hf 0 h1'
  subst e'
  exact⟨g,o,g',o',c,R[i],e,hg,hc,hf,hk.r _ hm,ftR_more hi'⟩
 have HONE:=hid one
 have HFL:Hid (∀i,(ftR (R.take i)).length≤16):=fun i=>by
  have h1:=ftR_len (R:=R.take i) fun x hx=>hk.r x (List.mem_of_mem_take hx)
  rw[List.length_take] at h1
  omega
 have h2:ftR R=ftR (R.take n):=by rw[←hn,List.take_length]
 rw[h2,hn]
 have hz:ftR (R.take 0)=[]:=by simp[ftR]
 clear one h hk h1 hn h2
 obtain⟨F,hF⟩:∃F:Nat→List Fr,F=fun i=>ftR (R.take i):=⟨_,rfl⟩
 have e0:∀i,ftR (R.take i)=F i:=fun i=>by rw[hF]
 simp only[e0] at HONE HFL hz⊢
 clear e0 hF
 go_enter Tryz.func92,Tryz.ntmps92
 go_wp2_with fail
 go_loopw [3,11] (fun sv iv wr=>∃i:Nat,i≤n∧iv=.int .i64 i∧sv=.int .i64 ((F i).length:Nat)∧Hid (Below w.heap.size w wr)) (fun _ iv _=>n - (intOf iv).toNat)
 case atStart=>exact⟨0,by omega,rfl,by rw[hz];rfl,Below.refl _ _⟩
 case round=>
  obtain⟨i,hi,rfl,rfl,HW⟩:=hrel
  by_cases hlt:i<n
  ·obtain⟨g,o,g',o',c,l,rfl,hg,hc,hI,hl,hf⟩:=HONE.out i hlt
   have hcw:=(HW.out.cell (p:=⟨g,o+i,none⟩) hg).trans hc
   have hfl:=HFL.out i
   have hw1:IntKind.i64.wrap (((F i).length:Int)+(l.length:Int))=((F i).length:Int)+(l.length:Int):=by rw[IntKind.wrap_i64];omega
   have HE:Hid (((F (i+1)).length:Int)=((F i).length:Int)+(l.length:Int)):=by show _=_;rw[hf,List.length_append];exact Int.natCast_add _ _
   have hnn:(0:Int)≤((F i).length:Int)+(l.length:Int):=by omega
   clear hf hc hI
   go_wp2
   go_roundw
   case rel=>exact⟨i+1,by omega,by go_num,by rw[HE.out],HW⟩
   case measure=>simp[intOf];omega
  ·obtain rfl:i=n:=by omega
   have hfl:=HFL.out i
   go_wp2_with fail
   refine(slGrowFU_nil (F i).length (by omega) _).mono ?_
   rintro e w1 ⟨v1,rfl,hr1,hb1⟩
   have HB1:=hid (HW.out.trans (hb1.mono HW.out.size))
   have HR:=hid (hr1.lower HW.out.size)
   clear hr1 hb1
   rw[←hz] at HR
   go_wp2_with fail
   go_loopw [6,27] (fun lv kv wr=>∃k:Nat,k≤i∧kv=.int .i64 k∧Hid (RwF wr w.heap.size lv (F k))∧Hid (Below w.heap.size w wr)) (fun _ kv _=>i - (intOf kv).toNat)
   case atStart=>exact⟨0,by omega,rfl,HR,HB1⟩
   case round=>
    clear HR HB1 HW
    obtain⟨k,hk,rfl,HR,HW⟩:=hrel
    by_cases hlt2:k<i
    ·obtain⟨g,o,g',o',c,l,rfl,hg,hc,hI,hl,hf⟩:=HONE.out k hlt2
     have hcw:=(HW.out.cell (p:=⟨g,o+k,none⟩) hg).trans hc
     have hfl:=HFL.out k
     have HI:=hid (hI.below HW.out)
     have HF:=hid hf
     clear hf hc hI
     go_wp2_with (at_builtin;refine wpList_append_frs rfl _ _ rfl w.heap.size _ (F k) l rfl HR.out g' o' c rfl HI.out (by omega) HW.out.size ?_;intro v3 w3 hr3 hg3;have HR3:Hid (RwF w3 w.heap.size v3 (F (k+1))):=(by rw[HF.out];exact hr3);have HB3:=hid (HW.out.grown hg3 HW.out.size (fun x e=>HR.out.own x e));clear hr3 hg3)
     go_roundw
     case rel=>exact⟨k+1,by omega,by go_num,HR3,HB3⟩
     case measure=>simp[intOf];omega
    ·obtain rfl:k=i:=by omega
     go_wp2
     go_ret
     exact⟨_,rfl,HR.out,HW.out⟩
theorem numbered_any (c:UInt8) (i:Nat) (hi:i<10) (w:World):
  Calls Tryz.prog 58 #[.string ⟨#[c]⟩,.int .i64 (i:Nat)] w fun e w'=>e=.returned (.string (nmB c i))∧w'=w:=by
 have HT:=hid (fun U:World=>Tryz.strconv_Itoa_small i (by omega) U)
 have hdz:(⟨(Lib.decDigits i).toArray⟩:ByteArray).size=1:=dgB_size hi
 go_enter Tryz.func58,Tryz.ntmps58
 go_wp2_with fail
 refine(HT.out _).mono ?_
 rintro e w1 ⟨rfl,rfl⟩
 go_wp2
 go_ret
 exact⟨rfl,rfl⟩
end Go.Proofs.YtgamblainfkiaaaGreatDoor

/- Unroll: what the net is, and a net under way. -/
namespace Go.Proofs.YtgamblainfkiaaaGreatDoor
open Go.RowKit Go.Shelf Go.Lib
def uV (n m:Nat):Nat→List Vr
 |0=>[]
 |t+1=>uV n m t++[(nmB 115 t,valsN n),(nmB 111 t,valsN m)]
def uL:Nat→List (List Int)
 |0=>[]
 |t+1=>uL t++[if t=0 then[] else[2*(t:Int) - 2],[2*(t:Int)]]
def uR (l:List Fr) (R1 R2:List (List Fr)):Nat→List (List Fr)
 |0=>[]
 |t+1=>uR l R1 R2 t++[if t=0 then cnR [l] else cnR R1,cnR R2]
theorem uV_length (n m:Nat):∀t,(uV n m t).length=2*t
 |0=>rfl
 |t+1=>by rw[uV,List.length_append,uV_length n m t];simp;omega
theorem uL_length:∀t,(uL t).length=2*t
 |0=>rfl
 |t+1=>by rw[uL,List.length_append,uL_length t];simp;omega
theorem uR_length (l:List Fr) (R1 R2:List (List Fr)):∀t,(uR l R1 R2 t).length=2*t
 |0=>rfl
 |t+1=>by rw[uR,List.length_append,uR_length l R1 R2 t];simp;omega
theorem vC_app (P:List PV):∀l,vC (l++P)=vC l++vC P
 |[]=>rfl
 |q::l=>by
  show Value.string q.1::q.2.1::vC (l++P)=_
  rw[vC_app P l]
  rfl
structure US (w W:World) (G:Nat) (s e t:Value) (x y z:Value) (Vs:List PV) (Ls:List PL) (Rs:List PR):Prop where
 hb:HBox W w.heap.size s e t
 res:NBox W (w.heap.size+1) (.slice none 0 0) (.slice none 0 0) (.slice none 0 0)
 box:NBox W (G) x y z
 vs:OwV W w.heap.size x Vs
 ls:OwL W w.heap.size y Ls
 rs:OwR W w.heap.size z Rs
 bel:Below w.heap.size w W
 hG:w.heap.size+2≤G
theorem US.step {w W W':World} {G:Nat} {s e t x y z:Value} {Vs:List PV} {Ls:List PL} {Rs:List PR} (h:US w W G s e t x y z Vs Ls Rs) (hb:Below W.heap.size W W'):US w W' G s e t x y z Vs Ls Rs:=
 ⟨h.hb.below hb h.hb.lt,h.res.below hb h.res.lt,h.box.below hb h.box.lt,h.vs.keep (.below hb) (.below hb),h.ls.keep (.below hb) (.below hb),h.rs.keep (.below hb) (.below hb),h.bel.trans (hb.mono h.bel.size),h.hG⟩
theorem US.drew {w W:World} {G:Nat} {s e t x y z:Value} {Vs:List PV} {Ls:List PL} {Rs:List PR} (h:US w W G s e t x y z Vs Ls Rs):US w W.drew G s e t x y z Vs Ls Rs:=h.step ((Below.refl _ _).drew)
theorem lowG {w W W':World} {v:Value} {n:Nat} {tt:TypeId} {sz0:Nat} {xs:List Value} (hb:Below w.heap.size w W) (ho:W.ownsRow w.heap.size tt sz0 v n xs) (hg:W.grownBy W' v.ownBlock):Below w.heap.size w W':=hb.grown hg hb.size (fun k e=>owns_from ho k e)
theorem US.pushV {w W W':World} {G:Nat} {s e t x y z:Value} {Vs:List PV} {Ls:List PL} {Rs:List PR} (h:US w W G s e t x y z Vs Ls Rs) {v':Value} (P:List PV) (hr:W'.ownsRow w.heap.size 85 2 v' (Vs.length+P.length) (vC Vs++vC P)) (hg:W.grownBy W' x.ownBlock) (hq:∀p∈P,RwS W w.heap.size p.2.1 p.2.2):
  NBox W' (G) x y z∧US w (W'.setCell ⟨G,0,none⟩ v') G s e t v' y z (Vs++P) Ls Rs:=by
 have kk:∀tt:TypeId,tt≠85→KeepT tt W W':=fun tt hne=>KeepT.grown hg (owns_typed h.vs.1) hne
 have hbox:NBox W' (G) x y z:=kk 44 (by decide) _ _ _ h.box
 have ks:∀tt:TypeId,tt≠44→KeepT tt W' (W'.setCell ⟨G,0,none⟩ v'):=fun tt hne=>KeepT.set hbox hne 0 v'
 refine⟨hbox,?_,?_,hbox.set0 v',⟨?_,?_⟩,?_,?_,?_,h.hG⟩
 ·exact ks 25 (by decide) _ _ _ (kk 25 (by decide) _ _ _ h.hb)
 ·exact(Below.heap_setCell W' ⟨G,0,none⟩ v' (w.heap.size+1) (by have:=h.hG;show w.heap.size+1≠G;omega)).trans (kk 44 (by decide) _ _ _ h.res)
 ·rw[vC_app,List.length_append]
  exact owns_keep hr (ks 85 (by decide))
 ·intro p hp
  have hk:=(kk 9 (by decide)).trans (ks 9 (by decide))
  rcases List.mem_append.1 hp with hp |hp
  ·exact owns_keep (h.vs.2 p hp) hk
  ·exact owns_keep (hq p hp) hk
 ·exact h.ls.keep ((kk _ (by decide)).trans (ks _ (by decide))) ((kk _ (by decide)).trans (ks _ (by decide)))
 ·exact h.rs.keep ((kk _ (by decide)).trans (ks _ (by decide))) ((kk _ (by decide)).trans (ks _ (by decide)))
 ·exact(lowG h.bel h.vs.1 hg).setCell (p:=⟨G,0,none⟩) (by have:=h.hG;show w.heap.size≤G;omega) _
theorem US.pushL {w W W':World} {G:Nat} {s e t x y z:Value} {Vs:List PV} {Ls:List PL} {Rs:List PR} (h:US w W G s e t x y z Vs Ls Rs) {v':Value} (P:List PL) (hr:W'.ownsRow w.heap.size 26 1 v' (Ls.length+P.length) (Ls.map (·.1)++P.map (·.1))) (hg:W.grownBy W' y.ownBlock) (hq:∀p∈P,RwI W w.heap.size p.1 p.2):
  NBox W' (G) x y z∧US w (W'.setCell ⟨G,1,none⟩ v') G s e t x v' z Vs (Ls++P) Rs:=by
 have kk:∀tt:TypeId,tt≠26→KeepT tt W W':=fun tt hne=>KeepT.grown hg (owns_typed h.ls.1) hne
 have hbox:NBox W' (G) x y z:=kk 44 (by decide) _ _ _ h.box
 have ks:∀tt:TypeId,tt≠44→KeepT tt W' (W'.setCell ⟨G,1,none⟩ v'):=fun tt hne=>KeepT.set hbox hne 1 v'
 refine⟨hbox,?_,?_,hbox.set1 v',?_,⟨?_,?_⟩,?_,?_,h.hG⟩
 ·exact ks 25 (by decide) _ _ _ (kk 25 (by decide) _ _ _ h.hb)
 ·exact(Below.heap_setCell W' ⟨G,1,none⟩ v' (w.heap.size+1) (by have:=h.hG;show w.heap.size+1≠G;omega)).trans (kk 44 (by decide) _ _ _ h.res)
 ·exact h.vs.keep ((kk _ (by decide)).trans (ks _ (by decide))) ((kk _ (by decide)).trans (ks _ (by decide)))
 ·rw[List.map_append,List.length_append]
  exact owns_keep hr (ks 26 (by decide))
 ·intro p hp
  have hk:=(kk 3 (by decide)).trans (ks 3 (by decide))
  rcases List.mem_append.1 hp with hp |hp
  ·exact owns_keep (h.ls.2 p hp) hk
  ·exact owns_keep (hq p hp) hk
 ·exact h.rs.keep ((kk _ (by decide)).trans (ks _ (by decide))) ((kk _ (by decide)).trans (ks _ (by decide)))
 ·exact(lowG h.bel h.ls.1 hg).setCell (p:=⟨G,1,none⟩) (by have:=h.hG;show w.heap.size≤G;omega) _
theorem US.pushR {w W W':World} {G:Nat} {s e t x y z:Value} {Vs:List PV} {Ls:List PL} {Rs:List PR} (h:US w W G s e t x y z Vs Ls Rs) {v':Value} (P:List PR) (hr:W'.ownsRow w.heap.size 22 1 v' (Rs.length+P.length) (Rs.map (·.1)++P.map (·.1))) (hg:W.grownBy W' z.ownBlock) (hq:∀p∈P,RwF W w.heap.size p.1 p.2):
  NBox W' (G) x y z∧US w (W'.setCell ⟨G,2,none⟩ v') G s e t x y v' Vs Ls (Rs++P):=by
 have kk:∀tt:TypeId,tt≠22→KeepT tt W W':=fun tt hne=>KeepT.grown hg (owns_typed h.rs.1) hne
 have hbox:NBox W' (G) x y z:=kk 44 (by decide) _ _ _ h.box
 have ks:∀tt:TypeId,tt≠44→KeepT tt W' (W'.setCell ⟨G,2,none⟩ v'):=fun tt hne=>KeepT.set hbox hne 2 v'
 refine⟨hbox,?_,?_,hbox.set2 v',?_,?_,⟨?_,?_⟩,?_,h.hG⟩
 ·exact ks 25 (by decide) _ _ _ (kk 25 (by decide) _ _ _ h.hb)
 ·exact(Below.heap_setCell W' ⟨G,2,none⟩ v' (w.heap.size+1) (by have:=h.hG;show w.heap.size+1≠G;omega)).trans (kk 44 (by decide) _ _ _ h.res)
 ·exact h.vs.keep ((kk _ (by decide)).trans (ks _ (by decide))) ((kk _ (by decide)).trans (ks _ (by decide)))
 ·exact h.ls.keep ((kk _ (by decide)).trans (ks _ (by decide))) ((kk _ (by decide)).trans (ks _ (by decide)))
 ·rw[List.map_append,List.length_append]
  exact owns_keep hr (ks 22 (by decide))
 ·intro p hp
  have hk:=(kk 30 (by decide)).trans (ks 30 (by decide))
  rcases List.mem_append.1 hp with hp |hp
  ·exact owns_keep (h.rs.2 p hp) hk
  ·exact owns_keep (hq p hp) hk
 ·exact(lowG h.bel h.rs.1 hg).setCell (p:=⟨G,2,none⟩) (by have:=h.hG;show w.heap.size≤G;omega) _
theorem US.out3 {w W:World} {G:Nat} {s e t x y z:Value} {Vs:List PV} {Ls:List PL} {Rs:List PR} (h:US w W G s e t x y z Vs Ls Rs):
  NBox (((W.setCell ⟨w.heap.size+1,0,none⟩ x).setCell ⟨w.heap.size+1,1,none⟩ y).setCell ⟨w.heap.size+1,2,none⟩ z) (w.heap.size+1) x y z∧OwV (((W.setCell ⟨w.heap.size+1,0,none⟩ x).setCell ⟨w.heap.size+1,1,none⟩ y).setCell ⟨w.heap.size+1,2,none⟩ z) w.heap.size x Vs∧OwL (((W.setCell ⟨w.heap.size+1,0,none⟩ x).setCell ⟨w.heap.size+1,1,none⟩ y).setCell ⟨w.heap.size+1,2,none⟩ z) w.heap.size y Ls∧OwR (((W.setCell ⟨w.heap.size+1,0,none⟩ x).setCell ⟨w.heap.size+1,1,none⟩ y).setCell ⟨w.heap.size+1,2,none⟩ z) w.heap.size z Rs∧Below w.heap.size w (((W.setCell ⟨w.heap.size+1,0,none⟩ x).setCell ⟨w.heap.size+1,1,none⟩ y).setCell ⟨w.heap.size+1,2,none⟩ z):=by
 have n0:=h.res.set0 x
 have n1:=n0.set1 y
 have n2:=n1.set2 z
 have ks:∀tt:TypeId,tt≠44→KeepT tt W (((W.setCell ⟨w.heap.size+1,0,none⟩ x).setCell ⟨w.heap.size+1,1,none⟩ y).setCell ⟨w.heap.size+1,2,none⟩ z):=fun tt hne=>((KeepT.set h.res hne 0 x).trans (KeepT.set n0 hne 1 y)).trans (KeepT.set n1 hne 2 z)
 refine⟨n2,h.vs.keep (ks _ (by decide)) (ks _ (by decide)),h.ls.keep (ks _ (by decide)) (ks _ (by decide)),h.rs.keep (ks _ (by decide)) (ks _ (by decide)),?_⟩
 exact((h.bel.setCell (p:=⟨w.heap.size+1,0,none⟩) (by show w.heap.size≤w.heap.size+1;omega) _).setCell (p:=⟨w.heap.size+1,1,none⟩) (by show w.heap.size≤w.heap.size+1;omega) _).setCell (p:=⟨w.heap.size+1,2,none⟩) (by show w.heap.size≤w.heap.size+1;omega) _
theorem wpList_append_var2 {w:World} {ops:Array Oper} {rest:List Oper} {o:Oper} {a:Act} {Q:Exit→Act→World→Prop} (hgd:o.guard=none) (s x:Operand)
  (ho:o.op=.call {callee:=.builtin .append,args:= #[s,x],argTypes:= #[41,41]}) (base:Nat) (v:Value) (P:List PV) (p1 p2:PV) (hq1:SlV p1.2.1) (hq2:SlV p2.2.1) (hs:a.eval s=v) (hown:w.ownsRow base 85 2 v P.length (vC P)) (g:Nat) (hx:a.eval x=.slice (some ⟨g,0,none⟩) 2 2) (hg0:w.cell? ⟨g,0,none⟩=some (.string p1.1)) (hg1:w.cell? ⟨g,1,none⟩=some p1.2.1) (hg2:w.cell? ⟨g,2,none⟩=some (.string p2.1)) (hg3:w.cell? ⟨g,3,none⟩=some p2.2.1) (hlen:P.length+2≤100000) (hbase:base≤w.heap.size)
  (h:∀v' w',w'.ownsRow base 85 2 v' (P.length+[p1,p2].length) (vC P++vC [p1,p2])→w.grownBy w' v.ownBlock→wpList Tryz.prog ops Q rest (a.put o.dst v') w'):wpList Tryz.prog ops Q (o::rest) a w:=by
 obtain⟨i0,hi0,hz0,hz1,hz2⟩:=info_parts Tryz.infoVar
 refine wpList_append_own _ hgd s x 41 ho base 85 i0 (.agg #[.string ⟨#[]⟩,.slice none 0 0]) 2 40 Tryz.underlying41 hi0 hz0 hz1 hz2 rfl (by decide) v P.length _ hs hown ⟨g,0,none⟩ 2 2 [.string p1.1,p1.2.1,.string p2.1,p2.2.1] hx rfl ?_ ?_ (by unfold maxLen;omega) (by omega) hbase ?_
 ·intro j u hj
  match j,hj with
  |0,hj=>cases hj;exact hg0
  |1,hj=>cases hj;exact hg1
  |2,hj=>cases hj;exact hg2
  |3,hj=>cases hj;exact hg3
  |j+4,hj=>simp at hj
 ·intro u hu
  simp only[List.mem_cons,List.not_mem_nil,or_false] at hu
  rcases hu with rfl |rfl |rfl |rfl
  ·rfl
  ·obtain⟨_,_,_,e⟩:=hq1
   rw[e]
   rfl
  ·rfl
  ·obtain⟨_,_,_,e⟩:=hq2
   rw[e]
   rfl
 ·intro v' w' h1 h2 _
  exact h v' w' h1 h2
theorem wpList_append_ls2 {w:World} {ops:Array Oper} {rest:List Oper} {o:Oper} {a:Act} {Q:Exit→Act→World→Prop} (hgd:o.guard=none) (s x:Operand)
  (ho:o.op=.call {callee:=.builtin .append,args:= #[s,x],argTypes:= #[42,42]}) (base:Nat) (v:Value) (P:List PL) (p1 p2:PL) (hq1:SlV p1.1) (hq2:SlV p2.1) (hs:a.eval s=v) (hown:w.ownsRow base 26 1 v P.length (P.map (·.1))) (g:Nat) (hx:a.eval x=.slice (some ⟨g,0,none⟩) 2 2) (hg0:w.cell? ⟨g,0,none⟩=some p1.1) (hg1:w.cell? ⟨g,1,none⟩=some p2.1) (hlen:P.length+2≤100000) (hbase:base≤w.heap.size)
  (h:∀v' w',w'.ownsRow base 26 1 v' (P.length+[p1,p2].length) (P.map (·.1)++[p1,p2].map (·.1))→w.grownBy w' v.ownBlock→wpList Tryz.prog ops Q rest (a.put o.dst v') w'):wpList Tryz.prog ops Q (o::rest) a w:=by
 obtain⟨i0,hi0,hz0,hz1,hz2⟩:=info_parts Tryz.infoInts
 refine wpList_append_own _ hgd s x 42 ho base 26 i0 (.slice none 0 0) 1 24 Tryz.underlying42 hi0 hz0 hz1 hz2 rfl (by decide) v P.length _ hs hown ⟨g,0,none⟩ 2 2 [p1.1,p2.1] hx rfl ?_ ?_ (by unfold maxLen;omega) (by omega) hbase ?_
 ·intro j u hj
  match j,hj with
  |0,hj=>cases hj;exact hg0
  |1,hj=>cases hj;exact hg1
  |j+2,hj=>simp at hj
 ·intro u hu
  simp only[List.mem_cons,List.not_mem_nil,or_false] at hu
  rcases hu with rfl |rfl
  ·obtain⟨_,_,_,e⟩:=hq1
   rw[e]
   rfl
  ·obtain⟨_,_,_,e⟩:=hq2
   rw[e]
   rfl
 ·intro v' w' h1 h2 _
  exact h v' w' h1 h2
theorem wp_append_rs2 {w:World} {o:Oper} {a:Act} {K:Act→World→Prop} {Q:Exit→Act→World→Prop} (s x:Operand)
  (ho:o.op=.call {callee:=.builtin .append,args:= #[s,x],argTypes:= #[23,23]}) (base:Nat) (v:Value) (P:List PR) (p1 p2:PR) (hq1:SlV p1.1) (hq2:SlV p2.1) (hs:a.eval s=v) (hown:w.ownsRow base 22 1 v P.length (P.map (·.1))) (g:Nat) (hx:a.eval x=.slice (some ⟨g,0,none⟩) 2 2) (hg0:w.cell? ⟨g,0,none⟩=some p1.1) (hg1:w.cell? ⟨g,1,none⟩=some p2.1) (hlen:P.length+2≤100000) (hbase:base≤w.heap.size)
  (h:∀v' w',w'.ownsRow base 22 1 v' (P.length+[p1,p2].length) (P.map (·.1)++[p1,p2].map (·.1))→w.grownBy w' v.ownBlock→K (a.put o.dst v') w'):o.wp Tryz.prog a w K Q:=by
 obtain⟨i0,hi0,hz0,hz1,hz2⟩:=info_parts Tryz.infoFracs
 refine wp_append_own _ s x 23 ho base 22 i0 (.slice none 0 0) 1 24 Tryz.underlying23 hi0 hz0 hz1 hz2 rfl (by decide) v P.length _ hs hown ⟨g,0,none⟩ 2 2 [p1.1,p2.1] hx rfl ?_ ?_ (by unfold maxLen;omega) (by omega) hbase ?_
 ·intro j u hj
  match j,hj with
  |0,hj=>cases hj;exact hg0
  |1,hj=>cases hj;exact hg1
  |j+2,hj=>simp at hj
 ·intro u hu
  simp only[List.mem_cons,List.not_mem_nil,or_false] at hu
  rcases hu with rfl |rfl
  ·obtain⟨_,_,_,e⟩:=hq1
   rw[e]
   rfl
  ·obtain⟨_,_,_,e⟩:=hq2
   rw[e]
   rfl
 ·intro v' w' h1 h2 _
  exact h v' w' h1 h2
end Go.Proofs.YtgamblainfkiaaaGreatDoor

/- Regions that draw their order: a condition on the world that holds until one operation (a store, say) has come up, and another one behind it. What yields its value under the first may be taken ahead of all, if that operation waits for it. -/
namespace Go.Proofs.YtgamblainfkiaaaGreatDoor
section
variable {P:Program} {ops:Array Oper} {Q:Exit→Act→World→Prop} {md:Region.Mode} {S:Bool→World→Prop} {k:Nat}
def wpU (P:Program) (md:Region.Mode) (ops:Array Oper) (Q:Exit→Act→World→Prop) (S:Bool→World→Prop) (k:Nat):Nat→Array Bool→Act→World→Prop
 |0,l,a,w=>Region.ready md ops l=[]∧Q .normal a w
 |n+1,l,a,w=>(Region.ready md ops l=[]→Q .normal a w)∧∀i∈Region.ready md ops l,wpOp P ops Q i (fun a' w'=>S ((l.setIfInBounds i true).getD k true) w'∧wpU P md ops Q S k n (l.setIfInBounds i true) a' w') a w
theorem wpU_any:∀(n:Nat) (l:Array Bool) (a:Act) (w:World),wpU P md ops Q S k n l a w→wpAny P md ops Q n l a w
 |0,_,_,_,h=>h
 |n+1,_,_,_,h=>⟨h.1,fun i hi=>wpOp_mono (fun a' w' h'=>wpU_any n _ a' w' h'.2) (h.2 i hi)⟩
theorem ready_un {l:Array Bool} {i:Nat} (h:i∈Region.ready md ops l):l.getD i true=false:=(mem_ready.1 h).1
theorem wpU_first {i:Nat} {oi:Oper} {v:Value} (W:Bool→Prop) (hi:ops[i]? =some oi) (hsel:∀(j:Nat) (o:Oper) cs b,ops[j]? =some o→o.op≠.select cs b)
  (hQ:∀c a w,Q (.panic c) (a.put oi.dst v) w→Q (.panic c) a w)
  (hW:∀(l:Array Bool) (j:Nat),i∈Region.ready md ops l→j∈Region.ready md ops l→j≠i→W (l.getD k true)→W ((l.setIfInBounds j true).getD k true)) (hk:k≠i):
  ∀(n:Nat) (l:Array Bool) (a:Act) (w:World),
   (∀j oj,ops[j]? =some oj→j≠i→l.getD j true=false→(∀e∈oj.after,Region.binds md e=true→e.on≠i)→oi.apart ops oj=true)→
   i∈Region.ready md ops l→YieldsIf P ops (fun u=>∃b,W b∧S b u) oi v a→W (l.getD k true)→S (l.getD k true) w→
   wpU P md ops Q S k n (l.setIfInBounds i true) (a.put oi.dst v) w→wpU P md ops Q S k (n+1) l a w:=by
 have hflag:∀l:Array Bool,(l.setIfInBounds i true).getD k true=l.getD k true:=fun l=>getD_set_ne true (Ne.symm hk)
 intro n
 induction n with
 |zero=>
  intro l a w _ hr hy hw hS H
  refine⟨fun h=>(by rw[h] at hr;cases hr),fun j hj=>?_⟩
  by_cases hji:j=i
  ·subst hji
   exact hy.wpOp hi ⟨_,hw,hS⟩ ⟨by rw[hflag];exact hS,H⟩
  ·have:=ready_mono hj hji
   rw[H.1] at this
   cases this
 |succ n ih=>
  intro l a w hfree hr hy hw hS H
  refine⟨fun h=>(by rw[h] at hr;cases hr),fun j hj=>?_⟩
  by_cases hji:j=i
  ·subst hji
   exact hy.wpOp hi ⟨_,hw,hS⟩ ⟨by rw[hflag];exact hS,H⟩
  ·have h1:=H.2 j (ready_mono hj hji)
   obtain⟨hjun,oj,hoj,hall⟩:=mem_ready.1 hj
   have hnot:∀e∈oj.after,Region.binds md e=true→e.on≠i:=fun e he hb heq=>by
    have h1:=hall e he hb
    have h0:=ready_un hr
    rw[heq] at h1
    rcases Nat.lt_or_ge i l.size with h' |h'
    ·simp[h'] at h0 h1;rw[h0] at h1;cases h1
    ·simp[Array.getElem?_eq_none h'] at h1
   have h2:=wpOp_putIf hoj (hfree j oj hoj hji hjun hnot) (fun cs b=>hsel i oi cs b hi) (fun cs b=>hsel j oj cs b hoj) hQ hy h1
   have hfree':∀x ox,ops[x]? =some ox→x≠i→(l.setIfInBounds j true).getD x true=false→(∀e∈ox.after,Region.binds md e=true→e.on≠i)→oi.apart ops ox=true:=fun x ox hx hxi hun hno=>by
    refine hfree x ox hx hxi ?_ hno
    by_cases hjx:j=x
    ·subst hjx;exact hjun
    ·rw[getD_set_ne true hjx] at hun;exact hun
   have hw':=hW l j hr hj hji hw
   have ecomm:(l.setIfInBounds i true).setIfInBounds j true=(l.setIfInBounds j true).setIfInBounds i true:=Array.setIfInBounds_comm _ _ (Ne.symm hji)
   refine wpOp_mono (fun a' w' h3=>?_) h2
   have hS':S ((l.setIfInBounds j true).getD k true) w':=by
    have:=h3.2.1
    rwa [ecomm,getD_set_ne true (Ne.symm hk)] at this
   refine⟨hS',ih (l.setIfInBounds j true) a' w' hfree' (ready_mono hr (Ne.symm hji)) h3.1 hw' hS' ?_⟩
   rw[←ecomm]
   exact h3.2.2
theorem wpU_take {i:Nat} {oi:Oper} {v:Value} {n:Nat} {l:Array Bool} {a:Act} {w:World} (hi:ops[i]? =some oi)
  (hs:Region.noSelect ops=true) (hf:Region.free md ops l i=true) (hr:(Region.ready md ops l).contains i=true) (hk:k≠i)
  (hQ:∀c a w,Q (.panic c) (a.put oi.dst v) w→Q (.panic c) a w) (hy:YieldsIf P ops (fun u=>∃b,S b u) oi v a) {b:Bool} (hb:l.getD k true=b) (hS:S b w)
  (h:wpU P md ops Q S k n (l.setIfInBounds i true) (a.put oi.dst v) w):wpU P md ops Q S k (n+1) l a w:=
 wpU_first (fun _=>True) hi (Region.noSelect_spec hs) hQ (fun _ _ _ _ _ h=>h) hk n l a w (Region.free_spec hi hf) (by simpa using hr) (hy.imp (fun ⟨h1,h2⟩=>⟨h1,fun u ⟨b,_,hu⟩=>h2 u ⟨b,hu⟩⟩) id) trivial (by rw[hb];exact hS) h
theorem wpU_ahead {i:Nat} {oi ok:Oper} {v:Value} {n:Nat} {l:Array Bool} {a:Act} {w:World} (hi:ops[i]? =some oi)
  (hs:Region.noSelect ops=true) (hf:Region.free md ops l i=true) (hr:(Region.ready md ops l).contains i=true) (hk:k≠i)
  (hok:ops[k]? =some ok) (hw:(ok.after.any fun e=>Region.binds md e&&e.on==i)=true)
  (hQ:∀c a w,Q (.panic c) (a.put oi.dst v) w→Q (.panic c) a w) (hy:YieldsIf P ops (S false) oi v a) (hb:l.getD k true=false) (hS:S false w)
  (h:wpU P md ops Q S k n (l.setIfInBounds i true) (a.put oi.dst v) w):wpU P md ops Q S k (n+1) l a w:=by
 refine wpU_first (fun b=>b=false) hi (Region.noSelect_spec hs) hQ (fun l j hri hj hji e=>?_) hk n l a w (Region.free_spec hi hf) (by simpa using hr) (hy.imp (fun ⟨h1,h2⟩=>⟨h1,fun u ⟨b,hb,hu⟩=>h2 u (by subst hb;exact hu)⟩) id) hb (by rw[hb];exact hS) h
 by_cases hjk:j=k
 ·subst hjk
  exfalso
  obtain⟨_,oj,hoj,hall⟩:=mem_ready.1 hj
  rw[hok] at hoj
  cases hoj
  obtain⟨e,he,h2⟩:=Array.any_eq_true'.1 hw
  obtain⟨h3,h4⟩:=Bool.and_eq_true_iff.1 h2
  have h5:=hall e he h3
  have h0:=ready_un hri
  rw[eq_of_beq h4] at h5
  rcases Nat.lt_or_ge i l.size with h' |h'
  ·simp[h'] at h0 h5;rw[h0] at h5;cases h5
  ·simp[Array.getElem?_eq_none h'] at h5
 ·rw[getD_set_ne true hjk]
  exact e
def AllU (P:Program) (md:Region.Mode) (ops:Array Oper) (Q:Exit→Act→World→Prop) (S:Bool→World→Prop) (k n:Nat) (l:Array Bool) (a:Act) (w:World) (rs:List Nat):Prop:=
 ∀i∈rs,wpOp P ops Q i (fun a' w'=>S ((l.setIfInBounds i true).getD k true) w'∧wpU P md ops Q S k n (l.setIfInBounds i true) a' w') a w
theorem AllU.nil {n:Nat} {l:Array Bool} {a:Act} {w:World}:AllU P md ops Q S k n l a w []:=fun _ h=>by cases h
theorem AllU.cons {n:Nat} {l:Array Bool} {a:Act} {w:World} {i:Nat} {o:Oper} {rs:List Nat} {b:Bool} (ho:ops[i]? =some o) (hb:(l.setIfInBounds i true).getD k true=b)
  (h:∀K':Act→World→Prop,Go.Shut (∀a w,S b w→(S b w→wpU P md ops Q S k n (l.setIfInBounds i true) a w)→K' a w)→if Region.wanted o (yielded ops a.tmps)=true then Oper.wp P o a w K' Q else K' (a.put o.dst undef) w)
  (hs:AllU P md ops Q S k n l a w rs):AllU P md ops Q S k n l a w (i::rs):=fun j hj=>by
 rcases List.mem_cons.1 hj with rfl |hj
 ·exact wpOp_step ho (fun K' hK=>h K' (fun a w hS hU=>hK a w ⟨by rw[hb];exact hS,hU hS⟩))
 ·exact hs j hj
theorem wpU_ready {rs:List Nat} {n:Nat} {l:Array Bool} {a:Act} {w:World} (hr:Region.ready md ops l=rs) (hne:rs≠[]) (h:AllU P md ops Q S k n l a w rs):wpU P md ops Q S k (n+1) l a w:=
 ⟨fun h0=>absurd (hr▸h0) hne,hr▸h⟩
theorem wpU_done {l:Array Bool} {a:Act} {w:World} (hr:Region.ready md ops l=[]) (h:Q .normal a w):∀n,wpU P md ops Q S k n l a w
 |0=>⟨hr,h⟩
 |_+1=>⟨fun _=>h,by rw[hr];simp⟩
theorem wp_region_until {id:Nat} {a:Act} {w:World} (k:Nat) (S:Bool→World→Prop) (hm:P.follows .mixedOrders=true) (hS:S false w.drew) (h:S false w.drew→wpU P .any ops Q S k ops.size (Array.replicate ops.size false) a w.drew):(Code.region id ops true).wp P Q a w:=
 wp_region_any hm (wpU_any _ _ _ _ (h hS))
end
end Go.Proofs.YtgamblainfkiaaaGreatDoor
