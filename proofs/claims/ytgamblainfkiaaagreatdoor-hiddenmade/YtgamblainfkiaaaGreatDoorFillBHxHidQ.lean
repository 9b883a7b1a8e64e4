/- Package table: fill. -/
import Derived.Test.YtgamblainfkiaaaGreatDoorRefSHxFillA
import Derived.Test.YtgamblainfkiaaaGreatDoorShelfHx
import Derived.Sort.OwnSortedInts
import Derived.Lib.AppendZerosOnto
import Derived.Laws.AppendOwnNone
import Derived.WalkMore
import Derived.Laws.EntriesVeiled
namespace Go.Proofs.YtgamblainfkiaaaGreatDoor
open Go.RowKit Go.Shelf
def frZ:Fr:=(false,⟨#[]⟩,⟨#[]⟩)
def partF (l:List Fr) (i:Nat):List Fr:=l.take i++List.replicate (l.length - i) frZ
theorem partF_zero (l:List Fr):partF l 0=List.replicate l.length frZ:=by simp[partF]
theorem partF_length (l:List Fr) {i:Nat} (h:i≤l.length):(partF l i).length=l.length:=by simp[partF];omega
theorem partF_all (l:List Fr):partF l l.length=l:=by simp[partF]
theorem partF_set (l:List Fr) {i:Nat} (h:i<l.length):(partF l i).set i l[i]=partF l (i+1):=by
 rw[partF,partF,List.set_append_right _ _ (by simp;omega),List.take_succ_eq_append_getElem h]
 have e:l.length - i=(l.length - (i+1))+1:=by omega
 rw[e,List.replicate_succ,List.length_take,Nat.min_eq_left (by omega),Nat.sub_self,List.set_cons_zero,List.append_assoc]
 rfl
theorem Tryz.infoFrac:(Tryz.prog.info? 30).map (fun i=>(i.zero,i.size,i.bytes))=some (some (.agg #[.bool false,.string ⟨#[]⟩,.string ⟨#[]⟩]),3,40):=by kernel_rfl
theorem RowF.off {w:World} {g:Nat} {l:List Fr} (h:RowF w g l) (b j:Nat) (y:Value) (hne:g≠b):RowF (w.setCell ⟨b,j,none⟩ y) g l:=(Below.heap_setCell w ⟨b,j,none⟩ y g hne).trans h
theorem block_of_own3 {w:World} {base g n:Nat} {t:TypeId} {xs:List Value} (h:w.ownsRow base t 3 (.slice (some ⟨g,0,none⟩) n n) n xs):w.heap[g]? =some (.cells xs.toArray t (0,0)):=by
 rcases h.2 with ⟨h',_⟩ |⟨g',cap',cur,h',_,hg,hnc,_,hsz,htk⟩
 ·cases h'
 ·cases h'
  rw[hg,←htk,List.take_of_length_le (by simp;omega)]
theorem frC_zero_at:∀(n j:Nat),j<3*n→(frC (List.replicate n frZ))[j]? =some (#[Value.bool false,Value.string ⟨#[]⟩,Value.string ⟨#[]⟩][j % 3]!)
 |0,j,h=>by omega
 |n+1,0,_=>rfl
 |n+1,1,_=>rfl
 |n+1,2,_=>rfl
 |n+1,j+3,h=>by
  rw[show (j+3) % 3=j % 3 by omega,List.replicate_succ]
  exact frC_zero_at n j (by omega)
theorem made_frs (n:Nat):(madeCells (Value.agg #[Value.bool false,Value.string ⟨#[]⟩,Value.string ⟨#[]⟩]).cells (n*3)).toList=frC (List.replicate n frZ):=by
 apply List.ext_getElem?
 intro j
 by_cases h:j<3*n
 ·rw[frC_zero_at n j h,madeCells]
  have h':j<n*3:=by omega
  simp[h',Value.cells]
 ·rw[List.getElem?_eq_none (by rw[Array.length_toList,size_madeCells];omega),List.getElem?_eq_none (by rw[frC_length,List.length_replicate];omega)]
end Go.Proofs.YtgamblainfkiaaaGreatDoor

/- What the calls on tables answer, as plain functions of lists. -/
namespace Go.Proofs.YtgamblainfkiaaaGreatDoor
open Go.RowKit Go.Shelf
def qF (q:Rat):Fr:=(sgn q,nu q,de q)
theorem frQ_qF (q:Rat):frQ (qF q)=q:=val_own q
def celF (l:List Fr) (k:Nat):Fr:=l[k]?.getD frZ
theorem celF_eq {l:List Fr} {k:Nat} (h:k<l.length):celF l k=l[k]:=by rw[celF,List.getElem?_eq_getElem h];rfl
def normL (l:List Fr):List Fr:=l.map fun f=>qF (frQ f*(1/fsum l))
end Go.Proofs.YtgamblainfkiaaaGreatDoor

/- How many bytes a list of fractions has; one fraction held against another beside errors. -/
namespace Go.Proofs.YtgamblainfkiaaaGreatDoor
open Go.RowKit
def sw:List Fr→Nat
 |[]=>0
 |f::l=>f.2.1.size+f.2.2.size+sw l
theorem sw_snoc (l:List Fr) (f:Fr):sw (l++[f])=sw l+(f.2.1.size+f.2.2.size):=by
 induction l with
 |nil=>simp[sw]
 |cons g l ih=>simp only[List.cons_append,sw,ih];omega
theorem sw_take {l:List Fr} {k:Nat} (h:k<l.length):sw (l.take (k+1))=sw (l.take k)+(l[k].2.1.size+l[k].2.2.size):=by
 rw[List.take_succ_eq_append_getElem h,sw_snoc]
theorem fw_sw (l:List Fr):fw l=sw l+2*l.length:=by
 induction l with
 |nil=>rfl
 |cons f l ih=>simp only[fw,sw,List.length_cons,ih];omega
set_option maxRecDepth 100000 in
set_option maxHeartbeats 2000000 in
theorem fracBytes_any (a:Option Addr) (cap:Nat) (l:List Fr) (w:World) (h:FrS w a l) (hn:l.length≤140737488355328) (hs:∀f∈l,f.2.1.size≤140737488355328∧f.2.2.size≤140737488355328):
  Calls Tryz.prog 27 #[.slice a l.length cap] w fun e w'=>(∃r:Nat,e=.returned (.int .i64 r)∧r≤1000000000000000∧(r≤4096→r=l.length+sw l))∧Below w.heap.size w w':=by
 have HF:=hide h
 have HS:=hide hs
 clear h hs
 have HFIN:Hid (sw (l.take l.length)=sw l):=by show _=_;rw[List.take_length]
 go_enter Tryz.func27,Tryz.ntmps27
 go_wp2_with fail
 go_loopw [3,4] (fun nv iv wr=>∃(k n:Nat),k≤l.length∧iv=.int .i64 k∧nv=.int .i64 n∧n≤1000000000000000∧Hid (n=l.length+sw (l.take k))∧Below w.heap.size w wr) (fun _ iv _=>l.length - (intOf iv).toNat)
 case atStart=>exact⟨0,l.length,Nat.zero_le _,rfl,rfl,by omega,(show _=_ by simp[sw]),Below.refl _ _⟩
 case round=>
  obtain⟨k,n,hk,rfl,rfl,hn1,HN,hBr⟩:=hrel
  by_cases hlt:k<l.length
  ·by_cases hsm:n≤4096
   ·obtain⟨g,o,rfl,hg,c0,c1,c2⟩:=(HF.out.below hBr) k hlt
    obtain⟨s1,s2⟩:=HS.out l[k] (List.getElem_mem hlt)
    have HN2:Hid (n+l[k].2.1.size+l[k].2.2.size=l.length+sw (l.take (k+1))):=by show _=_;rw[HN.out,sw_take hlt];omega
    clear HN
    generalize l[k].1=fn at *
    generalize l[k].2.1=fx at *
    generalize l[k].2.2=fy at *
    go_wp2_with fail
    go_quiet (fail)
    go_wp2
    go_roundw
    case rel=>exact⟨k+1,n+fx.size+fy.size,by omega,by go_num,by go_num,by omega,HN2.out,below_drewN hBr _⟩
    case measure=>simp[intOf];omega
   ·go_wp2
    go_ret
    exact⟨⟨n,rfl,hn1,fun h=>absurd h hsm⟩,hBr⟩
  ·obtain rfl:k=l.length:=by omega
   go_wp2
   all_goals
    go_ret
    exact⟨⟨n,rfl,hn1,fun _=>by rw[HN.out,HFIN.out]⟩,hBr⟩
end Go.Proofs.YtgamblainfkiaaaGreatDoor

/- Package table: what Best holds, and its join. -/
namespace Go.Proofs.YtgamblainfkiaaaGreatDoor
open Go.RowKit Go.Shelf
theorem results_tmp_cell_tmp {w:World} {g:Nat} {neg:Bool} {num den:ByteArray} (h:Box w g neg num den) {fn:Func} {t p u:Tmp} (hr:fn.results= #[.tmp t,.cell p 30,.tmp u]) (tmps:Array Value) (hp:tmps.getD p undef=.pointer (some ⟨g,0,none⟩)):
  (results fn tmps).run Tryz.prog w=.ok (.tuple #[tmps.getD t undef,.agg #[.bool neg,.string num,.string den],tmps.getD u undef]) w:=by
 have hp':tmps[p]?.getD undef=.pointer (some ⟨g,0,none⟩):=by simpa using hp
 simp[results,hr,hp',asAddr,run_loadVar_row w g _ 30 _ _ _ h Tryz.underlying30 rfl (by kernel_rfl)]
end Go.Proofs.YtgamblainfkiaaaGreatDoor

/- Lists of ints: clones, what is in them, lists without one. -/
namespace Go.Proofs.YtgamblainfkiaaaGreatDoor
open Go.RowKit Go.Shelf Go.Sort Go.Lib
def RwI (w:World) (B:Nat) (v:Value) (l:List Int):Prop:=w.ownsRow B 3 1 v l.length (l.map (Value.int .i64))
theorem RwI.cases {w:World} {B:Nat} {v:Value} {l:List Int} (h:RwI w B v l):(v=.slice none 0 0∧l=[])∨∃g cap,v=.slice (some ⟨g,0,none⟩) l.length cap∧B≤g∧g<w.heap.size∧l.length≤cap∧cap≤maxLen∧Holds (Value.int .i64) w g 0 l.toArray:=by
 rcases h.2 with ⟨h1,h2⟩ |⟨g,cap,cur,h1,h2,h3,h4,h5,h6,h7⟩
 ·exact .inl ⟨h1,List.length_eq_zero_iff.1 h2⟩
 ·refine .inr ⟨g,cap,h1,h2,(Array.getElem?_eq_some_iff.1 h3).1,h4,h5,fun j hj=>?_⟩
  have hj':j<l.length:=by simpa using hj
  refine⟨?_,frozen_of_row w g _ _ _ h3⟩
  rw[Nat.zero_add,cell_of_row w g j _ _ (0,0) h3]
  have e:cur[j]? =(cur.toList.take (l.length*1))[j]?:=by
   rw[List.getElem?_take,if_pos (by omega),Array.getElem?_toList]
  rw[e,h7,List.getElem?_map,List.getElem?_eq_getElem hj']
  simp[hj']
theorem holds_ints {w:World} {g:Nat} {d:Array Int} {l:List Int} (h:Holds (Value.int .i64) w g 0 d) (hg:g<w.heap.size) (hl:∀j (hj:j<l.length),∃hd:j<d.size,d[j]=l[j]):IntS w (some ⟨g,0,none⟩) l:=fun k hk=>by
 obtain⟨hd,e⟩:=hl k hk
 refine⟨g,0,rfl,hg,?_⟩
 have:=(h k hd).1
 rw[getElem!_pos d k hd,e] at this
 exact this
theorem RwI.ints {w:World} {B:Nat} {v:Value} {l:List Int} (h:RwI w B v l):∃d cd,v=.slice d l.length cd∧IntS w d l:=by
 rcases h.cases with ⟨rfl,rfl⟩ |⟨g,cap,rfl,_,hg,_,_,hh⟩
 ·exact⟨none,0,rfl,fun k hk=>absurd hk (by simp)⟩
 ·exact⟨_,_,rfl,holds_ints hh hg fun j hj=>⟨by simpa using hj,by simp⟩⟩
end Go.Proofs.YtgamblainfkiaaaGreatDoor

/- Tables as answers. -/
namespace Go.Proofs.YtgamblainfkiaaaGreatDoor
open Go.RowKit Go.Shelf
def SlV (v:Value):Prop:=∃a n c,v=Value.slice a n c
end Go.Proofs.YtgamblainfkiaaaGreatDoor

/- Lists of ints: slices.Grow of nothing, slices.Concat of two. -/
namespace Go.Proofs.YtgamblainfkiaaaGreatDoor
open Go.RowKit Go.Shelf
theorem wpList_append_ints {w:World} {ops:Array Oper} {rest:List Oper} {o:Oper} {a:Act} {Q:Exit→Act→World→Prop} (hgd:o.guard=none) (s x:Operand)
  (ho:o.op=.call {callee:=.builtin .append,args:= #[s,x],argTypes:= #[26,26]}) (base:Nat) (v:Value) (xs la:List Int) (hs:a.eval s=v) (hown:RwI w base v xs) (p:Option Addr) (ca:Nat) (hx:a.eval x=.slice p la.length ca) (hi:IntS w p la) (hp:p=none→ca=0) (hlen:xs.length+la.length≤100000) (hbase:base≤w.heap.size)
  (h:∀v' w',RwI w' base v' (xs++la)→w.grownBy w' v.ownBlock→wpList Tryz.prog ops Q rest (a.put o.dst v') w'):wpList Tryz.prog ops Q (o::rest) a w:=by
 obtain⟨i0,hi0,hz0,hz1,hz2⟩:=info_parts Tryz.infoInt
 cases p with
 |none=>
  have hl:la=[]:=by
   cases la with
   |nil=>rfl
   |cons x l=>obtain⟨g,o,e,_⟩:=hi 0 (by simp);cases e
  subst hl
  have h0:=hp rfl
  subst h0
  have h1:=h v w (by rw[List.append_nil];exact hown) ⟨rfl,rfl,rfl,Nat.le_refl _,fun _ _ _=>rfl⟩
  exact wpList_append_own_none hgd s x 26 ho base 3 i0 1 Tryz.underlying26 hi0 v xs.length _ hs hown hx h1
 |some ad=>
  refine wpList_append_own _ hgd s x 26 ho base 3 i0 (.int .i64 0) 1 8 Tryz.underlying26 hi0 hz0 hz1 hz2 rfl (by decide) v xs.length _ hs hown ad la.length ca (la.map (Value.int .i64)) hx (by simp) ?_ ?_ (by unfold maxLen;omega) (by omega) hbase ?_
  ·intro j u hj
   rw[List.getElem?_map] at hj
   cases hq:la[j]? with
   |none=>rw[hq] at hj;cases hj
   |some z=>
    rw[hq] at hj
    cases hj
    obtain⟨hj1,hj2⟩:=List.getElem?_eq_some_iff.1 hq
    obtain⟨g,o',e,_,hc⟩:=hi j hj1
    cases e
    rw[←hj2]
    rw[Addr.add]
    by_cases h0:j=0
    ·subst h0;simpa using hc
    ·simpa [h0] using hc
  ·intro u hu
   obtain⟨z,_,rfl⟩:=List.mem_map.1 hu
   rfl
  ·intro v' w' h1 h2 _
   refine h v' w' ?_ h2
   rw[RwI,List.length_append,List.map_append]
   exact h1
theorem RwI.own {w:World} {B:Nat} {v:Value} {l:List Int} (h:RwI w B v l):∀k,v.ownBlock=some k→B≤k:=by
 intro k hk
 rcases h.2 with ⟨rfl,_⟩ |⟨g,cap,cur,rfl,h2,_⟩
 ·cases hk
 ·cases hk
  exact h2
end Go.Proofs.YtgamblainfkiaaaGreatDoor

/- Package graph: order, read, Check. -/
namespace Go.Proofs.YtgamblainfkiaaaGreatDoor
open Go.RowKit Go.Shelf
theorem one_int (w:World) (u:Int):IntS (w.alloc (.cells #[.int .i64 u] 3)) (some ⟨w.heap.size,0,none⟩) [u]:=fun k hk=>by
 obtain rfl:k=0:=by simp at hk;omega
 exact⟨w.heap.size,0,rfl,by simp,(Boxed.new w _ _).cell⟩
end Go.Proofs.YtgamblainfkiaaaGreatDoor

/- Nets in memory; their sizes and names. -/
namespace Go.Proofs.YtgamblainfkiaaaGreatDoor
open Go.RowKit Go.Shelf
abbrev Vr:Type:=ByteArray×List ByteArray
def VsS (w:World) (a:Option Addr) (V:List Vr):Prop:=∀k (h:k<V.length),∃g o b c,a=some ⟨g,o,none⟩∧g<w.heap.size∧w.cell? ⟨g,o+k*2,none⟩=some (.string V[k].1)∧w.cell? ⟨g,o+k*2+1,none⟩=some (.slice b V[k].2.length c)∧StS w b V[k].2∧V[k].2.length≤c
theorem VsS.below {w w':World} {a:Option Addr} {V:List Vr} (h:VsS w a V) (hb:Below w.heap.size w w'):VsS w' a V:=fun k hk=>by
 obtain⟨g,o,b,c,h1,h2,h3,h4,h5,h6⟩:=h k hk
 exact⟨g,o,b,c,h1,Nat.lt_of_lt_of_le h2 hb.size,(hb.cell (p:=⟨g,o+k*2,none⟩) h2).trans h3,(hb.cell (p:=⟨g,o+k*2+1,none⟩) h2).trans h4,h5.below hb,h6⟩
abbrev NC (x y z:Value):Obj:=.cells #[x,y,z] 44
def NBox (w:World) (g:Nat) (x y z:Value):Prop:=w.heap[g]? =some (.cells #[x,y,z] 44 (0,0))
theorem NBox.at {w:World} {g:Nat} (hg:w.heap.size=g) (x y z:Value):NBox (w.alloc (NC x y z)) g x y z:=by subst hg;exact heap_alloc_new w _
theorem NBox.lt {w:World} {g:Nat} {x y z:Value} (h:NBox w g x y z):g<w.heap.size:=(Array.getElem?_eq_some_iff.1 h).1
theorem NBox.below {w w':World} {g b:Nat} {x y z:Value} (h:NBox w g x y z) (hb:Below b w w') (hg:g<b):NBox w' g x y z:=(hb.block g hg).trans h
theorem NBox.cells {w:World} {g:Nat} {x y z:Value} (h:NBox w g x y z):w.cell? ⟨g,0,none⟩=some x∧w.cell? ⟨g,1,none⟩=some y∧w.cell? ⟨g,2,none⟩=some z:=by
 refine⟨?_,?_,?_⟩<;>(rw[cell_of_row w g _ _ _ (0,0) h];rfl)
def sizesN (V:List Vr):List Nat:=V.map fun x=>x.2.length
end Go.Proofs.YtgamblainfkiaaaGreatDoor

/- Nets: the answer's Sizes; namesOf, checkVars. -/
namespace Go.Proofs.YtgamblainfkiaaaGreatDoor
open Go.RowKit Go.Shelf
theorem Tryz.infoStr:(Tryz.prog.info? 9).map (fun i=>(i.zero,i.size,i.bytes))=some (some (.string ⟨#[]⟩),1,16):=by kernel_rfl
end Go.Proofs.YtgamblainfkiaaaGreatDoor

/- The document's answer: tables that grow cell by cell. -/
namespace Go.Proofs.YtgamblainfkiaaaGreatDoor
open Go.RowKit Go.Shelf
def RwF (w:World) (B:Nat) (v:Value) (l:List Fr):Prop:=w.ownsRow B 30 3 v l.length (frC l)
theorem RwF.empty (w:World) (B:Nat):RwF w B (.slice none 0 0) []:=⟨rfl,.inl ⟨rfl,rfl⟩⟩
theorem RwF.below {w w':World} {B:Nat} {v:Value} {l:List Fr} (h:RwF w B v l) (hb:Below w.heap.size w w'):RwF w' B v l:=by
 refine⟨h.1,h.2.imp id ?_⟩
 rintro⟨g,cap,cur,h1,h2,h3,h4⟩
 exact⟨g,cap,cur,h1,h2,(hb.block g (Array.getElem?_eq_some_iff.1 h3).1).trans h3,h4⟩
theorem RwF.off {w:World} {B:Nat} {v:Value} {l:List Fr} (h:RwF w B v l) (b j:Nat) (y:Value) (hb:b<B):RwF (w.setCell ⟨b,j,none⟩ y) B v l:=by
 refine⟨h.1,h.2.imp id ?_⟩
 rintro⟨g,cap,cur,h1,h2,h3,h4⟩
 exact⟨g,cap,cur,h1,h2,(Below.heap_setCell w ⟨b,j,none⟩ y g (by show g≠b;omega)).trans h3,h4⟩
theorem RwF.own {w:World} {B:Nat} {v:Value} {l:List Fr} (h:RwF w B v l):∀k,v.ownBlock=some k→B≤k:=by
 intro k hk
 rcases h.2 with ⟨rfl,_⟩ |⟨g,cap,cur,rfl,h2,_⟩
 ·cases hk
 ·cases hk
  exact h2
theorem RwF.fr {w:World} {B:Nat} {v:Value} {l:List Fr} (h:RwF w B v l):∃d cd,v=.slice d l.length cd∧FrS w d l:=by
 rcases h.2 with ⟨h1,h2⟩ |⟨g,cap,cur,h1,h2,h3,h4,h5,h6,h7⟩
 ·have:l=[]:=List.length_eq_zero_iff.1 h2
  subst this
  exact⟨none,0,h1,fun k hk=>absurd hk (by simp)⟩
 ·refine⟨_,_,h1,fun k hk=>?_⟩
  obtain⟨e1,e2,e3⟩:=frC_get l k hk
  have at_:∀j,j<l.length*3→cur[j]? =(frC l)[j]?:=fun j hj=>by
   rw[←h7,List.getElem?_take,if_pos hj,Array.getElem?_toList]
  refine⟨g,0,rfl,(Array.getElem?_eq_some_iff.1 h3).1,?_,?_,?_⟩
  ·rw[cell_of_row w g _ _ _ (0,0) h3,Nat.zero_add,at_ _ (by omega)];exact e1
  ·rw[cell_of_row w g _ _ _ (0,0) h3,Nat.zero_add,at_ _ (by omega)];exact e2
  ·rw[cell_of_row w g _ _ _ (0,0) h3,Nat.zero_add,at_ _ (by omega)];exact e3
theorem RwF.slv {w:World} {B:Nat} {v:Value} {l:List Fr} (h:RwF w B v l):SlV v:=by
 obtain⟨d,cd,e,_⟩:=h.fr
 exact⟨d,_,cd,e⟩
theorem frC_snoc (l:List Fr) (f:Fr):frC (l++[f])=frC l++[.bool f.1,.string f.2.1,.string f.2.2]:=by
 induction l with
 |nil=>rfl
 |cons x l ih=>simp only[List.cons_append,frC,ih]
theorem wpList_append_fr {w:World} {ops:Array Oper} {rest:List Oper} {o:Oper} {a:Act} {Q:Exit→Act→World→Prop} (hgd:o.guard=none) (s x:Operand)
  (ho:o.op=.call {callee:=.builtin .append,args:= #[s,x],argTypes:= #[22,22]}) (base:Nat) (v:Value) (l:List Fr) (f:Fr) (hs:a.eval s=v) (hown:RwF w base v l) (g:Nat) (hx:a.eval x=.slice (some ⟨g,0,none⟩) 1 1) (hg:Box w g f.1 f.2.1 f.2.2) (hlen:l.length+1≤100000) (hbase:base≤w.heap.size)
  (h:∀v' w',RwF w' base v' (l++[f])→w.grownBy w' v.ownBlock→wpList Tryz.prog ops Q rest (a.put o.dst v') w'):wpList Tryz.prog ops Q (o::rest) a w:=by
 obtain⟨i0,hi0,hz0,hz1,hz2⟩:=info_parts Tryz.infoFrac
 refine wpList_append_own _ hgd s x 22 ho base 30 i0 (.agg #[.bool false,.string ⟨#[]⟩,.string ⟨#[]⟩]) 3 40 Tryz.underlying22 hi0 hz0 hz1 hz2 rfl (by decide) v l.length _ hs hown ⟨g,0,none⟩ 1 1 [.bool f.1,.string f.2.1,.string f.2.2] hx rfl ?_ ?_ (by unfold maxLen;omega) (by omega) hbase ?_
 ·intro j u hj
  match j,hj with
  |0,hj=>cases hj;exact hg.c0
  |1,hj=>cases hj;exact hg.c1
  |2,hj=>cases hj;exact hg.c2
  |j+3,hj=>simp at hj
 ·intro u hu
  simp only[List.mem_cons,List.not_mem_nil,or_false] at hu
  rcases hu with rfl |rfl |rfl<;>rfl
 ·intro v' w' h1 h2 _
  refine h v' w' ?_ h2
  rw[RwF,List.length_append,frC_snoc]
  exact h1
end Go.Proofs.YtgamblainfkiaaaGreatDoor

/- The document's answer: Fix. -/
namespace Go.Proofs.YtgamblainfkiaaaGreatDoor
open Go.RowKit Go.Shelf
theorem Canon_r {n:Bool} {x y:ByteArray} {w:World} (s1:x.size+y.size≤100000):
  Calls Tryz.prog 76 #[.agg #[.bool n,.string x,.string y]] w fun e w'=>e=.returned (frV (qF (val n x y)))∧Below w.heap.size w w':=rCanon_any n x y w (by omega) (by omega)
end Go.Proofs.YtgamblainfkiaaaGreatDoor

/- Nets: what is wrong with rows; the document's answer: NetCheck, as far as the names. -/
namespace Go.Proofs.YtgamblainfkiaaaGreatDoor
open Go.RowKit Go.Shelf
def FsS (w:World) (a:Option Addr) (R:List (List Fr)):Prop:=∀k (h:k<R.length),∃g o b c,a=some ⟨g,o,none⟩∧g<w.heap.size∧w.cell? ⟨g,o+k,none⟩=some (.slice b R[k].length c)∧FrS w b R[k]∧R[k].length≤c
theorem FsS.below {w w':World} {a:Option Addr} {R:List (List Fr)} (h:FsS w a R) (hb:Below w.heap.size w w'):FsS w' a R:=fun k hk=>by
 obtain⟨g,o,b,c,h1,h2,h3,h4,h5⟩:=h k hk
 exact⟨g,o,b,c,h1,Nat.lt_of_lt_of_le h2 hb.size,(hb.cell (p:=⟨g,o+k,none⟩) h2).trans h3,h4.below hb,h5⟩
def RwS (w:World) (B:Nat) (v:Value) (l:List ByteArray):Prop:=w.ownsRow B 9 1 v l.length (l.map Value.string)
theorem RwS.own {w:World} {B:Nat} {v:Value} {l:List ByteArray} (h:RwS w B v l):∀k,v.ownBlock=some k→B≤k:=by
 intro k hk
 rcases h.2 with ⟨rfl,_⟩ |⟨g,cap,cur,rfl,h2,_⟩
 ·cases hk
 ·cases hk
  exact h2
theorem RwS.st {w:World} {B:Nat} {v:Value} {l:List ByteArray} (h:RwS w B v l):∃d cd,v=.slice d l.length cd∧StS w d l:=by
 rcases h.2 with ⟨h1,h2⟩ |⟨g,cap,cur,h1,h2,h3,h4,h5,h6,h7⟩
 ·have:l=[]:=List.length_eq_zero_iff.1 h2
  subst this
  exact⟨none,0,h1,fun k hk=>absurd hk (by simp)⟩
 ·refine⟨_,_,h1,fun j hj=>⟨g,0,rfl,(Array.getElem?_eq_some_iff.1 h3).1,?_⟩⟩
  rw[Nat.zero_add,cell_of_row w g j _ _ (0,0) h3]
  have e:cur[j]? =(cur.toList.take (l.length*1))[j]?:=by
   rw[List.getElem?_take,if_pos (by omega),Array.getElem?_toList]
  rw[e,h7,List.getElem?_map,List.getElem?_eq_getElem hj]
  rfl
theorem wpList_append_str {w:World} {ops:Array Oper} {rest:List Oper} {o:Oper} {a:Act} {Q:Exit→Act→World→Prop} (hgd:o.guard=none) (s x:Operand)
  (ho:o.op=.call {callee:=.builtin .append,args:= #[s,x],argTypes:= #[82,82]}) (base:Nat) (v:Value) (l:List ByteArray) (f:ByteArray) (hs:a.eval s=v) (hown:RwS w base v l) (g:Nat) (hx:a.eval x=.slice (some ⟨g,0,none⟩) 1 1) (hg:w.cell? ⟨g,0,none⟩=some (.string f)) (hlen:l.length+1≤100000) (hbase:base≤w.heap.size)
  (h:∀v' w',RwS w' base v' (l++[f])→w.grownBy w' v.ownBlock→wpList Tryz.prog ops Q rest (a.put o.dst v') w'):wpList Tryz.prog ops Q (o::rest) a w:=by
 obtain⟨i0,hi0,hz0,hz1,hz2⟩:=info_parts Tryz.infoStr
 refine wpList_append_own _ hgd s x 82 ho base 9 i0 (.string ⟨#[]⟩) 1 16 Tryz.underlying82 hi0 hz0 hz1 hz2 rfl (by decide) v l.length _ hs hown ⟨g,0,none⟩ 1 1 [.string f] hx rfl ?_ ?_ (by unfold maxLen;omega) (by omega) hbase ?_
 ·intro j u hj
  match j,hj with
  |0,hj=>cases hj;exact hg
  |j+1,hj=>simp at hj
 ·intro u hu
  simp only[List.mem_cons,List.not_mem_nil,or_false] at hu
  subst hu;rfl
 ·intro v' w' h1 h2 _
  refine h v' w' ?_ h2
  rw[RwS,List.length_append,List.map_append]
  exact h1
theorem one_str (w:World) (u:ByteArray):(w.alloc (.cells #[.string u] 9)).cell? ⟨w.heap.size,0,none⟩=some (.string u):=(Boxed.new w _ _).cell
end Go.Proofs.YtgamblainfkiaaaGreatDoor

/- Rows that may be, in packages chain and hidden; the small questions that package hidden asks. -/
namespace Go.Proofs.YtgamblainfkiaaaGreatDoor
open Go.RowKit Go.Shelf
theorem rowB_eq (l:List Fr):(!(l.any fun f=>decide (frQ f<0))&&decide (fsum l=1))=rowB l:=by
 have h:∀l:List Fr,(!(l.any fun f=>decide (frQ f<0)))=l.all fun f=>decide (¬frQ f<0):=fun l=>by
  induction l with
  |nil=>rfl
  |cons f l ih=>rw[List.any_cons,List.all_cons,Bool.not_or,ih,decide_not]
 rw[rowB,h]
set_option maxRecDepth 100000 in
set_option maxHeartbeats 400000 in
theorem chBelow_any (n zn:Bool) (x y zx zy:ByteArray) (B:Nat) (w:World) (hx:Box w B zn zx zy) (hz:val zn zx zy=0) (hzs:zx.size+zy.size≤100000) (hs:x.size+y.size≤10000):
  Calls Tryz.prog 140 #[.agg #[.bool n,.string x,.string y],.pointer (some ⟨B,0,none⟩)] w fun e w'=>e=.returned (.bool (decide (val n x y<0)))∧Below w.heap.size w w':=by
 have HD:Hid (decide (cmpQ (val n x y) 0<0)=decide (val n x y<0)):=by show _=_;rw[decide_eq_decide];exact cmp_below
 generalize decide (val n x y<0)=R at *
 have hA:=(Below.refl w.heap.size w).alloc (Nat.le_refl _) (FC n x y)
 obtain⟨k0,k1,k2, -⟩:=(Box.new w n x y).facts
 obtain⟨z0,z1,z2, -⟩:=(hx.below hA hx.lt).facts
 go_enter Tryz.func140,Tryz.ntmps140
 go_wp2_with fail
 generalize (w.alloc (FC n x y))=W at *
 refine(fCmp_q (w:=W) (cmpQ (val n x y) 0) rfl hz rfl (by omega) hzs).mono ?_
 rintro e w2 ⟨rfl,hb2⟩
 have HB:=hid (hA.trans (hb2.mono hA.size))
 clear hA hb2 k0 k1 k2 z0 z1 z2
 generalize cmpQ (val n x y) 0=c at *
 go_wp2
 go_ret
 exact⟨by rw[←HD.out];rfl,HB.out⟩
set_option maxRecDepth 100000 in
set_option maxHeartbeats 1000000 in
theorem chRow_any (a:Option Addr) (ca:Nat) (l:List Fr) (w:World) (h:FrS w a l) (hw:fw l≤10000) (hn:l.length≤10000):
  Calls Tryz.prog 128 #[.slice a l.length ca] w fun e w'=>e=.returned (.bool (rowB l))∧Below w.heap.size w w':=by
 have HF:=hid h
 have HS:=hid (fun (V:World) (hV:FrS V a l)=>fSum_any a ca l V hV hw hn)
 have HO0:=hid (fun V:World=>fOf_q (k:=0) (w:=V) 0 0 rfl (by decide) (by rfl))
 have HO1:=hid (fun V:World=>fOf_q (k:=1) (w:=V) 1 1 rfl (by decide) (by rfl))
 have HQ:Hid (val (sgn (fsum l)) (nu (fsum l)) (de (fsum l))=fsum l∧(nu (fsum l)).size+(de (fsum l)).size≤100000):=⟨val_own _,by
  have h1:=fits_qw (fits_sum l)
  rw[own_size]
  omega⟩
 have H1:Hid (val (sgn 1) (nu 1) (de 1)=1∧(nu 1).size+(de 1).size≤100000):=⟨val_own _,by
  have h1:qw 1≤2:=qw_one2
  rw[own_size]
  omega⟩
 have HC:=hid (fun (B:Nat) (V:World) (hV:FrS V a l) (hx:Box V B (sgn 0) (nu 0) (de 0))=>conFr_any a ca 140 #[.pointer (some ⟨B,0,none⟩)] l (fun f=>decide (frQ f<0)) V hV hn (enters_of Tryz.func140 (by kernel_rfl) rfl) (fun q hq U hU=>chBelow_any q.1 (sgn 0) q.2.1 q.2.2 (nu 0) (de 0) B U (hx.below hU hx.lt) (val_own _) (by have:=qw_zero;rw[own_size];omega) (by have:=fw_mem hq;omega)))
 have HR:=hid (rowB_eq l)
 have HCS:=hid (cmp_same (p:=fsum l))
 generalize rowB l=rb at *
 generalize (l.any fun f=>decide (frQ f<0))=an at *
 clear h hw
 simp only[C] at HS
 generalize sgn 0=zn at *
 generalize nu 0=zx at *
 generalize de 0=zy at *
 go_enter Tryz.func128,Tryz.ntmps128
 go_wp2_with fail
 refine(HO0.out _).mono ?_
 rintro e w0 ⟨rfl,hb0⟩
 have HB0:=hid (hb0.alloc hb0.size (FC zn zx zy))
 have HX:=hid (Box.new w0 zn zx zy)
 clear hb0
 go_wp2_with fail
 generalize (w0.alloc (FC zn zx zy))=wa at *
 generalize w0.heap.size=B at *
 refine(HC.out B _ (HF.out.below HB0.out) HX.out).mono ?_
 rintro e w1 ⟨rfl,hb1⟩
 have HB1:=hid (HB0.out.trans (hb1.mono HB0.out.size))
 clear hb1
 cases an with
 |true=>
  go_wp2
  go_ret
  exact⟨by rw[←HR.out];rfl,HB1.out⟩
 |false=>
  go_wp2_with fail
  refine(HS.out _ (HF.out.below HB1.out)).mono ?_
  rintro e w5 ⟨rfl,hb5⟩
  have HB5:=hid (HB1.out.trans (hb5.mono HB1.out.size))
  clear hb5
  go_wp2_with fail
  refine(HO1.out _).mono ?_
  rintro e w6 ⟨rfl,hb6⟩
  have HB6:=hid (HB5.out.trans (hb6.mono HB5.out.size))
  clear hb6
  go_wp2_with fail
  refine(fCmp_q (w:=w6) (cmpQ (fsum l) 1) HQ.out.1 H1.out.1 rfl HQ.out.2 H1.out.2).mono ?_
  rintro e w7 ⟨rfl,hb7⟩
  have HB7:=hid (HB6.out.trans (hb7.mono HB6.out.size))
  clear hb7
  generalize cmpQ (fsum l) 1=c at *
  go_wp2
  go_ret
  exact⟨by rw[←HR.out,←HCS.out];rfl,HB7.out⟩
set_option maxRecDepth 100000 in
set_option maxHeartbeats 400000 in
theorem hiBelow_any (n zn:Bool) (x y zx zy:ByteArray) (B:Nat) (w:World) (hx:Box w B zn zx zy) (hz:val zn zx zy=0) (hzs:zx.size+zy.size≤100000) (hs:x.size+y.size≤10000):
  Calls Tryz.prog 83 #[.agg #[.bool n,.string x,.string y],.pointer (some ⟨B,0,none⟩)] w fun e w'=>e=.returned (.bool (decide (val n x y<0)))∧Below w.heap.size w w':=by
 have HD:Hid (decide (cmpQ (val n x y) 0<0)=decide (val n x y<0)):=by show _=_;rw[decide_eq_decide];exact cmp_below
 generalize decide (val n x y<0)=R at *
 have hA:=(Below.refl w.heap.size w).alloc (Nat.le_refl _) (FC n x y)
 obtain⟨k0,k1,k2, -⟩:=(Box.new w n x y).facts
 obtain⟨z0,z1,z2, -⟩:=(hx.below hA hx.lt).facts
 go_enter Tryz.func83,Tryz.ntmps83
 go_wp2_with fail
 generalize (w.alloc (FC n x y))=W at *
 refine(fCmp_q (w:=W) (cmpQ (val n x y) 0) rfl hz rfl (by omega) hzs).mono ?_
 rintro e w2 ⟨rfl,hb2⟩
 have HB:=hid (hA.trans (hb2.mono hA.size))
 clear hA hb2 k0 k1 k2 z0 z1 z2
 generalize cmpQ (val n x y) 0=c at *
 go_wp2
 go_ret
 exact⟨by rw[←HD.out];rfl,HB.out⟩
set_option maxRecDepth 100000 in
set_option maxHeartbeats 1000000 in
theorem hiRow_any (a:Option Addr) (ca:Nat) (l:List Fr) (w:World) (h:FrS w a l) (hw:fw l≤10000) (hn:l.length≤10000):
  Calls Tryz.prog 41 #[.slice a l.length ca] w fun e w'=>e=.returned (.bool (rowB l))∧Below w.heap.size w w':=by
 have HF:=hid h
 have HS:=hid (fun (V:World) (hV:FrS V a l)=>fSum_any a ca l V hV hw hn)
 have HO0:=hid (fun V:World=>fOf_q (k:=0) (w:=V) 0 0 rfl (by decide) (by rfl))
 have HO1:=hid (fun V:World=>fOf_q (k:=1) (w:=V) 1 1 rfl (by decide) (by rfl))
 have HQ:Hid (val (sgn (fsum l)) (nu (fsum l)) (de (fsum l))=fsum l∧(nu (fsum l)).size+(de (fsum l)).size≤100000):=⟨val_own _,by
  have h1:=fits_qw (fits_sum l)
  rw[own_size]
  omega⟩
 have H1:Hid (val (sgn 1) (nu 1) (de 1)=1∧(nu 1).size+(de 1).size≤100000):=⟨val_own _,by
  have h1:qw 1≤2:=qw_one2
  rw[own_size]
  omega⟩
 have HC:=hid (fun (B:Nat) (V:World) (hV:FrS V a l) (hx:Box V B (sgn 0) (nu 0) (de 0))=>conFr_any a ca 83 #[.pointer (some ⟨B,0,none⟩)] l (fun f=>decide (frQ f<0)) V hV hn (enters_of Tryz.func83 (by kernel_rfl) rfl) (fun q hq U hU=>hiBelow_any q.1 (sgn 0) q.2.1 q.2.2 (nu 0) (de 0) B U (hx.below hU hx.lt) (val_own _) (by have:=qw_zero;rw[own_size];omega) (by have:=fw_mem hq;omega)))
 have HR:=hid (rowB_eq l)
 have HCS:=hid (cmp_same (p:=fsum l))
 generalize rowB l=rb at *
 generalize (l.any fun f=>decide (frQ f<0))=an at *
 clear h hw
 simp only[C] at HS
 generalize sgn 0=zn at *
 generalize nu 0=zx at *
 generalize de 0=zy at *
 go_enter Tryz.func41,Tryz.ntmps41
 go_wp2_with fail
 refine(HO0.out _).mono ?_
 rintro e w0 ⟨rfl,hb0⟩
 have HB0:=hid (hb0.alloc hb0.size (FC zn zx zy))
 have HX:=hid (Box.new w0 zn zx zy)
 clear hb0
 go_wp2_with fail
 generalize (w0.alloc (FC zn zx zy))=wa at *
 generalize w0.heap.size=B at *
 refine(HC.out B _ (HF.out.below HB0.out) HX.out).mono ?_
 rintro e w1 ⟨rfl,hb1⟩
 have HB1:=hid (HB0.out.trans (hb1.mono HB0.out.size))
 clear hb1
 cases an with
 |true=>
  go_wp2
  go_ret
  exact⟨by rw[←HR.out];rfl,HB1.out⟩
 |false=>
  go_wp2_with fail
  refine(HS.out _ (HF.out.below HB1.out)).mono ?_
  rintro e w5 ⟨rfl,hb5⟩
  have HB5:=hid (HB1.out.trans (hb5.mono HB1.out.size))
  clear hb5
  go_wp2_with fail
  refine(HO1.out _).mono ?_
  rintro e w6 ⟨rfl,hb6⟩
  have HB6:=hid (HB5.out.trans (hb6.mono HB5.out.size))
  clear hb6
  go_wp2_with fail
  refine(fCmp_q (w:=w6) (cmpQ (fsum l) 1) HQ.out.1 H1.out.1 rfl HQ.out.2 H1.out.2).mono ?_
  rintro e w7 ⟨rfl,hb7⟩
  have HB7:=hid (HB6.out.trans (hb7.mono HB6.out.size))
  clear hb7
  generalize cmpQ (fsum l) 1=c at *
  go_wp2
  go_ret
  exact⟨by rw[←HR.out,←HCS.out];rfl,HB7.out⟩
set_option maxRecDepth 100000 in
set_option maxHeartbeats 400000 in
theorem isMat1_any (b:Option Addr) (n c m B:Nat) (w:World) (hc:w.cell? ⟨B,0,none⟩=some (.int .i64 (m:Nat))) (hn:n=m) (hm:m≤100000):
  Calls Tryz.prog 81 #[.slice b n c,.pointer (some ⟨B,0,none⟩)] w fun e w'=>e=.returned (.bool false)∧w'=w:=by
 subst hn
 go_enter Tryz.func81,Tryz.ntmps81
 go_wp2
 go_ret
 exact⟨by simp,rfl⟩
set_option maxRecDepth 100000 in
set_option maxHeartbeats 400000 in
theorem idxRows_no (a:Option Addr) (ca m B:Nat) (R:List (List Fr)) (w:World) (h:FsS w a R) (hB:B<w.heap.size) (hc:w.cell? ⟨B,0,none⟩=some (.int .i64 (m:Nat))) (hm:m≤100000) (hl:∀k (h:k<R.length),R[k].length=m) (hn:R.length≤1000):
  Calls Tryz.prog 111 #[.slice a R.length ca,.func (.func 81) #[] #[.pointer (some ⟨B,0,none⟩)]] w fun e w'=>e=.returned (.int .i64 (-1))∧w'=w:=by
 have HF:=hid h
 have HL:=hid hl
 have eF:=enters_of Tryz.func81 (P:=Tryz.prog) (by kernel_rfl) rfl
 have HC:=hid (fun (b:Option Addr) (n c:Nat) (hn:n=m)=>isMat1_any b n c m B w hc hn hm)
 clear h hl
 go_enter Tryz.func111,Tryz.ntmps111
 go_wp2_with fail
 go_loopw [8] (fun iv wr=>∃i:Nat,i≤R.length∧iv=.int .i64 i∧w=wr) (fun iv _=>R.length - (intOf iv).toNat)
 case atStart=>exact⟨0,Nat.zero_le _,rfl,rfl⟩
 case round=>
  obtain⟨i,hi,rfl,rfl⟩:=hrel
  by_cases hlt:i<R.length
  ·obtain⟨g,o,b,c,rfl,hg,h0,hfr,hcl⟩:=HF.out i hlt
   have HCi:=hid (HC.out b R[i].length c (HL.out i hlt))
   clear hfr hcl
   generalize R[i].length=n at *
   go_wp2_with fail
   refine HCi.out.mono ?_
   rintro e w2 ⟨rfl,rfl⟩
   go_wp2
   go_roundw
   case rel=>exact⟨i+1,by omega,by go_num,trivial⟩
   case measure=>simp[intOf];omega
  ·obtain rfl:i=R.length:=by omega
   go_wp2
   go_ret
   exact⟨rfl,rfl⟩
set_option maxRecDepth 100000 in
set_option maxHeartbeats 400000 in
theorem isMatrix_yes (a:Option Addr) (ca n m:Nat) (R:List (List Fr)) (w:World) (h:FsS w a R) (hn:R.length=n) (hn1:R.length≤1000) (hm:m≤100000) (hl:∀k (h:k<R.length),R[k].length=m):
  Calls Tryz.prog 38 #[.slice a R.length ca,.int .i64 (n:Nat),.int .i64 (m:Nat)] w fun e w'=>e=.returned (.bool true)∧Below w.heap.size w w':=by
 subst hn
 have hA:=(Below.refl w.heap.size w).alloc (Nat.le_refl _) (.cells #[.int .i64 (m:Nat)] 3)
 have hx:=Boxed.new w 3 (.int .i64 (m:Nat))
 have HI:=hid (idxRows_no a ca m w.heap.size R _ (h.below hA) hx.lt hx.cell hm hl hn1)
 have HCO:Hid (Calls Tryz.prog 80 #[.slice a R.length ca,.func (.func 81) #[] #[.pointer (some ⟨w.heap.size,0,none⟩)]] (w.alloc (.cells #[.int .i64 (m:Nat)] 3)) fun e w'=>e=.returned (.bool false)∧w'=(w.alloc (.cells #[.int .i64 (m:Nat)] 3))):=by
  show Calls _ _ _ _ _
  go_enter Tryz.func80,Tryz.ntmps80
  go_wp2_with fail
  refine HI.out.mono ?_
  rintro e w2 ⟨rfl,rfl⟩
  go_wp2
  go_ret
  exact⟨rfl,rfl⟩
 have HA:=hid hA
 clear h hA hx hl HI
 go_enter Tryz.func38,Tryz.ntmps38
 go_wp2_with fail
 refine HCO.out.mono ?_
 rintro e w2 ⟨rfl,rfl⟩
 go_wp2
 go_ret
 exact⟨by simp,HA.out⟩
set_option maxRecDepth 100000 in
set_option maxHeartbeats 400000 in
theorem isCount_yes (n:Nat) (w:World) (h1:1≤n) (h2:n≤4):
  Calls Tryz.prog 37 #[.int .i64 (n:Nat)] w fun e w'=>e=.returned (.bool true)∧w'=w:=by
 go_enter Tryz.func37,Tryz.ntmps37
 go_wp2
 go_ret
 exact⟨by simp;omega,rfl⟩
end Go.Proofs.YtgamblainfkiaaaGreatDoor

/- Hidden chains, plainly: forward and backward meet; no way is likelier than the path that is found step by step. -/
namespace Go.Proofs.YtgamblainfkiaaaGreatDoor
def sumR (f:Nat→Rat):Nat→Rat
 |0=>0
 |n+1=>sumR f n+f n
theorem sumR_congr {f g:Nat→Rat}:∀ {n:Nat},(∀i,i<n→f i=g i)→sumR f n=sumR g n
 |0,_=>rfl
 |n+1,h=>by rw[sumR,sumR,sumR_congr fun i hi=>h i (by omega),h n (by omega)]
theorem sumR_add (f g:Nat→Rat):∀n,sumR (fun i=>f i+g i) n=sumR f n+sumR g n
 |0=>by rw[sumR,sumR,sumR,Rat.add_zero]
 |n+1=>by
  rw[sumR,sumR,sumR,sumR_add f g n,Rat.add_assoc,Rat.add_assoc,←Rat.add_assoc (sumR g n),Rat.add_comm (sumR g n),Rat.add_assoc]
theorem sumR_mul (c:Rat) (f:Nat→Rat):∀n,sumR (fun i=>c*f i) n=c*sumR f n
 |0=>by rw[sumR,sumR,Rat.mul_zero]
 |n+1=>by rw[sumR,sumR,sumR_mul c f n,Rat.mul_add]
theorem sumR_mulR (c:Rat) (f:Nat→Rat) (n:Nat):sumR (fun i=>f i*c) n=sumR f n*c:=by
 rw[Rat.mul_comm,←sumR_mul]
 exact sumR_congr fun i _=>Rat.mul_comm _ _
theorem sumR_none:∀n,sumR (fun _=>0) n=0
 |0=>rfl
 |n+1=>by rw[sumR,sumR_none n,Rat.add_zero]
theorem sumR_swap (f:Nat→Nat→Rat) (m:Nat):∀n,sumR (fun i=>sumR (fun j=>f i j) m) n=sumR (fun j=>sumR (fun i=>f i j) n) m
 |0=>by rw[sumR];exact(sumR_none m).symm
 |n+1=>by
  rw[sumR,sumR_swap f m n,←sumR_add]
  rfl
theorem sumR_low {f:Nat→Rat}:∀ {n:Nat},(∀i,i<n→0≤f i)→0≤sumR f n
 |0,_=>Rat.le_refl
 |n+1,h=>Rat.add_nonneg (sumR_low fun i hi=>h i (by omega)) (h n (by omega))
theorem sumR_part {f:Nat→Rat}:∀ {n:Nat},(∀i,i<n→0≤f i)→∀i,i<n→f i≤sumR f n
 |0,_,i,hi=>absurd hi (by omega)
 |n+1,h,i,hi=>by
  rw[sumR]
  have h0:=sumR_low (n:=n) fun i hi=>h i (by omega)
  have hn:=h n (by omega)
  rcases Nat.lt_or_ge i n with h1 |h1
  ·have h2:=sumR_part (n:=n) (fun i hi=>h i (by omega)) i h1
   have h3:=(Rat.add_le_add_left (c:=sumR f n)).2 hn
   rw[Rat.add_zero] at h3
   exact Rat.le_trans h2 h3
  ·obtain rfl:i=n:=by omega
   have h3:=(Rat.add_le_add_right (c:=f i)).2 h0
   rwa [Rat.zero_add] at h3
theorem sumR_zero {f:Nat→Rat} {n:Nat} (h:∀i,i<n→f i=0):sumR f n=0:=by
 rw[sumR_congr h]
 exact sumR_none n
def bstR (f:Nat→Rat):Nat→Nat
 |0=>0
 |k+1=>if f (bstR f k)<f (k+1) then k+1 else bstR f k
theorem bstR_le (f:Nat→Rat):∀k,bstR f k≤k
 |0=>Nat.le_refl _
 |k+1=>by
  rw[bstR]
  by_cases h:f (bstR f k)<f (k+1)
  ·rw[if_pos h];exact Nat.le_refl _
  ·rw[if_neg h];have:=bstR_le f k;omega
theorem bstR_most (f:Nat→Rat):∀k j,j≤k→f j≤f (bstR f k)
 |0,j,h=>by
  obtain rfl:j=0:=by omega
  exact Rat.le_refl
 |k+1,j,h=>by
  rw[bstR]
  by_cases h1:f (bstR f k)<f (k+1)
  ·rw[if_pos h1]
   rcases Nat.lt_or_ge j (k+1) with h2 |h2
   ·exact Rat.le_trans (bstR_most f k j (by omega)) (Rat.le_of_lt h1)
   ·obtain rfl:j=k+1:=by omega
    exact Rat.le_refl
  ·rw[if_neg h1]
   rcases Nat.lt_or_ge j (k+1) with h2 |h2
   ·exact bstR_most f k j (by omega)
   ·obtain rfl:j=k+1:=by omega
    exact Rat.not_lt.1 h1
structure HC where
 s:Nat
 L:Nat
 st:Nat→Rat
 mv:Nat→Nat→Rat
 sh:Nat→Nat→Rat
structure HC.Ok (h:HC):Prop where
 some:1≤h.s
 st:∀i,i<h.s→0≤h.st i
 mv:∀i,i<h.s→∀j,j<h.s→0≤h.mv i j
 sh:∀t,t<h.L→∀i,i<h.s→0≤h.sh t i
def HC.alp (h:HC):Nat→Nat→Rat
 |0,i=>h.st i*h.sh 0 i
 |t+1,j=>sumR (fun i=>h.alp t i*h.mv i j) h.s*h.sh (t+1) j
def HC.bet (h:HC):Nat→Nat→Rat
 |0,_=>1
 |k+1,i=>sumR (fun j=>h.mv i j*h.sh (h.L - 1 - k) j*h.bet k j) h.s
def HC.gam (h:HC):Nat→Nat→Rat
 |0,_=>1
 |k+1,i=>h.mv i (bstR (fun j=>h.mv i j*h.sh (h.L - 1 - k) j*h.gam k j) (h.s - 1))*h.sh (h.L - 1 - k) (bstR (fun j=>h.mv i j*h.sh (h.L - 1 - k) j*h.gam k j) (h.s - 1))*h.gam k (bstR (fun j=>h.mv i j*h.sh (h.L - 1 - k) j*h.gam k j) (h.s - 1))
theorem HC.meets (h:HC):∀k t,t+k+1=h.L→sumR (fun i=>h.alp t i*h.bet k i) h.s=sumR (h.alp (h.L - 1)) h.s
 |0,t,e=>by
  have e1:h.L - 1=t:=by omega
  rw[e1]
  exact sumR_congr fun i _=>by rw[HC.bet,Rat.mul_one]
 |k+1,t,e=>by
  rw[←h.meets k (t+1) (by omega)]
  have e1:h.L - 1 - k=t+1:=by omega
  rw[show sumR (fun i=>h.alp t i*h.bet (k+1) i) h.s=sumR (fun i=>sumR (fun j=>h.alp t i*(h.mv i j*h.sh (t+1) j*h.bet k j)) h.s) h.s from sumR_congr fun i _=>by rw[HC.bet,e1,sumR_mul],sumR_swap]
  refine sumR_congr fun j _=>?_
  rw[HC.alp,Rat.mul_assoc,←sumR_mulR]
  exact sumR_congr fun i _=>by rw[Rat.mul_assoc,Rat.mul_assoc]
variable {h:HC}
theorem HC.Ok.bet_low (o:h.Ok):∀k i,k<h.L→i<h.s→0≤h.bet k i
 |0,_,_,_=>by rw[HC.bet];decide
 |k+1,i,hk,hi=>by
  rw[HC.bet]
  exact sumR_low fun j hj=>Rat.mul_nonneg (Rat.mul_nonneg (o.mv i hi j hj) (o.sh _ (by omega) j hj)) (o.bet_low k j (by omega) hj)
theorem HC.Ok.gam_low (o:h.Ok):∀k i,k<h.L→i<h.s→0≤h.gam k i
 |0,_,_,_=>by rw[HC.gam];decide
 |k+1,i,hk,hi=>by
  rw[HC.gam]
  have hb:=bstR_le (fun j=>h.mv i j*h.sh (h.L - 1 - k) j*h.gam k j) (h.s - 1)
  have hs:=o.some
  generalize bstR (fun j=>h.mv i j*h.sh (h.L - 1 - k) j*h.gam k j) (h.s - 1)=b at *
  exact Rat.mul_nonneg (Rat.mul_nonneg (o.mv i hi b (by omega)) (o.sh _ (by omega) b (by omega))) (o.gam_low k b (by omega) (by omega))
theorem HC.gam_most (h:HC) (k i j:Nat) (hj:j<h.s):h.mv i j*h.sh (h.L - 1 - k) j*h.gam k j≤h.gam (k+1) i:=by
 rw[HC.gam]
 exact bstR_most (fun j=>h.mv i j*h.sh (h.L - 1 - k) j*h.gam k j) (h.s - 1) j (by omega)
theorem HC.Ok.gam_bet (o:h.Ok):∀k i,k<h.L→i<h.s→h.gam k i≤h.bet k i
 |0,_,_,_=>by rw[HC.gam,HC.bet];exact Rat.le_refl
 |k+1,i,hk,hi=>by
  rw[HC.gam,HC.bet]
  have hb:=bstR_le (fun j=>h.mv i j*h.sh (h.L - 1 - k) j*h.gam k j) (h.s - 1)
  have hs:=o.some
  generalize bstR (fun j=>h.mv i j*h.sh (h.L - 1 - k) j*h.gam k j) (h.s - 1)=b at *
  have h0:∀j,j<h.s→0≤h.mv i j*h.sh (h.L - 1 - k) j:=fun j hj=>Rat.mul_nonneg (o.mv i hi j hj) (o.sh _ (by omega) j hj)
  refine Rat.le_trans (Rat.mul_le_mul_of_nonneg_left (o.gam_bet k b (by omega) (by omega)) (h0 b (by omega))) ?_
  exact sumR_part (f:=fun j=>h.mv i j*h.sh (h.L - 1 - k) j*h.bet k j) (fun j hj=>Rat.mul_nonneg (h0 j hj) (o.bet_low k j (by omega) hj)) b (by omega)
theorem HC.Ok.gam_none (o:h.Ok):∀k i,k<h.L→i<h.s→h.gam k i=0→h.bet k i=0
 |0,_,_,_,e=>by rw[HC.gam] at e;exact absurd e (by decide)
 |k+1,i,hk,hi,e=>by
  rw[HC.bet]
  refine sumR_zero fun j hj=>?_
  have h0:0≤h.mv i j*h.sh (h.L - 1 - k) j:=Rat.mul_nonneg (o.mv i hi j hj) (o.sh _ (by omega) j hj)
  have h1:=h.gam_most k i j hj
  rw[e] at h1
  have h2:=Rat.le_antisymm h1 (Rat.mul_nonneg h0 (o.gam_low k j (by omega) hj))
  rcases Rat.mul_eq_zero.1 h2 with h3 |h3
  ·rw[h3,Rat.zero_mul]
  ·rw[o.gam_none k j (by omega) hj h3,Rat.mul_zero]
def HC.row (h:HC) (v:Nat→Nat):Nat→Nat→Rat
 |0,i=>h.st i
 |t+1,i=>h.mv (v t) i
def HC.lik (h:HC) (v:Nat→Nat):Nat→Rat
 |0=>1
 |t+1=>h.lik v t*(h.row v t (v t)*h.sh t (v t))
def HC.way (h:HC):Nat→Nat
 |0=>bstR (fun j=>h.st j*h.sh 0 j*h.gam (h.L - 1) j) (h.s - 1)
 |t+1=>bstR (fun j=>h.mv (h.way t) j*h.sh (t+1) j*h.gam (h.L - 1 - (t+1)) j) (h.s - 1)
theorem HC.way_eq (h:HC):∀t,h.way t=bstR (fun j=>h.row h.way t j*h.sh t j*h.gam (h.L - 1 - t) j) (h.s - 1)
 |0=>by rw[HC.way];rfl
 |t+1=>by rw[HC.way];rfl
def HC.top (h:HC):Rat:=h.st (h.way 0)*h.sh 0 (h.way 0)*h.gam (h.L - 1) (h.way 0)
theorem HC.Ok.way_lt (o:h.Ok) (t:Nat):h.way t<h.s:=by
 rw[HC.way_eq]
 have:=bstR_le (fun j=>h.row h.way t j*h.sh t j*h.gam (h.L - 1 - t) j) (h.s - 1)
 have:=o.some
 omega
theorem HC.Ok.row_low (o:h.Ok) {v:Nat→Nat} (hv:∀t,v t<h.s):∀t i,i<h.s→0≤h.row v t i
 |0,i,hi=>o.st i hi
 |t+1,i,hi=>o.mv (v t) (hv t) i hi
theorem HC.Ok.lik_low (o:h.Ok) {v:Nat→Nat} (hv:∀t,v t<h.s):∀t,t≤h.L→0≤h.lik v t
 |0,_=>by rw[HC.lik];decide
 |t+1,ht=>by
  rw[HC.lik]
  exact Rat.mul_nonneg (o.lik_low hv t (by omega)) (Rat.mul_nonneg (o.row_low hv t _ (hv t)) (o.sh t (by omega) _ (hv t)))
theorem HC.way_top (h:HC):∀t,t<h.L→h.lik h.way t*(h.row h.way t (h.way t)*h.sh t (h.way t)*h.gam (h.L - 1 - t) (h.way t))=h.top
 |0,_=>by rw[HC.lik,Rat.one_mul];rfl
 |t+1,ht=>by
  rw[←h.way_top t (by omega),HC.lik]
  have e:h.L - 1 - t=(h.L - 1 - (t+1))+1:=by omega
  have e2:h.L - 1 - (h.L - 1 - (t+1))=t+1:=by omega
  have e3:h.gam (h.L - 1 - t) (h.way t)=h.mv (h.way t) (h.way (t+1))*h.sh (t+1) (h.way (t+1))*h.gam (h.L - 1 - (t+1)) (h.way (t+1)):=by
   rw[e,HC.gam,e2]
   rw[show bstR (fun j=>h.mv (h.way t) j*h.sh (t+1) j*h.gam (h.L - 1 - (t+1)) j) (h.s - 1)=h.way (t+1) from by rw[HC.way]]
  rw[e3,HC.row,Rat.mul_assoc (h.lik h.way t)]
theorem HC.way_lik (h:HC) (hL:1≤h.L):h.lik h.way h.L=h.top:=by
 have e:=h.way_top (h.L - 1) (by omega)
 rw[Nat.sub_self,HC.gam,Rat.mul_one] at e
 rw[←e,show h.L=h.L - 1+1 by omega,HC.lik,Nat.add_sub_cancel]
theorem HC.Ok.any_top (o:h.Ok) {v:Nat→Nat} (hv:∀t,v t<h.s):∀t,t<h.L→h.lik v t*(h.row v t (v t)*h.sh t (v t)*h.gam (h.L - 1 - t) (v t))≤h.top
 |0,ht=>by
  rw[HC.lik,Rat.one_mul,HC.top,HC.way]
  exact bstR_most (fun j=>h.st j*h.sh 0 j*h.gam (h.L - 1) j) (h.s - 1) (v 0) (by have:=hv 0;omega)
 |t+1,ht=>by
  refine Rat.le_trans ?_ (o.any_top hv t (by omega))
  have e:h.L - 1 - t=(h.L - 1 - (t+1))+1:=by omega
  have h1:=h.gam_most (h.L - 1 - (t+1)) (v t) (v (t+1)) (hv (t+1))
  rw[show h.L - 1 - (h.L - 1 - (t+1))=t+1 by omega,←e] at h1
  rw[HC.lik,HC.row,Rat.mul_assoc (h.lik v t)]
  exact Rat.mul_le_mul_of_nonneg_left (Rat.mul_le_mul_of_nonneg_left h1 (Rat.mul_nonneg (o.row_low hv t _ (hv t)) (o.sh t (by omega) _ (hv t)))) (o.lik_low hv t (by omega))
theorem HC.Ok.any_lik (o:h.Ok) (hL:1≤h.L) {v:Nat→Nat} (hv:∀t,v t<h.s):h.lik v h.L≤h.top:=by
 have e:=o.any_top hv (h.L - 1) (by omega)
 rw[Nat.sub_self,HC.gam,Rat.mul_one] at e
 rw[show h.L=h.L - 1+1 by omega,HC.lik]
 exact e
def HC.all (h:HC):Rat:=sumR (h.alp (h.L - 1)) h.s
theorem HC.all_eq (h:HC) (hL:1≤h.L):h.all=sumR (fun i=>h.st i*h.sh 0 i*h.bet (h.L - 1) i) h.s:=(h.meets (h.L - 1) 0 (by omega)).symm
theorem HC.Ok.top_le (o:h.Ok) (hL:1≤h.L):h.top≤h.all:=by
 rw[h.all_eq hL,HC.top]
 have h0:∀j,j<h.s→0≤h.st j*h.sh 0 j:=fun j hj=>Rat.mul_nonneg (o.st j hj) (o.sh 0 (by omega) j hj)
 refine Rat.le_trans (Rat.mul_le_mul_of_nonneg_left (o.gam_bet (h.L - 1) _ (by omega) (o.way_lt 0)) (h0 _ (o.way_lt 0))) ?_
 exact sumR_part (f:=fun i=>h.st i*h.sh 0 i*h.bet (h.L - 1) i) (fun j hj=>Rat.mul_nonneg (h0 j hj) (o.bet_low _ j (by omega) hj)) _ (o.way_lt 0)
theorem HC.Ok.top_low (o:h.Ok) (hL:1≤h.L):0≤h.top:=Rat.mul_nonneg (Rat.mul_nonneg (o.st _ (o.way_lt 0)) (o.sh 0 (by omega) _ (o.way_lt 0))) (o.gam_low _ _ (by omega) (o.way_lt 0))
theorem HC.Ok.top_none (o:h.Ok) (hL:1≤h.L):h.top=0↔h.all=0:=by
 constructor
 ·intro e
  rw[h.all_eq hL]
  refine sumR_zero fun j hj=>?_
  have h0:0≤h.st j*h.sh 0 j:=Rat.mul_nonneg (o.st j hj) (o.sh 0 (by omega) j hj)
  have h1:h.st j*h.sh 0 j*h.gam (h.L - 1) j≤h.top:=by
   rw[HC.top,HC.way]
   exact bstR_most (fun j=>h.st j*h.sh 0 j*h.gam (h.L - 1) j) (h.s - 1) j (by omega)
  rw[e] at h1
  have h2:=Rat.le_antisymm h1 (Rat.mul_nonneg h0 (o.gam_low _ j (by omega) hj))
  rcases Rat.mul_eq_zero.1 h2 with h3 |h3
  ·rw[h3,Rat.zero_mul]
  ·rw[o.gam_none _ j (by omega) hj h3,Rat.mul_zero]
 ·intro e
  have h1:=o.top_le hL
  rw[e] at h1
  exact Rat.le_antisymm h1 (o.top_low hL)
end Go.Proofs.YtgamblainfkiaaaGreatDoor

/- How long the numbers of a hidden chain are. -/
namespace Go.Proofs.YtgamblainfkiaaaGreatDoor
structure Sm (D k:Nat) (q:Rat):Prop where
 low:0≤q
 high:q≤((4^k:Nat):Rat)
 whole:∃a:Nat,q*((D^k:Nat):Rat)=(a:Rat)
theorem Sm.zero {D:Nat}:Sm D 0 0:=⟨Rat.le_refl,by decide,0,by rw[Rat.zero_mul];rfl⟩
theorem Sm.one {D:Nat}:Sm D 0 1:=⟨by decide,by decide,1,by rw[Rat.one_mul];rfl⟩
theorem Sm.mul {D k j:Nat} {p q:Rat} (h:Sm D k p) (h':Sm D j q):Sm D (k+j) (p*q):=by
 refine⟨Rat.mul_nonneg h.low h'.low,?_,?_⟩
 ·rw[Nat.pow_add,Rat.natCast_mul]
  exact Rat.le_trans (Rat.mul_le_mul_of_nonneg_left h'.high h.low) (Rat.mul_le_mul_of_nonneg_right h.high Rat.natCast_nonneg)
 ·obtain⟨a,ha⟩:=h.whole
  obtain⟨b,hb⟩:=h'.whole
  refine⟨a*b,?_⟩
  rw[Nat.pow_add,Rat.natCast_mul,Rat.natCast_mul,←ha,←hb]
  rw[Rat.mul_assoc,Rat.mul_assoc,←Rat.mul_assoc q,Rat.mul_comm q,Rat.mul_assoc]
theorem Sm.up1 {D k:Nat} {q:Rat} (h:Sm D k q):Sm D (k+1) q:=by
 refine⟨h.low,Rat.le_trans h.high ?_,?_⟩
 ·have:4^k≤4^(k+1):=Nat.pow_le_pow_right (by decide) (by omega)
  exact_mod_cast this
 ·obtain⟨a,ha⟩:=h.whole
  exact⟨a*D,by rw[Nat.pow_succ,Rat.natCast_mul,Rat.natCast_mul,←Rat.mul_assoc,ha]⟩
theorem Sm.up {D k j:Nat} {q:Rat} (h:Sm D k q) (hj:k≤j):Sm D j q:=by
 obtain⟨d,rfl⟩:=Nat.exists_eq_add_of_le hj
 clear hj
 induction d with
 |zero=>exact h
 |succ d ih=>exact ih.up1
theorem sumR_wh {f:Nat→Rat} {D:Nat}:∀ {n:Nat},(∀i,i<n→∃a:Nat,f i*(D:Rat)=(a:Rat))→∃a:Nat,sumR f n*(D:Rat)=(a:Rat)
 |0,_=>⟨0,by rw[sumR,Rat.zero_mul];rfl⟩
 |n+1,h=>by
  obtain⟨a,ha⟩:=sumR_wh (n:=n) fun i hi=>h i (by omega)
  obtain⟨b,hb⟩:=h n (by omega)
  exact⟨a+b,by rw[sumR,Rat.add_mul,ha,hb,Rat.natCast_add]⟩
theorem sumR_high {f:Nat→Rat} {m:Nat}:∀ {n:Nat},(∀i,i<n→f i≤(m:Rat))→sumR f n≤((n*m:Nat):Rat)
 |0,_=>by rw[sumR,Nat.zero_mul];exact Rat.le_refl
 |n+1,h=>by
  rw[sumR,Nat.add_mul,Nat.one_mul,Rat.natCast_add]
  exact Rat.le_trans ((Rat.add_le_add_right (c:=f n)).2 (sumR_high fun i hi=>h i (by omega))) ((Rat.add_le_add_left (c:=((n*m:Nat):Rat))).2 (h n (by omega)))
theorem Sm.sum {D:Nat} {f:Nat→Rat} {k n:Nat} (hn:n≤4) (h:∀i,i<n→Sm D k (f i)):Sm D (k+1) (sumR f n):=by
 refine⟨sumR_low fun i hi=>(h i hi).low,Rat.le_trans (sumR_high fun i hi=>(h i hi).high) ?_,?_⟩
 ·have:n*4^k≤4^(k+1):=by rw[Nat.pow_succ,Nat.mul_comm];exact Nat.mul_le_mul_left _ hn
  exact_mod_cast this
 ·obtain⟨a,ha⟩:=sumR_wh fun i hi=>(h i hi).whole
  exact⟨a*D,by rw[Nat.pow_succ,Rat.natCast_mul,Rat.natCast_mul,←Rat.mul_assoc,ha]⟩
theorem Sm.fits {D k:Nat} {q:Rat} (h:Sm D k q) (h0:0<D):Fits (((B D).size+1)*k+1) q:=by
 obtain⟨a,ha⟩:=h.whole
 have hD:0<D^k:=Nat.pow_pos h0
 have hDr:((D^k:Nat):Rat)≠0:=fun e=>by
  have e':D^k=0:=by exact_mod_cast e
  omega
 have hq:q=mkRat (a:Int) (D^k):=by
  rw[Rat.mkRat_eq_div]
  show q=(a:Rat)/_
  rw[←ha,Rat.div_def,Rat.mul_assoc,Rat.mul_inv_cancel _ hDr,Rat.mul_one]
 have hb:D^k*4^k<256^(((B D).size+1)*k+1):=by
  rw[←Nat.mul_pow,Nat.pow_succ,Nat.pow_mul]
  have h3:=B_lt D
  have h5:D*4≤256^((B D).size+1):=by rw[Nat.pow_succ];omega
  have:(D*4)^k≤(256^((B D).size+1))^k:=Nat.pow_le_pow_left h5 k
  have h2:0<(256^((B D).size+1))^k:=Nat.pow_pos (Nat.pow_pos (by decide))
  omega
 have h4:0<4^k:=Nat.pow_pos (by decide)
 refine⟨(a:Int),D^k,by omega,hq,?_,?_⟩
 ·exact Nat.lt_of_le_of_lt (Nat.le_mul_of_pos_right _ h4) hb
 ·have h1:(a:Rat)≤((4^k*D^k:Nat):Rat):=by
   rw[←ha,Rat.natCast_mul]
   exact Rat.mul_le_mul_of_nonneg_right h.high Rat.natCast_nonneg
  have h2:a≤4^k*D^k:=by exact_mod_cast h1
  rw[Nat.mul_comm] at h2
  simp
  omega
structure HC.Sml (D:Nat) (h:HC):Prop where
 s4:h.s≤4
 L8:h.L≤8
 d0:0<D
 sz:((B D).size+1)*(3*h.L+1)≤15000
 st:∀i,i<h.s→Sm D 1 (h.st i)
 mv:∀i,i<h.s→∀j,j<h.s→Sm D 1 (h.mv i j)
 sh:∀t,t<h.L→∀i,i<h.s→Sm D 1 (h.sh t i)
theorem HC.Sml.ok {D:Nat} {h:HC} (m:h.Sml D) (hs:1≤h.s):h.Ok:=⟨hs,fun i hi=>(m.st i hi).low,fun i hi j hj=>(m.mv i hi j hj).low,fun t ht i hi=>(m.sh t ht i hi).low⟩
theorem HC.Sml.alp {D:Nat} {h:HC} (m:h.Sml D):∀t i,t<h.L→i<h.s→Sm D (3*t+2) (h.alp t i)
 |0,i,ht,hi=>by rw[HC.alp];exact(m.st i hi).mul (m.sh 0 ht i hi)
 |t+1,j,ht,hj=>by
  rw[HC.alp]
  exact((Sm.sum m.s4 fun i hi=>(m.alp t i (by omega) hi).mul (m.mv i hi j hj)).mul (m.sh (t+1) ht j hj)).up (by omega)
theorem HC.Sml.bet {D:Nat} {h:HC} (m:h.Sml D):∀k i,k<h.L→i<h.s→Sm D (3*k) (h.bet k i)
 |0,_,_,_=>by rw[HC.bet];exact Sm.one
 |k+1,i,hk,hi=>by
  rw[HC.bet]
  exact(Sm.sum m.s4 fun j hj=>((m.mv i hi j hj).mul (m.sh _ (by omega) j hj)).mul (m.bet k j (by omega) hj)).up (by omega)
theorem HC.Sml.gam {D:Nat} {h:HC} (m:h.Sml D) (hs:1≤h.s):∀k i,k<h.L→i<h.s→Sm D (3*k) (h.gam k i)
 |0,_,_,_=>by rw[HC.gam];exact Sm.one
 |k+1,i,hk,hi=>by
  rw[HC.gam]
  have hb:=bstR_le (fun j=>h.mv i j*h.sh (h.L - 1 - k) j*h.gam k j) (h.s - 1)
  generalize bstR (fun j=>h.mv i j*h.sh (h.L - 1 - k) j*h.gam k j) (h.s - 1)=b at *
  exact(((m.mv i hi b (by omega)).mul (m.sh _ (by omega) b (by omega))).mul (m.gam hs k b (by omega) (by omega))).up (by omega)
theorem HC.Sml.row {D:Nat} {h:HC} (m:h.Sml D) {v:Nat→Nat} (hv:∀t,v t<h.s):∀t i,i<h.s→Sm D 1 (h.row v t i)
 |0,i,hi=>m.st i hi
 |t+1,i,hi=>m.mv (v t) (hv t) i hi
theorem HC.Sml.lik {D:Nat} {h:HC} (m:h.Sml D) {v:Nat→Nat} (hv:∀t,v t<h.s):∀t,t≤h.L→Sm D (2*t) (h.lik v t)
 |0,_=>by rw[HC.lik];exact Sm.one
 |t+1,ht=>by
  rw[HC.lik]
  exact((m.lik hv t (by omega)).mul ((m.row hv t _ (hv t)).mul (m.sh t (by omega) _ (hv t)))).up (by omega)
end Go.Proofs.YtgamblainfkiaaaGreatDoor
