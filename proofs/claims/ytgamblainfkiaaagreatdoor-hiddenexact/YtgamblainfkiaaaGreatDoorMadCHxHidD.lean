/- The document's answer: arrays of what a call makes: variables, lists of parents, lists of rows. -/
import Derived.Test.YtgamblainfkiaaaGreatDoorHidCHxNetE
import Derived.Lib.AppendZerosOnto
import Derived.Laws.AppendOwnNone
import Derived.Test.YtgamblainfkiaaaGreatDoorRefSHxFillA
namespace Go.Proofs.YtgamblainfkiaaaGreatDoor
open Go.RowKit Go.Shelf Go.Lib
def KeepT (t:TypeId) (w w':World):Prop:=∀(k:Nat) (c:Array Value) (fr:Nat×Nat),w.heap[k]? =some (Obj.cells c t fr)→w'.heap[k]? =some (Obj.cells c t fr)
theorem KeepT.below {t:TypeId} {w w':World} (hb:Below w.heap.size w w'):KeepT t w w':=fun k _ _ h=>(hb.block k (Array.getElem?_eq_some_iff.1 h).1).trans h
theorem KeepT.grown {t t':TypeId} {w w':World} {row:Option Nat} (hg:w.grownBy w' row) (hr:∀g,row=some g→∃c fr,w.heap[g]? =some (.cells c t' fr)) (hne:t≠t'):KeepT t w w':=fun k c fr h=>by
 refine(hg.block k (Array.getElem?_eq_some_iff.1 h).1 fun e=>?_).trans h
 obtain⟨c',fr',h'⟩:=hr k e.symm
 rw[h] at h'
 cases h'
 exact hne rfl
theorem KeepT.set {t t':TypeId} {w:World} {b:Nat} {c':Array Value} {fr':Nat×Nat} (hb:w.heap[b]? =some (.cells c' t' fr')) (hne:t≠t') (j:Nat) (y:Value):KeepT t w (w.setCell ⟨b,j,none⟩ y):=fun k c fr h=>by
 refine(Below.heap_setCell w ⟨b,j,none⟩ y k fun e=>?_).trans h
 have e':k=b:=e
 subst e'
 rw[h] at hb
 cases hb
 exact hne rfl
theorem KeepT.trans {t:TypeId} {a b c:World} (h:KeepT t a b) (k:KeepT t b c):KeepT t a c:=fun i cs fr hi=>k i cs fr (h i cs fr hi)
theorem owns_keep {w w':World} {B:Nat} {e:TypeId} {s:Nat} {v:Value} {n:Nat} {xs:List Value} (h:w.ownsRow B e s v n xs) (hk:KeepT e w w'):w'.ownsRow B e s v n xs:=by
 refine⟨h.1,?_⟩
 rcases h.2 with h1 |⟨g,cap,cur,h1,h2,h3,h4⟩
 ·exact .inl h1
 ·exact .inr ⟨g,cap,cur,h1,h2,hk _ _ _ h3,h4⟩
theorem owns_typed {w:World} {B:Nat} {e:TypeId} {s:Nat} {v:Value} {n:Nat} {xs:List Value} (h:w.ownsRow B e s v n xs):∀g,v.ownBlock=some g→∃c fr,w.heap[g]? =some (.cells c e fr):=fun g hg=>by
 rcases h.2 with ⟨rfl,_⟩ |⟨g',cap,cur,rfl,h2,h3,h4⟩
 ·cases hg
 ·cases hg
  exact⟨_,_,h3⟩
theorem owns_from {w:World} {B:Nat} {e:TypeId} {s:Nat} {v:Value} {n:Nat} {xs:List Value} (h:w.ownsRow B e s v n xs):∀g,v.ownBlock=some g→B≤g:=fun g hg=>by
 rcases h.2 with ⟨rfl,_⟩ |⟨g',cap,cur,rfl,h2,h3,h4⟩
 ·cases hg
 ·cases hg
  exact h2
theorem owns_slice {w:World} {B:Nat} {e:TypeId} {s:Nat} {v:Value} {n:Nat} {xs:List Value} (h:w.ownsRow B e s v n xs):∃a c,v=.slice a n c∧(a=none→c=0):=by
 rcases h.2 with ⟨rfl,rfl⟩ |⟨g',cap,cur,rfl,h2,h3,h4⟩
 ·exact⟨none,0,rfl,fun _=>rfl⟩
 ·exact⟨_,_,rfl,fun e=>by cases e⟩
theorem owns_lower {w:World} {B B':Nat} {e:TypeId} {s:Nat} {v:Value} {n:Nat} {xs:List Value} (h:w.ownsRow B e s v n xs) (hb:B'≤B):w.ownsRow B' e s v n xs:=by
 refine⟨h.1,?_⟩
 rcases h.2 with h1 |⟨g,cap,cur,h1,h2,h3,h4⟩
 ·exact .inl h1
 ·exact .inr ⟨g,cap,cur,h1,Nat.le_trans hb h2,h3,h4⟩
theorem owns_cell {w:World} {B:Nat} {e:TypeId} {s:Nat} {a:Option Addr} {n c:Nat} {xs:List Value} (h:w.ownsRow B e s (.slice a n c) n xs) {j:Nat} (hj:j<xs.length):∃g,a=some ⟨g,0,none⟩∧g<w.heap.size∧w.cell? ⟨g,j,none⟩=some xs[j]:=by
 rcases h.2 with ⟨h1,h2⟩ |⟨g',cap,cur,h1,h2,h3,h4,h5,h6,h7⟩
 ·have:=h.1
  subst h2
  rw[Nat.zero_mul] at this
  omega
 ·cases h1
  refine⟨g',rfl,(Array.getElem?_eq_some_iff.1 h3).1,?_⟩
  have hl:j<n*s:=by have:=h.1;omega
  rw[cell_of_row w g' j _ _ (0,0) h3]
  have e':cur[j]? =(cur.toList.take (n*s))[j]?:=by
   rw[List.getElem?_take,if_pos hl,Array.getElem?_toList]
  rw[e',h7,List.getElem?_eq_getElem hj]
abbrev PV:Type:=ByteArray×Value×List ByteArray
def vC:List PV→List Value
 |[]=>[]
 |p::l=>.string p.1::p.2.1::vC l
theorem vC_length:∀l,(vC l).length=l.length*2
 |[]=>rfl
 |p::l=>by
  show (vC l).length+1+1=(l.length+1)*2
  rw[vC_length l]
  omega
theorem vC_append (p:PV):∀l,vC (l++[p])=vC l++[.string p.1,p.2.1]
 |[]=>rfl
 |q::l=>by
  show Value.string q.1::q.2.1::vC (l++[p])=_
  rw[vC_append p l]
  rfl
theorem vC_get:∀(l:List PV) (k:Nat) (h:k<l.length),(vC l)[k*2]'(by rw[vC_length];omega)=.string l[k].1∧(vC l)[k*2+1]'(by rw[vC_length];omega)=l[k].2.1
 |p::l,0,_=>⟨rfl,rfl⟩
 |p::l,k+1,h=>by
  obtain⟨h1,h2⟩:=vC_get l k (by simpa using h)
  refine⟨?_,?_⟩
  ·simp only[show (k+1)*2=k*2+1+1 by omega]
   exact h1
  ·simp only[show (k+1)*2+1=k*2+1+1+1 by omega]
   exact h2
def OwV (w:World) (B:Nat) (x:Value) (P:List PV):Prop:=w.ownsRow B 85 2 x P.length (vC P)∧∀p∈P,RwS w B p.2.1 p.2.2
abbrev PL:Type:=Value×List Int
def OwL (w:World) (B:Nat) (y:Value) (P:List PL):Prop:=w.ownsRow B 26 1 y P.length (P.map (·.1))∧∀p∈P,RwI w B p.1 p.2
abbrev PR:Type:=Value×List Fr
def OwR (w:World) (B:Nat) (z:Value) (P:List PR):Prop:=w.ownsRow B 22 1 z P.length (P.map (·.1))∧∀p∈P,RwF w B p.1 p.2
theorem OwV.keep {w w':World} {B:Nat} {x:Value} {P:List PV} (h:OwV w B x P) (h1:KeepT 85 w w') (h2:KeepT 9 w w'):OwV w' B x P:=⟨owns_keep h.1 h1,fun p hp=>owns_keep (h.2 p hp) h2⟩
theorem OwL.keep {w w':World} {B:Nat} {x:Value} {P:List PL} (h:OwL w B x P) (h1:KeepT 26 w w') (h2:KeepT 3 w w'):OwL w' B x P:=⟨owns_keep h.1 h1,fun p hp=>owns_keep (h.2 p hp) h2⟩
theorem OwR.keep {w w':World} {B:Nat} {x:Value} {P:List PR} (h:OwR w B x P) (h1:KeepT 22 w w') (h2:KeepT 30 w w'):OwR w' B x P:=⟨owns_keep h.1 h1,fun p hp=>owns_keep (h.2 p hp) h2⟩
theorem OwV.nil (w:World) (B:Nat):OwV w B (.slice none 0 0) []:=⟨⟨rfl,.inl ⟨rfl,rfl⟩⟩,fun p hp=>by cases hp⟩
theorem OwL.nil (w:World) (B:Nat):OwL w B (.slice none 0 0) []:=⟨⟨rfl,.inl ⟨rfl,rfl⟩⟩,fun p hp=>by cases hp⟩
theorem OwR.nil (w:World) (B:Nat):OwR w B (.slice none 0 0) []:=⟨⟨rfl,.inl ⟨rfl,rfl⟩⟩,fun p hp=>by cases hp⟩
theorem Tryz.infoInts:(Tryz.prog.info? 26).map (fun i=>(i.zero,i.size,i.bytes))=some (some (.slice none 0 0),1,24):=by kernel_rfl
theorem Tryz.infoFracs:(Tryz.prog.info? 22).map (fun i=>(i.zero,i.size,i.bytes))=some (some (.slice none 0 0),1,24):=by kernel_rfl
theorem Tryz.infoVar:(Tryz.prog.info? 85).map (fun i=>(i.zero,i.size,i.bytes))=some (some (.agg #[.string ⟨#[]⟩,.slice none 0 0]),2,40):=by kernel_rfl
theorem wpList_append_rs {w:World} {ops:Array Oper} {rest:List Oper} {o:Oper} {a:Act} {Q:Exit→Act→World→Prop} (hgd:o.guard=none) (s x:Operand)
  (ho:o.op=.call {callee:=.builtin .append,args:= #[s,x],argTypes:= #[23,23]}) (base:Nat) (v:Value) (P:List PR) (q:Value) (hq:SlV q) (hs:a.eval s=v) (hown:w.ownsRow base 22 1 v P.length (P.map (·.1))) (g:Nat) (hx:a.eval x=.slice (some ⟨g,0,none⟩) 1 1) (hg:w.cell? ⟨g,0,none⟩=some q) (hlen:P.length+1≤100000) (hbase:base≤w.heap.size)
  (h:∀v' w',w'.ownsRow base 22 1 v' (P.length+1) (P.map (·.1)++[q])→w.grownBy w' v.ownBlock→wpList Tryz.prog ops Q rest (a.put o.dst v') w'):wpList Tryz.prog ops Q (o::rest) a w:=by
 obtain⟨i0,hi0,hz0,hz1,hz2⟩:=info_parts Tryz.infoFracs
 refine wpList_append_own _ hgd s x 23 ho base 22 i0 (.slice none 0 0) 1 24 Tryz.underlying23 hi0 hz0 hz1 hz2 rfl (by decide) v P.length _ hs hown ⟨g,0,none⟩ 1 1 [q] hx rfl ?_ ?_ (by unfold maxLen;omega) (by omega) hbase ?_
 ·intro j u hj
  match j,hj with
  |0,hj=>cases hj;exact hg
  |j+1,hj=>simp at hj
 ·intro u hu
  simp only[List.mem_cons,List.not_mem_nil,or_false] at hu
  subst hu
  obtain⟨_,_,_,rfl⟩:=hq
  rfl
 ·intro v' w' h1 h2 _
  exact h v' w' h1 h2
theorem wp_append_var {w:World} {o:Oper} {a:Act} {K:Act→World→Prop} {Q:Exit→Act→World→Prop} (s x:Operand)
  (ho:o.op=.call {callee:=.builtin .append,args:= #[s,x],argTypes:= #[41,41]}) (base:Nat) (v:Value) (P:List PV) (nm:ByteArray) (q:Value) (hq:SlV q) (hs:a.eval s=v) (hown:w.ownsRow base 85 2 v P.length (vC P)) (g:Nat) (hx:a.eval x=.slice (some ⟨g,0,none⟩) 1 1) (hg0:w.cell? ⟨g,0,none⟩=some (.string nm)) (hg1:w.cell? ⟨g,1,none⟩=some q) (hlen:P.length+1≤100000) (hbase:base≤w.heap.size)
  (h:∀v' w',w'.ownsRow base 85 2 v' (P.length+1) (vC P++[.string nm,q])→w.grownBy w' v.ownBlock→K (a.put o.dst v') w'):o.wp Tryz.prog a w K Q:=by
 obtain⟨i0,hi0,hz0,hz1,hz2⟩:=info_parts Tryz.infoVar
 refine wp_append_own _ s x 41 ho base 85 i0 (.agg #[.string ⟨#[]⟩,.slice none 0 0]) 2 40 Tryz.underlying41 hi0 hz0 hz1 hz2 rfl (by decide) v P.length _ hs hown ⟨g,0,none⟩ 1 1 [.string nm,q] hx rfl ?_ ?_ (by unfold maxLen;omega) (by omega) hbase ?_
 ·intro j u hj
  match j,hj with
  |0,hj=>cases hj;exact hg0
  |1,hj=>cases hj;exact hg1
  |j+2,hj=>simp at hj
 ·intro u hu
  simp only[List.mem_cons,List.not_mem_nil,or_false] at hu
  rcases hu with rfl |rfl
  ·rfl
  ·obtain⟨_,_,_,rfl⟩:=hq
   rfl
 ·intro v' w' h1 h2 _
  exact h v' w' h1 h2
theorem frC_append (a:List Fr):∀l,frC (l++a)=frC l++frC a
 |[]=>rfl
 |f::l=>by
  show Value.bool f.1::Value.string f.2.1::Value.string f.2.2::frC (l++a)=_
  rw[frC_append a l]
  rfl
theorem frC_cell {w:World} {g o:Nat}:∀ {l:List Fr},FrS w (some ⟨g,o,none⟩) l→∀j u,(frC l)[j]? =some u→w.cell? ((⟨g,o,none⟩:Addr).add j)=some u∧u.oneCell'=true:=by
 intro l h j u hj
 have hjl:j<(frC l).length:=(List.getElem?_eq_some_iff.1 hj).1
 rw[frC_length] at hjl
 have hk:j/3<l.length:=by omega
 obtain⟨g',o',e,_,h0,h1,h2⟩:=h (j/3) hk
 cases e
 have hadd:(⟨g,o,none⟩:Addr).add j=⟨g,o+j,none⟩:=by
  rw[Addr.add]
  by_cases h0:j=0
  ·subst h0;simp
  ·simp[h0]
 have hget:=frC_get l (j/3) hk
 rw[hadd]
 have hm:j % 3=0∨j % 3=1∨j % 3=2:=by omega
 rcases hm with hm |hm |hm
 ·have e:j=j/3*3:=by omega
  rw[e] at hj⊢
  rw[hget.1] at hj
  cases hj
  exact⟨h0,rfl⟩
 ·have e:j=j/3*3+1:=by omega
  rw[e] at hj⊢
  rw[hget.2.1] at hj
  cases hj
  exact⟨by rw[←Nat.add_assoc];exact h1,rfl⟩
 ·have e:j=j/3*3+2:=by omega
  rw[e] at hj⊢
  rw[hget.2.2] at hj
  cases hj
  exact⟨by rw[←Nat.add_assoc];exact h2,rfl⟩
theorem wpList_append_frs {w:World} {ops:Array Oper} {rest:List Oper} {o:Oper} {a:Act} {Q:Exit→Act→World→Prop} (hgd:o.guard=none) (s x:Operand)
  (ho:o.op=.call {callee:=.builtin .append,args:= #[s,x],argTypes:= #[22,22]}) (base:Nat) (v:Value) (l la:List Fr) (hs:a.eval s=v) (hown:RwF w base v l) (g og ca:Nat) (hx:a.eval x=.slice (some ⟨g,og,none⟩) la.length ca) (hf:FrS w (some ⟨g,og,none⟩) la) (hlen:l.length+la.length≤100000) (hbase:base≤w.heap.size)
  (h:∀v' w',RwF w' base v' (l++la)→w.grownBy w' v.ownBlock→wpList Tryz.prog ops Q rest (a.put o.dst v') w'):wpList Tryz.prog ops Q (o::rest) a w:=by
 obtain⟨i0,hi0,hz0,hz1,hz2⟩:=info_parts Tryz.infoFrac
 refine wpList_append_own _ hgd s x 22 ho base 30 i0 (.agg #[.bool false,.string ⟨#[]⟩,.string ⟨#[]⟩]) 3 40 Tryz.underlying22 hi0 hz0 hz1 hz2 rfl (by decide) v l.length _ hs hown ⟨g,og,none⟩ la.length ca (frC la) hx (by rw[frC_length];omega) (fun j u hj=>(frC_cell hf j u hj).1) (fun u hu=>?_) (by unfold maxLen;omega) (by omega) hbase ?_
 ·obtain⟨j,hj,rfl⟩:=List.getElem_of_mem hu
  exact(frC_cell hf j _ (List.getElem?_eq_getElem hj)).2
 ·intro v' w' h1 h2 _
  refine h v' w' ?_ h2
  rw[RwF,List.length_append,frC_append]
  exact h1
end Go.Proofs.YtgamblainfkiaaaGreatDoor

/- Lists of lists of fractions: slices.Grow of nothing, slices.Concat of three. -/
namespace Go.Proofs.YtgamblainfkiaaaGreatDoor
open Go.RowKit Go.Shelf
def VaS (w:World) (a:Option Addr) (X:List Value):Prop:=∀k (h:k<X.length),∃g o,a=some ⟨g,o,none⟩∧g<w.heap.size∧w.cell? ⟨g,o+k,none⟩=some X[k]∧SlV X[k]
theorem VaS.below {w w':World} {a:Option Addr} {X:List Value} (h:VaS w a X) (hb:Below w.heap.size w w'):VaS w' a X:=fun k hk=>by
 obtain⟨g,o,h1,h2,h3,h4⟩:=h k hk
 exact⟨g,o,h1,Nat.lt_of_lt_of_le h2 hb.size,(hb.cell (p:=⟨g,o+k,none⟩) h2).trans h3,h4⟩
def RwX (w:World) (B:Nat) (v:Value) (X:List Value):Prop:=w.ownsRow B 22 1 v X.length X
set_option maxRecDepth 100000 in
set_option maxHeartbeats 400000 in
theorem slGrowR_nil (n:Nat) (hn:n≤100000) (w:World):
  Calls Tryz.prog 82 #[.slice none 0 0,.int .i64 (n:Nat)] w fun e w'=>∃v,e=.returned v∧RwX w' w.heap.size v []∧Below w.heap.size w w':=by
 obtain⟨i0,hi0,hz0,hz1,hz2⟩:=info_parts Tryz.infoFracs
 by_cases h:n=0
 ·subst h
  go_enter Tryz.func82,Tryz.ntmps82
  go_wp2
  go_ret
  exact⟨_,rfl,⟨rfl,.inl ⟨rfl,rfl⟩⟩,Below.refl _ _⟩
 ·have hold:(Builtin.firstCells i0.size 0 (.slice none 0 0)).run Tryz.prog w.drew=.ok ([]:List Value).toArray w.drew:=run_firstCells_none w.drew i0.size 0 0 0
  have hrz:∀ty,(Builtin.append_ #[23,3] ty #[.slice none 0 0,.int .i64 (n:Int)]).run Tryz.prog w=.ok (.slice (some ⟨w.heap.size,0,none⟩) (0+n) (grownCap w (0+n) 0 22)) (w.drew.alloc (.cells (([]:List Value).toArray++Builtin.zeroCells (Value.slice none 0 0).cells n++Builtin.zeroCells (Value.slice none 0 0).cells (grownCap w (0+n) 0 22 - (0+n))) 22)):=fun ty=>
   Lib.run_append_grow_zeros w 23 3 ty 22 i0 (.slice none 0 0) .i64 .i64 Tryz.underlying23 Tryz.underlying3 hi0 hz0 none 0 0 [] hold n (by omega) (by omega) (by omega) (by omega) (by rw[hz2];omega) (growslice_fits (by omega) (by rw[hz2];omega))
  have hGn:0+n≤grownCap w (0+n) 0 22:=grownCap_ge w _ _ _
  have hGm:=grownCap_le_maxLen w (0+n) 0 22 (by unfold maxLen;omega)
  rw[Nat.zero_add] at hrz hGn hGm
  obtain⟨G,hG⟩:∃G,G=grownCap w n 0 22:=⟨_,rfl⟩
  rw[←hG] at hrz hGn hGm
  have HGM:=hid hGm
  have hG63:G≤9223372036854775807:=by unfold maxLen at hGm;omega
  have hn0:(0:Int)<(n:Int):=by omega
  clear hold hG hGm
  go_enter Tryz.func82,Tryz.ntmps82
  go_wp2_with (at_builtin;refine Lib.wpList_append_run _ rfl _ _ _ _ rfl _ _ rfl rfl _ _ (hrz _) ?_)
  go_ret
  refine⟨_,rfl,⟨rfl,.inr ⟨w.heap.size,G,_,rfl,Nat.le_refl _,heap_alloc_new w.drew _,Nat.zero_le _,HGM.out,?_,by simp⟩⟩,((Below.refl _ w).drew).alloc (Nat.le_refl _) _⟩
  simp[size_zeroCells]
  omega
theorem wpList_append_vas {w:World} {ops:Array Oper} {rest:List Oper} {o:Oper} {a:Act} {Q:Exit→Act→World→Prop} (hgd:o.guard=none) (s x:Operand)
  (ho:o.op=.call {callee:=.builtin .append,args:= #[s,x],argTypes:= #[23,23]}) (base:Nat) (v:Value) (xs la:List Value) (hs:a.eval s=v) (hown:RwX w base v xs) (p:Option Addr) (ca:Nat) (hx:a.eval x=.slice p la.length ca) (hi:VaS w p la) (hp:p=none→ca=0) (hlen:xs.length+la.length≤100000) (hbase:base≤w.heap.size)
  (h:∀v' w',RwX w' base v' (xs++la)→w.grownBy w' v.ownBlock→wpList Tryz.prog ops Q rest (a.put o.dst v') w'):wpList Tryz.prog ops Q (o::rest) a w:=by
 obtain⟨i0,hi0,hz0,hz1,hz2⟩:=info_parts Tryz.infoFracs
 cases p with
 |none=>
  have hl:la=[]:=by
   cases la with
   |nil=>rfl
   |cons x l=>obtain⟨g,o,e,_⟩:=hi 0 (by simp);cases e
  subst hl
  have h0:=hp rfl
  subst h0
  have h1:=h v w (by rw[List.append_nil];exact hown) ⟨rfl,rfl,rfl,Nat.le_refl _,fun _ _ _=>rfl⟩
  exact wpList_append_own_none hgd s x 23 ho base 22 i0 1 Tryz.underlying23 hi0 v xs.length _ hs hown hx h1
 |some ad=>
  refine wpList_append_own _ hgd s x 23 ho base 22 i0 (.slice none 0 0) 1 24 Tryz.underlying23 hi0 hz0 hz1 hz2 rfl (by decide) v xs.length _ hs hown ad la.length ca la hx (by simp) ?_ ?_ (by unfold maxLen;omega) (by omega) hbase ?_
  ·intro j u hj
   obtain⟨hj1,hj2⟩:=List.getElem?_eq_some_iff.1 hj
   obtain⟨g,o',e,_,hc,_⟩:=hi j hj1
   cases e
   rw[←hj2]
   rw[Addr.add]
   by_cases h0:j=0
   ·subst h0;simpa using hc
   ·simpa [h0] using hc
  ·intro u hu
   obtain⟨j,hj,rfl⟩:=List.getElem_of_mem hu
   obtain⟨g,o',e,_,_,hs⟩:=hi j hj
   obtain⟨_,_,_,e⟩:=hs
   rw[e]
   rfl
  ·intro v' w' h1 h2 _
   refine h v' w' ?_ h2
   rw[RwX,List.length_append]
   exact h1
def frstV (la lb lc:List Value) (i:Nat):List Value:=if i=0 then[] else if i=1 then la else if i=2 then la++lb else la++lb++lc
theorem RwX.own {w:World} {B:Nat} {v:Value} {l:List Value} (h:RwX w B v l):∀k,v.ownBlock=some k→B≤k:=by
 intro k hk
 rcases h.2 with ⟨rfl,_⟩ |⟨g,cap,cur,rfl,h2,_⟩
 ·cases hk
 ·cases hk
  exact h2
theorem frstV_len {la lb lc:List Value} (hla:la.length≤1000) (hlb:lb.length≤1000) (hlc:lc.length≤1000) (i:Nat):(frstV la lb lc i).length≤3000:=by
 rw[frstV]
 by_cases h:i=0
 ·rw[if_pos h];simp
 ·rw[if_neg h]
  by_cases h1:i=1
  ·rw[if_pos h1];omega
  ·rw[if_neg h1]
   by_cases h2:i=2
   ·rw[if_pos h2,List.length_append];omega
   ·rw[if_neg h2,List.length_append,List.length_append];omega
set_option maxRecDepth 100000 in
set_option maxHeartbeats 800000 in
theorem slConcatR_any (R:Nat) (a b d:Option Addr) (ca cb cd:Nat) (la lb ld:List Value) (w:World) (hR:R<w.heap.size) (r0:w.cell? ⟨R,0,none⟩=some (.slice a la.length ca)) (r1:w.cell? ⟨R,1,none⟩=some (.slice b lb.length cb)) (r2:w.cell? ⟨R,2,none⟩=some (.slice d ld.length cd)) (ha:VaS w a la) (hb:VaS w b lb) (hd:VaS w d ld) (ha0:a=none→ca=0) (hb0:b=none→cb=0) (hd0:d=none→cd=0) (hla:la.length≤1000) (hlb:lb.length≤1000) (hld:ld.length≤1000):
  Calls Tryz.prog 40 #[.slice (some ⟨R,0,none⟩) 3 3] w fun e w'=>∃v,e=.returned v∧RwX w' w.heap.size v (la++lb++ld)∧Below w.heap.size w w':=by
 have one:∀i,i<3→∃(p:Option Addr) (c:Nat) (l:List Value),w.cell? ⟨R,i,none⟩=some (.slice p l.length c)∧VaS w p l∧(p=none→c=0)∧l.length≤1000∧frstV la lb ld (i+1)=frstV la lb ld i++l:=by
  intro i hi
  by_cases h:i=0
  ·subst h
   exact⟨a,ca,la,r0,ha,ha0,hla,by simp[frstV]⟩
  ·by_cases h:i=1
   ·subst h
    exact⟨b,cb,lb,r1,hb,hb0,hlb,by simp[frstV]⟩
   ·obtain rfl:i=2:=by omega
    exact⟨d,cd,ld,r2,hd,hd0,hld,by simp[frstV]⟩
 have HONE:=hid one
 have HFL:=hid (fun i=>frstV_len hla hlb hld i)
 have h2:frstV la lb ld 3=la++lb++ld:=by simp[frstV]
 rw[←h2]
 have hz:frstV la lb ld 0=[]:=rfl
 clear one r0 r1 r2 ha hb hd ha0 hb0 hd0 h2 hla hlb hld
 generalize frstV la lb ld=F at *
 go_enter Tryz.func40,Tryz.ntmps40
 go_wp2_with fail
 go_loopw [3,11] (fun sv iv wr=>∃i:Nat,i≤3∧iv=.int .i64 i∧sv=.int .i64 ((F i).length:Nat)∧Hid (Below w.heap.size w wr)) (fun _ iv _=>3 - (intOf iv).toNat)
 case atStart=>exact⟨0,by omega,rfl,by rw[hz];rfl,Below.refl _ _⟩
 case round=>
  obtain⟨i,hi,rfl,rfl,HW⟩:=hrel
  by_cases hlt:i<3
  ·obtain⟨p,c,l,hc,hI,hp,hl,hf⟩:=HONE.out i hlt
   have hcw:=(HW.out.cell (p:=⟨R,i,none⟩) hR).trans hc
   have hfl:=HFL.out i
   have hw1:IntKind.i64.wrap (((F i).length:Int)+(l.length:Int))=((F i).length:Int)+(l.length:Int):=by rw[IntKind.wrap_i64];omega
   have HE:Hid (((F (i+1)).length:Int)=((F i).length:Int)+(l.length:Int)):=by show _=_;rw[hf,List.length_append];exact Int.natCast_add _ _
   have hnn:(0:Int)≤((F i).length:Int)+(l.length:Int):=by omega
   clear hf hc hp hI
   go_wp2
   go_roundw
   case rel=>exact⟨i+1,by omega,by go_num,by rw[HE.out],HW⟩
   case measure=>simp[intOf];omega
  ·obtain rfl:i=3:=by omega
   have hfl:=HFL.out 3
   go_wp2_with fail
   refine(slGrowR_nil (F 3).length (by omega) _).mono ?_
   rintro e w1 ⟨v1,rfl,hr1,hb1⟩
   have HB1:=hid (HW.out.trans (hb1.mono HW.out.size))
   have HR1:Hid (∀b,b≤wr.heap.size→RwX w1 b v1 []):=fun b hb=>⟨hr1.1,hr1.2.imp id (fun ⟨g,cap,cur,h1,h2,h3⟩=>⟨g,cap,cur,h1,Nat.le_trans hb h2,h3⟩)⟩
   have HR:=hid (HR1.out w.heap.size HW.out.size)
   clear hr1 hb1 HR1
   go_wp2_with fail
   go_loopw [6,27] (fun sv iv wr=>∃i:Nat,i≤3∧iv=.int .i64 i∧Hid (RwX wr w.heap.size sv (F i))∧Hid (Below w.heap.size w wr)) (fun _ iv _=>3 - (intOf iv).toNat)
   case atStart=>exact⟨0,by omega,rfl,by rw[hz];exact HR,HB1⟩
   case round=>
    obtain⟨i,hi,rfl,HRR,HWW⟩:=hrel
    by_cases hlt:i<3
    ·obtain⟨p,c,l,hc,hI,hp,hl,hf⟩:=HONE.out i hlt
     have hcw:=(HWW.out.cell (p:=⟨R,i,none⟩) hR).trans hc
     have hfl:=HFL.out i
     have HI:=hid (hI.below HWW.out)
     have HP:=hid hp
     have HE:=hid hf
     have HOWN:=hid HRR.out.own
     clear hf hc hp hI
     go_wp2_with (at_builtin;refine wpList_append_vas rfl _ _ rfl w.heap.size _ (F i) l rfl HRR.out p c rfl HI.out HP.out (by omega) HWW.out.size ?_;intro v' w2 hr2 hg2)
     have HR2:=hid hr2
     have HB2:=hid (HWW.out.grown hg2 HWW.out.size HOWN.out)
     clear hr2 hg2
     go_roundw
     case rel=>exact⟨i+1,by omega,by go_num,by rw[HE.out];exact HR2,HB2⟩
     case measure=>simp[intOf];omega
    ·obtain rfl:i=3:=by omega
     go_wp2
     go_ret
     exact⟨_,rfl,HRR.out,HWW.out⟩
end Go.Proofs.YtgamblainfkiaaaGreatDoor

/- slices.IndexFunc and slices.ContainsFunc of numbers, whatever is asked; package infer: the closure of Posterior. -/
namespace Go.Proofs.YtgamblainfkiaaaGreatDoor
open Go.RowKit Go.Shelf
set_option maxRecDepth 100000 in
set_option maxHeartbeats 400000 in
theorem idxFI_any (a:Option Addr) (ca f:Nat) (lb:Array Value) (F:List Int) (p:Int→Bool) (w:World) (h:IntS w a F) (hn:F.length≤1000) (eF:∀args w,(callFunc f args).run Tryz.prog w=.ok (.enter f args) w)
  (hp:∀q∈F,∀U:World,Below w.heap.size w U→Calls Tryz.prog f (#[.int .i64 q]++lb) U fun e w'=>e=.returned (.bool (p q))∧Below U.heap.size U w'):
  Calls Tryz.prog 98 #[.slice a F.length ca,.func (.func f) #[] lb] w fun e w'=>∃j:Int,e=.returned (.int .i64 j)∧decide (0≤j)=F.any p∧Below w.heap.size w w':=by
 have HF:=hid h
 have HP:=hid hp
 have HNO:Hid ((∀i (hi:i<F.length),p F[i]=false)→F.any p=false):=fun hh=>List.any_eq_false.2 fun q hq=>by
  obtain⟨i,hi,rfl⟩:=List.getElem_of_mem hq
  rw[hh i hi];decide
 have HYE:Hid (∀i (hi:i<F.length),p F[i]=true→F.any p=true):=fun i hi hh=>List.any_eq_true.2 ⟨_,List.getElem_mem hi,hh⟩
 clear h hp
 generalize F.any p=R at *
 go_enter Tryz.func98,Tryz.ntmps98
 go_wp2_with fail
 go_loopw [8] (fun iv wr=>∃i:Nat,i≤F.length∧iv=.int .i64 i∧Hid (∀j (hj:j<F.length),j<i→p F[j]=false)∧Hid (Below w.heap.size w wr)) (fun iv _=>F.length - (intOf iv).toNat)
 case atStart=>exact⟨0,Nat.zero_le _,rfl,(fun j _ hj=>absurd hj (by omega)),Below.refl _ _⟩
 case round=>
  obtain⟨i,hi,rfl,HN,HB⟩:=hrel
  by_cases hlt:i<F.length
  ·obtain⟨g,o,rfl,hg,h0⟩:=HF.out i hlt
   have k0:=(HB.out.cell (p:=⟨g,_,none⟩) hg).trans h0
   have HC:=hid (HP.out F[i] (List.getElem_mem hlt) wr HB.out)
   have HYi:=hid (HYE.out i hlt)
   have HNX:Hid (p F[i]=false→∀j (hj:j<F.length),j<i+1→p F[j]=false):=fun e j hj hlt'=>by
    rcases Nat.lt_or_ge j i with h2 |h2
    ·exact HN.out j hj h2
    ·obtain rfl:j=i:=by omega
     exact e
   clear h0
   generalize p F[i]=q at *
   generalize F[i]=f1 at *
   go_wp2_with fail
   refine HC.out.mono ?_
   rintro e w2 ⟨rfl,hb2⟩
   have HB2:=hid (HB.out.trans (hb2.mono HB.out.size))
   clear hb2 HC
   cases q with
   |true=>
    have HE:=hid (HYi.out rfl)
    go_wp2
    go_ret
    exact⟨(i:Nat),rfl,by rw[HE.out];simp,HB2.out⟩
   |false=>
    have HE:=hid (HNX.out rfl)
    go_wp2
    go_roundw
    case rel=>exact⟨i+1,by omega,by go_num,HE,HB2⟩
    case measure=>simp[intOf];omega
  ·obtain rfl:i=F.length:=by omega
   have HE:=hid (HNO.out fun j hj=>HN.out j hj hj)
   go_wp2
   go_ret
   exact⟨-1,rfl,by rw[HE.out];rfl,HB.out⟩
set_option maxRecDepth 100000 in
set_option maxHeartbeats 400000 in
theorem conFI_any (a:Option Addr) (ca f:Nat) (lb:Array Value) (F:List Int) (p:Int→Bool) (w:World) (h:IntS w a F) (hn:F.length≤1000) (eF:∀args w,(callFunc f args).run Tryz.prog w=.ok (.enter f args) w)
  (hp:∀q∈F,∀U:World,Below w.heap.size w U→Calls Tryz.prog f (#[.int .i64 q]++lb) U fun e w'=>e=.returned (.bool (p q))∧Below U.heap.size U w'):
  Calls Tryz.prog 66 #[.slice a F.length ca,.func (.func f) #[] lb] w fun e w'=>e=.returned (.bool (F.any p))∧Below w.heap.size w w':=by
 have HI:=hid (idxFI_any a ca f lb F p w h hn eF hp)
 clear h hp
 generalize F.any p=R at *
 go_enter Tryz.func66,Tryz.ntmps66
 go_wp2_with fail
 refine HI.out.mono ?_
 rintro e w2 ⟨j,rfl,hj,hb2⟩
 have HB:=hid hb2
 have HJ:=hid hj
 clear hb2 hj
 go_wp2
 go_ret
 exact⟨by rw[←HJ.out];rfl,HB.out⟩
end Go.Proofs.YtgamblainfkiaaaGreatDoor

/- Chains and hidden chains that may be: Check, Step, check. -/
namespace Go.Proofs.YtgamblainfkiaaaGreatDoor
open Go.RowKit Go.Shelf
structure RwsOK (n m:Nat) (R:List (List Fr)):Prop where
 len:R.length=n
 each:∀i (h:i<R.length),R[i].length=m
 fw:∀i (h:i<R.length),fw R[i]≤10000
 row:∀i (h:i<R.length),rowB R[i]=true
set_option maxRecDepth 100000 in
set_option maxHeartbeats 1000000 in
theorem chCheck_yes (c:Option Addr) (cc n:Nat) (R:List (List Fr)) (w:World) (hR:FsS w c R) (h:RwsOK n n R) (h1:1≤n) (hn:n≤6):
  Calls Tryz.prog 105 #[.slice c n cc] w fun e w'=>e=.returned (.int .i64 0)∧Below w.heap.size w w':=by
 have HFR:=hid hR
 have HO:=hid h
 clear hR h
 go_enter Tryz.func105,Tryz.ntmps105
 go_wp2_with fail
 go_loopw [17] (fun iv wr=>∃i:Nat,i≤n∧iv=.int .i64 i∧w=wr) (fun iv _=>n - (intOf iv).toNat)
 case atStart=>exact⟨0,Nat.zero_le _,rfl,rfl⟩
 case round=>
  obtain⟨i,hi,rfl,rfl⟩:=hrel
  by_cases hlt:i<n
  ·have hiR:i<R.length:=by rw[HO.out.len];exact hlt
   obtain⟨gc,oc,bc,cr,rfl,hgc,c0, -, -⟩:=HFR.out i hiR
   rw[HO.out.each i hiR] at c0
   go_wp2
   go_roundw
   case rel=>exact⟨i+1,by omega,by go_num,trivial⟩
   case measure=>simp[intOf];omega
  ·obtain rfl:i=n:=by omega
   go_wp2_with fail
   go_loopw [29] (fun kv wr=>∃k:Nat,k≤i∧kv=.int .i64 k∧Hid (Below w.heap.size w wr)) (fun kv _=>i - (intOf kv).toNat)
   case atStart=>exact⟨0,Nat.zero_le _,rfl,Below.refl _ _⟩
   case round=>
    obtain⟨k,hk,rfl,HB⟩:=hrel
    by_cases hlt2:k<i
    ·have hkR:k<R.length:=by rw[HO.out.len];exact hlt2
     obtain⟨gc,oc,bc,cr,rfl,hgc,c0,hfr, -⟩:=(HFR.out.below HB.out) k hkR
     have hel:=HO.out.each k hkR
     have HRO:=hid (chRow_any bc cr R[k] wr hfr (HO.out.fw k hkR) (by omega))
     rw[HO.out.row k hkR] at HRO
     clear hfr hel
     generalize R[k].length=rl at *
     go_wp2_with fail
     refine HRO.out.mono ?_
     rintro e w2 ⟨rfl,hb2⟩
     have HB2:=hid (HB.out.trans (hb2.mono HB.out.size))
     clear hb2
     go_wp2
     go_roundw
     case rel=>exact⟨k+1,by omega,by go_num,HB2⟩
     case measure=>simp[intOf];omega
    ·obtain rfl:k=i:=by omega
     go_wp2
     go_ret
     exact⟨rfl,HB.out⟩
set_option maxRecDepth 100000 in
set_option maxHeartbeats 400000 in
theorem chStep_yes (a c:Option Addr) (ca cc n:Nat) (l:List Fr) (R:List (List Fr)) (f:Nat→Rat) (g:Nat→Nat→Rat) (w:World) (ha:FrS w a l) (hR:FsS w c R) (hf:Lst n f l) (hok:RwsOK n n R) (hg:∀i (h:i<R.length),Lst n (g i) R[i]) (hsz:∀i j,i<n→j<n→qw (f i*g i j)≤30010) (hps:∀j k,j<n→k≤n→qw (sumR (fun i=>f i*g i j) k)≤40000) (h1:1≤n) (hn:n≤4):
  Calls Tryz.prog 73 #[.slice a n ca,.slice c n cc] w fun e w'=>∃G,e=.returned (.tuple #[.slice (some ⟨G,0,none⟩) n n,.int .i64 0])∧w.heap.size≤G∧RowF w' G (lF n fun j=>sumR (fun i=>f i*g i j) n)∧Below w.heap.size w w':=by
 have HC:=hid (chCheck_yes c cc n R w hR hok h1 (by omega))
 have HM:=hid (fun (V:World) (hb:Below w.heap.size w V)=>chMoved_any a c ca cc n l R f g V (ha.below hb) (hR.below hb) hf hok.len hg hsz hps hn)
 clear ha hR hf hok hg hsz hps
 generalize (lF n fun j=>sumR (fun i=>f i*g i j) n)=FL at *
 go_enter Tryz.func73,Tryz.ntmps73
 go_wp2_with fail
 refine HC.out.mono ?_
 rintro e w1 ⟨rfl,hb1⟩
 have HB1:=hid hb1
 clear hb1
 go_wp2_with fail
 refine(HM.out _ HB1.out).mono ?_
 rintro e w2 ⟨G,rfl,hG,hr,hb2⟩
 have HB2:=hid (HB1.out.trans (hb2.mono HB1.out.size))
 have HRR:=hid hr
 have hGw:w.heap.size≤G:=Nat.le_trans HB1.out.size hG
 clear hr hb2 hG
 go_wp2
 go_ret2
 exact⟨G,rfl,hGw,HRR.out,HB2.out⟩
set_option maxRecDepth 100000 in
set_option maxHeartbeats 400000 in
theorem signs_yes (a b c:Option Addr) (n1 n2 ca cb cc n m:Nat) (R:List (List Fr)) (w:World) (hR:FsS w c R) (h:RwsOK n m R) (h1:1≤n) (hn:n≤100):
  Calls Tryz.prog 39 #[.agg #[.slice a n1 ca,.slice b n2 cb,.slice c n cc]] w fun e w'=>e=.returned (.int .i64 (m:Nat))∧Below w.heap.size w w':=by
 have h0:0<R.length:=by rw[h.len];omega
 obtain⟨gc,oc,bc,cr,rfl,hgc,c0, -, -⟩:=hR 0 h0
 rw[h.each 0 h0,Nat.add_zero] at c0
 have hA:=(Below.refl w.heap.size w).alloc (Nat.le_refl _) (HC3 (.slice a n1 ca) (.slice b n2 cb) (.slice (some ⟨gc,oc,none⟩) n cc))
 obtain⟨-, -,e2⟩:=(HBox.new w (.slice a n1 ca) (.slice b n2 cb) (.slice (some ⟨gc,oc,none⟩) n cc)).cells
 have c0':=(hA.cell (p:=⟨gc,_,none⟩) hgc).trans c0
 have HA:=hid hA
 clear c0 hA hR h
 go_enter Tryz.func39,Tryz.ntmps39
 go_wp2
 go_ret
 exact⟨rfl,HA.out⟩
theorem FsS.vals {w:World} {a:Option Addr} {R:List (List Fr)} (h:FsS w a R):∃X:List Value,X.length=R.length∧VaS w a X∧∀v∈X,∃(b:Option Addr) (l:List Fr) (c:Nat),v=.slice b l.length c∧FrS w b l∧l∈R:=by
 let at':Nat→Value:=fun k=>match a with
  |some p=>(w.cell? ⟨p.block,p.off+k,none⟩).getD (.slice none 0 0)
  |none=>.slice none 0 0
 have key:∀k (hk:k<R.length),∃g o b c,a=some ⟨g,o,none⟩∧g<w.heap.size∧w.cell? ⟨g,o+k,none⟩=some (at' k)∧at' k=.slice b R[k].length c∧FrS w b R[k]:=fun k hk=>by
  obtain⟨g,o,b,c,rfl,hg,h3,h4, -⟩:=h k hk
  have e:at' k=.slice b R[k].length c:=by simp only[at',h3,Option.getD_some]
  exact⟨g,o,b,c,rfl,hg,by rw[e];exact h3,e,h4⟩
 refine⟨(List.range R.length).map at',by simp,fun k hk=>?_,fun v hv=>?_⟩
 ·have hk':k<R.length:=by simpa using hk
  obtain⟨g,o,b,c,h1,h2,h3,h4, -⟩:=key k hk'
  have e:((List.range R.length).map at')[k]=at' k:=by simp
  rw[e]
  exact⟨g,o,h1,h2,h3,b,_,c,h4⟩
 ·obtain⟨k,hk,rfl⟩:=List.mem_map.1 hv
  have hk':k<R.length:=List.mem_range.1 hk
  obtain⟨g,o,b,c,h1,h2,h3,h4,h5⟩:=key k hk'
  exact⟨b,R[k],c,h4,h5,List.getElem_mem hk'⟩
structure HidI (w:World) (a b c:Option Addr) (n m:Nat) (l:List Fr) (R1 R2:List (List Fr)):Prop where
 st:FrS w a l
 mv:FsS w b R1
 sh:FsS w c R2
theorem HidI.below {w w':World} {a b c:Option Addr} {n m:Nat} {l:List Fr} {R1 R2:List (List Fr)} (h:HidI w a b c n m l R1 R2) (hb:Below w.heap.size w w'):HidI w' a b c n m l R1 R2:=⟨h.st.below hb,h.mv.below hb,h.sh.below hb⟩
structure HidOK (n m:Nat) (l:List Fr) (R1 R2:List (List Fr)):Prop where
 n1:1≤n
 n4:n≤4
 m1:1≤m
 m4:m≤4
 len:l.length=n
 fw:fw l≤10000
 row:rowB l=true
 mv:RwsOK n n R1
 sh:RwsOK n m R2
theorem HidOK.all {n m:Nat} {l:List Fr} {R1 R2:List (List Fr)} (h:HidOK n m l R1 R2):∀r∈[l]++R1++R2,rowB r=true∧Go.Proofs.YtgamblainfkiaaaGreatDoor.fw r≤10000∧r.length≤4:=fun r hr=>by
 rcases List.mem_append.1 hr with h1 |h1
 ·rcases List.mem_append.1 h1 with h2 |h2
  ·rw[List.mem_singleton.1 h2]
   exact⟨h.row,h.fw,by rw[h.len];exact h.n4⟩
  ·obtain⟨i,hi,rfl⟩:=List.getElem_of_mem h2
   exact⟨h.mv.row i hi,h.mv.fw i hi,by rw[h.mv.each i hi];exact h.n4⟩
 ·obtain⟨i,hi,rfl⟩:=List.getElem_of_mem h1
  exact⟨h.sh.row i hi,h.sh.fw i hi,by rw[h.sh.each i hi];exact h.m4⟩
set_option maxRecDepth 100000 in
set_option maxHeartbeats 4000000 in
theorem hiCheck_yes (a b c:Option Addr) (ca cb cc n m:Nat) (l:List Fr) (R1 R2:List (List Fr)) (w:World) (h:HidI w a b c n m l R1 R2) (hok:HidOK n m l R1 R2) (hb0:b=none→cb=0) (hc0:c=none→cc=0):
  Calls Tryz.prog 8 #[.agg #[.slice a n ca,.slice b n cb,.slice c n cc]] w fun e w'=>e=.returned (.int .i64 0)∧Below w.heap.size w w':=by
 have hn1:=hok.n1
 have hn4:=hok.n4
 have hm1:=hok.m1
 have hm4:=hok.m4
 obtain⟨X1,hxl1,hx1,hxa1⟩:=h.mv.vals
 obtain⟨X2,hxl2,hx2,hxa2⟩:=h.sh.vals
 have HX1:=hid hx1
 have HX2:=hid hx2
 have HXL1:Hid (X1.length=n):=hxl1.trans hok.mv.len
 have HXL2:Hid (X2.length=n):=hxl2.trans hok.sh.len
 have HXA:Hid (∀v∈([.slice a n ca]++X1++X2:List Value),∃(b':Option Addr) (r:List Fr) (c':Nat),v=.slice b' r.length c'∧FrS w b' r∧r∈[l]++R1++R2):=fun v hv=>by
  rcases List.mem_append.1 hv with h1 |h1
  ·rcases List.mem_append.1 h1 with h2 |h2
   ·rw[List.mem_singleton.1 h2]
    exact⟨a,l,ca,by rw[hok.len],h.st,by simp⟩
   ·obtain⟨b',r,c',e1,e2,e3⟩:=hxa1 v h2
    exact⟨b',r,c',e1,e2,by simp[e3]⟩
  ·obtain⟨b',r,c',e1,e2,e3⟩:=hxa2 v h1
   exact⟨b',r,c',e1,e2,by simp[e3]⟩
 have HALL:=hid hok.all
 have HN1:=hid hb0
 have HN2:=hid hc0
 have hA:=(Below.refl w.heap.size w).alloc (Nat.le_refl _) (HC3 (.slice a n ca) (.slice b n cb) (.slice c n cc))
 have hHB:=HBox.new w (.slice a n ca) (.slice b n cb) (.slice c n cc)
 have HIC0:=hid (fun V:World=>isCount_yes n V hn1 hn4)
 have HIC:Hid (∀V:World,Calls Tryz.prog 37 #[.int .i64 (m:Nat)] V fun e w'=>e=.returned (.bool true)∧Below V.heap.size V w'):=fun V=>(isCount_yes m V hm1 hm4).mono (fun e w' ⟨h1,h2⟩=>⟨h1,by rw[h2];exact Below.refl _ _⟩)
 have HIM1:Hid (∀V:World,Below w.heap.size w V→Calls Tryz.prog 38 #[.slice b n cb,.int .i64 (n:Nat),.int .i64 (n:Nat)] V fun e w'=>e=.returned (.bool true)∧Below V.heap.size V w'):=fun V hV=>by
  have h:=isMatrix_yes b cb n n R1 V (h.mv.below hV) hok.mv.len (by rw[hok.mv.len];omega) (by omega) hok.mv.each
  rwa [hok.mv.len] at h
 have HSG0:Hid (∀V:World,Below w.heap.size w V→Calls Tryz.prog 39 #[.agg #[.slice a n ca,.slice b n cb,.slice c n cc]] V fun e w'=>e=.returned (.int .i64 (m:Nat))∧Below V.heap.size V w'):=fun V hV=>signs_yes a b c n n ca cb cc n m R2 V (h.sh.below hV) hok.sh hn1 (by omega)
 have HIM20:Hid (∀V:World,Below w.heap.size w V→Calls Tryz.prog 38 #[.slice c n cc,.int .i64 (n:Nat),.int .i64 (m:Nat)] V fun e w'=>e=.returned (.bool true)∧Below V.heap.size V w'):=fun V hV=>by
  have h:=isMatrix_yes c cc n m R2 V (h.sh.below hV) hok.sh.len (by rw[hok.sh.len];omega) (by omega) hok.sh.each
  rwa [hok.sh.len] at h
 clear h hok hb0 hc0 hxl1 hxl2 hx1 hx2 hxa1 hxa2
 obtain⟨e0,e1,e2⟩:=hHB.cells
 go_enter Tryz.func8,Tryz.ntmps8
 go_wp2_with fail
 generalize (w.alloc (HC3 (.slice a n ca) (.slice b n cb) (.slice c n cc)))=W at *
 refine(HIC0.out _).mono ?_
 rintro e w1 ⟨rfl,rfl⟩
 go_wp2_with fail
 refine(HIM1.out _ hA).mono ?_
 rintro e w2 ⟨rfl,hb2⟩
 replace hHB:=hHB.below hb2 hHB.lt
 replace hA:=hA.trans (hb2.mono hA.size)
 clear hb2 e0 e1 e2
 go_upto_region 3 with fail
 have HSG:Hid (∀V:World,Below w2.heap.size w2 V→Calls Tryz.prog 39 #[.agg #[.slice a n ca,.slice b n cb,.slice c n cc]] V fun e w'=>e=.returned (.int .i64 (m:Nat))∧Below V.heap.size V w'):=fun V hV=>HSG0.out V (hA.trans (hV.mono hA.size))
 have HIM2:Hid (∀V:World,Below w2.heap.size w2 V→Calls Tryz.prog 38 #[.slice c n cc,.int .i64 (n:Nat),.int .i64 (m:Nat)] V fun e w'=>e=.returned (.bool true)∧Below V.heap.size V w'):=fun V hV=>HIM20.out V (hA.trans (hV.mono hA.size))
 have HELD:Hid (∀u,Below w2.heap.size w2 u→u.cell? ⟨w.heap.size,0,none⟩=some (.slice a n ca)∧u.cell? ⟨w.heap.size,1,none⟩=some (.slice b n cb)∧u.cell? ⟨w.heap.size,2,none⟩=some (.slice c n cc)):=fun u h=>(hHB.below h hHB.lt).cells
 have HB:Hid (Below w2.heap.size w2 w2.drew):=(Below.refl _ w2).drew
 refine wp_region_held_drew (S:=fun u=>u.cell? ⟨w.heap.size,0,none⟩=some (.slice a n ca)∧u.cell? ⟨w.heap.size,1,none⟩=some (.slice b n cb)∧u.cell? ⟨w.heap.size,2,none⟩=some (.slice c n cc)) (by kernel_rfl) (HELD.out _ HB.out) (fun hSd=>?_)
 generalize w2.drew=u0 at *
 refine wpAnyH_take (i:=0) (oi:=_) (v:=.pointer (some ⟨w.heap.size,2,none⟩)) rfl (by kernel_rfl) (by kernel_rfl) (by kernel_rfl) (fun _ _ _ h=>h) (Or.inl ⟨by rfl,?_⟩) (by assumption) ?_
 ·intro u' hSu
  (try simp only[List.getElem_toArray,List.getElem_cons_zero])
  go_simp
 (try simp only[List.getElem_toArray,List.getElem_cons_zero])
 (try simp only[Act.put,List.setIfInBounds_toArray,List.set_cons_zero,List.set_cons_succ])
 refine wpAnyH_take (i:=1) (oi:=_) (v:=.slice c n cc) rfl (by kernel_rfl) (by kernel_rfl) (by kernel_rfl) (fun _ _ _ h=>h) (Or.inl ⟨by rfl,?_⟩) (by assumption) ?_
 ·intro u' hSu
  (try simp only[List.getElem_toArray,List.getElem_cons_zero,List.getElem_cons_succ])
  obtain⟨s0,s1,s2⟩:=hSu
  go_simp
 (try simp only[List.getElem_toArray,List.getElem_cons_zero,List.getElem_cons_succ])
 (try simp only[Act.put,List.setIfInBounds_toArray,List.set_cons_zero,List.set_cons_succ])
 refine wpAnyH_take (i:=2) (oi:=_) (v:=.int .i64 (n:Nat)) rfl (by kernel_rfl) (by kernel_rfl) (by kernel_rfl) (fun _ _ _ h=>h) (Or.inl ⟨by rfl,?_⟩) (by assumption) ?_
 ·intro u' hSu
  (try simp only[List.getElem_toArray,List.getElem_cons_zero,List.getElem_cons_succ])
  go_simp
 (try simp only[List.getElem_toArray,List.getElem_cons_zero,List.getElem_cons_succ])
 (try simp only[Act.put,List.setIfInBounds_toArray,List.set_cons_zero,List.set_cons_succ])
 refine wpAnyH_take (i:=3) (oi:=_) (v:=.pointer (some ⟨w.heap.size,0,none⟩)) rfl (by kernel_rfl) (by kernel_rfl) (by kernel_rfl) (fun _ _ _ h=>h) (Or.inl ⟨by rfl,?_⟩) (by assumption) ?_
 ·intro u' hSu
  (try simp only[List.getElem_toArray,List.getElem_cons_zero,List.getElem_cons_succ])
  go_simp
 (try simp only[List.getElem_toArray,List.getElem_cons_zero,List.getElem_cons_succ])
 (try simp only[Act.put,List.setIfInBounds_toArray,List.set_cons_zero,List.set_cons_succ])
 refine wpAnyH_take (i:=4) (oi:=_) (v:=.slice a n ca) rfl (by kernel_rfl) (by kernel_rfl) (by kernel_rfl) (fun _ _ _ h=>h) (Or.inl ⟨by rfl,?_⟩) (by assumption) ?_
 ·intro u' hSu
  (try simp only[List.getElem_toArray,List.getElem_cons_zero,List.getElem_cons_succ])
  obtain⟨s0,s1,s2⟩:=hSu
  go_simp
 (try simp only[List.getElem_toArray,List.getElem_cons_zero,List.getElem_cons_succ])
 (try simp only[Act.put,List.setIfInBounds_toArray,List.set_cons_zero,List.set_cons_succ])
 refine wpAnyH_take (i:=5) (oi:=_) (v:=.int .i64 (n:Nat)) rfl (by kernel_rfl) (by kernel_rfl) (by kernel_rfl) (fun _ _ _ h=>h) (Or.inl ⟨by rfl,?_⟩) (by assumption) ?_
 ·intro u' hSu
  (try simp only[List.getElem_toArray,List.getElem_cons_zero,List.getElem_cons_succ])
  go_simp
 (try simp only[List.getElem_toArray,List.getElem_cons_zero,List.getElem_cons_succ])
 (try simp only[Act.put,List.setIfInBounds_toArray,List.set_cons_zero,List.set_cons_succ])
 refine wpAnyH_take (i:=6) (oi:=_) (v:=.bool false) rfl (by kernel_rfl) (by kernel_rfl) (by kernel_rfl) (fun _ _ _ h=>h) (Or.inl ⟨by rfl,?_⟩) (by assumption) ?_
 ·intro u' hSu
  (try simp only[List.getElem_toArray,List.getElem_cons_zero,List.getElem_cons_succ])
  go_simp
 (try simp only[List.getElem_toArray,List.getElem_cons_zero,List.getElem_cons_succ])
 (try simp only[Act.put,List.setIfInBounds_toArray,List.set_cons_zero,List.set_cons_succ])
 refine wpAnyH_take (i:=7) (oi:=_) (v:=.bool false) rfl (by kernel_rfl) (by kernel_rfl) (by kernel_rfl) (fun _ _ _ h=>h) (Or.inl ⟨by rfl,?_⟩) (by assumption) ?_
 ·intro u' hSu
  (try simp only[List.getElem_toArray,List.getElem_cons_zero,List.getElem_cons_succ])
  go_simp
 (try simp only[List.getElem_toArray,List.getElem_cons_zero,List.getElem_cons_succ])
 (try simp only[Act.put,List.setIfInBounds_toArray,List.set_cons_zero,List.set_cons_succ])
 refine wpAnyH_take (i:=8) (oi:=_) (v:=.agg #[.slice a n ca,.slice b n cb,.slice c n cc]) rfl (by kernel_rfl) (by kernel_rfl) (by kernel_rfl) (fun _ _ _ h=>h) (Or.inl ⟨by rfl,?_⟩) (by assumption) ?_
 ·intro u' hSu
  (try simp only[List.getElem_toArray,List.getElem_cons_zero,List.getElem_cons_succ])
  obtain⟨s0,s1,s2⟩:=hSu
  go_simp
 (try simp only[List.getElem_toArray,List.getElem_cons_zero,List.getElem_cons_succ])
 (try simp only[Act.put,List.setIfInBounds_toArray,List.set_cons_zero,List.set_cons_succ])
 refine wpAnyH_ready (rs:=[9]) (by kernel_rfl) (by simp) (AllReadyH.cons rfl ?_ (AllReadyH.nil))
 ·intro K' hK'
  (try simp only[List.getElem_toArray,List.getElem_cons_zero,List.getElem_cons_succ])
  go_simp
  refine(HSG.out _ HB.out).mono ?_
  rintro e u1 ⟨rfl,hb⟩
  replace HB:=hid (HB.out.trans (hb.mono HB.out.size))
  refine hK'.out _ _ (HELD.out _ HB.out) (fun hSe=>?_)
  clear hK' K' hSd
  have hSd:=hSe
  clear hSe hb
  (try simp only[List.getElem_toArray,List.getElem_cons_zero,List.getElem_cons_succ])
  (try simp only[Act.put,List.setIfInBounds_toArray,List.set_cons_zero,List.set_cons_succ])
  refine wpAnyH_ready (rs:=[10]) (by kernel_rfl) (by simp) (AllReadyH.cons rfl ?_ (AllReadyH.nil))
  ·intro K' hK'
   (try simp only[List.getElem_toArray,List.getElem_cons_zero,List.getElem_cons_succ])
   go_simp
   refine(HIC.out _).mono ?_
   rintro e u2 ⟨rfl,hb⟩
   replace HB:=hid (HB.out.trans (hb.mono HB.out.size))
   refine hK'.out _ _ (HELD.out _ HB.out) (fun hSe=>?_)
   clear hK' K' hSd
   have hSd:=hSe
   clear hSe hb
   (try simp only[List.getElem_toArray,List.getElem_cons_zero,List.getElem_cons_succ])
   (try simp only[Act.put,List.setIfInBounds_toArray,List.set_cons_zero,List.set_cons_succ])
   refine wpAnyH_take (i:=11) (oi:=_) (v:=.bool false) rfl (by kernel_rfl) (by kernel_rfl) (by kernel_rfl) (fun _ _ _ h=>h) (Or.inl ⟨by rfl,?_⟩) (by assumption) ?_
   ·intro u' hSu
    (try simp only[List.getElem_toArray,List.getElem_cons_zero,List.getElem_cons_succ])
    go_simp
   (try simp only[List.getElem_toArray,List.getElem_cons_zero,List.getElem_cons_succ])
   (try simp only[Act.put,List.setIfInBounds_toArray,List.set_cons_zero,List.set_cons_succ])
   refine wpAnyH_take (i:=12) (oi:=_) (v:=.bool false) rfl (by kernel_rfl) (by kernel_rfl) (by kernel_rfl) (fun _ _ _ h=>h) (Or.inl ⟨by rfl,?_⟩) (by assumption) ?_
   ·intro u' hSu
    (try simp only[List.getElem_toArray,List.getElem_cons_zero,List.getElem_cons_succ])
    go_simp
   (try simp only[List.getElem_toArray,List.getElem_cons_zero,List.getElem_cons_succ])
   (try simp only[Act.put,List.setIfInBounds_toArray,List.set_cons_zero,List.set_cons_succ])
   refine wpAnyH_take (i:=13) (oi:=_) (v:=.bool false) rfl (by kernel_rfl) (by kernel_rfl) (by kernel_rfl) (fun _ _ _ h=>h) (Or.inl ⟨by rfl,?_⟩) (by assumption) ?_
   ·intro u' hSu
    (try simp only[List.getElem_toArray,List.getElem_cons_zero,List.getElem_cons_succ])
    go_simp
   (try simp only[List.getElem_toArray,List.getElem_cons_zero,List.getElem_cons_succ])
   (try simp only[Act.put,List.setIfInBounds_toArray,List.set_cons_zero,List.set_cons_succ])
   refine wpAnyH_take (i:=14) (oi:=_) (v:=.pointer (some ⟨w.heap.size,2,none⟩)) rfl (by kernel_rfl) (by kernel_rfl) (by kernel_rfl) (fun _ _ _ h=>h) (Or.inl ⟨by rfl,?_⟩) (by assumption) ?_
   ·intro u' hSu
    (try simp only[List.getElem_toArray,List.getElem_cons_zero,List.getElem_cons_succ])
    go_simp
   (try simp only[List.getElem_toArray,List.getElem_cons_zero,List.getElem_cons_succ])
   (try simp only[Act.put,List.setIfInBounds_toArray,List.set_cons_zero,List.set_cons_succ])
   refine wpAnyH_take (i:=15) (oi:=_) (v:=.slice c n cc) rfl (by kernel_rfl) (by kernel_rfl) (by kernel_rfl) (fun _ _ _ h=>h) (Or.inl ⟨by rfl,?_⟩) (by assumption) ?_
   ·intro u' hSu
    (try simp only[List.getElem_toArray,List.getElem_cons_zero,List.getElem_cons_succ])
    obtain⟨s0,s1,s2⟩:=hSu
    go_simp
   (try simp only[List.getElem_toArray,List.getElem_cons_zero,List.getElem_cons_succ])
   (try simp only[Act.put,List.setIfInBounds_toArray,List.set_cons_zero,List.set_cons_succ])
   refine wpAnyH_take (i:=16) (oi:=_) (v:=.pointer (some ⟨w.heap.size,0,none⟩)) rfl (by kernel_rfl) (by kernel_rfl) (by kernel_rfl) (fun _ _ _ h=>h) (Or.inl ⟨by rfl,?_⟩) (by assumption) ?_
   ·intro u' hSu
    (try simp only[List.getElem_toArray,List.getElem_cons_zero,List.getElem_cons_succ])
    go_simp
   (try simp only[List.getElem_toArray,List.getElem_cons_zero,List.getElem_cons_succ])
   (try simp only[Act.put,List.setIfInBounds_toArray,List.set_cons_zero,List.set_cons_succ])
   refine wpAnyH_take (i:=17) (oi:=_) (v:=.slice a n ca) rfl (by kernel_rfl) (by kernel_rfl) (by kernel_rfl) (fun _ _ _ h=>h) (Or.inl ⟨by rfl,?_⟩) (by assumption) ?_
   ·intro u' hSu
    (try simp only[List.getElem_toArray,List.getElem_cons_zero,List.getElem_cons_succ])
    obtain⟨s0,s1,s2⟩:=hSu
    go_simp
   (try simp only[List.getElem_toArray,List.getElem_cons_zero,List.getElem_cons_succ])
   (try simp only[Act.put,List.setIfInBounds_toArray,List.set_cons_zero,List.set_cons_succ])
   refine wpAnyH_take (i:=18) (oi:=_) (v:=.int .i64 (n:Nat)) rfl (by kernel_rfl) (by kernel_rfl) (by kernel_rfl) (fun _ _ _ h=>h) (Or.inl ⟨by rfl,?_⟩) (by assumption) ?_
   ·intro u' hSu
    (try simp only[List.getElem_toArray,List.getElem_cons_zero,List.getElem_cons_succ])
    go_simp
   (try simp only[List.getElem_toArray,List.getElem_cons_zero,List.getElem_cons_succ])
   (try simp only[Act.put,List.setIfInBounds_toArray,List.set_cons_zero,List.set_cons_succ])
   refine wpAnyH_take (i:=19) (oi:=_) (v:=.agg #[.slice a n ca,.slice b n cb,.slice c n cc]) rfl (by kernel_rfl) (by kernel_rfl) (by kernel_rfl) (fun _ _ _ h=>h) (Or.inl ⟨by rfl,?_⟩) (by assumption) ?_
   ·intro u' hSu
    (try simp only[List.getElem_toArray,List.getElem_cons_zero,List.getElem_cons_succ])
    obtain⟨s0,s1,s2⟩:=hSu
    go_simp
   (try simp only[List.getElem_toArray,List.getElem_cons_zero,List.getElem_cons_succ])
   (try simp only[Act.put,List.setIfInBounds_toArray,List.set_cons_zero,List.set_cons_succ])
   refine wpAnyH_ready (rs:=[20]) (by kernel_rfl) (by simp) (AllReadyH.cons rfl ?_ (AllReadyH.nil))
   ·intro K' hK'
    (try simp only[List.getElem_toArray,List.getElem_cons_zero,List.getElem_cons_succ])
    go_simp
    refine(HSG.out _ HB.out).mono ?_
    rintro e u3 ⟨rfl,hb⟩
    replace HB:=hid (HB.out.trans (hb.mono HB.out.size))
    refine hK'.out _ _ (HELD.out _ HB.out) (fun hSe=>?_)
    clear hK' K' hSd
    have hSd:=hSe
    clear hSe hb
    (try simp only[List.getElem_toArray,List.getElem_cons_zero,List.getElem_cons_succ])
    (try simp only[Act.put,List.setIfInBounds_toArray,List.set_cons_zero,List.set_cons_succ])
    refine wpAnyH_ready (rs:=[21]) (by kernel_rfl) (by simp) (AllReadyH.cons rfl ?_ (AllReadyH.nil))
    ·intro K' hK'
     (try simp only[List.getElem_toArray,List.getElem_cons_zero,List.getElem_cons_succ])
     go_simp
     refine(HIM2.out _ HB.out).mono ?_
     rintro e u4 ⟨rfl,hb⟩
     replace HB:=hid (HB.out.trans (hb.mono HB.out.size))
     refine hK'.out _ _ (HELD.out _ HB.out) (fun hSe=>?_)
     clear hK' K' hSd
     have hSd:=hSe
     clear hSe hb
     (try simp only[List.getElem_toArray,List.getElem_cons_zero,List.getElem_cons_succ])
     (try simp only[Act.put,List.setIfInBounds_toArray,List.set_cons_zero,List.set_cons_succ])
     refine wpAnyH_take (i:=22) (oi:=_) (v:=.bool false) rfl (by kernel_rfl) (by kernel_rfl) (by kernel_rfl) (fun _ _ _ h=>h) (Or.inl ⟨by rfl,?_⟩) (by assumption) ?_
     ·intro u' hSu
      (try simp only[List.getElem_toArray,List.getElem_cons_zero,List.getElem_cons_succ])
      go_simp
     (try simp only[List.getElem_toArray,List.getElem_cons_zero,List.getElem_cons_succ])
     (try simp only[Act.put,List.setIfInBounds_toArray,List.set_cons_zero,List.set_cons_succ])
     refine wpAnyH_take (i:=23) (oi:=_) (v:=.bool false) rfl (by kernel_rfl) (by kernel_rfl) (by kernel_rfl) (fun _ _ _ h=>h) (Or.inl ⟨by rfl,?_⟩) (by assumption) ?_
     ·intro u' hSu
      (try simp only[List.getElem_toArray,List.getElem_cons_zero,List.getElem_cons_succ])
      go_simp
     (try simp only[List.getElem_toArray,List.getElem_cons_zero,List.getElem_cons_succ])
     (try simp only[Act.put,List.setIfInBounds_toArray,List.set_cons_zero,List.set_cons_succ])
     refine wpAnyH_done (by kernel_rfl) ?_ _
     clear hSd
     have HBN:=hid (hA.trans (HB.out.mono hA.size))
     obtain⟨e0,e1,e2⟩:=(hHB.below HB.out hHB.lt).cells
     have HAL1:=hid ((Below.refl u4.heap.size u4).alloc (Nat.le_refl _) (.cells #[.slice a n ca] 22))
     have HAL2:=hid (HAL1.out.alloc HAL1.out.size (.cells #[.slice (some ⟨u4.heap.size,0,none⟩) 1 1,.slice b n cb,.slice c n cc] 23))
     have HCN:Hid (Calls Tryz.prog 40 #[.slice (some ⟨u4.heap.size+1,0,none⟩) 3 3] ((u4.alloc (.cells #[.slice a n ca] 22)).alloc (.cells #[.slice (some ⟨u4.heap.size,0,none⟩) 1 1,.slice b n cb,.slice c n cc] 23)) fun e w'=>∃v,e=.returned v∧RwX w' ((u4.alloc (.cells #[.slice a n ca] 22)).alloc (.cells #[.slice (some ⟨u4.heap.size,0,none⟩) 1 1,.slice b n cb,.slice c n cc] 23)).heap.size v ([.slice a n ca]++X1++X2)∧Below ((u4.alloc (.cells #[.slice a n ca] 22)).alloc (.cells #[.slice (some ⟨u4.heap.size,0,none⟩) 1 1,.slice b n cb,.slice c n cc] 23)).heap.size ((u4.alloc (.cells #[.slice a n ca] 22)).alloc (.cells #[.slice (some ⟨u4.heap.size,0,none⟩) 1 1,.slice b n cb,.slice c n cc] 23)) w'):=by
      have hrow:((u4.alloc (.cells #[.slice a n ca] 22)).alloc (.cells #[.slice (some ⟨u4.heap.size,0,none⟩) 1 1,.slice b n cb,.slice c n cc] 23)).heap[u4.heap.size+1]? =some (.cells #[.slice (some ⟨u4.heap.size,0,none⟩) 1 1,.slice b n cb,.slice c n cc] 23 (0,0)):=by
       have h:=heap_alloc_new (u4.alloc (.cells #[.slice a n ca] 22)) (.cells #[.slice (some ⟨u4.heap.size,0,none⟩) 1 1,.slice b n cb,.slice c n cc] 23)
       rwa [World.size_alloc] at h
      have hone:(u4.alloc (.cells #[.slice a n ca] 22)).heap[u4.heap.size]? =some (.cells #[.slice a n ca] 22 (0,0)):=heap_alloc_new u4 _
      have hlt1:u4.heap.size<(u4.alloc (.cells #[.slice a n ca] 22)).heap.size:=by simp
      have hone2:=((Below.refl (u4.alloc (.cells #[.slice a n ca] 22)).heap.size _).alloc (Nat.le_refl _) (.cells #[.slice (some ⟨u4.heap.size,0,none⟩) 1 1,.slice b n cb,.slice c n cc] 23)).block u4.heap.size hlt1 |>.trans hone
      have hX1:=(HX1.out.below HBN.out).below HAL2.out
      have hX2:=(HX2.out.below HBN.out).below HAL2.out
      have h:=slConcatR_any (u4.heap.size+1) (some ⟨u4.heap.size,0,none⟩) b c 1 cb cc [.slice a n ca] X1 X2 _ (by simp) (by rw[cell_of_row _ _ _ _ _ (0,0) hrow];rfl) (by rw[cell_of_row _ _ _ _ _ (0,0) hrow,HXL1.out];rfl) (by rw[cell_of_row _ _ _ _ _ (0,0) hrow,HXL2.out];rfl) (fun k hk=>?_) hX1 hX2 (fun e=>by cases e) HN1.out HN2.out (by simp) (by rw[HXL1.out];omega) (by rw[HXL2.out];omega)
      ·exact h
      ·obtain rfl:k=0:=by simp at hk;omega
       refine⟨u4.heap.size,0,rfl,by simp;omega,?_,a,n,ca,rfl⟩
       rw[cell_of_row _ _ _ _ _ (0,0) hone2]
       rfl
     have HBA:=hid (HBN.out.trans (HAL2.out.mono HBN.out.size))
     obtain⟨x0,x1,x2⟩:=((hHB.below HB.out hHB.lt).below HAL1.out (Nat.lt_of_lt_of_le hHB.lt HB.out.size)).cells
     go_wp2_with fail
     generalize ((u4.alloc (.cells #[.slice a n ca] 22)).alloc (.cells #[.slice (some ⟨u4.heap.size,0,none⟩) 1 1,.slice b n cb,.slice c n cc] 23))=W5 at *
     refine HCN.out.mono ?_
     rintro e w6 ⟨v6,rfl,hv6,hb6⟩
     have HB6:=hid (HBA.out.trans (hb6.mono HBA.out.size))
     have hxl:([.slice a n ca]++X1++X2:List Value).length=1+n+n:=by rw[List.length_append,List.length_append,HXL1.out,HXL2.out];rfl
     have hv7:=hv6
     rw[RwX,hxl] at hv7
     obtain⟨a6,c6,rfl, -⟩:=owns_slice hv7
     have HV:=hid hv7
     have HXE:Hid (∀k (h:k<([.slice a n ca]++X1++X2:List Value).length),∃(b':Option Addr) (r:List Fr) (c':Nat),([.slice a n ca]++X1++X2:List Value)[k]=.slice b' r.length c'∧FrS w b' r∧rowB r=true∧Go.Proofs.YtgamblainfkiaaaGreatDoor.fw r≤10000∧r.length≤4):=fun k h=>by
      obtain⟨b',r,c',h1,h2,h3⟩:=HXA.out _ (List.getElem_mem h)
      obtain⟨p1,p2,p3⟩:=HALL.out r h3
      exact⟨b',r,c',h1,h2,p1,p2,p3⟩
     have HXL:=hid hxl
     clear hv6 hv7 hb6 hxl e0 e1 e2 x0 x1 x2
     generalize ([.slice a n ca]++X1++X2:List Value)=X at *
     obtain⟨N,hN⟩:∃N,N=1+n+n:=⟨_,rfl⟩
     rw[←hN] at HV HXL
     rw[←hN]
     have hN9:N≤9:=by omega
     clear hN
     go_wp2_with fail
     go_loopw [56] (fun iv wr=>∃i:Nat,i≤N∧iv=.int .i64 i∧Hid (Below w6.heap.size w6 wr)) (fun iv _=>N - (intOf iv).toNat)
     case atStart=>exact⟨0,Nat.zero_le _,rfl,Below.refl _ _⟩
     case round=>
      obtain⟨i,hi,rfl,HBr⟩:=hrel
      by_cases hlt:i<N
      ·have hiX:i<X.length:=by rw[HXL.out];exact hlt
       obtain⟨g6,rfl,hg6,hc6⟩:=owns_cell HV.out hiX
       have hc6':=(HBr.out.cell (p:=⟨g6,_,none⟩) hg6).trans hc6
       obtain⟨b',r,c',h1,h2,h3,h4,h5⟩:=HXE.out i hiX
       rw[h1] at hc6'
       have hbw:=HB6.out.trans (HBr.out.mono HB6.out.size)
       have HRO:=hid (hiRow_any b' c' r wr (h2.below hbw) h4 (by omega))
       rw[h3] at HRO
       clear h1 h2 h3 h4 hc6 hbw
       generalize r.length=rl at *
       go_wp2_with fail
       refine HRO.out.mono ?_
       rintro e w7 ⟨rfl,hb7⟩
       have HB7:=hid (HBr.out.trans (hb7.mono HBr.out.size))
       clear hb7
       go_wp2
       go_roundw
       case rel=>exact⟨i+1,by omega,by go_num,HB7⟩
       case measure=>simp[intOf];omega
      ·obtain rfl:i=N:=by omega
       go_wp2
       go_ret
       exact⟨rfl,HB6.out.trans (HBr.out.mono HB6.out.size)⟩
set_option maxRecDepth 100000 in
set_option maxHeartbeats 400000 in
theorem hiCheck1_any (a b c:Option Addr) (ca cb cc n m x B:Nat) (R2:List (List Fr)) (w:World) (hR:FsS w c R2) (h:RwsOK n m R2) (h1:1≤n) (hn:n≤4) (hx:x<m) (hB:HBox w B (.slice a n ca) (.slice b n cb) (.slice c n cc)):
  Calls Tryz.prog 67 #[.int .i64 (x:Nat),.pointer (some ⟨B,0,none⟩)] w fun e w'=>e=.returned (.bool false)∧Below w.heap.size w w':=by
 have HSG:=hid (signs_yes a b c n n ca cb cc n m R2 w hR h h1 (by omega))
 obtain⟨e0,e1,e2⟩:=hB.cells
 clear hR h
 go_enter Tryz.func67,Tryz.ntmps67
 go_wp2_with fail
 refine HSG.out.mono ?_
 rintro e w1 ⟨rfl,hb1⟩
 go_wp2
 go_ret
 exact⟨by simp;omega,hb1⟩
set_option maxRecDepth 100000 in
set_option maxHeartbeats 1000000 in
theorem hiCheck2_yes (a b c d:Option Addr) (ca cb cc cd n m:Nat) (l:List Fr) (R1 R2:List (List Fr)) (Q:List Nat) (w:World) (h:HidI w a b c n m l R1 R2) (hok:HidOK n m l R1 R2) (hb0:b=none→cb=0) (hc0:c=none→cc=0) (hQ:IntS w d (iL Q)) (hq:∀x∈Q,x<m) (hQ8:Q.length≤8):
  Calls Tryz.prog 28 #[.agg #[.slice a n ca,.slice b n cb,.slice c n cc],.slice d Q.length cd] w fun e w'=>e=.returned (.int .i64 0)∧Below w.heap.size w w':=by
 have hA:=(Below.refl w.heap.size w).alloc (Nat.le_refl _) (HC3 (.slice a n ca) (.slice b n cb) (.slice c n cc))
 have hHB:=HBox.new w (.slice a n ca) (.slice b n cb) (.slice c n cc)
 have HCK:=hid (hiCheck_yes a b c ca cb cc n m l R1 R2 _ (h.below hA) hok hb0 hc0)
 have HCF:Hid (∀V:World,Below (w.alloc (HC3 (.slice a n ca) (.slice b n cb) (.slice c n cc))).heap.size (w.alloc (HC3 (.slice a n ca) (.slice b n cb) (.slice c n cc))) V→Calls Tryz.prog 66 #[.slice d Q.length cd,.func (.func 67) #[] #[.pointer (some ⟨w.heap.size,0,none⟩)]] V fun e w'=>e=.returned (.bool false)∧Below V.heap.size V w'):=fun V hV=>by
  have hbV:=hA.trans (hV.mono hA.size)
  have h9:=conFI_any d cd 67 #[.pointer (some ⟨w.heap.size,0,none⟩)] (iL Q) (fun _=>false) V (hQ.below hbV) (by rw[iL_length];omega) (enters_of Tryz.func67 (by kernel_rfl) rfl) (fun q hq' U hU=>by
   obtain⟨x,hx,rfl⟩:=List.mem_map.1 hq'
   exact hiCheck1_any a b c ca cb cc n m x w.heap.size R2 U ((h.sh.below hbV).below hU) hok.sh hok.n1 hok.n4 (hq x hx) ((hHB.below hV hHB.lt).below hU (Nat.lt_of_lt_of_le hHB.lt hV.size)))
  rw[iL_length] at h9
  have e:(iL Q).any (fun _=>false)=false:=by simp
  rwa [e] at h9
 obtain⟨e0,e1,e2⟩:=hHB.cells
 have HA:=hid hA
 clear h hok hb0 hc0 hQ hq hA
 go_enter Tryz.func28,Tryz.ntmps28
 go_wp2_with fail
 generalize (w.alloc (HC3 (.slice a n ca) (.slice b n cb) (.slice c n cc)))=W at *
 refine HCK.out.mono ?_
 rintro e w1 ⟨rfl,hb1⟩
 have HB1:=hid hb1
 clear hb1 e0 e1 e2
 go_wp2_with fail
 refine(HCF.out _ HB1.out).mono ?_
 rintro e w2 ⟨rfl,hb2⟩
 have HB2:=hid (HA.out.trans ((HB1.out.trans (hb2.mono HB1.out.size)).mono HA.out.size))
 clear hb2
 go_wp2
 go_ret
 exact⟨rfl,HB2.out⟩
end Go.Proofs.YtgamblainfkiaaaGreatDoor
