/- inParts of package chain: a chain's numbers as whole numbers over one that all share. -/
import Derived.Test.YtmbjmiioggfneaaGreatDoorStlFCxPowA
import Derived.Test.YtmbjmiioggfneaaGreatDoorChnPCxNetD
import Derived.Deep.QuietTactic
import Derived.BigQuiet
import Derived.Test.YtmbjmiioggfneaaGreatDoorCore1CxCore2b
import Derived.Deep.RegionHeld3
import Derived.Deep.OwnRows
import Derived.Test.YtmbjmiioggfneaaGreatDoorHidACxChnB
import Derived.Laws.EntriesVeiled
import Derived.Shelf.Slices.CompactI
namespace Go.Proofs.YtmbjmiioggfneaaGreatDoor
open Go.RowKit Go.Shelf
structure RaW (n F:Nat) (P:Nat→Nat→Rat) (R:List (List Fr)):Prop where
 len:R.length=n
 row:∀i (h:i<R.length),R[i].length=n
 is:∀i j (h:i<R.length) (h':j<R[i].length),frQ R[i][j]=P i j
 size:∀i j (h:i<R.length) (h':j<R[i].length),R[i][j].2.1.size+R[i][j].2.2.size≤F
theorem FsS.raw {w:World} {a:Option Addr} {R:List (List Fr)} (h:FsS w a R) {i:Nat} (hi:i<R.length):∃g o b c,a=some ⟨g,o,none⟩∧g<w.heap.size∧w.cell? ⟨g,o+i,none⟩=some (.slice b R[i].length c)∧FrS w b R[i]:=by
 obtain⟨g,o,b,c,h1,h2,h3,h4,_⟩:=h i hi
 exact⟨g,o,b,c,h1,h2,h3,h4⟩
theorem Box.tri3 {w:World} {g:Nat} {neg:Bool} {num den:ByteArray} (h:Box w g neg num den):w.cell? ⟨g,0,none⟩=some (.bool neg)∧w.cell? ⟨g,1,none⟩=some (.string num)∧w.cell? ⟨g,2,none⟩=some (.string den):=⟨h.c0,h.c1,h.c2⟩
theorem frQ_qw (f:Fr):qw (frQ f)≤2*(f.2.1.size+f.2.2.size+1):=fits_qw (fits_val f.1 f.2.1 f.2.2)
structure OfK (n F:Nat) (P:Nat→Nat→Rat) (i j o:Nat):Prop where
 pos:0<o
 dvd:∀a b,a<n→b<n→(a<i∨(a=i∧b<j))→(P a b).den∣o
 size:(B o).size≤1+(2*F+2)*(i*n+j)
theorem OfK.start (n F:Nat) (P:Nat→Nat→Rat):OfK n F P 0 0 1:=⟨by decide,fun a b _ _ h=>by omega,by have:=B_one_size;omega⟩
theorem OfK.step {n F:Nat} {P:Nat→Nat→Rat} {i j o:Nat} (h:OfK n F P i j o) (hq:qw (P i j)≤2*F+2):OfK n F P i (j+1) (lcmS o (P i j).den):=by
 refine⟨lcmS_pos h.pos (P i j).den_pos,fun a b ha hb hab=>?_,?_⟩
 ·by_cases e:a=i∧b=j
  ·rw[e.1,e.2]
   exact lcmS_right _ _
  ·exact Nat.dvd_trans (h.dvd a b ha hb (by omega)) (lcmS_left _ _)
 ·have h1:=h.size
  have h2:=sz_mul o ((P i j).den/Nat.gcd o (P i j).den)
  have h3:=sz_mono (Nat.div_le_self (P i j).den (Nat.gcd o (P i j).den))
  have h4:(B (P i j).den).size≤qw (P i j):=Nat.le_add_left _ _
  have h5:(2*F+2)*(i*n+(j+1))=(2*F+2)*(i*n+j)+(2*F+2):=by rw[←Nat.add_assoc,Nat.mul_succ]
  show (B (o*_)).size≤_
  omega
theorem OfK.next {n F:Nat} {P:Nat→Nat→Rat} {i o:Nat} (h:OfK n F P i n o):OfK n F P (i+1) 0 o:=⟨h.pos,fun a b ha hb hab=>h.dvd a b ha hb (by omega),by have h1:=h.size;rw[show (i+1)*n+0=i*n+n by rw[Nat.add_zero,Nat.add_mul,Nat.one_mul]];exact h1⟩
def ptN (P:Nat→Nat→Rat) (o i j:Nat):Nat:=(P i j).num.natAbs*(o/(P i j).den)
theorem ptN_is {P:Nat→Nat→Rat} {o i j:Nat} (h0:0≤P i j) (hd:(P i j).den∣o):((ptN P o i j:Nat):Rat)=P i j*(o:Rat):=by
 obtain⟨k,rfl⟩:=hd
 have hdp:=(P i j).den_pos
 have hn:((P i j).num.natAbs:Int)=(P i j).num:=Int.natAbs_of_nonneg (Rat.num_nonneg.2 h0)
 rw[ptN,Nat.mul_div_cancel_left _ hdp,Rat.natCast_mul,Rat.natCast_mul,←Rat.mul_assoc]
 congr 1
 have hd0:((P i j).den:Rat)≠0:=by
  have:=Nat.ne_of_gt hdp
  exact fun e=>this (by exact_mod_cast e)
 have h2:P i j*((P i j).den:Rat)=((P i j).num:Rat):=by
  have h3:=Rat.mkRat_eq_div (P i j).num (P i j).den
  rw[Rat.mkRat_self] at h3
  generalize ((P i j).num:Rat)=x at *
  generalize ((P i j).den:Rat)=y at *
  rw[h3,Rat.div_def,Rat.mul_assoc,Rat.inv_mul_cancel _ hd0,Rat.mul_one]
 rw[h2,←hn]
 rfl
theorem ptN_size {F:Nat} {P:Nat→Nat→Rat} {o i j:Nat} (hq:qw (P i j)≤2*F+2):(B (ptN P o i j)).size≤2*F+2+(B o).size:=by
 have h1:=sz_mul (P i j).num.natAbs (o/(P i j).den)
 have h2:=sz_mono (Nat.div_le_self o (P i j).den)
 have h3:(B (P i j).num.natAbs).size≤qw (P i j):=Nat.le_add_right _ _
 show (B (_*_)).size≤_
 omega
def RowW (w:World) (G:Nat) (X:List Value):Prop:=w.heap[G]? =some (.cells X.toArray 91 (0,0))
theorem RowW.cell {w:World} {g:Nat} {X:List Value} (h:RowW w g X) (j:Nat) (hj:j<X.length):w.cell? ⟨g,j,none⟩=some X[j]:=by
 rw[cell_of_row w g j _ _ (0,0) h]
 simp[hj]
theorem RowW.fz {w:World} {g:Nat} {X:List Value} (h:RowW w g X) (j:Nat):w.frozen? ⟨g,j,none⟩=false:=frozen_of_row w g j _ _ h
theorem RowW.lt {w:World} {g:Nat} {X:List Value} (h:RowW w g X):g<w.heap.size:=(Array.getElem?_eq_some_iff.1 h).1
theorem RowW.set {w:World} {g:Nat} {X:List Value} (h:RowW w g X) (j:Nat) (v:Value):RowW (w.setCell ⟨g,j,none⟩ v) g (X.set j v):=by
 have h1:(w.setCell ⟨g,j,none⟩ v).heap[g]? =some (.cells (X.toArray.setIfInBounds j v) 91 (0,0)):=heap_setCell_same w g j _ _ _ h
 rw[RowW,h1]
 simp
def RwSn (w:World) (B:Nat) (v:Value) (l:List Nat):Prop:=w.ownsRow B 42 1 v l.length (stC l)
theorem RwSn.empty (w:World) (B:Nat):RwSn w B (.slice none 0 0) []:=⟨rfl,.inl ⟨rfl,rfl⟩⟩
theorem wp_append_st {w:World} {o:Oper} {a:Act} {K:Act→World→Prop} {Q:Exit→Act→World→Prop} (s x:Operand)
  (ho:o.op=.call {callee:=.builtin .append,args:= #[s,x],argTypes:= #[91,91]}) (base:Nat) (v:Value) (l:List Nat) (f:Nat) (hs:a.eval s=v) (hown:RwSn w base v l) (g:Nat) (hx:a.eval x=.slice (some ⟨g,0,none⟩) 1 1) (hg:w.cell? ⟨g,0,none⟩=some (.string (B f))) (hlen:l.length+1≤100000) (hbase:base≤w.heap.size)
  (h:∀v' w',RwSn w' base v' (l++[f])→w.grownBy w' v.ownBlock→K (a.put o.dst v') w'):o.wp Tryz.prog a w K Q:=by
 obtain⟨i0,hi0,hz0,hz1,hz2⟩:=info_parts Tryz.infoNat
 refine wp_append_own _ s x 91 ho base 42 i0 (.string ⟨#[]⟩) 1 16 Tryz.underlying91 hi0 hz0 hz1 hz2 rfl (by decide) v l.length _ hs hown ⟨g,0,none⟩ 1 1 [.string (B f)] hx rfl ?_ ?_ (by unfold maxLen;omega) (by omega) hbase ?_
 ·intro j u hj
  match j,hj with
  |0,hj=>cases hj;exact hg
  |j+1,hj=>simp at hj
 ·intro u hu
  simp only[List.mem_cons,List.not_mem_nil,or_false] at hu
  subst hu
  rfl
 ·intro v' w' h1 h2 _
  refine h v' w' ?_ h2
  rw[RwSn,List.length_append,stC_snoc]
  exact h1
def CurN (U:World) (g n:Nat) (f:Nat→Nat):Prop:=∃cur:Array Value,U.heap[g]? =some (.cells cur 42 (0,0))∧∀j,j<n→cur[j]? =some (.string (B (f j)))
theorem CurN.block {U U':World} {g n:Nat} {f:Nat→Nat} (h:CurN U g n f) (e:U'.heap[g]? =U.heap[g]?):CurN U' g n f:=by
 obtain⟨cur,h1,h2⟩:=h
 exact⟨cur,e.trans h1,h2⟩
theorem CurN.lt {U:World} {g n:Nat} {f:Nat→Nat} (h:CurN U g n f):g<U.heap.size:=by
 obtain⟨cur,h1,h2⟩:=h
 exact(Array.getElem?_eq_some_iff.1 h1).1
theorem CurN.st {U:World} {g n:Nat} {f:Nat→Nat} (h:CurN U g n f):NtS U (some ⟨g,0,none⟩) (lN n f):=fun k hk=>by
 have hl:=h.lt
 obtain⟨cur,h1,h2⟩:=h
 refine⟨g,0,rfl,hl,?_⟩
 rw[Nat.zero_add,cell_of_row U g k _ _ (0,0) h1,h2 k (by rw[lN_length] at hk;exact hk),lN_get]
theorem RwSn.cur {w:World} {B' n:Nat} {v:Value} {f:Nat→Nat} (h:RwSn w B' v (lN n f)) (h1:1≤n):∃g c,v=.slice (some ⟨g,0,none⟩) n c∧B'≤g∧CurN w g n f:=by
 have hl:=lN_length n f
 rcases h.2 with ⟨e1,e2⟩ |⟨g,cap,cur,e1,e2,e3,e4,e5,e6,e7⟩
 ·omega
 ·refine⟨g,cap,by rw[e1,hl],e2,cur,e3,fun j hj=>?_⟩
  have h9:cur[j]? =(stC (lN n f))[j]?:=by
   rw[←e7,List.getElem?_take,if_pos (by omega),Array.getElem?_toList]
  rw[h9]
  simp[stC,lN,hj]
structure NgS (w:World) (n G k Mk:Nat) (M:Nat→Nat→Nat) (v:Value) (j:Nat) (U:World):Prop where
 top:∃X:List Value,X.length=n∧RowW U G X∧X[k]? =some v∧(∀t,k<t→t<n→X[t]? =some (.slice none 0 0))∧∀t,t<k→∃g c,X[t]? =some (.slice (some ⟨g,0,none⟩) n c)∧G<g∧g<Mk∧CurN U g n (M t)
 cur:RwSn U Mk v (lN j (M k))
 gl:w.heap.size≤G
 gm:G<Mk
 mu:Mk≤U.heap.size
 bel:Below w.heap.size w U
theorem NgS.step {w U U':World} {n G k Mk j:Nat} {M:Nat→Nat→Nat} {v:Value} (h:NgS w n G k Mk M v j U) (hb:Below U.heap.size U U'):NgS w n G k Mk M v j U':=by
 obtain⟨X,h1,h2,h3,h4,h5⟩:=h.top
 refine⟨⟨X,h1,(hb.block G h2.lt).trans h2,h3,h4,fun t ht=>?_⟩,owns_keep h.cur (KeepT.below hb),h.gl,h.gm,Nat.le_trans h.mu hb.size,h.bel.trans (hb.mono h.bel.size)⟩
 obtain⟨g,c,e1,e2,e3,e4⟩:=h5 t ht
 exact⟨g,c,e1,e2,e3,e4.block (hb.block g e4.lt)⟩
theorem NgS.cell {w U:World} {n G k Mk j:Nat} {M:Nat→Nat→Nat} {v:Value} (h:NgS w n G k Mk M v j U) (hk:k<n):U.cell? ⟨G,k,none⟩=some v:=by
 obtain⟨X,h1,h2,h3,h4,h5⟩:=h.top
 have hk':k<X.length:=by omega
 rw[h2.cell k hk']
 rw[List.getElem?_eq_getElem hk'] at h3
 exact h3
theorem NgS.pre {w U U':World} {n G k Mk j:Nat} {M:Nat→Nat→Nat} {v:Value} (h:NgS w n G k Mk M v j U) (hg:U.grownBy U' v.ownBlock):∃X:List Value,X.length=n∧RowW U' G X∧X[k]? =some v∧(∀t,k<t→t<n→X[t]? =some (.slice none 0 0))∧∀t,t<k→∃g c,X[t]? =some (.slice (some ⟨g,0,none⟩) n c)∧G<g∧g<Mk∧CurN U' g n (M t):=by
 obtain⟨X,h1,h2,h3,h4,h5⟩:=h.top
 refine⟨X,h1,(hg.block G h2.lt fun e=>by have h8:=owns_from h.cur G e.symm;have h9:=h.gm;omega).trans h2,h3,h4,fun t ht=>?_⟩
 obtain⟨g,c,e1,e2,e3,e4⟩:=h5 t ht
 exact⟨g,c,e1,e2,e3,e4.block (hg.block g e4.lt fun e=>by have h8:=owns_from h.cur g e.symm;omega)⟩
theorem NgS.push {w U U':World} {n G k Mk j:Nat} {M:Nat→Nat→Nat} {v v':Value} (h:NgS w n G k Mk M v j U) (hk:k<n) (hg:U.grownBy U' v.ownBlock) (hr:RwSn U' Mk v' (lN j (M k)++[M k j])):NgS w n G k Mk M v' (j+1) (U'.setCell ⟨G,k,none⟩ v'):=by
 obtain⟨X,h1,h2,h3,h4,h5⟩:=h.pre hg
 refine⟨⟨X.set k v',by rw[List.length_set];exact h1,h2.set k v',by rw[List.getElem?_set_self (by omega)],fun t ht1 ht2=>by rw[List.getElem?_set_ne (by omega)];exact h4 t ht1 ht2,fun t ht=>?_⟩,?_,h.gl,h.gm,Nat.le_trans h.mu (Nat.le_trans hg.size (by simp[World.setCell])),?_⟩
 ·obtain⟨g,c,e1,e2,e3,e4⟩:=h5 t ht
  refine⟨g,c,by rw[List.getElem?_set_ne (by omega)];exact e1,e2,e3,e4.block (Below.heap_setCell U' ⟨G,k,none⟩ v' g (by show g≠G;omega))⟩
 ·rw[lN_snoc]
  exact owns_keep hr (KeepT.set h2 (by decide) k _)
 ·exact(h.bel.grown hg h.bel.size (fun x e=>Nat.le_trans (Nat.le_trans h.gl (Nat.le_of_lt h.gm)) (owns_from h.cur x e))).setCell (p:=⟨G,k,none⟩) h.gl _
theorem NgS.next {w U:World} {n G k Mk:Nat} {M:Nat→Nat→Nat} {v:Value} (h:NgS w n G k Mk M v n U) (h1n:1≤n) (hk:k+1<n):NgS w n G (k+1) U.heap.size M (.slice none 0 0) 0 U:=by
 obtain⟨X,h1,h2,h3,h4,h5⟩:=h.top
 obtain⟨g,c,e1,e2,e3⟩:=h.cur.cur h1n
 refine⟨⟨X,h1,h2,h4 (k+1) (by omega) hk,fun t ht1 ht2=>h4 t (by omega) ht2,fun t ht=>?_⟩,RwSn.empty _ _,h.gl,h2.lt,Nat.le_refl _,h.bel⟩
 by_cases e:t=k
 ·subst e
  exact⟨g,c,by rw[h3,e1],Nat.lt_of_lt_of_le h.gm e2,e3.lt,e3⟩
 ·obtain⟨g',c',q1,q2,q3,q4⟩:=h5 t (by omega)
  exact⟨g',c',q1,q2,q4.lt,q4⟩
theorem NgS.all {w U:World} {n G k Mk:Nat} {M:Nat→Nat→Nat} {v:Value} (h:NgS w n G k Mk M v n U) (h1n:1≤n) (hk:k+1=n):NtR U (some ⟨G,0,none⟩) n M:=fun t ht=>by
 obtain⟨X,h1,h2,h3,h4,h5⟩:=h.top
 obtain⟨g,c,e1,e2,e3⟩:=h.cur.cur h1n
 have ht':t<X.length:=by omega
 by_cases e:t=k
 ·subst e
  refine⟨G,0,some ⟨g,0,none⟩,c,rfl,h2.lt,?_,e3.st⟩
  rw[Nat.zero_add,h2.cell t ht']
  rw[List.getElem?_eq_getElem ht',e1] at h3
  exact h3
 ·obtain⟨g',c',q1,q2,q3,q4⟩:=h5 t (by omega)
  refine⟨G,0,some ⟨g',0,none⟩,c',rfl,h2.lt,?_,q4.st⟩
  rw[Nat.zero_add,h2.cell t ht']
  rw[List.getElem?_eq_getElem ht'] at q1
  exact q1
def NfS (w:World) (n G k:Nat) (M:Nat→Nat→Nat) (U:World):Prop:=(k<n→NgS w n G k U.heap.size M (.slice none 0 0) 0 U)∧(k=n→NtR U (some ⟨G,0,none⟩) n M)∧Below w.heap.size w U
theorem NgS.end {w U:World} {n G k Mk:Nat} {M:Nat→Nat→Nat} {v:Value} (h:NgS w n G k Mk M v n U) (h1n:1≤n):NfS w n G (k+1) M U:=⟨fun hk=>h.next h1n hk,fun hk=>h.all h1n hk,h.bel⟩
theorem NgS.away {w U:World} {n G k Mk j gB:Nat} {M:Nat→Nat→Nat} {v:Value} (h:NgS w n G k Mk M v j U) (hB:Mk≤gB) (n1:Bool) (x1 y1:ByteArray) {n0:Bool} {x0 y0:ByteArray} (hx:Box U gB n0 x0 y0):NgS w n G k Mk M v j (((U.setCell ⟨gB,0,none⟩ (.bool n1)).setCell ⟨gB,1,none⟩ (.string x1)).setCell ⟨gB,2,none⟩ (.string y1)):=by
 have hgm:=h.gm
 have key:∀g,g≠gB→(((U.setCell ⟨gB,0,none⟩ (.bool n1)).setCell ⟨gB,1,none⟩ (.string x1)).setCell ⟨gB,2,none⟩ (.string y1)).heap[g]? =U.heap[g]?:=fun g hg=>(Below.heap_setCell _ ⟨gB,2,none⟩ (.string y1) g hg).trans ((Below.heap_setCell _ ⟨gB,1,none⟩ (.string x1) g hg).trans (Below.heap_setCell _ ⟨gB,0,none⟩ (.bool n1) g hg))
 obtain⟨X,h1,h2,h3,h4,h5⟩:=h.top
 refine⟨⟨X,h1,(key G (by omega)).trans h2,h3,h4,fun t ht=>?_⟩,owns_keep h.cur fun g c fr hg=>?_,h.gl,h.gm,Nat.le_trans h.mu (by simp[World.setCell]),below_put h.bel (Nat.le_trans (Nat.le_trans h.gl (Nat.le_of_lt h.gm)) hB) _ _ _⟩
 ·obtain⟨g,c,e1,e2,e3,e4⟩:=h5 t ht
  exact⟨g,c,e1,e2,e3,e4.block (key g (by omega))⟩
 ·refine(key g fun e=>?_).trans hg
  subst e
  have hx':U.heap[g]? =some (.cells #[.bool n0,.string x0,.string y0] 44 (0,0)):=hx
  rw[hg] at hx'
  have h2:=Option.some.inj hx'
  injection h2 with _ h4
  exact absurd h4 (by decide)
set_option maxRecDepth 100000 in
set_option maxHeartbeats 4000000 in
theorem chInParts_any (a:Option Addr) (ca n F:Nat) (P:Nat→Nat→Rat) (R:List (List Fr)) (w:World) (hR:FsS w a R) (hW:RaW n F P R) (h1:1≤n) (hn:n≤100) (hF:F≤40000) (hp:∀i j,i<n→j<n→0≤P i j):
  Calls Tryz.prog 68 #[.slice a n ca] w fun e w'=>∃G D Cn,e=.returned (.tuple #[.slice (some ⟨G,0,none⟩) n n,.string (B D)])∧NtR w' (some ⟨G,0,none⟩) n Cn∧0<D∧(B D).size≤1+(2*F+2)*(n*n)∧(∀i j,i<n→j<n→((Cn i j:Nat):Rat)=P i j*(D:Rat)∧(B (Cn i j)).size≤2*F+2+(B D).size)∧Below w.heap.size w w':=by
 obtain⟨i0,hi0,hz0,hz1,hz2⟩:=info_parts Tryz.infoNats
 have HR:=hid hR
 have HW:=hid hW
 have HQ:Hid (∀i j,i<n→j<n→qw (P i j)≤2*F+2):=fun i j hi hj=>by
  have h8:i<R.length:=by rw[hW.len];exact hi
  have h9:j<R[i].length:=by rw[hW.row];exact hj
  rw[←hW.is i j h8 h9]
  have:=frQ_qw R[i][j]
  have:=hW.size i j h8 h9
  omega
 have HNN:Hid (∀i j o,i<n→j≤n→OfK n F P i j o→(B o).size≤1099511627776):=fun i j o hi hj h=>by
  have h8:=h.size
  have h7:i*n≤n*n:=Nat.mul_le_mul_right _ (by omega)
  have h6:n*n≤100*100:=Nat.mul_le_mul hn hn
  have h5:(2*F+2)*(i*n+j)≤80002*10100:=Nat.mul_le_mul (by omega) (by omega)
  omega
 have HPS:=hid hp
 clear hR hW hp
 have HO1:=hid (fun V:World=>Of_any 1 V (by omega) (by omega))
 go_enter Tryz.func68,Tryz.ntmps68
 go_wp2_with fail
 refine(HO1.out _).mono ?_
 rintro e w1 ⟨rfl,hb1⟩
 have HB1:=hid hb1
 clear hb1
 rw[show (1:Int).toNat=1 from rfl]
 go_wp2_with fail
 go_loopw [3,22] (fun sv iv wr=>∃i o:Nat,i≤n∧iv=.int .i64 i∧sv=.string (B o)∧Hid (OfK n F P i 0 o)∧Hid (Below w.heap.size w wr)) (fun _ iv _=>n - (intOf iv).toNat)
 case atStart=>exact⟨0,1,Nat.zero_le _,rfl,rfl,OfK.start n F P,HB1⟩
 case round=>
  obtain⟨i,o,hi,rfl,rfl,HO,HB⟩:=hrel
  clear HB1
  by_cases hlt:i<n
  ·have hiR:i<R.length:=by rw[HW.out.len];exact hlt
   obtain⟨g,og,b,c,rfl,hg,c0,hfr⟩:=HR.out.raw hiR
   rw[HW.out.row i hiR] at c0
   have c0':=(HB.out.cell (p:=⟨g,_,none⟩) hg).trans c0
   have HFR:=hid hfr
   clear c0 hfr
   go_wp2_with fail
   clear c0'
   go_loopw [3,28] (fun sv jv wr=>∃j o:Nat,j≤n∧jv=.int .i64 j∧sv=.string (B o)∧Hid (OfK n F P i j o)∧Hid (Below w.heap.size w wr)) (fun _ jv _=>n - (intOf jv).toNat)
   case atStart=>exact⟨0,o,Nat.zero_le _,rfl,rfl,HO,HB⟩
   case round=>
    obtain⟨j,o,hj,rfl,rfl,HO,HB⟩:=hrel
    by_cases hlj:j<n
    ·have hjR:j<R[i].length:=by rw[HW.out.row i hiR];exact hlj
     obtain⟨gb,ob,rfl,hgb,b0,b1,b2⟩:=(HFR.out.below HB.out) j hjR
     have hq:=HQ.out i j hlt hlj
     have hsz:=HW.out.size i j hiR hjR
     have his:=HW.out.is i j hiR hjR
     have hos:=HNN.out i j o hlt hj HO.out
     have HON:=hid (HO.out.step hq)
     have HCA:Hid (∀U:World,Calls Tryz.prog 96 #[.agg #[.bool R[i][j].1,.string R[i][j].2.1,.string R[i][j].2.2]] U fun e w'=>e=.returned (.agg #[.bool (sgn (P i j)),.string (nu (P i j)),.string (de (P i j))])∧Below U.heap.size U w'):=fun U=>Canon_q (P i j) his (by omega)
     generalize R[i][j]=f at *
     obtain⟨fn,fx,fy⟩:=f
     simp only at b0 b1 b2 HCA
     have hds:(B (P i j).den).size≤1099511627776:=by
      have h8:(B (P i j).den).size≤qw (P i j):=Nat.le_add_left _ _
      omega
     have hdp:=(P i j).den_pos
     obtain⟨d,hd⟩:∃x,(P i j).den=x:=⟨_,rfl⟩
     have HDE:Hid (de (P i j)=B d):=by show B _=_;rw[hd]
     rw[hd] at hds hdp HON
     have HGC:Hid (∀U:World,Calls Tryz.prog 98 #[.string (B o),.string (B d)] U fun e w'=>e=.returned (.string (B (Nat.gcd o d)))∧Below U.heap.size U w'):=fun U=>by
      have h9:=Gcd_any (B o) (B d) U (by omega) (by omega)
      rw[N_B,N_B] at h9
      exact h9
     have hgp:Nat.gcd o d≠0:=Nat.ne_of_gt (Nat.gcd_pos_of_pos_right _ hdp)
     have hgs:(B (Nat.gcd o d)).size≤1099511627776:=Nat.le_trans (sz_mono (Nat.le_of_dvd hdp (Nat.gcd_dvd_right o d))) hds
     have HDV:Hid (∀U:World,Calls Tryz.prog 97 #[.string (B d),.string (B (Nat.gcd o d))] U fun e w'=>e=.returned (.tuple #[.string (B (d/Nat.gcd o d)),.string (B (d % Nat.gcd o d)),.bool true])∧Below U.heap.size U w'):=fun U=>by
      have h9:=Div_yes (B d) (B (Nat.gcd o d)) U hds hgs (by rw[N_B];exact hgp)
      rw[N_B,N_B] at h9
      exact h9
     have hls:(B (d/Nat.gcd o d)).size≤1099511627776:=Nat.le_trans (sz_mono (Nat.div_le_self _ _)) hds
     have HMU:Hid (∀U:World,Calls Tryz.prog 70 #[.string (B o),.string (B (d/Nat.gcd o d))] U fun e w'=>e=.returned (.string (B (lcmS o d)))∧Below U.heap.size U w'):=fun U=>by
      have h9:=Mul_any (B o) (B (d/Nat.gcd o d)) U hos hls
      rw[N_B,N_B] at h9
      exact h9
     generalize hx1:B (Nat.gcd o d)=bg at *
     generalize hx2:B (d/Nat.gcd o d)=bl at *
     generalize hx3:B (d % Nat.gcd o d)=br at *
     clear hq hsz his hos hds hdp hd hgp hgs hls hx1 hx2 hx3
     have HBA:Hid (Below w.heap.size w (wr.alloc (FC fn fx fy))):=HB.out.alloc HB.out.size _
     obtain⟨k0,k1,k2⟩:=(Box.new wr fn fx fy).tri3
     go_wp2_with fail
     clear k0 k1 k2 b0 b1 b2
     refine(HCA.out _).mono ?_
     rintro e w2 ⟨rfl,hb⟩
     have HB2:=hid (HBA.out.trans (hb.mono HBA.out.size))
     clear hb HBA HB
     rw[HDE.out]
     generalize sgn (P i j)=sg0 at *
     generalize nu (P i j)=nu0 at *
     have hfd:∀U:World,(Instr.field 44 (.agg #[.bool sg0,.string nu0,.string (B d)]) 2).run Tryz.prog U=.ok (.string (B d)) U:=fun _=>by kernel_rfl
     go_wp2_with fail
     clear hfd
     refine(HGC.out _).mono ?_
     rintro e w3 ⟨rfl,hb⟩
     have HB3:=hid (HB2.out.trans (hb.mono HB2.out.size))
     clear hb HB2
     go_wp2_with fail
     refine(HDV.out _).mono ?_
     rintro e w4 ⟨rfl,hb⟩
     have HB4:=hid (HB3.out.trans (hb.mono HB3.out.size))
     clear hb HB3
     go_wp2_with fail
     refine(HMU.out _).mono ?_
     rintro e w5 ⟨rfl,hb⟩
     have HB5:=hid (HB4.out.trans (hb.mono HB4.out.size))
     clear hb HB4
     go_wp2
     go_roundw
     case rel=>exact⟨j+1,_,by omega,by go_num,rfl,HON,HB5⟩
     case measure=>simp[intOf];omega
    ·obtain rfl:n=j:=by omega
     have HO2:=hid HO.out.next
     go_wp2
     go_roundw
     case rel=>exact⟨i+1,o,by omega,by go_num,rfl,HO2,HB⟩
     case measure=>simp[intOf];omega
  ·obtain rfl:n=i:=by omega
   have hos:(B o).size≤1+(2*F+2)*(n*n):=by have h8:=HO.out.size;rw[Nat.add_zero] at h8;exact h8
   have hop:=HO.out.pos
   have HDVD:=hid (fun x y (hx:x<n) (hy:y<n)=>HO.out.dvd x y hx hy (.inl hx))
   have hob:(B o).size≤1099511627776:=by
    have h6:n*n≤100*100:=Nat.mul_le_mul hn hn
    have h5:(2*F+2)*(n*n)≤80002*10000:=Nat.mul_le_mul (by omega) (by omega)
    omega
   clear HO HNN
   have HOS:=hid hos
   clear hos
   go_upto_region 14 with (at_make;refine wpList_make_full _ rfl _ _ 86 rfl wr.heap.size 91 i0 (.slice none 0 0) 1 Tryz.underlying86 hi0 hz0 hz1 .i64 .i64 _ _ n rfl rfl (by go_num) (by go_num) (by rw[hz2];omega) (by unfold maxLen;omega) (Nat.le_refl _) ?_;intro w2 hown2 hgrow2)
   have hb2:=block_of_own hown2
   rw[made_slices] at hb2
   have hB2:Below wr.heap.size wr w2:=(Below.refl _ wr).grown hgrow2 (Nat.le_refl _) (fun k e=>by cases e)
   have HB2:=hid (HB.out.trans (hB2.mono HB.out.size))
   have HK0:Hid (NfS w n wr.heap.size 0 (ptN P o) w2):=by
    refine⟨fun _=>⟨⟨_,by simp,hb2,by rw[List.getElem?_replicate,if_pos (by omega)],fun t _ ht=>by simp[ht],fun t ht=>absurd ht (by omega)⟩,RwSn.empty _ _,HB.out.size,(Array.getElem?_eq_some_iff.1 hb2).1,Nat.le_refl _,HB2.out⟩,fun e=>by omega,HB2.out⟩
   clear hown2 hgrow2 hb2 hB2 HB2 HB
   obtain⟨G,hG⟩:∃G,wr.heap.size=G:=⟨_,rfl⟩
   rw[hG] at HK0
   simp only[hG]
   clear hG
   go_wp2_with fail
   go_loopw [54] (fun iv wr=>∃k:Nat,k≤n∧iv=.int .i64 k∧Hid (NfS w n G k (ptN P o) wr)) (fun iv _=>n - (intOf iv).toNat)
   case atStart=>exact⟨0,Nat.zero_le _,rfl,HK0⟩
   case round=>
    obtain⟨k,hk,rfl,HKf⟩:=hrel
    clear HK0
    by_cases hlt:k<n
    ·have hkR:k<R.length:=by rw[HW.out.len];exact hlt
     obtain⟨g,og,b,c,rfl,hg,c0,hfr⟩:=HR.out.raw hkR
     rw[HW.out.row k hkR] at c0
     have c0':=(HKf.out.2.2.cell (p:=⟨g,_,none⟩) hg).trans c0
     have HFR:=hid hfr
     have HK1:=hid (HKf.out.1 hlt)
     clear c0 hfr HKf
     obtain⟨Mk,hMk⟩:∃x,wr.heap.size=x:=⟨_,rfl⟩
     rw[hMk] at HK1
     clear hMk
     go_wp2_with fail
     clear c0'
     go_loopw [61] (fun jv wr=>∃j:Nat,j≤n∧jv=.int .i64 j∧∃v,Hid (NgS w n G k Mk (ptN P o) v j wr)) (fun jv _=>n - (intOf jv).toNat)
     case atStart=>exact⟨0,Nat.zero_le _,rfl,_,HK1⟩
     case round=>
      obtain⟨j,hj,rfl,v,HK⟩:=hrel
      clear HK1
      by_cases hlj:j<n
      ·have hjR:j<R[k].length:=by rw[HW.out.row k hkR];exact hlj
       obtain⟨gb,ob,rfl,hgb,b0,b1,b2⟩:=(HFR.out.below HK.out.bel) j hjR
       have hq:=HQ.out k j hlt hlj
       have hsz:=HW.out.size k j hkR hjR
       have his:=HW.out.is k j hkR hjR
       have HCA:Hid (∀U:World,Calls Tryz.prog 96 #[.agg #[.bool R[k][j].1,.string R[k][j].2.1,.string R[k][j].2.2]] U fun e w'=>e=.returned (.agg #[.bool (sgn (P k j)),.string (nu (P k j)),.string (de (P k j))])∧Below U.heap.size U w'):=fun U=>Canon_q (P k j) his (by omega)
       generalize R[k][j]=f at *
       obtain⟨rn,rx,ry⟩:=f
       simp only at b0 b1 b2 HCA
       have hds:(de (P k j)).size≤1099511627776:=by
        have h8:(B (P k j).den).size≤qw (P k j):=Nat.le_add_left _ _
        show (B (P k j).den).size≤_
        omega
       have hns:(nu (P k j)).size≤1099511627776:=by
        have h8:(B (P k j).num.natAbs).size≤qw (P k j):=Nat.le_add_right _ _
        show (B (P k j).num.natAbs).size≤_
        omega
       have HDV:Hid (∀U:World,Calls Tryz.prog 97 #[.string (B o),.string (de (P k j))] U fun e w'=>e=.returned (.tuple #[.string (B (o/(P k j).den)),.string (B (o % (P k j).den)),.bool true])∧Below U.heap.size U w'):=fun U=>by
        have h9:=Div_yes (B o) (de (P k j)) U hob hds (by rw[de,N_B];exact Nat.ne_of_gt (P k j).den_pos)
        rw[de,N_B,N_B] at h9
        exact h9
       have HMU:Hid (∀U:World,Calls Tryz.prog 70 #[.string (nu (P k j)),.string (B (o/(P k j).den))] U fun e w'=>e=.returned (.string (B (ptN P o k j)))∧Below U.heap.size U w'):=fun U=>by
        have h9:=Mul_any (nu (P k j)) (B (o/(P k j).den)) U hns (Nat.le_trans (sz_mono (Nat.div_le_self _ _)) hob)
        rw[nu,N_B,N_B] at h9
        exact h9
       generalize sgn (P k j)=fn at *
       generalize nu (P k j)=fx at *
       generalize de (P k j)=fy at *
       generalize B (o/(P k j).den)=sb at *
       generalize B (o % (P k j).den)=sr at *
       clear hq hsz his hds hns
       obtain⟨dv,cv,rfl, -⟩:=owns_slice HK.out.cur
       rw[lN_length] at HK
       obtain⟨nv,hnv⟩:∃x,j=x:=⟨_,rfl⟩
       rw[show (Value.slice dv j cv)=.slice dv nv cv by rw[hnv]] at HK
       clear hnv
       have HMUk:=hid HK.out.mu
       have HX0:=hid (Box.new wr rn rx ry)
       have HK2:=hid (HK.out.step ((Below.refl wr.heap.size wr).alloc (Nat.le_refl _) (FC rn rx ry)))
       obtain⟨k0,k1,k2⟩:=HX0.out.tri3
       clear HK
       go_wp2_with fail
       clear k0 k1 k2 b0 b1 b2
       generalize (wr.alloc (FC rn rx ry))=w3 at *
       obtain⟨gB,hgB⟩:∃x,wr.heap.size=x:=⟨_,rfl⟩
       rw[hgB] at HX0
       have HGB:Hid (Mk≤gB):=by rw[←hgB];exact HMUk.out
       simp only[hgB]
       clear hgB
       refine(HCA.out _).mono ?_
       rintro e w4 ⟨rfl,hb⟩
       have HX1:=hid (HX0.out.below hb HX0.out.lt)
       have HK3:=hid (HK2.out.step hb)
       clear hb HX0 HK2
       obtain⟨k0,k1,k2⟩:=HX1.out.tri3
       have f0:=HX1.out.fz 0
       have f1:=HX1.out.fz 1
       have f2:=HX1.out.fz 2
       have HX2:=hid (HX1.out.put fn fx fy)
       have HK4:=hid (HK3.out.away HGB.out fn fx fy HX1.out)
       obtain⟨j0,j1,j2⟩:=HX2.out.tri3
       go_upto_region 21 with fail
       clear k0 k1 k2 f0 f1 f2
       generalize (((w4.setCell ⟨gB,0,none⟩ (.bool fn)).setCell ⟨gB,1,none⟩ (.string fx)).setCell ⟨gB,2,none⟩ (.string fy))=w5 at *
       go_wp2_with fail
       clear j0 j1 j2
       refine(HDV.out _).mono ?_
       rintro e w6 ⟨rfl,hb⟩
       have HX:=hid (HX2.out.below hb HX2.out.lt)
       have HK:=hid (HK4.out.step hb)
       clear hb HX1 HX2 HK3 HK4
       go_upto_region 22 with fail
       replace HK:=hid (HK.out.step (Below.refl _ _).drew)
       replace HX:=hid HX.out.drew
       refine wp_region_until 13 (fun (b:Bool) (u:World)=>b=false→u.cell? ⟨G,k,none⟩=some (.slice dv nv cv)∧u.cell? ⟨gB,1,none⟩=some (.string fx)) (by kernel_rfl) (fun _=>⟨HK.out.cell hlt,HX.out.c1⟩) (fun hSd=>?_)
       generalize w6.drew=u0 at *
       refine wpU_take (i:=0) (oi:=_) (v:=.slice (some ⟨G,0,none⟩) n n) (b:=false) rfl (by kernel_rfl) (by kernel_rfl) (by kernel_rfl) (by decide) (fun _ _ _ h=>h) (Or.inl ⟨by rfl,?_⟩) (by kernel_rfl) (by assumption) ?_
       ·intro u' hSu
        (try simp only[List.getElem_toArray,List.getElem_cons_zero])
        go_simp
       (try simp only[List.getElem_toArray,List.getElem_cons_zero])
       (try simp only[Act.put,List.setIfInBounds_toArray,List.set_cons_zero,List.set_cons_succ])
       refine wpU_take (i:=1) (oi:=_) (v:=.int .i64 (k:Nat)) (b:=false) rfl (by kernel_rfl) (by kernel_rfl) (by kernel_rfl) (by decide) (fun _ _ _ h=>h) (Or.inl ⟨by rfl,?_⟩) (by kernel_rfl) (by assumption) ?_
       ·intro u' hSu
        (try simp only[List.getElem_toArray,List.getElem_cons_zero,List.getElem_cons_succ])
        go_simp
       (try simp only[List.getElem_toArray,List.getElem_cons_zero,List.getElem_cons_succ])
       (try simp only[Act.put,List.setIfInBounds_toArray,List.set_cons_zero,List.set_cons_succ])
       refine wpU_take (i:=2) (oi:=_) (v:=.slice (some ⟨G,0,none⟩) n n) (b:=false) rfl (by kernel_rfl) (by kernel_rfl) (by kernel_rfl) (by decide) (fun _ _ _ h=>h) (Or.inl ⟨by rfl,?_⟩) (by kernel_rfl) (by assumption) ?_
       ·intro u' hSu
        (try simp only[List.getElem_toArray,List.getElem_cons_zero,List.getElem_cons_succ])
        go_simp
       (try simp only[List.getElem_toArray,List.getElem_cons_zero,List.getElem_cons_succ])
       (try simp only[Act.put,List.setIfInBounds_toArray,List.set_cons_zero,List.set_cons_succ])
       refine wpU_take (i:=3) (oi:=_) (v:=.int .i64 (k:Nat)) (b:=false) rfl (by kernel_rfl) (by kernel_rfl) (by kernel_rfl) (by decide) (fun _ _ _ h=>h) (Or.inl ⟨by rfl,?_⟩) (by kernel_rfl) (by assumption) ?_
       ·intro u' hSu
        (try simp only[List.getElem_toArray,List.getElem_cons_zero,List.getElem_cons_succ])
        go_simp
       (try simp only[List.getElem_toArray,List.getElem_cons_zero,List.getElem_cons_succ])
       (try simp only[Act.put,List.setIfInBounds_toArray,List.set_cons_zero,List.set_cons_succ])
       refine wpU_take (i:=4) (oi:=_) (v:=.pointer (some ⟨G,k,none⟩)) (b:=false) rfl (by kernel_rfl) (by kernel_rfl) (by kernel_rfl) (by decide) (fun _ _ _ h=>h) (Or.inl ⟨by rfl,?_⟩) (by kernel_rfl) (by assumption) ?_
       ·intro u' hSu
        (try simp only[List.getElem_toArray,List.getElem_cons_zero,List.getElem_cons_succ])
        go_simp
       (try simp only[List.getElem_toArray,List.getElem_cons_zero,List.getElem_cons_succ])
       (try simp only[Act.put,List.setIfInBounds_toArray,List.set_cons_zero,List.set_cons_succ])
       refine wpU_ahead (i:=5) (oi:=_) (v:=.slice dv nv cv) rfl (by kernel_rfl) (by kernel_rfl) (by kernel_rfl) (by decide) rfl (by kernel_rfl) (fun _ _ _ h=>h) (Or.inl ⟨by rfl,?_⟩) (by kernel_rfl) (by assumption) ?_
       ·intro u' hSu
        (try simp only[List.getElem_toArray,List.getElem_cons_zero,List.getElem_cons_succ])
        obtain⟨s0,s1⟩:=hSu rfl
        go_simp
       (try simp only[List.getElem_toArray,List.getElem_cons_zero,List.getElem_cons_succ])
       (try simp only[Act.put,List.setIfInBounds_toArray,List.set_cons_zero,List.set_cons_succ])
       refine wpU_take (i:=6) (oi:=_) (v:=.pointer (some ⟨gB,1,none⟩)) (b:=false) rfl (by kernel_rfl) (by kernel_rfl) (by kernel_rfl) (by decide) (fun _ _ _ h=>h) (Or.inl ⟨by rfl,?_⟩) (by kernel_rfl) (by assumption) ?_
       ·intro u' hSu
        (try simp only[List.getElem_toArray,List.getElem_cons_zero,List.getElem_cons_succ])
        go_simp
       (try simp only[List.getElem_toArray,List.getElem_cons_zero,List.getElem_cons_succ])
       (try simp only[Act.put,List.setIfInBounds_toArray,List.set_cons_zero,List.set_cons_succ])
       refine wpU_ahead (i:=7) (oi:=_) (v:=.string fx) rfl (by kernel_rfl) (by kernel_rfl) (by kernel_rfl) (by decide) rfl (by kernel_rfl) (fun _ _ _ h=>h) (Or.inl ⟨by rfl,?_⟩) (by kernel_rfl) (by assumption) ?_
       ·intro u' hSu
        (try simp only[List.getElem_toArray,List.getElem_cons_zero,List.getElem_cons_succ])
        obtain⟨s0,s1⟩:=hSu rfl
        go_simp
       (try simp only[List.getElem_toArray,List.getElem_cons_zero,List.getElem_cons_succ])
       (try simp only[Act.put,List.setIfInBounds_toArray,List.set_cons_zero,List.set_cons_succ])
       refine wpU_take (i:=8) (oi:=_) (v:=.string sb) (b:=false) rfl (by kernel_rfl) (by kernel_rfl) (by kernel_rfl) (by decide) (fun _ _ _ h=>h) (Or.inl ⟨by rfl,?_⟩) (by kernel_rfl) (by assumption) ?_
       ·intro u' hSu
        (try simp only[List.getElem_toArray,List.getElem_cons_zero,List.getElem_cons_succ])
        go_simp
       (try simp only[List.getElem_toArray,List.getElem_cons_zero,List.getElem_cons_succ])
       (try simp only[Act.put,List.setIfInBounds_toArray,List.set_cons_zero,List.set_cons_succ])
       refine wpU_ready (rs:=[9]) (by kernel_rfl) (by simp) (AllU.cons (b:=false) rfl (by kernel_rfl) ?_ (AllU.nil))
       ·intro K' hK'
        (try simp only[List.getElem_toArray,List.getElem_cons_zero,List.getElem_cons_succ])
        go_simp
        refine(HMU.out _).mono ?_
        rintro e u1 ⟨rfl,hb⟩
        replace HX:=hid (HX.out.below hb HX.out.lt)
        replace HK:=hid (HK.out.step hb)
        refine hK'.out _ _ (fun _=>⟨HK.out.cell hlt,HX.out.c1⟩) (fun hSe=>?_)
        clear hK' K' hSd
        have hSd:=hSe
        clear hSe
        clear hb
        (try simp only[List.getElem_toArray,List.getElem_cons_zero,List.getElem_cons_succ])
        (try simp only[Act.put,List.setIfInBounds_toArray,List.set_cons_zero,List.set_cons_succ])
        refine wpU_ready (rs:=[10]) (by kernel_rfl) (by simp) (AllU.cons (b:=false) rfl (by kernel_rfl) ?_ (AllU.nil))
        ·intro K' hK'
         (try simp only[List.getElem_toArray,List.getElem_cons_zero,List.getElem_cons_succ])
         go_simp
         have hbA:=(Below.refl u1.heap.size u1).alloc (Nat.le_refl _) (.cells #[.string (B (ptN P o k j))] 42)
         have HY:Hid ((u1.alloc (.cells #[.string (B (ptN P o k j))] 42)).cell? ⟨u1.heap.size,0,none⟩=some (.string (B (ptN P o k j)))):=by
          show _=_
          rw[cell_of_row _ _ _ _ _ (0,0) (heap_alloc_new u1 _)]
          rfl
         replace HX:=hid (HX.out.below hbA HX.out.lt)
         replace HK:=hid (HK.out.step hbA)
         clear hbA
         refine hK'.out _ _ (fun _=>⟨HK.out.cell hlt,HX.out.c1⟩) (fun hSe=>?_)
         clear hK' K' hSd
         have hSd:=hSe
         clear hSe
         obtain⟨gy,hgy⟩:∃x,u1.heap.size=x:=⟨_,rfl⟩
         obtain⟨Vy,hV⟩:∃x,u1.alloc (.cells #[.string (B (ptN P o k j))] 42)=x:=⟨_,rfl⟩
         rw[hV] at HY HK HX hSd
         rw[hgy] at HY
         simp only[hV]
         simp only[hgy]
         clear hgy hV
         (try simp only[List.getElem_toArray,List.getElem_cons_zero,List.getElem_cons_succ])
         (try simp only[Act.put,List.setIfInBounds_toArray,List.set_cons_zero,List.set_cons_succ])
         refine wpU_ready (rs:=[11]) (by kernel_rfl) (by simp) (AllU.cons (b:=false) rfl (by kernel_rfl) ?_ (AllU.nil))
         ·intro K' hK'
          rw[if_pos (by rfl)]
          refine wp_append_st _ _ rfl Mk (.slice dv nv cv) (lN j (ptN P o k)) (ptN P o k j) rfl HK.out.cur gy rfl HY.out (by rw[lN_length];omega) HK.out.mu ?_
          intro v2 V8 hr8 hg8
          obtain⟨d8,c8,rfl, -⟩:=owns_slice hr8
          have HX8:Hid (Box V8 gB fn fx fy):=KeepT.grown hg8 (owns_typed HK.out.cur) (by decide) gB _ _ HX.out
          have HS8:Hid (V8.cell? ⟨G,k,none⟩=some (.slice dv nv cv)∧V8.frozen? ⟨G,k,none⟩=false):=by
           obtain⟨X,h1,h2,h3,h4,h5⟩:=HK.out.pre hg8
           have hk':k<X.length:=by omega
           refine⟨?_,h2.fz k⟩
           rw[h2.cell k hk']
           rw[List.getElem?_eq_getElem hk'] at h3
           exact h3
          have HKN:=hid (HK.out.push hlt hg8 hr8)
          obtain⟨n8,hn8⟩:∃x,(lN j (ptN P o k)++[ptN P o k j]).length=x:=⟨_,rfl⟩
          simp only[hn8] at HKN⊢
          clear hn8
          refine hK'.out _ _ (fun _=>⟨HS8.out.1,HX8.out.c1⟩) (fun hSe=>?_)
          clear hK' K' hSd hr8 hg8 HK HY HX
          have hSd:=hSe
          clear hSe
          (try simp only[List.getElem_toArray,List.getElem_cons_zero,List.getElem_cons_succ])
          (try simp only[Act.put,List.setIfInBounds_toArray,List.set_cons_zero,List.set_cons_succ])
          refine wpU_take (i:=12) (oi:=_) (v:=.pointer (some ⟨G,k,none⟩)) (b:=false) rfl (by kernel_rfl) (by kernel_rfl) (by kernel_rfl) (by decide) (fun _ _ _ h=>h) (Or.inl ⟨by rfl,?_⟩) (by kernel_rfl) (by assumption) ?_
          ·intro u' hSu
           (try simp only[List.getElem_toArray,List.getElem_cons_zero,List.getElem_cons_succ])
           go_simp
          (try simp only[List.getElem_toArray,List.getElem_cons_zero,List.getElem_cons_succ])
          (try simp only[Act.put,List.setIfInBounds_toArray,List.set_cons_zero,List.set_cons_succ])
          have q0:=HS8.out.1
          have q1:=HS8.out.2
          refine wpU_ready (rs:=[13]) (by kernel_rfl) (by simp) (AllU.cons (b:=true) rfl (by kernel_rfl) ?_ (AllU.nil))
          ·intro K' hK'
           (try simp only[List.getElem_toArray,List.getElem_cons_zero,List.getElem_cons_succ])
           go_simp
           refine hK'.out _ _ (fun e=>by cases e) (fun _=>wpU_done (by kernel_rfl) ?_ _)
           clear hK' K' hSd q0 q1 HS8 HX8
           go_wp2
           go_roundw
           case rel=>exact⟨j+1,by omega,by go_num,.slice d8 n8 c8,HKN⟩
           case measure=>simp[intOf];omega
      ·obtain rfl:n=j:=by omega
       have HKE:=hid (HK.out.end h1)
       go_wp2
       go_roundw
       case rel=>exact⟨k+1,by omega,by go_num,HKE⟩
       case measure=>simp[intOf];omega
    ·obtain rfl:n=k:=by omega
     have HRT:=hid (HKf.out.2.1 rfl)
     have HBF:=hid HKf.out.2.2
     clear HKf
     go_wp2
     go_ret2
     exact⟨G,o,ptN P o,rfl,HRT.out,hop,HOS.out,fun x y hx hy=>⟨ptN_is (HPS.out x y hx hy) (HDVD.out x y hx hy),ptN_size (HQ.out x y hx hy)⟩,HBF.out⟩
end Go.Proofs.YtmbjmiioggfneaaGreatDoor

/- power and Power of package chain. -/
namespace Go.Proofs.YtmbjmiioggfneaaGreatDoor
open Go.RowKit Go.Shelf
theorem sz_pow (D:Nat):∀t,(B (D^t)).size≤t*(B D).size+1
 |0=>by have:=B_one_size;rw[Nat.pow_zero];omega
 |t+1=>by
  have h1:=sz_pow D t
  have h2:=sz_mul (D^t) D
  rw[Nat.pow_succ,Nat.add_mul]
  omega
theorem pow_fits {n D k c:Nat} {P:Nat→Nat→Rat} {Cn:Nat→Nat→Nat} (hD:D≠0) (hc:Chn n P) (h:∀i j,i<n→j<n→((Cn i j:Nat):Rat)=P i j*(D:Rat)) (hs:(B D).size≤c) {i j:Nat} (hi:i<n) (hj:j<n):Fits (k*c+1) (powQ n P k i j):=by
 have h1:=sz_pow D k
 have h2:k*(B D).size≤k*c:=Nat.mul_le_mul_left _ hs
 have h3:=B_lt (D^k)
 have h4:256^(B (D^k)).size≤256^(k*c+1):=pow_mono (by omega)
 refine⟨((rowN n Cn k i j:Nat):Int),D^k,Nat.ne_of_gt (Nat.pow_pos (Nat.pos_of_ne_zero hD)),(row_is hD h hi hj k).symm,by omega,?_⟩
 have h5:=row_le hc h hi hj k
 rw[Int.natAbs_natCast]
 omega
theorem EqS.fs {B n G:Nat} {g c:Nat→Nat} {M:Nat→Nat→Fr} {U:World} (h:EqS B n n G g c M U):FsS U (some ⟨G,0,none⟩) (mF n M):=fun k hk=>by
 have hk':k<n:=by rw[mF_length] at hk;exact hk
 have hl:(mF n M)[k].length=n:=by rw[mF_get,rF_length]
 have hb:=(h.row k hk').block
 refine⟨G,0,some ⟨g k,0,none⟩,c k,rfl,h.top.lt,?_,?_,?_⟩
 ·rw[Nat.zero_add,hl];exact h.slice hk'
 ·rw[mF_get];exact(h.row k hk').fr
 ·rw[hl];exact hb.2.1
theorem RwN.past {w U U':World} {n m G k Mk j g:Nat} {gs c:Nat→Nat} {M:Nat→Nat→Fr} {v v':Value} {l:List Nat} (h:RwN U g l) (hk:HgS w n m G k Mk gs c M v j U) (hg:U.grownBy U' v.ownBlock) (hM:g<Mk) (hG:G≠g):RwN (U'.setCell ⟨G,k,none⟩ v') g l:=by
 have h1:U'.heap[g]? =U.heap[g]?:=hg.block g h.lt fun e=>by have:=hk.cur.own g e.symm;omega
 exact((Below.heap_setCell U' ⟨G,k,none⟩ v' g (Ne.symm hG)).trans h1).trans h
def pwF (n:Nat) (P:Nat→Nat→Rat) (k:Nat):Nat→Nat→Fr:=fun i j=>qF (powQ n P k i j)
set_option maxRecDepth 100000 in
set_option maxHeartbeats 4000000 in
theorem chPower_in (a:Option Addr) (ca n F k:Nat) (P:Nat→Nat→Rat) (R:List (List Fr)) (w:World) (hR:FsS w a R) (hW:RaW n F P R) (h1:1≤n) (hn:n≤100) (hk:k≤16) (hF:1+(2*F+2)*(n*n)≤60000) (hc:Chn n P):
  Calls Tryz.prog 34 #[.slice a n ca,.int .i64 (k:Nat)] w fun e w'=>∃G,e=.returned (.slice (some ⟨G,0,none⟩) n n)∧FsS w' (some ⟨G,0,none⟩) (mR n (powQ n P k))∧(∀i j,i<n→j<n→Fits (k*(1+(2*F+2)*(n*n))+1) (powQ n P k i j))∧Below w.heap.size w w':=by
 obtain⟨i0,hi0,hz0,hz1,hz2⟩:=info_parts Tryz.infoFracs
 obtain⟨i1,hi1,hy0,hy1,hy2⟩:=info_parts Tryz.infoNat
 have hF4:F≤40000:=by
  have h8:(2*F+2)*1≤(2*F+2)*(n*n):=Nat.mul_le_mul_left _ (Nat.mul_le_mul h1 h1)
  omega
 have HIP:=hid (chInParts_any a ca n F P R w hR hW h1 hn hF4 hc.low)
 have HC:=hid hc
 have HF2:Hid (2*F+2≤60000):=by
  have h8:(2*F+2)*1≤(2*F+2)*(n*n):=Nat.mul_le_mul_left _ (Nat.mul_le_mul h1 h1)
  show _≤_
  omega
 have HO1:=hid (fun V:World=>Of_any 1 V (by omega) (by omega))
 obtain⟨S,hS⟩:∃S,1+(2*F+2)*(n*n)=S:=⟨_,rfl⟩
 rw[hS] at HIP hF⊢
 clear hR hW hc hF4 hS
 go_enter Tryz.func34,Tryz.ntmps34
 go_wp2_with fail
 refine HIP.out.mono ?_
 rintro e w1 ⟨Gc,D,Cn,rfl,hct,hDp,hDs,hcn,hb1⟩
 have HB1:=hid hb1
 have HCT:=hid hct
 have HCN:Hid (∀i j,i<n→j<n→((Cn i j:Nat):Rat)=P i j*(D:Rat)):=fun i j hi hj=>(hcn i j hi hj).1
 have HCS:Hid (∀i j,i<n→j<n→(B (Cn i j)).size≤1000000):=fun i j hi hj=>by
  have h8:=(hcn i j hi hj).2
  have h9:2*F+2≤60000:=HF2.out
  omega
 have hD0:D≠0:=Nat.ne_of_gt hDp
 have HPW:Hid (∀t,t≤16→(B (D^t)).size≤1000000):=fun t ht=>by
  have h8:=sz_pow D t
  have h9:t*(B D).size≤16*60000:=Nat.mul_le_mul ht (by omega)
  omega
 have HFT:Hid (∀i j,i<n→j<n→Fits (k*S+1) (powQ n P k i j)):=fun i j hi hj=>pow_fits hD0 HC.out HCN.out hDs hi hj
 have HRS:Hid (∀t i j,t≤16→i<n→j<n→(B (rowN n Cn t i j)).size≤1000000):=fun t i j ht hi hj=>Nat.le_trans (sz_mono (row_le HC.out HCN.out hi hj t)) (HPW.out t ht)
 have HPS:Hid (∀t i x j,t+1≤16→i<n→x≤n→j<n→(B (sumN (fun s=>rowN n Cn t i s*Cn s j) x)).size≤1000000):=fun t i x j ht hi hx hj=>Nat.le_trans (sz_mono (sumN_part hx)) (HRS.out (t+1) i j ht hi hj)
 have HMK0:Hid (∀i j,i<n→j<n→∀U:World,Calls Tryz.prog 72 #[.bool false,.string (B (rowN n Cn k i j)),.string (B (D^k))] U fun e w'=>e=.returned (.agg #[.bool (qF (powQ n P k i j)).1,.string (qF (powQ n P k i j)).2.1,.string (qF (powQ n P k i j)).2.2])∧Below U.heap.size U w'):=fun i j hi hj U=>by
  have h9:=Make_any false (B (rowN n Cn k i j)) (B (D^k)) U (Nat.le_trans (HRS.out k i j hk hi hj) (by omega)) (Nat.le_trans (HPW.out k hk) (by omega))
  have e9:val false (B (rowN n Cn k i j)) (B (D^k))=powQ n P k i j:=by
   rw[←row_is hD0 HCN.out hi hj k]
   show mkRat (sg false (N (B (rowN n Cn k i j)))) (N (B (D^k)))=_
   rw[N_B,N_B]
   rfl
  rw[e9] at h9
  exact h9
 have HDB:Hid ((B D).size≤1000000):=by show _≤_;omega
 clear hb1 hct hcn hDs HIP hF HF2
 go_wp2_with fail
 refine(HO1.out _).mono ?_
 rintro e w2 ⟨rfl,hb2⟩
 rw[show (1:Int).toNat=1 from rfl]
 have HB2:=hid (HB1.out.trans (hb2.mono HB1.out.size))
 have HC2:=hid (HCT.out.below hb2)
 clear hb2 HCT HB1
 obtain⟨W,hW⟩:∃x,x=w2:=⟨_,rfl⟩
 have HBW:Hid (Below W.heap.size W w2):=by rw[hW];exact Below.refl _ _
 rw[←hW] at HB2 HC2
 clear hW
 go_wp2_with fail
 go_loopw [7,20] (fun sv tv wr=>∃t:Nat,t≤k∧tv=.int .i64 t∧sv=.string (B (D^t))∧Hid (Below W.heap.size W wr)) (fun _ tv _=>k - (intOf tv).toNat)
 case atStart=>exact⟨0,Nat.zero_le _,rfl,rfl,HBW⟩
 case round=>
  obtain⟨t,ht,rfl,rfl,HB⟩:=hrel
  clear HBW
  by_cases hlt:t<k
  ·have HMU:Hid (∀U:World,Calls Tryz.prog 70 #[.string (B (D^t)),.string (B D)] U fun e w'=>e=.returned (.string (B (D^(t+1))))∧Below U.heap.size U w'):=fun U=>by
    have h9:=Mul_any (B (D^t)) (B D) U (Nat.le_trans (HPW.out t (by omega)) (by omega)) (Nat.le_trans HDB.out (by omega))
    rw[N_B,N_B] at h9
    exact h9
   go_wp2_with fail
   refine(HMU.out _).mono ?_
   rintro e w3 ⟨rfl,hb⟩
   have HB3:=hid (HB.out.trans (hb.mono HB.out.size))
   clear hb HB HMU
   go_wp2
   go_roundw
   case rel=>exact⟨t+1,by omega,by go_num,rfl,HB3⟩
   case measure=>simp[intOf];omega
  ·obtain rfl:k=t:=by omega
   generalize hwb:B (D^k)=wb at *
   clear hwb
   have HBw:=hid (HB2.out.trans (HB.out.mono HB2.out.size))
   have HCt3:=hid (HC2.out.below HB.out)
   clear HB2 HC2 HB
   obtain⟨W3,hW3⟩:∃x,x=wr:=⟨_,rfl⟩
   rw[←hW3] at HBw HCt3
   have HWW:Hid (Below W3.heap.size W3 wr):=by rw[hW3];exact Below.refl _ _
   have HSZ:Hid (W3.heap.size≤wr.heap.size):=HWW.out.size
   have HEQ:Hid (W3=wr):=hW3
   clear hW3
   go_upto_region 8 with (at_make;refine wpList_make_full _ rfl _ _ 22 rfl W3.heap.size 23 i0 (.slice none 0 0) 1 Tryz.underlying22 hi0 hz0 hz1 .i64 .i64 _ _ n rfl rfl (by go_num) (by go_num) (by rw[hz2];omega) (by unfold maxLen;omega) HSZ.out ?_;intro w4 hown2 hgrow2)
   have hb2:=block_of_own hown2
   rw[made_slices] at hb2
   rw[←HEQ.out] at hgrow2 hb2
   have hB2:Below W3.heap.size W3 w4:=(Below.refl _ W3).grown hgrow2 (Nat.le_refl _) (fun k e=>by cases e)
   have HK0:Hid (HfS W3 n n W3.heap.size 0 (fun _=>0) (fun _=>0) (pwF n P k) w4):=by
    refine⟨?_,fun t h=>absurd h (by omega),fun t t' h=>absurd h (by omega),Nat.le_refl _,hB2⟩
    have e:tpV n 0 n (fun _=>0) (fun _=>0) (.slice none 0 0)=List.replicate n (.slice none 0 0):=List.ext_getElem (by simp[tpV]) fun i _ _=>by simp[tpV]
    rw[e]
    exact hb2
   rw[←HEQ.out]
   clear hown2 hgrow2 hb2 hB2 HWW HSZ HEQ
   obtain⟨G,hG⟩:∃G,W3.heap.size=G:=⟨_,rfl⟩
   rw[hG] at HK0
   simp only[hG]
   clear hG
   go_wp2_with fail
   go_loopw [31] (fun iv wr=>∃(i:Nat) (g c:Nat→Nat),i≤n∧iv=.int .i64 i∧Hid (HfS W3 n n G i g c (pwF n P k) wr)) (fun iv _=>n - (intOf iv).toNat)
   case atStart=>exact⟨0,_,_,Nat.zero_le _,rfl,HK0⟩
   case round=>
    obtain⟨i,g,c,hi,rfl,HKf⟩:=hrel
    clear HK0
    by_cases hlt:i<n
    ·have hGlt:=HKf.out.top.lt
     go_upto_region 12 with (at_make;refine wpList_make_full _ rfl _ _ 91 rfl wr.heap.size 42 i1 (.string ⟨#[]⟩) 1 Tryz.underlying91 hi1 hy0 hy1 .i64 .i64 _ _ n rfl rfl (by go_num) (by go_num) (by rw[hy2];omega) (by unfold maxLen;omega) (Nat.le_refl _) ?_;intro w5 hown2 hgrow2)
     have hb2:=block_of_own hown2
     rw[made_nats] at hb2
     have hB2:Below wr.heap.size wr w5:=(Below.refl _ wr).grown hgrow2 (Nat.le_refl _) (fun k e=>by cases e)
     have HN0:Hid (MN wr wr.heap.size (lN n fun _=>0) w5):=⟨hb2,hB2⟩
     clear hown2 hgrow2 hb2 hB2
     obtain⟨W5,hW5⟩:∃x,x=wr:=⟨_,rfl⟩
     rw[←hW5] at HN0 HKf hGlt
     rw[←hW5]
     clear hW5
     obtain⟨gN,hgN⟩:∃x,W5.heap.size=x:=⟨_,rfl⟩
     have HN1:Hid (MN W5 gN (lN n fun _=>0) w5):=by rw[←hgN];exact HN0.out
     have hgW:W5.heap.size≤gN:=Nat.le_of_eq hgN
     simp only[hgN]
     rw[hgN] at hGlt
     clear HN0 hgN
     go_wp2_with fail
     refine(HO1.out _).mono ?_
     rintro e w6 ⟨rfl,hb⟩
     rw[show (1:Int).toNat=1 from rfl]
     have HN2:=hid (HN1.out.step hb)
     have HN3:=hid (HN2.out.put hgW i 1)
     have q0:=HN2.out.row.cell i (by rw[lN_length];exact hlt)
     have q1:=HN2.out.row.fz i
     rw[lN_set] at HN3
     clear hb HN1
     go_upto_region 13 with fail
     clear q0 q1 HN2
     generalize (w6.setCell ⟨gN,i,none⟩ (.string (B 1)))=w7 at *
     have HNr:Hid (RwN w7 gN (lN n (rowN n Cn 0 i))):=HN3.out.row
     have HKf2:=hid (HKf.out.step HN3.out.bel)
     have HGg:Hid (G<gN):=hGlt
     clear HN3 HKf hgW hGlt
     go_wp2_with fail
     go_loopw [10,42] (fun sv tv wr=>∃t gN:Nat,t≤k∧tv=.int .i64 t∧sv=.slice (some ⟨gN,0,none⟩) n n∧Hid (G<gN)∧Hid (RwN wr gN (lN n (rowN n Cn t i)))∧Hid (HfS W3 n n G i g c (pwF n P k) wr)) (fun _ tv _=>k - (intOf tv).toNat)
     case atStart=>exact⟨0,gN,Nat.zero_le _,rfl,rfl,HGg,HNr,HKf2⟩
     case round=>
      obtain⟨t,gN,ht,rfl,rfl,HGg,HNr,HKf⟩:=hrel
      clear HKf2
      by_cases hltt:t<k
      ·have HGO:=hid (chGoOn_any (some ⟨gN,0,none⟩) (some ⟨Gc,0,none⟩) n n n (rowN n Cn t i) Cn wr HNr.out.st (HCt3.out.below HKf.out.bel) (by omega) (fun x hx=>HRS.out t i x (by omega) hlt hx) HCS.out (fun x y hx hy=>HPS.out t i x y (by omega) hlt hx hy))
       go_wp2_with fail
       refine HGO.out.mono ?_
       rintro e w8 ⟨gM,rfl,hgM,hr8,hb⟩
       have HKn:=hid (HKf.out.step hb)
       have HR8:Hid (RwN w8 gM (lN n (rowN n Cn (t+1) i))):=hr8
       have HGn:Hid (G<gM):=Nat.lt_of_lt_of_le HKf.out.top.lt hgM
       clear hr8 hb hgM HGO HKf HNr HGg
       go_wp2
       go_roundw
       case rel=>exact⟨t+1,gM,by omega,by go_num,rfl,HGn,HR8,HKn⟩
       case measure=>simp[intOf];omega
      ·obtain rfl:k=t:=by omega
       have HK1:=hid HKf.out.into
       have HGM0:=hid HNr.out.lt
       clear HKf
       obtain⟨Mk,hMk⟩:∃x,wr.heap.size=x:=⟨_,rfl⟩
       rw[hMk] at HK1 HGM0
       have HGM:Hid (gN<Mk):=HGM0.out
       have HGN:Hid (G≠gN):=Nat.ne_of_lt HGg.out
       clear hMk HGM0
       go_wp2_with fail
       go_loopw [50] (fun jv wr=>∃j:Nat,j≤n∧jv=.int .i64 j∧∃v,Hid (HgS W3 n n G i Mk g c (pwF n P k) v j wr)∧Hid (RwN wr gN (lN n (rowN n Cn k i)))) (fun jv _=>n - (intOf jv).toNat)
       case atStart=>exact⟨0,Nat.zero_le _,rfl,_,HK1,HNr⟩
       case round=>
        obtain⟨j,hj,rfl,v,HK,HN⟩:=hrel
        clear HK1 HNr
        by_cases hlj:j<n
        ·have c0:=HN.out.cell j (by rw[lN_length];exact hlj)
         rw[lN_get] at c0
         have HMK:=hid (HMK0.out i j hlt hlj)
         obtain⟨qf,hqf⟩:∃f:Fr,qF (powQ n P k i j)=f:=⟨_,rfl⟩
         have HQF:Hid (pwF n P k i j=qf):=hqf
         rw[hqf] at HMK
         generalize hcb:B (rowN n Cn k i j)=cb at *
         obtain⟨dv,nv,cv,rfl⟩:=HK.out.cur.slv
         clear hqf hcb
         go_upto_region 20 with fail
         clear c0
         replace HK:=hid (HK.out.step (Below.refl _ _).drew)
         replace HN:=hid (HN.out.below (Below.refl _ _).drew HN.out.lt)
         refine wp_region_until 12 (fun (b:Bool) (u:World)=>b=false→u.cell? ⟨G,i,none⟩=some (.slice dv nv cv)) (by kernel_rfl) (fun _=>HK.out.cell hlt) (fun hSd=>?_)
         generalize wr.drew=u0 at *
         refine wpU_take (i:=0) (oi:=_) (v:=.slice (some ⟨G,0,none⟩) n n) (b:=false) rfl (by kernel_rfl) (by kernel_rfl) (by kernel_rfl) (by decide) (fun _ _ _ h=>h) (Or.inl ⟨by rfl,?_⟩) (by kernel_rfl) (by assumption) ?_
         ·intro u' hSu
          (try simp only[List.getElem_toArray,List.getElem_cons_zero])
          go_simp
         (try simp only[List.getElem_toArray,List.getElem_cons_zero])
         (try simp only[Act.put,List.setIfInBounds_toArray,List.set_cons_zero,List.set_cons_succ])
         refine wpU_take (i:=1) (oi:=_) (v:=.int .i64 (i:Nat)) (b:=false) rfl (by kernel_rfl) (by kernel_rfl) (by kernel_rfl) (by decide) (fun _ _ _ h=>h) (Or.inl ⟨by rfl,?_⟩) (by kernel_rfl) (by assumption) ?_
         ·intro u' hSu
          (try simp only[List.getElem_toArray,List.getElem_cons_zero,List.getElem_cons_succ])
          go_simp
         (try simp only[List.getElem_toArray,List.getElem_cons_zero,List.getElem_cons_succ])
         (try simp only[Act.put,List.setIfInBounds_toArray,List.set_cons_zero,List.set_cons_succ])
         refine wpU_take (i:=2) (oi:=_) (v:=.slice (some ⟨G,0,none⟩) n n) (b:=false) rfl (by kernel_rfl) (by kernel_rfl) (by kernel_rfl) (by decide) (fun _ _ _ h=>h) (Or.inl ⟨by rfl,?_⟩) (by kernel_rfl) (by assumption) ?_
         ·intro u' hSu
          (try simp only[List.getElem_toArray,List.getElem_cons_zero,List.getElem_cons_succ])
          go_simp
         (try simp only[List.getElem_toArray,List.getElem_cons_zero,List.getElem_cons_succ])
         (try simp only[Act.put,List.setIfInBounds_toArray,List.set_cons_zero,List.set_cons_succ])
         refine wpU_take (i:=3) (oi:=_) (v:=.int .i64 (i:Nat)) (b:=false) rfl (by kernel_rfl) (by kernel_rfl) (by kernel_rfl) (by decide) (fun _ _ _ h=>h) (Or.inl ⟨by rfl,?_⟩) (by kernel_rfl) (by assumption) ?_
         ·intro u' hSu
          (try simp only[List.getElem_toArray,List.getElem_cons_zero,List.getElem_cons_succ])
          go_simp
         (try simp only[List.getElem_toArray,List.getElem_cons_zero,List.getElem_cons_succ])
         (try simp only[Act.put,List.setIfInBounds_toArray,List.set_cons_zero,List.set_cons_succ])
         refine wpU_take (i:=4) (oi:=_) (v:=.pointer (some ⟨G,i,none⟩)) (b:=false) rfl (by kernel_rfl) (by kernel_rfl) (by kernel_rfl) (by decide) (fun _ _ _ h=>h) (Or.inl ⟨by rfl,?_⟩) (by kernel_rfl) (by assumption) ?_
         ·intro u' hSu
          (try simp only[List.getElem_toArray,List.getElem_cons_zero,List.getElem_cons_succ])
          go_simp
         (try simp only[List.getElem_toArray,List.getElem_cons_zero,List.getElem_cons_succ])
         (try simp only[Act.put,List.setIfInBounds_toArray,List.set_cons_zero,List.set_cons_succ])
         refine wpU_ahead (i:=5) (oi:=_) (v:=.slice dv nv cv) rfl (by kernel_rfl) (by kernel_rfl) (by kernel_rfl) (by decide) rfl (by kernel_rfl) (fun _ _ _ h=>h) (Or.inl ⟨by rfl,?_⟩) (by kernel_rfl) (by assumption) ?_
         ·intro u' hSu
          (try simp only[List.getElem_toArray,List.getElem_cons_zero,List.getElem_cons_succ])
          obtain hS9x:=hSu
          go_simp
         (try simp only[List.getElem_toArray,List.getElem_cons_zero,List.getElem_cons_succ])
         (try simp only[Act.put,List.setIfInBounds_toArray,List.set_cons_zero,List.set_cons_succ])
         refine wpU_take (i:=6) (oi:=_) (v:=.string cb) (b:=false) rfl (by kernel_rfl) (by kernel_rfl) (by kernel_rfl) (by decide) (fun _ _ _ h=>h) (Or.inl ⟨by rfl,?_⟩) (by kernel_rfl) (by assumption) ?_
         ·intro u' hSu
          (try simp only[List.getElem_toArray,List.getElem_cons_zero,List.getElem_cons_succ])
          go_simp
         (try simp only[List.getElem_toArray,List.getElem_cons_zero,List.getElem_cons_succ])
         (try simp only[Act.put,List.setIfInBounds_toArray,List.set_cons_zero,List.set_cons_succ])
         refine wpU_take (i:=7) (oi:=_) (v:=.string wb) (b:=false) rfl (by kernel_rfl) (by kernel_rfl) (by kernel_rfl) (by decide) (fun _ _ _ h=>h) (Or.inl ⟨by rfl,?_⟩) (by kernel_rfl) (by assumption) ?_
         ·intro u' hSu
          (try simp only[List.getElem_toArray,List.getElem_cons_zero,List.getElem_cons_succ])
          go_simp
         (try simp only[List.getElem_toArray,List.getElem_cons_zero,List.getElem_cons_succ])
         (try simp only[Act.put,List.setIfInBounds_toArray,List.set_cons_zero,List.set_cons_succ])
         refine wpU_ready (rs:=[8]) (by kernel_rfl) (by simp) (AllU.cons (b:=false) rfl (by kernel_rfl) ?_ (AllU.nil))
         ·intro K' hK'
          (try simp only[List.getElem_toArray,List.getElem_cons_zero,List.getElem_cons_succ])
          go_simp
          refine(HMK.out _).mono ?_
          rintro e u1 ⟨rfl,hb⟩
          replace HK:=hid (HK.out.step hb)
          replace HN:=hid (HN.out.below hb HN.out.lt)
          refine hK'.out _ _ (fun _=>HK.out.cell hlt) (fun hSe=>?_)
          clear hK' K' hSd
          have hSd:=hSe
          clear hSe
          clear hb
          (try simp only[List.getElem_toArray,List.getElem_cons_zero,List.getElem_cons_succ])
          (try simp only[Act.put,List.setIfInBounds_toArray,List.set_cons_zero,List.set_cons_succ])
          refine wpU_ready (rs:=[9]) (by kernel_rfl) (by simp) (AllU.cons (b:=false) rfl (by kernel_rfl) ?_ (AllU.nil))
          ·intro K' hK'
           (try simp only[List.getElem_toArray,List.getElem_cons_zero,List.getElem_cons_succ])
           go_simp
           have hbA:=(Below.refl u1.heap.size u1).alloc (Nat.le_refl _) (FC qf.1 qf.2.1 qf.2.2)
           have HY:=hid (Box.new u1 qf.1 qf.2.1 qf.2.2)
           replace HK:=hid (HK.out.step hbA)
           replace HN:=hid (HN.out.below hbA HN.out.lt)
           clear hbA
           refine hK'.out _ _ (fun _=>HK.out.cell hlt) (fun hSe=>?_)
           clear hK' K' hSd
           have hSd:=hSe
           clear hSe
           obtain⟨gy,hgy⟩:∃x,u1.heap.size=x:=⟨_,rfl⟩
           obtain⟨Vy,hV⟩:∃x,u1.alloc (FC qf.1 qf.2.1 qf.2.2)=x:=⟨_,rfl⟩
           rw[hgy] at HY
           rw[hV] at HY HK HN hSd
           simp only[hV]
           simp only[hgy]
           clear hgy hV
           (try simp only[List.getElem_toArray,List.getElem_cons_zero,List.getElem_cons_succ])
           (try simp only[Act.put,List.setIfInBounds_toArray,List.set_cons_zero,List.set_cons_succ])
           refine wpU_ready (rs:=[10]) (by kernel_rfl) (by simp) (AllU.cons (b:=false) rfl (by kernel_rfl) ?_ (AllU.nil))
           ·intro K' hK'
            rw[if_pos (by rfl)]
            refine wp_append_fr _ _ rfl Mk (.slice dv nv cv) (rF j (pwF n P k i)) qf rfl HK.out.cur gy rfl HY.out (by rw[rF_length];omega) HK.out.mu ?_
            intro v2 V8 hr8 hg8
            obtain⟨d8,n8,c8,rfl⟩:=hr8.slv
            have HS8:Hid (V8.cell? ⟨G,i,none⟩=some (.slice dv nv cv)):=by
             show _=_
             rw[(HK.out.pre hg8).cell i (by rw[tpV_length];exact hlt)]
             simp[tpV]
            have HF8:Hid (V8.frozen? ⟨G,i,none⟩=false):=(HK.out.pre hg8).fz i
            have HKN:=hid (HK.out.push hg8 (by rw[HQF.out];exact hr8))
            have HNN:=hid (HN.out.past (v':=.slice d8 n8 c8) HK.out hg8 HGM.out HGN.out)
            refine hK'.out _ _ (fun _=>HS8.out) (fun hSe=>?_)
            clear hK' K' hSd hr8 hg8 HK HY HN
            have hSd:=hSe
            clear hSe
            (try simp only[List.getElem_toArray,List.getElem_cons_zero,List.getElem_cons_succ])
            (try simp only[Act.put,List.setIfInBounds_toArray,List.set_cons_zero,List.set_cons_succ])
            refine wpU_take (i:=11) (oi:=_) (v:=.pointer (some ⟨G,i,none⟩)) (b:=false) rfl (by kernel_rfl) (by kernel_rfl) (by kernel_rfl) (by decide) (fun _ _ _ h=>h) (Or.inl ⟨by rfl,?_⟩) (by kernel_rfl) (by assumption) ?_
            ·intro u' hSu
             (try simp only[List.getElem_toArray,List.getElem_cons_zero,List.getElem_cons_succ])
             go_simp
            (try simp only[List.getElem_toArray,List.getElem_cons_zero,List.getElem_cons_succ])
            (try simp only[Act.put,List.setIfInBounds_toArray,List.set_cons_zero,List.set_cons_succ])
            have q0:=HS8.out
            have q1:=HF8.out
            refine wpU_ready (rs:=[12]) (by kernel_rfl) (by simp) (AllU.cons (b:=true) rfl (by kernel_rfl) ?_ (AllU.nil))
            ·intro K' hK'
             (try simp only[List.getElem_toArray,List.getElem_cons_zero,List.getElem_cons_succ])
             go_simp
             refine hK'.out _ _ (fun e=>by cases e) (fun _=>wpU_done (by kernel_rfl) ?_ _)
             clear hK' K' hSd q0 q1 HS8 HF8
             go_wp2
             go_roundw
             case rel=>exact⟨j+1,by omega,by go_num,.slice d8 n8 c8,HKN,HNN⟩
             case measure=>simp[intOf];omega
        ·obtain rfl:n=j:=by omega
         obtain⟨g',c',hd⟩:=HK.out.done h1
         have HD:=hid hd
         clear hd HK HN
         go_wp2
         go_roundw
         case rel=>exact⟨i+1,g',c',by omega,by go_num,HD⟩
         case measure=>simp[intOf];omega
    ·obtain rfl:n=i:=by omega
     have HEND:=hid HKf.out.all.fs
     have HBE:=hid (HBw.out.trans (HKf.out.bel.mono HBw.out.size))
     clear HKf
     go_wp2
     go_ret
     exact⟨G,rfl,HEND.out,HFT.out,HBE.out⟩
set_option maxRecDepth 100000 in
set_option maxHeartbeats 400000 in
theorem chPower_yes (a:Option Addr) (ca n F k:Nat) (P:Nat→Nat→Rat) (R:List (List Fr)) (w:World) (hR:FsS w a R) (hO:RwsOK n n R) (hW:RaW n F P R) (h1:1≤n) (hn:n≤6) (hk:k≤16) (hF:1+(2*F+2)*(n*n)≤60000) (hc:Chn n P):
  Calls Tryz.prog 12 #[.slice a n ca,.int .i64 (k:Nat)] w fun e w'=>∃G,e=.returned (.tuple #[.slice (some ⟨G,0,none⟩) n n,.int .i64 0])∧FsS w' (some ⟨G,0,none⟩) (mR n (powQ n P k))∧(∀i j,i<n→j<n→Fits (k*(1+(2*F+2)*(n*n))+1) (powQ n P k i j))∧Below w.heap.size w w':=by
 have HC:=hid (chCheck_yes a ca n R w hR hO h1 hn)
 have HP:=hid (fun (U:World) (hU:Below w.heap.size w U)=>chPower_in a ca n F k P R U (hR.below hU) hW h1 (by omega) hk hF hc)
 clear hR hO hW hF hc
 obtain⟨S,hS⟩:∃S,k*(1+(2*F+2)*(n*n))+1=S:=⟨_,rfl⟩
 rw[hS] at HP⊢
 clear hS
 have k0:¬((k:Int)<0):=by omega
 have k1:¬((16:Int)<(k:Int)):=by omega
 go_enter Tryz.func12,Tryz.ntmps12
 go_wp2_with fail
 refine HC.out.mono ?_
 rintro e w1 ⟨rfl,hb1⟩
 have HB1:=hid hb1
 clear hb1
 go_wp2_with fail
 refine(HP.out _ HB1.out).mono ?_
 rintro e w2 ⟨G,rfl,hf,hft,hb2⟩
 have HB2:=hid (HB1.out.trans (hb2.mono HB1.out.size))
 have HF:=hid hf
 have HFT:=hid hft
 clear hf hb2 hft
 go_wp2
 go_ret2
 exact⟨G,rfl,HF.out,HFT.out,HB2.out⟩
end Go.Proofs.YtmbjmiioggfneaaGreatDoor

/- Plain: all assignments of a net together are as likely as 1; what is given of a variable is 1 for each assignment of its parents. -/
namespace Go.Proofs.YtmbjmiioggfneaaGreatDoor
open Go.RowKit Go.Shelf
def over (vs:List Nat) (f g:Nat→Nat):Nat→Nat:=fun u=>if u∈vs then g u else f u
end Go.Proofs.YtmbjmiioggfneaaGreatDoor
