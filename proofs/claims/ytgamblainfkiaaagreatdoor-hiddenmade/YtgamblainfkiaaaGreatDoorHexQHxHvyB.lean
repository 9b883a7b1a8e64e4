/- Both sides of each call of package hidden answer the same. -/
import Derived.Test.YtgamblainfkiaaaGreatDoorHexLHxHexD
import Derived.Test.YtgamblainfkiaaaGreatDoorHexKHxChnM
import Derived.Test.YtgamblainfkiaaaGreatDoorHexIHx
import Derived.Test.YtgamblainfkiaaaGreatDoorHexJHx
import Derived.Test.YtgamblainfkiaaaGreatDoorHidDHxUnrA
import Derived.Test.YtgamblainfkiaaaGreatDoorHidCHxMadA
import Derived.Test.YtgamblainfkiaaaGreatDoorUnrBHxAnyU
import Derived.Test.YtgamblainfkiaaaGreatDoorUnrFHx
import Derived.Test.YtgamblainfkiaaaGreatDoorMadBHxCofI
import Derived.Test.YtgamblainfkiaaaGreatDoorFillBHxHidQ
namespace Go.Proofs.YtgamblainfkiaaaGreatDoor
open Go.RowKit Go.Shelf Go.Lib
structure HEX (w:World) (a b c d:Option Addr) (ca cb cc cd n1 n2 n3 L:Nat) (l:List Fr) (R1 R2:List (List Fr)) (Q:List Int):Prop where
 m:HidM w a b c l R1 R2
 s:HidS l R1 R2
 b0:b=none→cb=0
 c0:c=none→cc=0
 q:IntS w d Q
 e1:l.length=n1
 e2:R1.length=n2
 e3:R2.length=n3
 eL:Q.length=L
 ed:L≤cd
 ea:n1≤ca
 ew:sw (allF l R1 R2)≤700
 short:(n1≤2∧L≤6)∨L≤4∨(9≤L∧L≤64)
variable {a b c d:Option Addr} {ca cb cc cd n1 n2 n3 L:Nat} {l:List Fr} {R1 R2:List (List Fr)} {Q:List Int}
theorem HidE.some (l:List Fr) (R1 R2:List (List Fr)):∃e,HidE l R1 R2 e:=by
 by_cases h:ShpB l R1 R2
 ·by_cases h':RwsB l R1 R2
  ·exact⟨0,.inl ⟨rfl,h,h'⟩⟩
  ·exact⟨9,.inr (.inl ⟨rfl,h,h'⟩)⟩
 ·exact⟨8,.inr (.inr ⟨rfl,h⟩)⟩
theorem SeeE.some (l:List Fr) (R1 R2:List (List Fr)) (Q:List Int):∃e,SeeE l R1 R2 Q e:=by
 obtain⟨e,he⟩:=HidE.some l R1 R2
 by_cases h0:e=0
 ·subst h0
  by_cases h8:Q.length≤8
  ·by_cases hx:∃x∈Q,x<0∨((R2.headD []).length:Int)≤x
   ·exact⟨12,.inr (.inr (.inl ⟨he,h8,hx,rfl⟩))⟩
   ·refine⟨0,.inr (.inr (.inr ⟨he,h8,fun x hxm=>?_,rfl⟩))⟩
    have h1:¬(x<0∨((R2.headD []).length:Int)≤x):=fun h=>hx ⟨x,hxm,h⟩
    omega
  ·exact⟨2,.inr (.inl ⟨he,by omega,rfl⟩)⟩
 ·exact⟨e,.inl ⟨h0,he⟩⟩
theorem iL_toN {Q:List Int} (h:∀x∈Q,0≤x):iL (Q.map Int.toNat)=Q:=by
 rw[iL,List.map_map]
 conv=>rhs;rw[←List.map_id Q]
 refine List.map_congr_left fun x hx=>?_
 have:=h x hx
 show ((x.toNat:Nat):Int)=x
 omega
theorem HEX.cases {w:World} (h:HEX w a b c d ca cb cc cd n1 n2 n3 L l R1 R2 Q):(∃z,z≠0∧SeeE l R1 R2 Q z)∨(∃(D m:Nat) (H:HC) (q:List Nat),Q=iL q∧n2=n1∧n3=n1∧HidV D H m l R1 R2 q∧H.s=n1∧H.L=L∧SeeE l R1 R2 Q 0∧n1^L≤300∧L≤6∧n1≤4):=by
 obtain⟨z,hz⟩:=SeeE.some l R1 R2 Q
 by_cases h0:z=0
 ·subst h0
  have hz':=hz
  rcases hz with ⟨h9,_⟩ |⟨_,_,h9⟩ |⟨_,_,_,h9⟩ |⟨he,h8,hq,_⟩
  ·exact absurd rfl h9
  ·exact absurd h9 (by decide)
  ·exact absurd h9 (by decide)
  ·right
   have hshp:ShpB l R1 R2:=by
    rcases he with ⟨_,h1,_⟩ |⟨h9,_⟩ |⟨h9,_⟩
    ·exact h1
    ·exact absurd h9 (by decide)
    ·exact absurd h9 (by decide)
   obtain⟨p1,p2,p3,p4,p5,p6,p7,p8⟩:=hshp
   rw[h.e1] at p1 p2 p3 p4
   rw[h.e2] at p3
   rw[h.e3] at p4
   have hL8:L≤8:=by rw[←h.eL];exact h8
   have hL6:L≤6:=by have:=h.short;omega
   have hql:(Q.map Int.toNat).length=L:=by rw[List.length_map];exact h.eL
   refine⟨dnP (allF l R1 R2),(R2.headD []).length,hcO n1 l R1 R2 (Q.map Int.toNat),Q.map Int.toNat,(iL_toN fun x hx=>(hq x hx).1).symm,p3,p4,hidV_gen h.s h.e1 rfl he (by rw[hql];exact hL6) (fun x hx=>?_) h.ew,rfl,hql,hz',?_,hL6,p2⟩
   ·obtain⟨y,hy,rfl⟩:=List.mem_map.1 hx
    have:=hq y hy
    omega
   ·rcases h.short with ⟨s1,s2⟩ |s2 |⟨s2,_⟩
    ·exact Nat.le_trans (Nat.le_trans (Nat.pow_le_pow_left s1 L) (Nat.pow_le_pow_right (by decide) s2)) (by decide)
    ·exact Nat.le_trans (Nat.le_trans (Nat.pow_le_pow_left p2 L) (Nat.pow_le_pow_right (by decide) s2)) (by decide)
    ·omega
 ·exact .inl ⟨z,h0,hz⟩
theorem HEX.len {w:World} (h:HEX w a b c d ca cb cc cd n1 n2 n3 L l R1 R2 Q):Q.length≤1000:=by rw[h.eL];have:=h.short;omega
def RowsR (R:List (List Fr)) (z:Int) (w:World) (e:Ending) (w':World):Prop:=∃x k,e=.returned (.tuple #[.slice x R.length k,.int .i64 z])∧FsS w' x R∧Below w.heap.size w w'
def OneR (f:Fr) (z:Int) (w:World) (e:Ending) (w':World):Prop:=e=.returned (.tuple #[.agg #[.bool f.1,.string f.2.1,.string f.2.2],.int .i64 z])∧Below w.heap.size w w'
def PathR (q:List Int) (f:Fr) (z:Int) (w:World) (e:Ending) (w':World):Prop:=∃x k,e=.returned (.tuple #[.slice x q.length k,.agg #[.bool f.1,.string f.2.1,.string f.2.2],.int .i64 z])∧IntS w' x q∧Below w.heap.size w w'
def Few8 (R:List (List Fr)):Prop:=R.length≤8∧∀r∈R,r.length≤8
theorem few_range {L n:Nat} (hL:L≤6) (hn:n≤4) (f:Nat→Nat→Rat):Few8 ((List.range L).map fun t=>lF n (f t)):=by
 refine⟨by simp;omega,fun r hr=>?_⟩
 obtain⟨t,_,rfl⟩:=List.mem_map.1 hr
 rw[lF_length]
 omega
theorem FsS.none0 (w:World) (x:Option Addr):FsS w x []:=fun _ hk=>absurd hk (Nat.not_lt_zero _)
theorem IntS.none0 (w:World) (x:Option Addr):IntS w x []:=fun _ hk=>absurd hk (Nat.not_lt_zero _)
theorem hex_likely {w:World} (h:HEX w a b c d ca cb cc cd n1 n2 n3 L l R1 R2 Q):∃(f:Fr) (z:Int),(z≠0→f=(false,⟨#[]⟩,⟨#[]⟩))∧(∀U:World,Below w.heap.size w U→Calls Tryz.prog 6 #[.agg #[.slice a n1 ca,.slice b n2 cb,.slice c n3 cc],.slice d L cd] U fun e w'=>OneR f z U e w')∧(∀U:World,Below w.heap.size w U→Calls Tryz.prog 7 #[.agg #[.slice a n1 ca,.slice b n2 cb,.slice c n3 cc],.slice d L cd] U fun e w'=>OneR f z U e w'):=by
 rcases h.cases with ⟨z,hz0,hz⟩ |⟨D,m,H,q,rfl,rfl,rfl,hV,hs,hL,hse,hNN,hL6,hn4⟩
 ·exact⟨(false,⟨#[]⟩,⟨#[]⟩),z,fun _=>rfl,fun U hU=>hiLikely_err a b c d ca cb cc cd n1 n2 n3 L l R1 R2 Q z U (h.m.below hU) h.s h.b0 h.c0 (h.q.below hU) h.len h.e1 h.e2 h.e3 h.eL hz hz0,fun U hU=>rLikely_err a b c d ca cb cc cd n1 n2 n3 L l R1 R2 Q z U (h.m.below hU) h.s (h.q.below hU) h.len h.e1 h.e2 h.e3 h.eL hz hz0⟩
 ·exact⟨qF H.seen,0,fun h9=>absurd rfl h9,fun U hU=>hiLikely_yes a b c d ca cb cc cd n3 L m l R1 R2 q H U ⟨(h.m.below hU).st,(h.m.below hU).mv,(h.m.below hU).sh⟩ hV hs hL h.b0 h.c0 (h.q.below hU),fun U hU=>rLikely_ok a b c d ca cb cc cd n3 L m l R1 R2 q H U ⟨(h.m.below hU).st,(h.m.below hU).mv,(h.m.below hU).sh⟩ hV hs hL h.s (h.q.below hU) hse hNN⟩
theorem hex_forward {w:World} (h:HEX w a b c d ca cb cc cd n1 n2 n3 L l R1 R2 Q):∃(R:List (List Fr)) (z:Int),Few8 R∧(∀U:World,Below w.heap.size w U→Calls Tryz.prog 11 #[.agg #[.slice a n1 ca,.slice b n2 cb,.slice c n3 cc],.slice d L cd] U fun e w'=>RowsR R z U e w')∧(∀U:World,Below w.heap.size w U→Calls Tryz.prog 12 #[.agg #[.slice a n1 ca,.slice b n2 cb,.slice c n3 cc],.slice d L cd] U fun e w'=>RowsR R z U e w'):=by
 rcases h.cases with ⟨z,hz0,hz⟩ |⟨D,m,H,q,rfl,rfl,rfl,hV,hs,hL,hse,hNN,hL6,hn4⟩
 ·refine⟨[],z,⟨by decide,fun r hr=>by cases hr⟩,fun U hU=>(hiForward_err a b c d ca cb cc cd n1 n2 n3 L l R1 R2 Q z U (h.m.below hU) h.s h.b0 h.c0 (h.q.below hU) h.len h.e1 h.e2 h.e3 h.eL hz hz0).mono ?_,fun U hU=>(rForward_err a b c d ca cb cc cd n1 n2 n3 L l R1 R2 Q z U (h.m.below hU) h.s (h.q.below hU) h.len h.e1 h.e2 h.e3 h.eL hz hz0).mono ?_⟩<;>(rintro e w' ⟨rfl,hb⟩;exact⟨none,0,rfl,FsS.none0 _ _,hb⟩)
 ·refine⟨(List.range L).map fun t=>lF n3 (H.alp t),0,few_range hL6 hn4 _,fun U hU=>(hiForward_yes a b c d ca cb cc cd n3 L m l R1 R2 q H U ⟨(h.m.below hU).st,(h.m.below hU).mv,(h.m.below hU).sh⟩ hV hs hL h.b0 h.c0 (h.q.below hU)).mono ?_,fun U hU=>(rForward_ok a b c d ca cb cc cd n3 L m l R1 R2 q H U ⟨(h.m.below hU).st,(h.m.below hU).mv,(h.m.below hU).sh⟩ hV hs hL h.s (h.q.below hU) hse hNN).mono ?_⟩
  ·rintro e w' ⟨G,rfl,_,hF,hb⟩
   exact⟨some ⟨G,0,none⟩,L,by rw[List.length_map,List.length_range],hF,hb⟩
  ·rintro e w' ⟨x,k,rfl,hF,hb⟩
   exact⟨x,k,by rw[List.length_map,List.length_range],hF,hb⟩
theorem hex_backward {w:World} (h:HEX w a b c d ca cb cc cd n1 n2 n3 L l R1 R2 Q):∃(R:List (List Fr)) (z:Int),Few8 R∧(∀U:World,Below w.heap.size w U→Calls Tryz.prog 14 #[.agg #[.slice a n1 ca,.slice b n2 cb,.slice c n3 cc],.slice d L cd] U fun e w'=>RowsR R z U e w')∧(∀U:World,Below w.heap.size w U→Calls Tryz.prog 15 #[.agg #[.slice a n1 ca,.slice b n2 cb,.slice c n3 cc],.slice d L cd] U fun e w'=>RowsR R z U e w'):=by
 rcases h.cases with ⟨z,hz0,hz⟩ |⟨D,m,H,q,rfl,rfl,rfl,hV,hs,hL,hse,hNN,hL6,hn4⟩
 ·refine⟨[],z,⟨by decide,fun r hr=>by cases hr⟩,fun U hU=>(hiBackward_err a b c d ca cb cc cd n1 n2 n3 L l R1 R2 Q z U (h.m.below hU) h.s h.b0 h.c0 (h.q.below hU) h.len h.e1 h.e2 h.e3 h.eL hz hz0).mono ?_,fun U hU=>(rBackward_err a b c d ca cb cc cd n1 n2 n3 L l R1 R2 Q z U (h.m.below hU) h.s (h.q.below hU) h.len h.e1 h.e2 h.e3 h.eL hz hz0).mono ?_⟩<;>(rintro e w' ⟨rfl,hb⟩;exact⟨none,0,rfl,FsS.none0 _ _,hb⟩)
 ·refine⟨(List.range L).map fun t=>lF n3 (H.behind t),0,few_range hL6 hn4 _,fun U hU=>(hiBackward_yes a b c d ca cb cc cd n3 L m l R1 R2 q H U ⟨(h.m.below hU).st,(h.m.below hU).mv,(h.m.below hU).sh⟩ hV hs hL h.b0 h.c0 (h.q.below hU)).mono ?_,fun U hU=>(rBackward_ok a b c d ca cb cc cd n3 L m l R1 R2 q H U ⟨(h.m.below hU).st,(h.m.below hU).mv,(h.m.below hU).sh⟩ hV hs hL h.s (h.q.below hU) hse hNN h.ed).mono ?_⟩
  ·rintro e w' ⟨G,rfl,_,hF,hb⟩
   exact⟨some ⟨G,0,none⟩,L,by rw[List.length_map,List.length_range],hF,hb⟩
  ·rintro e w' ⟨x,k,rfl,hF,hb⟩
   exact⟨x,k,by rw[List.length_map,List.length_range],hF,hb⟩
theorem hex_smooth {w:World} (h:HEX w a b c d ca cb cc cd n1 n2 n3 L l R1 R2 Q):∃(R:List (List Fr)) (z:Int),Few8 R∧(∀U:World,Below w.heap.size w U→Calls Tryz.prog 16 #[.agg #[.slice a n1 ca,.slice b n2 cb,.slice c n3 cc],.slice d L cd] U fun e w'=>RowsR R z U e w')∧(∀U:World,Below w.heap.size w U→Calls Tryz.prog 17 #[.agg #[.slice a n1 ca,.slice b n2 cb,.slice c n3 cc],.slice d L cd] U fun e w'=>RowsR R z U e w'):=by
 rcases h.cases with ⟨z,hz0,hz⟩ |⟨D,m,H,q,rfl,rfl,rfl,hV,hs,hL,hse,hNN,hL6,hn4⟩
 ·refine⟨[],z,⟨by decide,fun r hr=>by cases hr⟩,fun U hU=>(hiSmooth_err a b c d ca cb cc cd n1 n2 n3 L l R1 R2 Q z U (h.m.below hU) h.s h.b0 h.c0 (h.q.below hU) h.len h.e1 h.e2 h.e3 h.eL hz hz0).mono ?_,fun U hU=>(rSmooth_err a b c d ca cb cc cd n1 n2 n3 L l R1 R2 Q z U (h.m.below hU) h.s (h.q.below hU) h.len h.e1 h.e2 h.e3 h.eL hz hz0).mono ?_⟩<;>(rintro e w' ⟨rfl,hb⟩;exact⟨none,0,rfl,FsS.none0 _ _,hb⟩)
 ·by_cases h0:H.seen=0
  ·refine⟨[],3,⟨by decide,fun r hr=>by cases hr⟩,fun U hU=>(hiSmooth_yes a b c d ca cb cc cd n3 L m l R1 R2 q H U ⟨(h.m.below hU).st,(h.m.below hU).mv,(h.m.below hU).sh⟩ hV hs hL h.b0 h.c0 (h.q.below hU)).mono ?_,fun U hU=>(rSmooth_ok a b c d ca cb cc cd n3 L m l R1 R2 q H U ⟨(h.m.below hU).st,(h.m.below hU).mv,(h.m.below hU).sh⟩ hV hs hL h.s (h.q.below hU) hse hNN).mono ?_⟩<;>(rintro e w' ⟨⟨_,rfl⟩ |⟨h9,_⟩,hb⟩<;>first |exact⟨none,0,rfl,FsS.none0 _ _,hb⟩ |exact absurd h0 h9)
  ·refine⟨(List.range L).map fun t=>lF n3 fun j=>H.alp t j*H.behind t j/H.seen,0,few_range hL6 hn4 _,fun U hU=>(hiSmooth_yes a b c d ca cb cc cd n3 L m l R1 R2 q H U ⟨(h.m.below hU).st,(h.m.below hU).mv,(h.m.below hU).sh⟩ hV hs hL h.b0 h.c0 (h.q.below hU)).mono ?_,fun U hU=>(rSmooth_ok a b c d ca cb cc cd n3 L m l R1 R2 q H U ⟨(h.m.below hU).st,(h.m.below hU).mv,(h.m.below hU).sh⟩ hV hs hL h.s (h.q.below hU) hse hNN).mono ?_⟩
   ·rintro e w' ⟨⟨h9,_⟩ |⟨_,x,k,rfl,hF⟩,hb⟩
    ·exact absurd h9 h0
    ·exact⟨x,k,by rw[List.length_map,List.length_range],hF,hb⟩
   ·rintro e w' ⟨⟨h9,_⟩ |⟨_,x,k,rfl,hF⟩,hb⟩
    ·exact absurd h9 h0
    ·refine⟨x,k,by rw[List.length_map,List.length_range],?_,hb⟩
     have e9:(fun t=>lF n3 fun j=>H.alp t j*H.behind t j/H.seen)=fun t=>lF n3 fun j=>H.alp t j*H.behind t j*(1/H.seen):=by
      funext t
      congr 1
      funext j
      rw[Rat.div_def,Rat.div_def,Rat.one_mul]
     rw[e9]
     exact hF
theorem HC.Ok.none_iff {H:HC} (o:H.Ok):H.lik H.way H.L=0↔H.seen=0:=by
 rcases Nat.eq_zero_or_pos H.L with h0 |h1
 ·unfold HC.seen
  rw[h0,if_pos rfl]
  exact Iff.rfl
 ·rw[H.way_lik h1,o.top_none h1]
  unfold HC.seen
  rw[if_neg (by omega)]
theorem hex_path {w:World} (h:HEX w a b c d ca cb cc cd n1 n2 n3 L l R1 R2 Q):∃(p:List Int) (f:Fr) (z:Int),p.length≤8∧(z≠0→f=(false,⟨#[]⟩,⟨#[]⟩))∧(∀U:World,Below w.heap.size w U→Calls Tryz.prog 18 #[.agg #[.slice a n1 ca,.slice b n2 cb,.slice c n3 cc],.slice d L cd] U fun e w'=>PathR p f z U e w')∧(∀U:World,Below w.heap.size w U→Calls Tryz.prog 19 #[.agg #[.slice a n1 ca,.slice b n2 cb,.slice c n3 cc],.slice d L cd] U fun e w'=>PathR p f z U e w'):=by
 rcases h.cases with ⟨z,hz0,hz⟩ |⟨D,m,H,q,rfl,rfl,rfl,hV,hs,hL,hse,hNN,hL6,hn4⟩
 ·refine⟨[],(false,⟨#[]⟩,⟨#[]⟩),z,by decide,fun _=>rfl,fun U hU=>(hiPath_err a b c d ca cb cc cd n1 n2 n3 L l R1 R2 Q z U (h.m.below hU) h.s h.b0 h.c0 (h.q.below hU) h.len h.e1 h.e2 h.e3 h.eL hz hz0).mono ?_,fun U hU=>(rPath_err a b c d ca cb cc cd n1 n2 n3 L l R1 R2 Q z U (h.m.below hU) h.s (h.q.below hU) h.len h.e1 h.e2 h.e3 h.eL hz hz0).mono ?_⟩<;>(rintro e w' ⟨rfl,hb⟩;exact⟨none,0,rfl,IntS.none0 _ _,hb⟩)
 ·have hok:H.Ok:=hV.sm.ok (by rw[hs];exact(hV.okn hs).n1)
  have hiff:=hok.none_iff
  rw[hL] at hiff
  by_cases h0:H.seen=0
  ·refine⟨[],(false,⟨#[]⟩,⟨#[]⟩),3,by decide,fun _=>rfl,fun U hU=>(hiPath_yes a b c d ca cb cc cd n3 L m l R1 R2 q H U ⟨(h.m.below hU).st,(h.m.below hU).mv,(h.m.below hU).sh⟩ hV hs hL h.b0 h.c0 (h.q.below hU)).mono ?_,fun U hU=>(rPath_ok a b c d ca cb cc cd n3 L m l R1 R2 q H U ⟨(h.m.below hU).st,(h.m.below hU).mv,(h.m.below hU).sh⟩ hV hs hL h.s (h.q.below hU) hse hNN).mono ?_⟩
   ·rintro e w' ⟨hb,⟨_,rfl⟩ |⟨h9,_⟩⟩
    ·exact⟨none,0,rfl,IntS.none0 _ _,hb⟩
    ·exact absurd (hiff.2 h0) h9
   ·rintro e w' ⟨⟨_,rfl⟩ |⟨h9,_⟩,hb⟩
    ·exact⟨none,0,rfl,IntS.none0 _ _,hb⟩
    ·exact absurd h0 h9
  ·refine⟨iL ((List.range L).map H.way),qF (H.lik H.way L),0,by simp[iL];omega,fun h9=>absurd rfl h9,fun U hU=>(hiPath_yes a b c d ca cb cc cd n3 L m l R1 R2 q H U ⟨(h.m.below hU).st,(h.m.below hU).mv,(h.m.below hU).sh⟩ hV hs hL h.b0 h.c0 (h.q.below hU)).mono ?_,fun U hU=>(rPath_ok a b c d ca cb cc cd n3 L m l R1 R2 q H U ⟨(h.m.below hU).st,(h.m.below hU).mv,(h.m.below hU).sh⟩ hV hs hL h.s (h.q.below hU) hse hNN).mono ?_⟩
   ·rintro e w' ⟨hb,⟨h9,_⟩ |⟨_,gw,rfl,_,hR⟩⟩
    ·exact absurd (hiff.1 h9) h0
    ·exact⟨some ⟨gw,0,none⟩,L,by simp[iL,frV],hR.ints,hb⟩
   ·rintro e w' ⟨⟨h9,_⟩ |⟨_,x,k,rfl,hI⟩,hb⟩
    ·exact absurd h9 h0
    ·exact⟨x,k,by simp[iL,frV],hI,hb⟩
theorem hex_check {w:World} (h:HEX w a b c d ca cb cc cd n1 n2 n3 L l R1 R2 Q):∃z:Int,(∀U:World,Below w.heap.size w U→Calls Tryz.prog 8 #[.agg #[.slice a n1 ca,.slice b n2 cb,.slice c n3 cc]] U fun e w'=>e=.returned (.int .i64 z)∧Below U.heap.size U w')∧(∀U:World,Below w.heap.size w U→Calls Tryz.prog 9 #[.agg #[.slice a n1 ca,.slice b n2 cb,.slice c n3 cc]] U fun e w'=>e=.returned (.int .i64 z)∧Below U.heap.size U w'):=by
 obtain⟨z,hz⟩:=HidE.some l R1 R2
 refine⟨z,fun U hU=>?_,fun U hU=>?_⟩
 ·have h9:=hiCheck_gen a b c ca cb cc l R1 R2 U (h.m.below hU) h.s h.b0 h.c0
  rw[h.e1,h.e2,h.e3] at h9
  refine h9.mono ?_
  rintro e w' ⟨⟨x,rfl,hx⟩,hb⟩
  rw[hx.uniq hz]
  exact⟨rfl,hb⟩
 ·have h9:=rHidCheck_any a b c ca cb cc l R1 R2 U (h.m.below hU) h.s
  rw[h.e1,h.e2,h.e3] at h9
  refine h9.mono ?_
  rintro e w' ⟨⟨x,rfl,hx⟩,hb⟩
  rw[hx.uniq hz]
  exact⟨rfl,hb⟩
end Go.Proofs.YtgamblainfkiaaaGreatDoor

/- The law: rows, names and texts that are alike. -/
namespace Go.Proofs.YtgamblainfkiaaaGreatDoor
open Go.RowKit Go.Shelf
set_option maxRecDepth 100000 in
set_option maxHeartbeats 1000000 in
theorem sameRows_any (a b:Option Addr) (ca cb:Nat) (L:List (List Fr)) (w:World) (ha:FsS w a L) (hb:FsS w b L) (hL:L.length≤1000) (hl:∀l∈L,l.length≤1000):
  Calls Tryz.prog 13 #[.slice a L.length ca,.slice b L.length cb] w fun e w'=>e=.returned (.bool true)∧Below w.heap.size w w':=by
 have HA:=hid ha
 have HB:=hid hb
 have HL:=hid hl
 clear ha hb hl
 go_enter Tryz.func13,Tryz.ntmps13
 go_wp2_with fail
 go_loopw [5] (fun iv wr=>∃i:Nat,i≤L.length∧iv=.int .i64 i∧Hid (Below w.heap.size w wr)) (fun iv _=>L.length - (intOf iv).toNat)
 case atStart=>exact⟨0,Nat.zero_le _,rfl,Below.refl _ _⟩
 case round=>
  obtain⟨i,hi,rfl,HW⟩:=hrel
  by_cases hlt:i<L.length
  ·obtain⟨g,o,b1,c1,rfl,hg,k1,h1⟩:=HA.out.raw' hlt
   obtain⟨g2,o2,b2,c2,rfl,hg2,k2,h2⟩:=HB.out.raw' hlt
   have hli:=HL.out _ (List.getElem_mem hlt)
   have HC1:Hid (∀U:World,Below w.heap.size w U→U.cell? ⟨g,o+i,none⟩=some (.slice b1 L[i].length c1)):=fun U hb=>(hb.cell (p:=⟨g,_,none⟩) hg).trans k1
   have HC2:Hid (∀U:World,Below w.heap.size w U→U.cell? ⟨g2,o2+i,none⟩=some (.slice b2 L[i].length c2)):=fun U hb=>(hb.cell (p:=⟨g2,_,none⟩) hg2).trans k2
   have HS:=hid (fun (U:World) (hb:Below w.heap.size w U)=>sameFracs_any b1 b2 c1 c2 L[i] U (h1.below hb) (h2.below hb) (by omega))
   clear k1 k2 h1 h2
   generalize L[i].length=li at *
   go_upto_region 6 with fail
   refine wp_region_held_drew (S:=fun U=>U.cell? ⟨g,o+i,none⟩=some (.slice b1 li c1)∧U.cell? ⟨g2,o2+i,none⟩=some (.slice b2 li c2)) (by kernel_rfl) ⟨HC1.out _ HW.out.drew,HC2.out _ HW.out.drew⟩ (fun hSd=>?_)
   refine wpAnyH_take (i:=0) (oi:=_) (v:=.slice (some ⟨g,o,none⟩) L.length ca) rfl (by kernel_rfl) (by kernel_rfl) (by kernel_rfl) (fun _ _ _ h=>h) (Or.inl ⟨by rfl,?_⟩) (by assumption) ?_
   ·intro u' hSu
    (try simp only[List.getElem_toArray,List.getElem_cons_zero])
    go_simp
   (try simp only[List.getElem_toArray,List.getElem_cons_zero])
   (try simp only[Act.put,List.setIfInBounds_toArray,List.set_cons_zero,List.set_cons_succ])
   refine wpAnyH_take (i:=1) (oi:=_) (v:=.int .i64 (i:Nat)) rfl (by kernel_rfl) (by kernel_rfl) (by kernel_rfl) (fun _ _ _ h=>h) (Or.inl ⟨by rfl,?_⟩) (by assumption) ?_
   ·intro u' hSu
    (try simp only[List.getElem_toArray,List.getElem_cons_zero,List.getElem_cons_succ])
    go_simp
   (try simp only[List.getElem_toArray,List.getElem_cons_zero,List.getElem_cons_succ])
   (try simp only[Act.put,List.setIfInBounds_toArray,List.set_cons_zero,List.set_cons_succ])
   refine wpAnyH_take (i:=2) (oi:=_) (v:=.pointer (some ⟨g,o+i,none⟩)) rfl (by kernel_rfl) (by kernel_rfl) (by kernel_rfl) (fun _ _ _ h=>h) (Or.inl ⟨by rfl,?_⟩) (by assumption) ?_
   ·intro u' hSu
    (try simp only[List.getElem_toArray,List.getElem_cons_zero,List.getElem_cons_succ])
    go_simp
   (try simp only[List.getElem_toArray,List.getElem_cons_zero,List.getElem_cons_succ])
   (try simp only[Act.put,List.setIfInBounds_toArray,List.set_cons_zero,List.set_cons_succ])
   refine wpAnyH_take (i:=3) (oi:=_) (v:=.slice b1 li c1) rfl (by kernel_rfl) (by kernel_rfl) (by kernel_rfl) (fun _ _ _ h=>h) (Or.inl ⟨by rfl,?_⟩) (by assumption) ?_
   ·intro u' hSu
    (try simp only[List.getElem_toArray,List.getElem_cons_zero,List.getElem_cons_succ])
    obtain⟨s1,s2⟩:=hSu
    go_simp
   (try simp only[List.getElem_toArray,List.getElem_cons_zero,List.getElem_cons_succ])
   (try simp only[Act.put,List.setIfInBounds_toArray,List.set_cons_zero,List.set_cons_succ])
   refine wpAnyH_take (i:=4) (oi:=_) (v:=.slice (some ⟨g2,o2,none⟩) L.length cb) rfl (by kernel_rfl) (by kernel_rfl) (by kernel_rfl) (fun _ _ _ h=>h) (Or.inl ⟨by rfl,?_⟩) (by assumption) ?_
   ·intro u' hSu
    (try simp only[List.getElem_toArray,List.getElem_cons_zero,List.getElem_cons_succ])
    go_simp
   (try simp only[List.getElem_toArray,List.getElem_cons_zero,List.getElem_cons_succ])
   (try simp only[Act.put,List.setIfInBounds_toArray,List.set_cons_zero,List.set_cons_succ])
   refine wpAnyH_take (i:=5) (oi:=_) (v:=.int .i64 (i:Nat)) rfl (by kernel_rfl) (by kernel_rfl) (by kernel_rfl) (fun _ _ _ h=>h) (Or.inl ⟨by rfl,?_⟩) (by assumption) ?_
   ·intro u' hSu
    (try simp only[List.getElem_toArray,List.getElem_cons_zero,List.getElem_cons_succ])
    go_simp
   (try simp only[List.getElem_toArray,List.getElem_cons_zero,List.getElem_cons_succ])
   (try simp only[Act.put,List.setIfInBounds_toArray,List.set_cons_zero,List.set_cons_succ])
   refine wpAnyH_take (i:=6) (oi:=_) (v:=.pointer (some ⟨g2,o2+i,none⟩)) rfl (by kernel_rfl) (by kernel_rfl) (by kernel_rfl) (fun _ _ _ h=>h) (Or.inl ⟨by rfl,?_⟩) (by assumption) ?_
   ·intro u' hSu
    (try simp only[List.getElem_toArray,List.getElem_cons_zero,List.getElem_cons_succ])
    go_simp
   (try simp only[List.getElem_toArray,List.getElem_cons_zero,List.getElem_cons_succ])
   (try simp only[Act.put,List.setIfInBounds_toArray,List.set_cons_zero,List.set_cons_succ])
   refine wpAnyH_take (i:=7) (oi:=_) (v:=.slice b2 li c2) rfl (by kernel_rfl) (by kernel_rfl) (by kernel_rfl) (fun _ _ _ h=>h) (Or.inl ⟨by rfl,?_⟩) (by assumption) ?_
   ·intro u' hSu
    (try simp only[List.getElem_toArray,List.getElem_cons_zero,List.getElem_cons_succ])
    obtain⟨s1,s2⟩:=hSu
    go_simp
   (try simp only[List.getElem_toArray,List.getElem_cons_zero,List.getElem_cons_succ])
   (try simp only[Act.put,List.setIfInBounds_toArray,List.set_cons_zero,List.set_cons_succ])
   refine wpAnyH_ready (rs:=[8]) (by kernel_rfl) (by simp) (AllReadyH.cons rfl ?_ (AllReadyH.nil))
   ·intro K' hK'
    (try simp only[List.getElem_toArray,List.getElem_cons_zero,List.getElem_cons_succ])
    go_simp
    refine(HS.out _ HW.out.drew).mono ?_
    rintro r w5 ⟨rfl,hb5⟩
    have hl5:Below w.heap.size w w5:=HW.out.drew.trans (hb5.mono HW.out.drew.size)
    refine hK'.out _ _ ⟨HC1.out _ hl5,HC2.out _ hl5⟩ (fun hSe=>?_)
    clear hK' K' hSd
    (try simp only[List.getElem_toArray,List.getElem_cons_zero,List.getElem_cons_succ])
    (try simp only[Act.put,List.setIfInBounds_toArray,List.set_cons_zero,List.set_cons_succ])
    refine wpAnyH_take (i:=9) (oi:=_) (v:=.bool false) rfl (by kernel_rfl) (by kernel_rfl) (by kernel_rfl) (fun _ _ _ h=>h) (Or.inl ⟨by rfl,?_⟩) (by assumption) ?_
    ·intro u' hSu
     (try simp only[List.getElem_toArray,List.getElem_cons_zero,List.getElem_cons_succ])
     go_simp
    (try simp only[List.getElem_toArray,List.getElem_cons_zero,List.getElem_cons_succ])
    (try simp only[Act.put,List.setIfInBounds_toArray,List.set_cons_zero,List.set_cons_succ])
    refine wpAnyH_done (by kernel_rfl) ?_ _
    clear hSe
    have HW5:=hid hl5
    clear hl5 hb5
    go_wp2
    go_roundw
    case rel=>exact⟨i+1,by omega,by go_num,HW5⟩
    case measure=>simp[intOf];omega
  ·obtain rfl:i=L.length:=by omega
   go_wp2
   go_ret
   exact⟨rfl,HW.out⟩
set_option maxRecDepth 100000 in
set_option maxHeartbeats 1000000 in
theorem sameLists_w (a b:Option Addr) (ca cb:Nat) (L:List (List Int)) (w:World) (ha:LsS w a L) (hb:LsS w b L) (hL:L.length≤1000) (hl:∀l∈L,l.length≤1000):
  Calls Tryz.prog 63 #[.slice a L.length ca,.slice b L.length cb] w fun e w'=>e=.returned (.bool true)∧Below w.heap.size w w':=by
 have HA:=hid ha
 have HB:=hid hb
 have HL:=hid hl
 clear ha hb hl
 go_enter Tryz.func63,Tryz.ntmps63
 go_wp2_with fail
 go_loopw [5] (fun iv wr=>∃i:Nat,i≤L.length∧iv=.int .i64 i∧Hid (Below w.heap.size w wr)) (fun iv _=>L.length - (intOf iv).toNat)
 case atStart=>exact⟨0,Nat.zero_le _,rfl,Below.refl _ _⟩
 case round=>
  obtain⟨i,hi,rfl,HW⟩:=hrel
  by_cases hlt:i<L.length
  ·obtain⟨g,o,b1,c1,rfl,hg,k1,h1⟩:=HA.out i hlt
   obtain⟨g2,o2,b2,c2,rfl,hg2,k2,h2⟩:=HB.out i hlt
   have hli:=HL.out _ (List.getElem_mem hlt)
   have HC1:Hid (∀U:World,Below w.heap.size w U→U.cell? ⟨g,o+i,none⟩=some (.slice b1 L[i].length c1)):=fun U hb=>(hb.cell (p:=⟨g,_,none⟩) hg).trans k1
   have HC2:Hid (∀U:World,Below w.heap.size w U→U.cell? ⟨g2,o2+i,none⟩=some (.slice b2 L[i].length c2)):=fun U hb=>(hb.cell (p:=⟨g2,_,none⟩) hg2).trans k2
   have HS:=hid (fun (U:World) (hb:Below w.heap.size w U)=>sameInts_any b1 b2 c1 c2 L[i] U (h1.below hb) (h2.below hb) (by omega))
   clear k1 k2 h1 h2
   generalize L[i].length=li at *
   go_upto_region 6 with fail
   refine wp_region_held_drew (S:=fun U=>U.cell? ⟨g,o+i,none⟩=some (.slice b1 li c1)∧U.cell? ⟨g2,o2+i,none⟩=some (.slice b2 li c2)) (by kernel_rfl) ⟨HC1.out _ HW.out.drew,HC2.out _ HW.out.drew⟩ (fun hSd=>?_)
   refine wpAnyH_take (i:=0) (oi:=_) (v:=.slice (some ⟨g,o,none⟩) L.length ca) rfl (by kernel_rfl) (by kernel_rfl) (by kernel_rfl) (fun _ _ _ h=>h) (Or.inl ⟨by rfl,?_⟩) (by assumption) ?_
   ·intro u' hSu
    (try simp only[List.getElem_toArray,List.getElem_cons_zero])
    go_simp
   (try simp only[List.getElem_toArray,List.getElem_cons_zero])
   (try simp only[Act.put,List.setIfInBounds_toArray,List.set_cons_zero,List.set_cons_succ])
   refine wpAnyH_take (i:=1) (oi:=_) (v:=.int .i64 (i:Nat)) rfl (by kernel_rfl) (by kernel_rfl) (by kernel_rfl) (fun _ _ _ h=>h) (Or.inl ⟨by rfl,?_⟩) (by assumption) ?_
   ·intro u' hSu
    (try simp only[List.getElem_toArray,List.getElem_cons_zero,List.getElem_cons_succ])
    go_simp
   (try simp only[List.getElem_toArray,List.getElem_cons_zero,List.getElem_cons_succ])
   (try simp only[Act.put,List.setIfInBounds_toArray,List.set_cons_zero,List.set_cons_succ])
   refine wpAnyH_take (i:=2) (oi:=_) (v:=.pointer (some ⟨g,o+i,none⟩)) rfl (by kernel_rfl) (by kernel_rfl) (by kernel_rfl) (fun _ _ _ h=>h) (Or.inl ⟨by rfl,?_⟩) (by assumption) ?_
   ·intro u' hSu
    (try simp only[List.getElem_toArray,List.getElem_cons_zero,List.getElem_cons_succ])
    go_simp
   (try simp only[List.getElem_toArray,List.getElem_cons_zero,List.getElem_cons_succ])
   (try simp only[Act.put,List.setIfInBounds_toArray,List.set_cons_zero,List.set_cons_succ])
   refine wpAnyH_take (i:=3) (oi:=_) (v:=.slice b1 li c1) rfl (by kernel_rfl) (by kernel_rfl) (by kernel_rfl) (fun _ _ _ h=>h) (Or.inl ⟨by rfl,?_⟩) (by assumption) ?_
   ·intro u' hSu
    (try simp only[List.getElem_toArray,List.getElem_cons_zero,List.getElem_cons_succ])
    obtain⟨s1,s2⟩:=hSu
    go_simp
   (try simp only[List.getElem_toArray,List.getElem_cons_zero,List.getElem_cons_succ])
   (try simp only[Act.put,List.setIfInBounds_toArray,List.set_cons_zero,List.set_cons_succ])
   refine wpAnyH_take (i:=4) (oi:=_) (v:=.slice (some ⟨g2,o2,none⟩) L.length cb) rfl (by kernel_rfl) (by kernel_rfl) (by kernel_rfl) (fun _ _ _ h=>h) (Or.inl ⟨by rfl,?_⟩) (by assumption) ?_
   ·intro u' hSu
    (try simp only[List.getElem_toArray,List.getElem_cons_zero,List.getElem_cons_succ])
    go_simp
   (try simp only[List.getElem_toArray,List.getElem_cons_zero,List.getElem_cons_succ])
   (try simp only[Act.put,List.setIfInBounds_toArray,List.set_cons_zero,List.set_cons_succ])
   refine wpAnyH_take (i:=5) (oi:=_) (v:=.int .i64 (i:Nat)) rfl (by kernel_rfl) (by kernel_rfl) (by kernel_rfl) (fun _ _ _ h=>h) (Or.inl ⟨by rfl,?_⟩) (by assumption) ?_
   ·intro u' hSu
    (try simp only[List.getElem_toArray,List.getElem_cons_zero,List.getElem_cons_succ])
    go_simp
   (try simp only[List.getElem_toArray,List.getElem_cons_zero,List.getElem_cons_succ])
   (try simp only[Act.put,List.setIfInBounds_toArray,List.set_cons_zero,List.set_cons_succ])
   refine wpAnyH_take (i:=6) (oi:=_) (v:=.pointer (some ⟨g2,o2+i,none⟩)) rfl (by kernel_rfl) (by kernel_rfl) (by kernel_rfl) (fun _ _ _ h=>h) (Or.inl ⟨by rfl,?_⟩) (by assumption) ?_
   ·intro u' hSu
    (try simp only[List.getElem_toArray,List.getElem_cons_zero,List.getElem_cons_succ])
    go_simp
   (try simp only[List.getElem_toArray,List.getElem_cons_zero,List.getElem_cons_succ])
   (try simp only[Act.put,List.setIfInBounds_toArray,List.set_cons_zero,List.set_cons_succ])
   refine wpAnyH_take (i:=7) (oi:=_) (v:=.slice b2 li c2) rfl (by kernel_rfl) (by kernel_rfl) (by kernel_rfl) (fun _ _ _ h=>h) (Or.inl ⟨by rfl,?_⟩) (by assumption) ?_
   ·intro u' hSu
    (try simp only[List.getElem_toArray,List.getElem_cons_zero,List.getElem_cons_succ])
    obtain⟨s1,s2⟩:=hSu
    go_simp
   (try simp only[List.getElem_toArray,List.getElem_cons_zero,List.getElem_cons_succ])
   (try simp only[Act.put,List.setIfInBounds_toArray,List.set_cons_zero,List.set_cons_succ])
   refine wpAnyH_ready (rs:=[8]) (by kernel_rfl) (by simp) (AllReadyH.cons rfl ?_ (AllReadyH.nil))
   ·intro K' hK'
    (try simp only[List.getElem_toArray,List.getElem_cons_zero,List.getElem_cons_succ])
    go_simp
    refine(HS.out _ HW.out.drew).mono ?_
    rintro r w5 ⟨rfl,hb5⟩
    have hl5:Below w.heap.size w w5:=HW.out.drew.trans (hb5.mono HW.out.drew.size)
    refine hK'.out _ _ ⟨HC1.out _ hl5,HC2.out _ hl5⟩ (fun hSe=>?_)
    clear hK' K' hSd
    (try simp only[List.getElem_toArray,List.getElem_cons_zero,List.getElem_cons_succ])
    (try simp only[Act.put,List.setIfInBounds_toArray,List.set_cons_zero,List.set_cons_succ])
    refine wpAnyH_take (i:=9) (oi:=_) (v:=.bool false) rfl (by kernel_rfl) (by kernel_rfl) (by kernel_rfl) (fun _ _ _ h=>h) (Or.inl ⟨by rfl,?_⟩) (by assumption) ?_
    ·intro u' hSu
     (try simp only[List.getElem_toArray,List.getElem_cons_zero,List.getElem_cons_succ])
     go_simp
    (try simp only[List.getElem_toArray,List.getElem_cons_zero,List.getElem_cons_succ])
    (try simp only[Act.put,List.setIfInBounds_toArray,List.set_cons_zero,List.set_cons_succ])
    refine wpAnyH_done (by kernel_rfl) ?_ _
    clear hSe
    have HW5:=hid hl5
    clear hl5 hb5
    go_wp2
    go_roundw
    case rel=>exact⟨i+1,by omega,by go_num,HW5⟩
    case measure=>simp[intOf];omega
  ·obtain rfl:i=L.length:=by omega
   go_wp2
   go_ret
   exact⟨rfl,HW.out⟩
end Go.Proofs.YtgamblainfkiaaaGreatDoor

/- The law: sameNet. -/
namespace Go.Proofs.YtgamblainfkiaaaGreatDoor
open Go.RowKit Go.Shelf
set_option maxRecDepth 100000 in
set_option maxHeartbeats 400000 in
theorem sameTexts_q (a b:Option Addr) (ca cb:Nat) (l:List ByteArray) (w:World) (ha:StS w a l) (hb:StS w b l) (hn:l.length≤100000):
  Calls Tryz.prog 64 #[.slice a l.length ca,.slice b l.length cb] w fun e w'=>e=.returned (.bool true)∧∃m,w'=w.drewN m:=by
 have HA:=hid (fun m=>ha.below (below_drewN (Below.refl _ w) m))
 have HB:=hid (fun m=>hb.below (below_drewN (Below.refl _ w) m))
 clear ha hb
 go_enter Tryz.func64,Tryz.ntmps64
 go_wp2_with fail
 go_loopw [5] (fun iv wr=>∃i:Nat,i≤l.length∧iv=.int .i64 i∧Hid (∃m,wr=w.drewN m)) (fun iv _=>l.length - (intOf iv).toNat)
 case atStart=>exact⟨0,Nat.zero_le _,rfl,⟨0,rfl⟩⟩
 case round=>
  obtain⟨i,hi,rfl,HW⟩:=hrel
  have HA':Hid (StS wr a l):=by
   obtain⟨m,e⟩:=HW.out
   show StS wr a l
   rw[e]
   exact HA.out m
  have HB':Hid (StS wr b l):=by
   obtain⟨m,e⟩:=HW.out
   show StS wr b l
   rw[e]
   exact HB.out m
  have HN:Hid (∀n',∃m,wr.drewN n'=w.drewN m):=fun n'=>by
   obtain⟨m,e⟩:=HW.out
   exact⟨m+n',by rw[e,World.drewN_drewN]⟩
  by_cases hlt:i<l.length
  ·obtain⟨g,o,rfl,hg,c0⟩:=HA'.out i hlt
   obtain⟨g2,o2,rfl,hg2,c2⟩:=HB'.out i hlt
   generalize l[i]=x at *
   go_wp2_with fail
   go_quiet (fail)
   go_wp2
   go_roundw
   case rel=>exact⟨i+1,by omega,by go_num,HN.out _⟩
   case measure=>simp[intOf];omega
  ·obtain rfl:i=l.length:=by omega
   go_wp2
   go_ret
   exact⟨rfl,HW.out⟩
structure Few9 (V:List Vr) (L:List (List Int)) (R:List (List Fr)):Prop where
 v:V.length≤1000∧∀x∈V,x.2.length≤1000
 l:L.length≤1000∧∀x∈L,x.length≤1000
 r:R.length≤1000∧∀x∈R,x.length≤1000
set_option maxRecDepth 100000 in
set_option maxHeartbeats 1000000 in
theorem sameNet_any (a b c d e f:Option Addr) (ca cb cc cd ce cf:Nat) (V:List Vr) (L:List (List Int)) (R:List (List Fr)) (w:World) (h:NetI w a b c V L R) (h':NetI w d e f V L R) (hk:Few9 V L R):
  Calls Tryz.prog 23 #[.agg #[.slice a V.length ca,.slice b L.length cb,.slice c R.length cc],.agg #[.slice d V.length cd,.slice e L.length ce,.slice f R.length cf]] w fun e w'=>e=.returned (.bool true)∧Below w.heap.size w w':=by
 have HSL:=hid (fun (U:World) (hU:Below w.heap.size w U)=>sameLists_w b e cb ce L U (h.pars.below hU) (h'.pars.below hU) hk.l.1 hk.l.2)
 have HSR:=hid (fun (U:World) (hU:Below w.heap.size w U)=>sameRows_any c f cc cf R U (h.rows.below hU) (h'.rows.below hU) hk.r.1 hk.r.2)
 have HV1:=hid (fun (U:World) (hU:Below w.heap.size w U)=>h.vars.below hU)
 have HV2:=hid (fun (U:World) (hU:Below w.heap.size w U)=>h'.vars.below hU)
 have HKV:=hid hk.v.2
 have hVl:=hk.v.1
 have hLl:=hk.l.1
 have hRl:=hk.r.1
 have hA0:=(Below.refl w.heap.size w).alloc (Nat.le_refl _) (NC (.slice a V.length ca) (.slice b L.length cb) (.slice c R.length cc))
 have hA:=hA0.alloc hA0.size (NC (.slice d V.length cd) (.slice e L.length ce) (.slice f R.length cf))
 have hst:=(Below.refl (w.alloc (NC (.slice a V.length ca) (.slice b L.length cb) (.slice c R.length cc))).heap.size (w.alloc (NC (.slice a V.length ca) (.slice b L.length cb) (.slice c R.length cc)))).alloc (Nat.le_refl _) (NC (.slice d V.length cd) (.slice e L.length ce) (.slice f R.length cf))
 have hN10:NBox (w.alloc (NC (.slice a V.length ca) (.slice b L.length cb) (.slice c R.length cc))) w.heap.size (.slice a V.length ca) (.slice b L.length cb) (.slice c R.length cc):=NBox.at rfl _ _ _
 have hN1:=hN10.below hst hN10.lt
 have hN2:NBox ((w.alloc (NC (.slice a V.length ca) (.slice b L.length cb) (.slice c R.length cc))).alloc (NC (.slice d V.length cd) (.slice e L.length ce) (.slice f R.length cf))) (w.heap.size+1) (.slice d V.length cd) (.slice e L.length ce) (.slice f R.length cf):=NBox.at (by simp) _ _ _
 clear h h' hk hA0 hst hN10
 obtain⟨nv,hnv⟩:∃x,V.length=x:=⟨_,rfl⟩
 obtain⟨nl,hnl⟩:∃x,L.length=x:=⟨_,rfl⟩
 obtain⟨nr,hnr⟩:∃x,R.length=x:=⟨_,rfl⟩
 have HNV:=hid hnv
 simp only[hnv,hnl,hnr] at hVl hLl hRl hA hN1 hN2 HSL HSR⊢
 clear hnv hnl hnr
 obtain⟨e0,e1,e2⟩:=hN1.cells
 obtain⟨f0,f1,f2⟩:=hN2.cells
 go_enter Tryz.func23,Tryz.ntmps23
 go_wp2_with fail
 generalize ((w.alloc (NC (.slice a nv ca) (.slice b nl cb) (.slice c nr cc))).alloc (NC (.slice d nv cd) (.slice e nl ce) (.slice f nr cf)))=W at *
 refine(HSL.out _ hA).mono ?_
 rintro e9 w1 ⟨rfl,hb⟩
 have hA1:=hA.trans (hb.mono hA.size)
 have hN3:=hN1.below hb hN1.lt
 have hN4:=hN2.below hb hN2.lt
 clear hA hN1 hN2 hb e0 e1 e2 f0 f1 f2
 obtain⟨e0,e1,e2⟩:=hN3.cells
 obtain⟨f0,f1,f2⟩:=hN4.cells
 go_wp2_with fail
 refine(HSR.out _ hA1).mono ?_
 rintro e9 w2 ⟨rfl,hb⟩
 have HA2:=hid (hA1.trans (hb.mono hA1.size))
 have HN3:=hid (hN3.below hb hN3.lt)
 have HN4:=hid (hN4.below hb hN4.lt)
 clear hA1 hN3 hN4 hb e0 e1 e2 f0 f1 f2 HSL HSR
 go_wp2_with fail
 go_loopw [5] (fun iv wr=>∃i:Nat,i≤nv∧iv=.int .i64 i∧Hid (Below w.heap.size w wr)∧Hid (NBox wr w.heap.size (.slice a nv ca) (.slice b nl cb) (.slice c nr cc))∧Hid (NBox wr (w.heap.size+1) (.slice d nv cd) (.slice e nl ce) (.slice f nr cf))) (fun iv _=>nv - (intOf iv).toNat)
 case atStart=>exact⟨0,Nat.zero_le _,rfl,HA2,HN3,HN4⟩
 case round=>
  clear HA2 HN3 HN4
  obtain⟨i,hi,rfl,HA,HN1,HN2⟩:=hrel
  obtain⟨e0,e1,e2⟩:=HN1.out.cells
  obtain⟨f0,f1,f2⟩:=HN2.out.cells
  by_cases hlt:i<nv
  ·have hiV:i<V.length:=by rw[HNV.out];exact hlt
   obtain⟨g,o,b1,c1,rfl,hg,k0,k1,hS1, -⟩:=(HV1.out wr HA.out) i hiV
   obtain⟨g2,o2,b2,c2,rfl,hg2,m0,m1,hS2, -⟩:=(HV2.out wr HA.out) i hiV
   have hvl:=HKV.out _ (List.getElem_mem hiV)
   have HST:=hid (fun m=>sameTexts_q b1 b2 c1 c2 V[i].2 (wr.drewN m) (hS1.below (below_drewN (Below.refl _ wr) m)) (hS2.below (below_drewN (Below.refl _ wr) m)) (by omega))
   clear hS1 hS2
   generalize V[i].2.length=vl at *
   generalize V[i].1=nm at *
   have hnn:decide (nm=nm)=true:=decide_eq_true rfl
   go_wp2_with fail
   go_quiet ((go_at_call 64;refine Calls.quiet_of (HST.out _)))
   go_wp2
   go_roundw
   case rel=>exact⟨i+1,by omega,by go_num,below_drewN HA.out _,HN1.out.below (below_drewN (Below.refl _ wr) _) HN1.out.lt,HN2.out.below (below_drewN (Below.refl _ wr) _) HN2.out.lt⟩
   case measure=>simp[intOf];omega
  ·obtain rfl:i=nv:=by omega
   go_wp2
   go_ret
   exact⟨rfl,HA.out⟩
end Go.Proofs.YtgamblainfkiaaaGreatDoor

/- Unroll of both sides: where something is wrong; both answer the same. -/
namespace Go.Proofs.YtgamblainfkiaaaGreatDoor
open Go.RowKit Go.Shelf Go.Lib
def NetR (V:List Vr) (L:List (List Int)) (R:List (List Fr)) (z:Int) (w:World) (e:Ending) (w':World):Prop:=∃(a b c:Option Addr) (ca cb cc:Nat),e=.returned (.tuple #[.agg #[.slice a V.length ca,.slice b L.length cb,.slice c R.length cc],.int .i64 z])∧NetI w' a b c V L R∧Below w.heap.size w w'
theorem NetR.zero {w w':World} {z:Int} (hb:Below w.heap.size w w'):NetR [] [] [] z w (.returned (.tuple #[.agg #[.slice none 0 0,.slice none 0 0,.slice none 0 0],.int .i64 z])) w':=⟨none,none,none,0,0,0,rfl,⟨fun _ hk=>absurd hk (Nat.not_lt_zero _),fun _ hk=>absurd hk (Nat.not_lt_zero _),fun _ hk=>absurd hk (Nat.not_lt_zero _)⟩,hb⟩
theorem UnrR.net {l:List Fr} {R1 R2:List (List Fr)} {T:Nat} {w w':World} {e:Ending} (h:UnrR l R1 R2 T w e w'):NetR (uV l.length (R2.headD []).length T) (uL T) (uR l R1 R2 T) 0 w e w':=by
 obtain⟨x,y,z,Vs,Ls,Rs,rfl,h1,h2,h3,h4,h5,h6,h7⟩:=h
 obtain⟨a,ca,rfl,ha⟩:=h4.vars
 obtain⟨b,cb,rfl,hb,_⟩:=h5.pars
 obtain⟨c,cc,rfl,hc⟩:=h6.rows
 rw[h1] at ha
 rw[h2] at hb
 rw[h3] at hc
 exact⟨a,b,c,ca,cb,cc,by rw[h1,h2,h3],⟨ha,hb,hc⟩,h7⟩
theorem uV_few (n m:Nat) (hn:n≤4) (hm:m≤4):∀T,∀x∈uV n m T,x.2.length≤1000
 |0,x,h=>by cases h
 |t+1,x,h=>by
  rw[uV] at h
  rcases List.mem_append.1 h with h |h
  ·exact uV_few n m hn hm t x h
  ·simp only[List.mem_cons,List.not_mem_nil,or_false] at h
   rcases h with rfl |rfl
   ·show (valsN n).length≤1000
    rw[valsN_length];omega
   ·show (valsN m).length≤1000
    rw[valsN_length];omega
theorem uL_few:∀T,∀x∈uL T,x.length≤1000
 |0,x,h=>by cases h
 |t+1,x,h=>by
  rw[uL] at h
  rcases List.mem_append.1 h with h |h
  ·exact uL_few t x h
  ·simp only[List.mem_cons,List.not_mem_nil,or_false] at h
   rcases h with rfl |rfl
   ·split<;>simp
   ·simp
theorem uR_few {l:List Fr} {R1 R2:List (List Fr)} (h0:(cnR [l]).length≤1000) (h1:(cnR R1).length≤1000) (h2:(cnR R2).length≤1000):∀T,∀x∈uR l R1 R2 T,x.length≤1000
 |0,x,h=>by cases h
 |t+1,x,h=>by
  rw[uR] at h
  rcases List.mem_append.1 h with h |h
  ·exact uR_few h0 h1 h2 t x h
  ·simp only[List.mem_cons,List.not_mem_nil,or_false] at h
   rcases h with rfl |rfl
   ·split
    ·exact h0
    ·exact h1
   ·exact h2
theorem NBox.zz {w:World} {g:Nat} {x y z:Value} (h:NBox w g x y z) (x' y' z':Value):NBox (((w.setCell ⟨g,0,none⟩ x').setCell ⟨g,1,none⟩ y').setCell ⟨g,2,none⟩ z') g x' y' z':=((h.set0 x').set1 y').set2 z'
set_option maxRecDepth 100000 in
set_option maxHeartbeats 1000000 in
theorem hiUnroll_err1 (a b c:Option Addr) (ca cb cc n1 n2 n3:Nat) (T:Int) (l:List Fr) (R1 R2:List (List Fr)) (z:Int) (w:World) (h:HidM w a b c l R1 R2) (hs:HidS l R1 R2) (hb0:b=none→cb=0) (hc0:c=none→cc=0) (hn1:l.length=n1) (hn2:R1.length=n2) (hn3:R2.length=n3) (he:HidE l R1 R2 z) (hz:z≠0):
  Calls Tryz.prog 20 #[.agg #[.slice a n1 ca,.slice b n2 cb,.slice c n3 cc],.int .i64 T] w fun e w'=>NetR [] [] [] z w e w':=by
 have HCK:Hid (∀U:World,Below w.heap.size w U→Calls Tryz.prog 8 #[.agg #[.slice a n1 ca,.slice b n2 cb,.slice c n3 cc]] U fun e w'=>e=.returned (.int .i64 z)∧Below U.heap.size U w'):=fun U hU=>by
  have h9:=hiCheck_gen a b c ca cb cc l R1 R2 U (h.below hU) hs hb0 hc0
  rw[hn1,hn2,hn3] at h9
  refine h9.mono ?_
  rintro e w' ⟨⟨x,rfl,hx⟩,hb⟩
  rw[hx.uniq he]
  exact⟨rfl,hb⟩
 have hA0:=(Below.refl w.heap.size w).alloc (Nat.le_refl _) (HC3 (.slice a n1 ca) (.slice b n2 cb) (.slice c n3 cc))
 have hHB0:=HBox.new w (.slice a n1 ca) (.slice b n2 cb) (.slice c n3 cc)
 have hst:=(Below.refl (w.alloc (HC3 (.slice a n1 ca) (.slice b n2 cb) (.slice c n3 cc))).heap.size (w.alloc (HC3 (.slice a n1 ca) (.slice b n2 cb) (.slice c n3 cc)))).alloc (Nat.le_refl _) (NC (.slice none 0 0) (.slice none 0 0) (.slice none 0 0))
 have hHB:=hHB0.below hst hHB0.lt
 have hNB:NBox ((w.alloc (HC3 (.slice a n1 ca) (.slice b n2 cb) (.slice c n3 cc))).alloc (NC (.slice none 0 0) (.slice none 0 0) (.slice none 0 0))) (w.heap.size+1) (.slice none 0 0) (.slice none 0 0) (.slice none 0 0):=NBox.at (by simp) _ _ _
 have hA:=hA0.alloc hA0.size (NC (.slice none 0 0) (.slice none 0 0) (.slice none 0 0))
 obtain⟨e0,e1,e2⟩:=hHB.cells
 clear h hs he hn1 hn2 hn3 hA0 hHB0 hst hb0 hc0
 have hxb:(z !=0)=true:=by simpa using hz
 go_enter Tryz.func20,Tryz.ntmps20
 go_wp2_with fail
 generalize ((w.alloc (HC3 (.slice a n1 ca) (.slice b n2 cb) (.slice c n3 cc))).alloc (NC (.slice none 0 0) (.slice none 0 0) (.slice none 0 0)))=W at *
 refine(HCK.out _ hA).mono ?_
 rintro e w1 ⟨rfl,hb⟩
 have HA1:=hid (hA.trans (hb.mono hA.size))
 have HN1:=hid (hNB.below hb hNB.lt)
 clear hA hHB hb e0 e1 e2 HCK hNB
 obtain⟨q0,q1,q2⟩:=HN1.out.cells
 have f0:w1.frozen? ⟨w.heap.size+1,0,none⟩=false:=frozen_of_row _ _ 0 _ _ HN1.out
 have f1:w1.frozen? ⟨w.heap.size+1,1,none⟩=false:=frozen_of_row _ _ 1 _ _ HN1.out
 have f2:w1.frozen? ⟨w.heap.size+1,2,none⟩=false:=frozen_of_row _ _ 2 _ _ HN1.out
 have HO:=hid (HN1.out.zz (.slice none 0 0) (.slice none 0 0) (.slice none 0 0))
 have HB:=hid (((HA1.out.setCell (p:=⟨w.heap.size+1,0,none⟩) (Nat.le_succ _) (.slice none 0 0)).setCell (p:=⟨w.heap.size+1,1,none⟩) (Nat.le_succ _) (.slice none 0 0)).setCell (p:=⟨w.heap.size+1,2,none⟩) (Nat.le_succ _) (.slice none 0 0))
 go_wp2
 refine bodyPost_ret (HO.out.result2 rfl _ rfl) rfl ?_
 exact NetR.zero HB.out
set_option maxRecDepth 100000 in
set_option maxHeartbeats 1000000 in
theorem rUnroll_err1 (a b c:Option Addr) (ca cb cc n1 n2 n3:Nat) (T:Int) (l:List Fr) (R1 R2:List (List Fr)) (z:Int) (w:World) (h:HidM w a b c l R1 R2) (hs:HidS l R1 R2) (hn1:l.length=n1) (hn2:R1.length=n2) (hn3:R2.length=n3) (he:HidE l R1 R2 z) (hz:z≠0):
  Calls Tryz.prog 21 #[.agg #[.slice a n1 ca,.slice b n2 cb,.slice c n3 cc],.int .i64 T] w fun e w'=>NetR [] [] [] z w e w':=by
 have HCK:Hid (∀U:World,Below w.heap.size w U→Calls Tryz.prog 9 #[.agg #[.slice a n1 ca,.slice b n2 cb,.slice c n3 cc]] U fun e w'=>e=.returned (.int .i64 z)∧Below U.heap.size U w'):=fun U hU=>by
  have h9:=rHidCheck_any a b c ca cb cc l R1 R2 U (h.below hU) hs
  rw[hn1,hn2,hn3] at h9
  refine h9.mono ?_
  rintro e w' ⟨⟨x,rfl,hx⟩,hb⟩
  rw[hx.uniq he]
  exact⟨rfl,hb⟩
 have hA0:=(Below.refl w.heap.size w).alloc (Nat.le_refl _) (HC3 (.slice a n1 ca) (.slice b n2 cb) (.slice c n3 cc))
 have hHB0:=HBox.new w (.slice a n1 ca) (.slice b n2 cb) (.slice c n3 cc)
 have hst:=(Below.refl (w.alloc (HC3 (.slice a n1 ca) (.slice b n2 cb) (.slice c n3 cc))).heap.size (w.alloc (HC3 (.slice a n1 ca) (.slice b n2 cb) (.slice c n3 cc)))).alloc (Nat.le_refl _) (NC (.slice none 0 0) (.slice none 0 0) (.slice none 0 0))
 have hHB:=hHB0.below hst hHB0.lt
 have hNB:NBox ((w.alloc (HC3 (.slice a n1 ca) (.slice b n2 cb) (.slice c n3 cc))).alloc (NC (.slice none 0 0) (.slice none 0 0) (.slice none 0 0))) (w.heap.size+1) (.slice none 0 0) (.slice none 0 0) (.slice none 0 0):=NBox.at (by simp) _ _ _
 have hA:=hA0.alloc hA0.size (NC (.slice none 0 0) (.slice none 0 0) (.slice none 0 0))
 obtain⟨e0,e1,e2⟩:=hHB.cells
 clear h hs he hn1 hn2 hn3 hA0 hHB0 hst
 have hxb:(z !=0)=true:=by simpa using hz
 go_enter Tryz.func21,Tryz.ntmps21
 go_wp2_with fail
 generalize ((w.alloc (HC3 (.slice a n1 ca) (.slice b n2 cb) (.slice c n3 cc))).alloc (NC (.slice none 0 0) (.slice none 0 0) (.slice none 0 0)))=W at *
 refine(HCK.out _ hA).mono ?_
 rintro e w1 ⟨rfl,hb⟩
 have HA1:=hid (hA.trans (hb.mono hA.size))
 have HN1:=hid (hNB.below hb hNB.lt)
 clear hA hHB hb e0 e1 e2 HCK hNB
 obtain⟨q0,q1,q2⟩:=HN1.out.cells
 have f0:w1.frozen? ⟨w.heap.size+1,0,none⟩=false:=frozen_of_row _ _ 0 _ _ HN1.out
 have f1:w1.frozen? ⟨w.heap.size+1,1,none⟩=false:=frozen_of_row _ _ 1 _ _ HN1.out
 have f2:w1.frozen? ⟨w.heap.size+1,2,none⟩=false:=frozen_of_row _ _ 2 _ _ HN1.out
 have HO:=hid (HN1.out.zz (.slice none 0 0) (.slice none 0 0) (.slice none 0 0))
 have HB:=hid (((HA1.out.setCell (p:=⟨w.heap.size+1,0,none⟩) (Nat.le_succ _) (.slice none 0 0)).setCell (p:=⟨w.heap.size+1,1,none⟩) (Nat.le_succ _) (.slice none 0 0)).setCell (p:=⟨w.heap.size+1,2,none⟩) (Nat.le_succ _) (.slice none 0 0))
 go_wp2
 refine bodyPost_ret (HO.out.result2 rfl _ rfl) rfl ?_
 exact NetR.zero HB.out
set_option maxRecDepth 100000 in
set_option maxHeartbeats 1000000 in
theorem hiUnroll_err2 (a b c:Option Addr) (ca cb cc n1 n2 n3:Nat) (T:Int) (l:List Fr) (R1 R2:List (List Fr)) (w:World) (h:HidM w a b c l R1 R2) (hs:HidS l R1 R2) (hb0:b=none→cb=0) (hc0:c=none→cc=0) (hn1:l.length=n1) (hn2:R1.length=n2) (hn3:R2.length=n3) (he:HidE l R1 R2 0) (hT:T<1∨4<T):
  Calls Tryz.prog 20 #[.agg #[.slice a n1 ca,.slice b n2 cb,.slice c n3 cc],.int .i64 T] w fun e w'=>NetR [] [] [] 2 w e w':=by
 have HCK:Hid (∀U:World,Below w.heap.size w U→Calls Tryz.prog 8 #[.agg #[.slice a n1 ca,.slice b n2 cb,.slice c n3 cc]] U fun e w'=>e=.returned (.int .i64 0)∧Below U.heap.size U w'):=fun U hU=>by
  have h9:=hiCheck_gen a b c ca cb cc l R1 R2 U (h.below hU) hs hb0 hc0
  rw[hn1,hn2,hn3] at h9
  refine h9.mono ?_
  rintro e w' ⟨⟨x,rfl,hx⟩,hb⟩
  rw[hx.uniq he]
  exact⟨rfl,hb⟩
 have hA0:=(Below.refl w.heap.size w).alloc (Nat.le_refl _) (HC3 (.slice a n1 ca) (.slice b n2 cb) (.slice c n3 cc))
 have hHB0:=HBox.new w (.slice a n1 ca) (.slice b n2 cb) (.slice c n3 cc)
 have hst:=(Below.refl (w.alloc (HC3 (.slice a n1 ca) (.slice b n2 cb) (.slice c n3 cc))).heap.size (w.alloc (HC3 (.slice a n1 ca) (.slice b n2 cb) (.slice c n3 cc)))).alloc (Nat.le_refl _) (NC (.slice none 0 0) (.slice none 0 0) (.slice none 0 0))
 have hHB:=hHB0.below hst hHB0.lt
 have hNB:NBox ((w.alloc (HC3 (.slice a n1 ca) (.slice b n2 cb) (.slice c n3 cc))).alloc (NC (.slice none 0 0) (.slice none 0 0) (.slice none 0 0))) (w.heap.size+1) (.slice none 0 0) (.slice none 0 0) (.slice none 0 0):=NBox.at (by simp) _ _ _
 have hA:=hA0.alloc hA0.size (NC (.slice none 0 0) (.slice none 0 0) (.slice none 0 0))
 obtain⟨e0,e1,e2⟩:=hHB.cells
 clear h hs he hn1 hn2 hn3 hA0 hHB0 hst hb0 hc0
 rcases hT with hT |hT
 ·go_enter Tryz.func20,Tryz.ntmps20
  go_wp2_with fail
  generalize ((w.alloc (HC3 (.slice a n1 ca) (.slice b n2 cb) (.slice c n3 cc))).alloc (NC (.slice none 0 0) (.slice none 0 0) (.slice none 0 0)))=W at *
  refine(HCK.out _ hA).mono ?_
  rintro e w1 ⟨rfl,hb⟩
  have HA1:=hid (hA.trans (hb.mono hA.size))
  have HN1:=hid (hNB.below hb hNB.lt)
  clear hA hHB hb e0 e1 e2 HCK hNB
  obtain⟨q0,q1,q2⟩:=HN1.out.cells
  have f0:w1.frozen? ⟨w.heap.size+1,0,none⟩=false:=frozen_of_row _ _ 0 _ _ HN1.out
  have f1:w1.frozen? ⟨w.heap.size+1,1,none⟩=false:=frozen_of_row _ _ 1 _ _ HN1.out
  have f2:w1.frozen? ⟨w.heap.size+1,2,none⟩=false:=frozen_of_row _ _ 2 _ _ HN1.out
  have HO:=hid (HN1.out.zz (.slice none 0 0) (.slice none 0 0) (.slice none 0 0))
  have HB:=hid (((HA1.out.setCell (p:=⟨w.heap.size+1,0,none⟩) (Nat.le_succ _) (.slice none 0 0)).setCell (p:=⟨w.heap.size+1,1,none⟩) (Nat.le_succ _) (.slice none 0 0)).setCell (p:=⟨w.heap.size+1,2,none⟩) (Nat.le_succ _) (.slice none 0 0))
  go_wp2
  refine bodyPost_ret (HO.out.result2 rfl _ rfl) rfl ?_
  exact NetR.zero HB.out
 ·have hT1:¬T<1:=by omega
  go_enter Tryz.func20,Tryz.ntmps20
  go_wp2_with fail
  generalize ((w.alloc (HC3 (.slice a n1 ca) (.slice b n2 cb) (.slice c n3 cc))).alloc (NC (.slice none 0 0) (.slice none 0 0) (.slice none 0 0)))=W at *
  refine(HCK.out _ hA).mono ?_
  rintro e w1 ⟨rfl,hb⟩
  have HA1:=hid (hA.trans (hb.mono hA.size))
  have HN1:=hid (hNB.below hb hNB.lt)
  clear hA hHB hb e0 e1 e2 HCK hNB
  obtain⟨q0,q1,q2⟩:=HN1.out.cells
  have f0:w1.frozen? ⟨w.heap.size+1,0,none⟩=false:=frozen_of_row _ _ 0 _ _ HN1.out
  have f1:w1.frozen? ⟨w.heap.size+1,1,none⟩=false:=frozen_of_row _ _ 1 _ _ HN1.out
  have f2:w1.frozen? ⟨w.heap.size+1,2,none⟩=false:=frozen_of_row _ _ 2 _ _ HN1.out
  have HO:=hid (HN1.out.zz (.slice none 0 0) (.slice none 0 0) (.slice none 0 0))
  have HB:=hid (((HA1.out.setCell (p:=⟨w.heap.size+1,0,none⟩) (Nat.le_succ _) (.slice none 0 0)).setCell (p:=⟨w.heap.size+1,1,none⟩) (Nat.le_succ _) (.slice none 0 0)).setCell (p:=⟨w.heap.size+1,2,none⟩) (Nat.le_succ _) (.slice none 0 0))
  go_wp2
  refine bodyPost_ret (HO.out.result2 rfl _ rfl) rfl ?_
  exact NetR.zero HB.out
set_option maxRecDepth 100000 in
set_option maxHeartbeats 1000000 in
theorem rUnroll_err2 (a b c:Option Addr) (ca cb cc n1 n2 n3:Nat) (T:Int) (l:List Fr) (R1 R2:List (List Fr)) (w:World) (h:HidM w a b c l R1 R2) (hs:HidS l R1 R2) (hn1:l.length=n1) (hn2:R1.length=n2) (hn3:R2.length=n3) (he:HidE l R1 R2 0) (hT:T<1∨4<T):
  Calls Tryz.prog 21 #[.agg #[.slice a n1 ca,.slice b n2 cb,.slice c n3 cc],.int .i64 T] w fun e w'=>NetR [] [] [] 2 w e w':=by
 have HCK:Hid (∀U:World,Below w.heap.size w U→Calls Tryz.prog 9 #[.agg #[.slice a n1 ca,.slice b n2 cb,.slice c n3 cc]] U fun e w'=>e=.returned (.int .i64 0)∧Below U.heap.size U w'):=fun U hU=>by
  have h9:=rHidCheck_any a b c ca cb cc l R1 R2 U (h.below hU) hs
  rw[hn1,hn2,hn3] at h9
  refine h9.mono ?_
  rintro e w' ⟨⟨x,rfl,hx⟩,hb⟩
  rw[hx.uniq he]
  exact⟨rfl,hb⟩
 have hA0:=(Below.refl w.heap.size w).alloc (Nat.le_refl _) (HC3 (.slice a n1 ca) (.slice b n2 cb) (.slice c n3 cc))
 have hHB0:=HBox.new w (.slice a n1 ca) (.slice b n2 cb) (.slice c n3 cc)
 have hst:=(Below.refl (w.alloc (HC3 (.slice a n1 ca) (.slice b n2 cb) (.slice c n3 cc))).heap.size (w.alloc (HC3 (.slice a n1 ca) (.slice b n2 cb) (.slice c n3 cc)))).alloc (Nat.le_refl _) (NC (.slice none 0 0) (.slice none 0 0) (.slice none 0 0))
 have hHB:=hHB0.below hst hHB0.lt
 have hNB:NBox ((w.alloc (HC3 (.slice a n1 ca) (.slice b n2 cb) (.slice c n3 cc))).alloc (NC (.slice none 0 0) (.slice none 0 0) (.slice none 0 0))) (w.heap.size+1) (.slice none 0 0) (.slice none 0 0) (.slice none 0 0):=NBox.at (by simp) _ _ _
 have hA:=hA0.alloc hA0.size (NC (.slice none 0 0) (.slice none 0 0) (.slice none 0 0))
 obtain⟨e0,e1,e2⟩:=hHB.cells
 clear h hs he hn1 hn2 hn3 hA0 hHB0 hst
 rcases hT with hT |hT
 ·go_enter Tryz.func21,Tryz.ntmps21
  go_wp2_with fail
  generalize ((w.alloc (HC3 (.slice a n1 ca) (.slice b n2 cb) (.slice c n3 cc))).alloc (NC (.slice none 0 0) (.slice none 0 0) (.slice none 0 0)))=W at *
  refine(HCK.out _ hA).mono ?_
  rintro e w1 ⟨rfl,hb⟩
  have HA1:=hid (hA.trans (hb.mono hA.size))
  have HN1:=hid (hNB.below hb hNB.lt)
  clear hA hHB hb e0 e1 e2 HCK hNB
  obtain⟨q0,q1,q2⟩:=HN1.out.cells
  have f0:w1.frozen? ⟨w.heap.size+1,0,none⟩=false:=frozen_of_row _ _ 0 _ _ HN1.out
  have f1:w1.frozen? ⟨w.heap.size+1,1,none⟩=false:=frozen_of_row _ _ 1 _ _ HN1.out
  have f2:w1.frozen? ⟨w.heap.size+1,2,none⟩=false:=frozen_of_row _ _ 2 _ _ HN1.out
  have HO:=hid (HN1.out.zz (.slice none 0 0) (.slice none 0 0) (.slice none 0 0))
  have HB:=hid (((HA1.out.setCell (p:=⟨w.heap.size+1,0,none⟩) (Nat.le_succ _) (.slice none 0 0)).setCell (p:=⟨w.heap.size+1,1,none⟩) (Nat.le_succ _) (.slice none 0 0)).setCell (p:=⟨w.heap.size+1,2,none⟩) (Nat.le_succ _) (.slice none 0 0))
  go_wp2
  refine bodyPost_ret (HO.out.result2 rfl _ rfl) rfl ?_
  exact NetR.zero HB.out
 ·have hT1:¬T<1:=by omega
  go_enter Tryz.func21,Tryz.ntmps21
  go_wp2_with fail
  generalize ((w.alloc (HC3 (.slice a n1 ca) (.slice b n2 cb) (.slice c n3 cc))).alloc (NC (.slice none 0 0) (.slice none 0 0) (.slice none 0 0)))=W at *
  refine(HCK.out _ hA).mono ?_
  rintro e w1 ⟨rfl,hb⟩
  have HA1:=hid (hA.trans (hb.mono hA.size))
  have HN1:=hid (hNB.below hb hNB.lt)
  clear hA hHB hb e0 e1 e2 HCK hNB
  obtain⟨q0,q1,q2⟩:=HN1.out.cells
  have f0:w1.frozen? ⟨w.heap.size+1,0,none⟩=false:=frozen_of_row _ _ 0 _ _ HN1.out
  have f1:w1.frozen? ⟨w.heap.size+1,1,none⟩=false:=frozen_of_row _ _ 1 _ _ HN1.out
  have f2:w1.frozen? ⟨w.heap.size+1,2,none⟩=false:=frozen_of_row _ _ 2 _ _ HN1.out
  have HO:=hid (HN1.out.zz (.slice none 0 0) (.slice none 0 0) (.slice none 0 0))
  have HB:=hid (((HA1.out.setCell (p:=⟨w.heap.size+1,0,none⟩) (Nat.le_succ _) (.slice none 0 0)).setCell (p:=⟨w.heap.size+1,1,none⟩) (Nat.le_succ _) (.slice none 0 0)).setCell (p:=⟨w.heap.size+1,2,none⟩) (Nat.le_succ _) (.slice none 0 0))
  go_wp2
  refine bodyPost_ret (HO.out.result2 rfl _ rfl) rfl ?_
  exact NetR.zero HB.out
variable {a b c d:Option Addr} {ca cb cc cd n1 n2 n3 L:Nat} {l:List Fr} {R1 R2:List (List Fr)} {Q:List Int}
theorem hex_unroll {w:World} (h:HEX w a b c d ca cb cc cd n1 n2 n3 L l R1 R2 Q) (T:Int):∃(V:List Vr) (K:List (List Int)) (R:List (List Fr)) (z:Int),Few9 V K R∧(∀U:World,Below w.heap.size w U→Calls Tryz.prog 20 #[.agg #[.slice a n1 ca,.slice b n2 cb,.slice c n3 cc],.int .i64 T] U fun e w'=>NetR V K R z U e w')∧(∀U:World,Below w.heap.size w U→Calls Tryz.prog 21 #[.agg #[.slice a n1 ca,.slice b n2 cb,.slice c n3 cc],.int .i64 T] U fun e w'=>NetR V K R z U e w'):=by
 obtain⟨z,hz⟩:=HidE.some l R1 R2
 have few0:Few9 [] [] []:=⟨⟨by decide,fun x hx=>by cases hx⟩,⟨by decide,fun x hx=>by cases hx⟩,⟨by decide,fun x hx=>by cases hx⟩⟩
 by_cases h0:z=0
 case neg=>exact⟨[],[],[],z,few0,fun U hU=>hiUnroll_err1 a b c ca cb cc n1 n2 n3 T l R1 R2 z U (h.m.below hU) h.s h.b0 h.c0 h.e1 h.e2 h.e3 hz h0,fun U hU=>rUnroll_err1 a b c ca cb cc n1 n2 n3 T l R1 R2 z U (h.m.below hU) h.s h.e1 h.e2 h.e3 hz h0⟩
 subst h0
 by_cases hT:T<1∨4<T
 ·exact⟨[],[],[],2,few0,fun U hU=>hiUnroll_err2 a b c ca cb cc n1 n2 n3 T l R1 R2 U (h.m.below hU) h.s h.b0 h.c0 h.e1 h.e2 h.e3 hz hT,fun U hU=>rUnroll_err2 a b c ca cb cc n1 n2 n3 T l R1 R2 U (h.m.below hU) h.s h.e1 h.e2 h.e3 hz hT⟩
 ·obtain⟨t,rfl⟩:∃t:Nat,T=(t:Int):=⟨T.toNat,by omega⟩
  obtain⟨p1,p2,p3,p4,p5,p6,p7,p8⟩:ShpB l R1 R2:=by
   rcases hz with ⟨_,h1,_⟩ |⟨h9,_⟩ |⟨h9,_⟩
   ·exact h1
   ·exact absurd h9 (by decide)
   ·exact absurd h9 (by decide)
  have q2:n2=n1:=by rw[←h.e2,p3,h.e1]
  have q3:n3=n1:=by rw[←h.e3,p4,h.e1]
  subst q2 q3
  have g0:(cnR [l]).length≤1000:=by
   have h9:=cnR_len (R:=[l]) fun r hr=>by rw[List.mem_singleton.1 hr];exact p2
   simp at h9⊢
   omega
  have g1:(cnR R1).length≤1000:=by
   have h9:=cnR_len (R:=R1) fun r hr=>by rw[p7 r hr];exact p2
   omega
  have g2:(cnR R2).length≤1000:=by
   have h9:=cnR_len (R:=R2) fun r hr=>by rw[p8 r hr];exact p6
   omega
  refine⟨uV l.length (R2.headD []).length t,uL t,uR l R1 R2 t,0,⟨⟨by rw[uV_length];omega,uV_few _ _ p2 p6 t⟩,⟨by rw[uL_length];omega,uL_few t⟩,⟨by rw[uR_length];omega,uR_few g0 g1 g2 t⟩⟩,fun U hU=>?_,fun U hU=>?_⟩
  ·exact(hiUnroll_ok a b c ca cb cc _ t l R1 R2 U (h.m.below hU) h.s hz h.b0 h.c0 h.e1 (by omega) (by omega) h.ea).mono fun e w' h9=>h9.net
  ·exact(rUnroll_ok a b c ca cb cc _ t l R1 R2 U (h.m.below hU) h.s hz h.e1 (by omega) (by omega) h.ea).mono fun e w' h9=>h9.net
end Go.Proofs.YtgamblainfkiaaaGreatDoor

/- The law: heavyNet: what it lets through is not too great together. -/
namespace Go.Proofs.YtgamblainfkiaaaGreatDoor
open Go.RowKit Go.Shelf
def sumW (R:List (List Fr)) (j:Nat):Nat:=((R.take j).map fun l=>l.length+sw l).sum
theorem sumW_succ {R:List (List Fr)} {j:Nat} (h:j<R.length):sumW R (j+1)=sumW R j+(R[j].length+sw R[j]):=by
 rw[sumW,sumW,List.take_succ_eq_append_getElem h,List.map_append,List.sum_append]
 simp
end Go.Proofs.YtgamblainfkiaaaGreatDoor
