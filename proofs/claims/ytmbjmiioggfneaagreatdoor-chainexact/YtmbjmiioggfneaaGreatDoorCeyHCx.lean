/- The answer's Hits: who is ever come to, by determinants. -/
import Derived.Test.YtmbjmiioggfneaaGreatDoorCeyFCxCeyN
set_option linter.unusedVariables false
set_option linter.unusedSimpArgs false
namespace Go.Proofs.YtmbjmiioggfneaaGreatDoor
open Go.RowKit Go.Shelf
theorem rSubFR (q:Rat) (f:Fr) (U:World) (hq:qw q≤50000) (hf:fz f≤50000):Calls Tryz.prog 54 #[.agg #[.bool (qF (q)).1,.string (qF (q)).2.1,.string (qF (q)).2.2],.agg #[.bool f.1,.string f.2.1,.string f.2.2]] U fun e w'=>e=.returned (.agg #[.bool (qF (q - frQ f)).1,.string (qF (q - frQ f)).2.1,.string (qF (q - frQ f)).2.2])∧Below U.heap.size U w':=by
 have h:=rSubF_any (sgn q) f.1 (nu q) (de q) f.2.1 f.2.2 U (by rw[own_size];exact hq) hf
 rw[val_own] at h
 exact h
theorem rAddFR (q:Rat) (f:Fr) (U:World) (hq:qw q≤50000) (hf:fz f≤50000):Calls Tryz.prog 55 #[.agg #[.bool (qF (q)).1,.string (qF (q)).2.1,.string (qF (q)).2.2],.agg #[.bool f.1,.string f.2.1,.string f.2.2]] U fun e w'=>e=.returned (.agg #[.bool (qF (q+frQ f)).1,.string (qF (q+frQ f)).2.1,.string (qF (q+frQ f)).2.2])∧Below U.heap.size U w':=by
 have h:=rAddF_any (sgn q) f.1 (nu q) (de q) f.2.1 f.2.2 U (by rw[own_size];exact hq) hf
 rw[val_own] at h
 exact h
def mN (X:Nat→Nat→Fr) (l:List Nat) (i k:Nat):Rat:=(if i=k then 1 else 0) - rowQ X (l.getD i 0) (l.getD k 0)
theorem wpList_append_fr1 {w:World} {ops:Array Oper} {rest:List Oper} {o:Oper} {a:Act} {Q:Exit→Act→World→Prop} (hgd:o.guard=none) (s x:Operand)
  (ho:o.op=.call {callee:=.builtin .append,args:= #[s,x],argTypes:= #[23,23]}) (base:Nat) (v:Value) (l:List Fr) (f:Fr) (hs:a.eval s=v) (hown:RwF w base v l) (g:Nat) (hx:a.eval x=.slice (some ⟨g,0,none⟩) 1 1) (hg:Box w g f.1 f.2.1 f.2.2) (hlen:l.length+1≤100000) (hbase:base≤w.heap.size)
  (h:∀v' w',RwF w' base v' (l++[f])→w.grownBy w' v.ownBlock→(v'.ownBlock=v.ownBlock∨∀k,v'.ownBlock=some k→w.heap.size≤k)→wpList Tryz.prog ops Q rest (a.put o.dst v') w'):wpList Tryz.prog ops Q (o::rest) a w:=by
 obtain⟨i0,hi0,hz0,hz1,hz2⟩:=info_parts Tryz.infoFrac
 have hnews:∀j u,[Value.bool f.1,Value.string f.2.1,Value.string f.2.2][j]? =some u→w.cell? ((⟨g,0,none⟩:Addr).add j)=some u:=fun j u hj=>by
  match j,hj with
  |0,hj=>cases hj;exact hg.c0
  |1,hj=>cases hj;exact hg.c1
  |2,hj=>cases hj;exact hg.c2
  |j+3,hj=>simp at hj
 have hone:∀u∈[Value.bool f.1,Value.string f.2.1,Value.string f.2.2],u.oneCell'=true:=fun u hu=>by
  simp only[List.mem_cons,List.not_mem_nil,or_false] at hu
  rcases hu with rfl |rfl |rfl<;>rfl
 have hmax:l.length+1≤maxLen:=by unfold maxLen;omega
 obtain⟨v',w',hr,h2,h3, -⟩:=run_append_own (P:=Tryz.prog) w base 23 o.type 44 i0 (.agg #[.bool false,.string ⟨#[]⟩,.string ⟨#[]⟩]) 3 40 Tryz.underlying23 hi0 hz0 hz1 hz2 rfl (by decide) v l.length _ hown ⟨g,0,none⟩ 1 1 [.bool f.1,.string f.2.1,.string f.2.2] rfl hnews hone hmax (by omega) hbase
 have hnew:v'.ownBlock=v.ownBlock∨∀k,v'.ownBlock=some k→w.heap.size≤k:=by
  rcases hown.2 with ⟨h4,h5⟩ |⟨g',cap,cur,h4,hbg,hg',hnc,hcm,hcs,htake⟩
  ·right
   have e:=run_append_nil (P:=Tryz.prog) w 23 o.type 44 i0 (.agg #[.bool false,.string ⟨#[]⟩,.string ⟨#[]⟩]) Tryz.underlying23 hi0 hz0 ⟨g,0,none⟩ 1 1 [.bool f.1,.string f.2.1,.string f.2.2] (by rw[hz1];rfl) hnews (by decide) (by decide) (by rw[hz2];decide)
   rw[h4] at hr
   rw[hr] at e
   cases e
   intro k hk
   cases hk
   exact Nat.le_refl _
  ·rw[h4] at hr
   by_cases hroom:l.length+1≤cap
   ·left
    have e:=run_append_room (P:=Tryz.prog) w 23 o.type 44 i0 Tryz.underlying23 hi0 g' l.length cap cur hg' ⟨g,0,none⟩ 1 1 [.bool f.1,.string f.2.1,.string f.2.2] (by rw[hz1];rfl) hnews hone hroom (by rw[hz1,hcs];simp;omega)
    rw[hr] at e
    cases e
    rw[h4];rfl
   ·right
    have hown':=hown
    rw[h4] at hown'
    have e:=run_append_grow (P:=Tryz.prog) w 23 o.type 44 i0 (.agg #[.bool false,.string ⟨#[]⟩,.string ⟨#[]⟩]) Tryz.underlying23 hi0 hz0 ⟨g',0,none⟩ l.length cap (frC l) (by rw[hz1,frC_length];omega) (World.ownsRow.cells hown' rfl) ⟨g,0,none⟩ 1 1 [.bool f.1,.string f.2.1,.string f.2.2] (by rw[hz1];rfl) hnews (by omega) (by omega) (growslice_fits (by omega) (by rw[hz2];omega))
    rw[hr] at e
    cases e
    intro k hk
    cases hk
    exact Nat.le_refl _
 refine wpList_plain hgd fun _ hK=>?_
 unfold Oper.wp execOp
 simp only[ho,resolve,invoke,builtin,Sem.run_bind,Sem.run_pure,Result.andThen_ok,List.map_toArray,List.map_cons,List.map_nil,hs,hx,hr]
 refine hK _ _ (h v' w' ?_ h3 hnew)
 rw[RwF,List.length_append,frC_snoc]
 exact h2
def AprF (Ps:List PR) (y:Value):Prop:=∀p∈Ps,∀x,p.1.ownBlock=some x→y.ownBlock≠some x
theorem AprF.nil (y:Value):AprF [] y:=fun p hp=>by cases hp
theorem AprF.push {w w':World} {B B9:Nat} {Ps:List PR} {y q:Value} {r:List Fr} {lb:List Fr} (h:AprF Ps y) (hy:RwF w B y lb) (hq:RwF w' B9 q r) (hB:w.heap.size≤B9):AprF (Ps++[(q,r)]) y:=fun p hp x e e'=>by
 rcases List.mem_append.1 hp with hp |hp
 ·exact h p hp x e e'
 ·rw[List.mem_singleton.1 hp] at e
  have h1:=hq.own x e
  have h2:=rwF_lt hy e'
  omega
theorem AprF.grow {w:World} {B:Nat} {z:Value} {Ps:List PR} {y y':Value} (h:AprF Ps y) (ho:OwR w B z Ps) (hn:y'.ownBlock=y.ownBlock∨∀k,y'.ownBlock=some k→w.heap.size≤k):AprF Ps y':=fun p hp x e e'=>by
 rcases hn with hn |hn
 ·rw[hn] at e';exact h p hp x e e'
 ·have h1:=hn x e'
  have h2:=rwF_lt (ho.2 p hp) e
  omega
theorem OwR.beside {w w':World} {B B':Nat} {z y:Value} {Ps:List PR} {lb:List Fr} (ho:OwR w B z Ps) (h:AprF Ps y) (hy:RwF w B' y lb) (hg:w.grownBy w' y.ownBlock):OwR w' B z Ps:=by
 refine⟨owns_keep ho.1 (KeepT.grown hg (owns_typed hy) (by decide)),fun p hp=>?_⟩
 refine World.ownsRow.kept (ho.2 p hp) hg ?_
 cases e:p.1.ownBlock with
 |none=>exact .inl rfl
 |some x=>exact .inr fun e'=>h p hp x e e'.symm
theorem sumR_negC (f:Nat→Rat):∀n,sumR (fun j=> -f j) n= -sumR f n
 |0=>by show (0:Rat)= -0;grind
 |n+1=>by show sumR (fun j=> -f j) n+ -f n= -(sumR f n+f n);rw[sumR_negC f n];grind
theorem risB_nat {S:List Nat} {N:Nat} (hr:S.Pairwise (·<·)) (hb:∀x∈S,x<N):risB (iL S) (N:Nat)=true:=by
 rw[risB,List.all_eq_true]
 intro i hi
 have hi':=List.mem_range.1 hi
 have hi2:i<S.length:=by rw[←iL_length S];exact hi'
 have e1:∀k (h:k<S.length),(iL S).getD k 0=((S[k]:Nat):Int):=fun k h=>by
  rw[List.getD_eq_getElem?_getD,iL,List.getElem?_map,List.getElem?_eq_getElem h];rfl
 rw[okAt,decide_eq_true_iff,e1 i hi2]
 refine⟨by omega,by have:=hb _ (List.getElem_mem hi2);omega,fun h0=>?_⟩
 rw[e1 (i - 1) (by omega)]
 have:=List.pairwise_iff_getElem.1 hr (i - 1) i (by omega) hi2 (by omega)
 omega
theorem lsm_take {f:Nat→Rat} {S:List Nat} {k:Nat} (h:k<S.length):lsm f (S.take (k+1))=lsm f (S.take k)+f (S.getD k 0):=by
 rw[List.take_succ_eq_append_getElem h,lsm_append]
 congr 1
 rw[List.getD_eq_getElem?_getD,List.getElem?_eq_getElem h]
 show f S[k]+0=f S[k]
 rw[Rat.add_zero]
theorem com_pos {n i:Nat} {P:Nat→Nat→Rat} {S L:List Nat} (h:CmL n P i L) (hS:∀x∈S,x<n):decide (0<(comI (iL S) (iL L) (iL S).length).length)=S.any (cmsB n P i):=by
 have e:comI (iL S) (iL L) (iL S).length=(iL S).filter fun x=>inB x (iL L):=by rw[comI,List.take_length]
 rw[e]
 cases h9:S.any (cmsB n P i) with
 |true=>
  obtain⟨x,hx,hc⟩:=List.any_eq_true.1 h9
  refine decide_eq_true (List.length_pos_of_mem (a:=((x:Nat):Int)) (List.mem_filter.2 ⟨List.mem_map.2 ⟨x,hx,rfl⟩,?_⟩))
  rw[inB_chn]
  exact decide_eq_true ((h.all x).2 ⟨hS x hx,hc⟩)
 |false=>
  refine decide_eq_false fun hp=>?_
  obtain⟨y,hy⟩:=List.exists_mem_of_length_pos hp
  obtain⟨h1,h2⟩:=List.mem_filter.1 hy
  obtain⟨x,hx,rfl⟩:=List.mem_map.1 h1
  rw[inB_chn] at h2
  have h3:=((h.all x).1 (of_decide_eq_true h2)).2
  have h4:=List.any_eq_false.1 h9 x hx
  exact h4 h3
theorem hits_cramer {n:Nat} {X:Nat→Nat→Fr} {S:List Nat} (hm:ChX n X) (hS:∀x∈S,x<n) (hd:S.Nodup):detQ (opN n (cmsB n (rowQ X)) S).length (mN X (opN n (cmsB n (rowQ X)) S))≠0∧∀k,k<(opN n (cmsB n (rowQ X)) S).length→detQ (opN n (cmsB n (rowQ X)) S).length (putC (mN X (opN n (cmsB n (rowQ X)) S)) k fun i=>lsm (rowQ X ((opN n (cmsB n (rowQ X)) S).getD i 0)) S)/detQ (opN n (cmsB n (rowQ X)) S).length (mN X (opN n (cmsB n (rowQ X)) S))=elm (hM (rowQ X) (opN n (cmsB n (rowQ X)) S) S) (opN n (cmsB n (rowQ X)) S).length k (opN n (cmsB n (rowQ X)) S).length:=by
 have hw:=hM_wt hm.chn hS
 have h4:=(opN_four (P:=rowQ X) hm.five hS hd).1
 have hsol:=hw.solves
 obtain⟨l,hl⟩:∃l,opN n (cmsB n (rowQ X)) S=l:=⟨_,rfl⟩
 rw[hl] at hw h4 hsol⊢
 have e1:∀i j,j<l.length→mN X l i j= -hM (rowQ X) l S i j:=fun i j hj=>by
  unfold mN hM
  rw[if_pos hj]
  grind
 have e2:detQ l.length (mN X l)=detQ l.length fun i j=> -hM (rowQ X) l S i j:=detQ_congr fun i _ j hj=>e1 i j hj
 refine⟨by rw[e2];exact hw.det (by omega),fun k hk=>?_⟩
 have h9:=hw.cramer (by omega) (x:=fun k=>elm (hM (rowQ X) l S) l.length k l.length) (b:=fun i=>lsm (rowQ X (l.getD i 0)) S) (fun i hi=>by
  have h1:=hsol i hi
  have h2:hM (rowQ X) l S i l.length=0 - lsm (rowQ X (l.getD i 0)) S:=if_neg (Nat.lt_irrefl _)
  rw[h2] at h1
  have h3:sumR (fun j=> -hM (rowQ X) l S i j*elm (hM (rowQ X) l S) l.length j l.length) l.length= -sumR (fun j=>hM (rowQ X) l S i j*elm (hM (rowQ X) l S) l.length j l.length) l.length:=by
   rw[←sumR_negC]
   exact sumR_congr fun j _=>by rw[Rat.neg_mul]
  rw[h3,h1]
  grind) hk
 rw[e2,←h9]
 congr 1
 refine detQ_congr fun i _ j hj=>?_
 unfold putC
 split
 ·rfl
 ·exact e1 i j hj
set_option maxRecDepth 100000 in
set_option maxHeartbeats 8000000 in
theorem rHits_any (a b:Option Addr) (ca cb N:Nat) (X:Nat→Nat→Fr) (S:List Nat) (w:World) (hR:FsS w a (mF N X)) (hS:IntS w b (iL S)) (hm:ChX N X) (hr:S.Pairwise (·<·)) (hb:∀x∈S,x<N):
  Calls Tryz.prog 21 #[.slice a N ca,.slice b S.length cb] w fun e w'=>∃v,e=.returned (.tuple #[v,.int .i64 0])∧RwF w' w.heap.size v (lF N (hitQ N (rowQ X) S S.length))∧Below w.heap.size w w':=by
 have hd:S.Nodup:=hr.imp fun h=>Nat.ne_of_lt h
 have h1:=hm.one
 have h5:=hm.five
 obtain⟨h4,hS5⟩:=opN_four (P:=rowQ X) hm.five hb hd
 obtain⟨hcr0,hcr⟩:=hits_cramer hm hb hd
 have HCH:=hid (rChain_yes a ca N (mF N X) w hR hm.ok h1 (by omega))
 have HRI:Hid (∀U:World,Below w.heap.size w U→Calls Tryz.prog 52 #[.slice b S.length cb,.int .i64 (N:Nat)] U fun e w'=>e=.returned (.bool true)∧Below U.heap.size U w'):=fun U hU=>by
  have h9:=rRising_any b cb (iL S) (N:Nat) U (hS.below hU) (by rw[iL_length];omega)
  rw[iL_length,risB_nat hr hb] at h9
  exact h9
 have HIN:=hid (fun (i:Nat) (U:World) (hU:Below w.heap.size w U)=>rIn_any ((i:Nat):Int) b cb (iL S) U (hS.below hU) (by rw[iL_length];omega))
 have HCO:=hid (fun (i:Nat) (hi:i<N) (U:World) (hU:Below w.heap.size w U)=>rComes_any a ca N i X U (hR.below hU) hm hi)
 have HCC:=hid (fun (d:Option Addr) (cd:Nat) (L:List Nat) (hl:L.length≤1000) (U:World) (hU:Below w.heap.size w U) (hd:IntS U d (iL L))=>common_any b d cb cd (iL S) (iL L) U (hS.below hU) hd (by rw[iL_length];omega) (by rw[iL_length];exact hl))
 have HCP:=hid (fun (i:Nat) (L:List Nat) (h:CmL N (rowQ X) i L)=>com_pos h hb)
 have HCS:=hid (fun (i:Nat)=>opN_succ i (cmsB N (rowQ X)) S)
 have HOB:Hid (∀i,opB (cmsB N (rowQ X)) S i=(S.any (cmsB N (rowQ X) i)&&!decide (i∈S))):=fun i=>by
  show (_&&_)=_
  congr 2
  rw[Bool.eq_iff_iff,List.any_eq_true,decide_eq_true_iff]
  exact⟨fun ⟨x,hx,e⟩=>by rw[of_decide_eq_true e];exact hx,fun h=>⟨i,h,decide_eq_true rfl⟩⟩
 have HOL:=hid (fun (i:Nat)=>opN_le i (cmsB N (rowQ X)) S)
 have HR:=hid (fun (U:World) (hU:Below w.heap.size w U)=>hR.below hU)
 have HIS:=hid hS
 have HSN:=hid hb
 have HFEW:=hid hm.few
 obtain⟨T,hT0,hT,hTw⟩:=hm.den
 have HLNG:Hid (∀i (hi:i<N) t,Fits 701 (lsm (rowQ X i) (S.take t))):=fun i hi t=>lsm_long hm.chn hT0 hT hTw hi (fun x hx=>hb x (List.mem_of_mem_take hx)) (by rw[List.length_take];omega)
 have HMEM:=hid (fun (x:Nat)=>opN_mem (n:=N) (e:=cmsB N (rowQ X)) (S:=S) (i:=x))
 have HWHL:Hid (∀i j,i<N→j<N→Whl T (rowQ X i j)):=hTw
 have HCHN:=hid hm.chn
 have HCRT:=hid hcr0
 have HCRM:=hid hcr
 have HSVD:=hid (fun (n:Nat) (M:Nat→Nat→Rat) (bv:Nat→Rat) (a b:Option Addr) (ca cb:Nat) (w:World) (hn:n≤5) (hw:∀i j,i<n→j<n→Whl T (M i j)) (ha:∀i j,i<n→j<n→Abs 6 (M i j)) (hwb:∀i,i<n→Whl T (bv i)) (hab:∀i,i<n→Abs 6 (bv i)) (hd:detQ n M≠0) (hR:FsS w a (mR n M)) (hb:FrS w b (lF n bv))=>rSolved_any T hT0 hT n M bv a b ca cb w hn hw ha hwb hab hd hR hb)
 have HHQ:Hid (∀i,hitQ N (rowQ X) S S.length i=if i∈S then 1 else sprQ (opN N (cmsB N (rowQ X)) S) (fun k=>elm (hM (rowQ X) (opN N (cmsB N (rowQ X)) S) S) (opN N (cmsB N (rowQ X)) S).length k (opN N (cmsB N (rowQ X)) S).length) (opN N (cmsB N (rowQ X)) S).length i):=fun i=>by
  show (if i∈S.take S.length then _ else _)=_
  rw[List.take_length]
 have HO0:=hid (fun V:World=>rOf_zero V)
 have HO1:=hid (fun V:World=>rOf_one V)
 clear hR hS hr hb hd hm hcr0 hcr hT0 hT hTw
 generalize hitQ N (rowQ X) S S.length=hq at *
 have HE0:Hid (RwI w w.heap.size (.slice none 0 0) (iL (opN 0 (cmsB N (rowQ X)) S))):=⟨rfl,.inl ⟨rfl,rfl⟩⟩
 go_enter Tryz.func21,Tryz.ntmps21
 go_wp2_with fail
 refine HCH.out.mono ?_
 rintro e1 w1 ⟨rfl,hb1⟩
 have HB1:=hid hb1
 clear hb1 HCH
 go_wp2_with fail
 refine(HRI.out _ HB1.out).mono ?_
 rintro e2 w2 ⟨rfl,hb2⟩
 have HB2:=hid (HB1.out.trans (hb2.mono HB1.out.size))
 clear hb2 HB1 HRI
 have HE2:Hid (RwI w2 w2.heap.size (.slice none 0 0) (iL (opN 0 (cmsB N (rowQ X)) S))):=⟨rfl,.inl ⟨rfl,rfl⟩⟩
 have HZ2:Hid (Below w2.heap.size w2 w2):=Below.refl _ _
 clear HE0
 go_wp2_with fail
 go_loopw [8,9] (fun sv iv wr=>∃i:Nat,i≤N∧iv=.int .i64 i∧Hid (RwI wr w2.heap.size sv (iL (opN i (cmsB N (rowQ X)) S)))∧Hid (Below w2.heap.size w2 wr)) (fun _ iv _=>N - (intOf iv).toNat)
 case atStart=>exact⟨0,Nat.zero_le _,rfl,HE2,HZ2⟩
 case round=>
  clear HE2 HZ2
  obtain⟨i,hi,rfl,HRI,HBQ⟩:=hrel
  by_cases hli:i<N
  ·have HBW:=hid (HB2.out.trans (HBQ.out.mono HB2.out.size))
   have HINI:Hid (Calls Tryz.prog 39 #[.int .i64 (i:Nat),.slice b S.length cb] wr fun e w'=>e=.returned (.bool (decide (i∈S)))∧w'=wr):=by
    have h:=HIN.out i wr HBW.out
    rw[inB_chn,iL_length] at h
    exact h
   have hcs:=HCS.out i
   have hob:=HOB.out i
   obtain⟨ib,hib⟩:∃x,decide (i∈S)=x:=⟨_,rfl⟩
   rw[hib] at HINI hob
   obtain⟨d1,c1,hsv, -⟩:=RwI.ints HRI.out
   subst hsv
   rw[iL_length] at HRI⊢
   have hlen:=HOL.out i
   obtain⟨O,hO⟩:∃x,opN i (cmsB N (rowQ X)) S=x:=⟨_,rfl⟩
   rw[hO] at HRI hcs hlen⊢
   clear hO hib
   go_wp2_with fail
   refine HINI.out.mono ?_
   rintro e V ⟨rfl,rfl⟩
   clear HINI
   go_wp2_with fail
   refine(HCO.out i hli _ HBW.out).mono ?_
   rintro e V1 ⟨lv,L,rfl,hL,hcm,hb⟩
   obtain⟨dl,cl,hlv,hil⟩:=RwI.ints hL
   subst hlv
   rw[iL_length]
   have HB3:=hid (HBQ.out.trans (hb.mono HBQ.out.size))
   have HBW3:=hid (HB2.out.trans (HB3.out.mono HB2.out.size))
   have HR3:=hid (RwI.below HRI.out hb)
   have hl5:L.length≤N:=hcm.most
   have hpos:=HCP.out i L hcm
   have HCC1:Hid (Calls Tryz.prog 53 #[.slice b S.length cb,.slice dl L.length cl] V1 fun e w'=>∃v,e=.returned v∧RwI w' V1.heap.size v (comI (iL S) (iL L) (iL S).length)∧Below V1.heap.size V1 w'):=by
    have h9:=HCC.out dl cl L (by omega) V1 HBW3.out hil
    rw[iL_length,iL_length] at h9
    rw[iL_length]
    exact h9
   clear hL hil hb hcm HRI HBQ HBW
   generalize comI (iL S) (iL L) (iL S).length=CI at *
   go_wp2_with fail
   refine HCC1.out.mono ?_
   rintro e V2 ⟨cv,rfl,hC,hb⟩
   obtain⟨dc,cc,hcv, -⟩:=RwI.ints hC
   subst hcv
   have HB4:=hid (HB3.out.trans (hb.mono HB3.out.size))
   have HR4:=hid (RwI.below HR3.out hb)
   clear hC hb HCC1 HB3 HR3 HBW3
   obtain⟨sb,hsb⟩:∃x,S.any (cmsB N (rowQ X) i)=x:=⟨_,rfl⟩
   rw[hsb] at hpos hob
   rw[hob] at hcs
   clear hsb hob
   have hcl:sb=true→0<CI.length:=fun h=>of_decide_eq_true (hpos.trans h)
   have hcl2:sb=false→CI.length=0:=fun h=>by have h9:=of_decide_eq_false (hpos.trans h);omega
   clear hpos
   cases ib with
   |true=>
    have HNX:Hid (opN (i+1) (cmsB N (rowQ X)) S=O):=by show _=_;rw[hcs];simp
    clear hcs hcl hcl2
    go_wp2
    go_roundw
    case rel=>exact⟨i+1,by omega,by go_num,by rw[HNX.out,←iL_length O];rw[iL_length];exact HR4,HB4⟩
    case measure=>simp[intOf];omega
   |false=>
    cases sb with
    |false=>
     have HNX:Hid (opN (i+1) (cmsB N (rowQ X)) S=O):=by show _=_;rw[hcs];simp
     have hz:=hcl2 rfl
     clear hcs hcl hcl2
     generalize CI.length=cn at *
     subst hz
     go_wp2
     go_roundw
     case rel=>exact⟨i+1,by omega,by go_num,by rw[HNX.out];exact HR4,HB4⟩
     case measure=>simp[intOf];omega
    |true=>
     have HNX:Hid (opN (i+1) (cmsB N (rowQ X)) S=O++[i]):=by show _=_;rw[hcs];simp
     have hz:=hcl rfl
     clear hcs hcl hcl2
     generalize CI.length=cn at *
     have hAL:=(Below.refl V2.heap.size V2).alloc (Nat.le_refl _) (.cells #[.int .i64 (i:Nat)] 3)
     have HR5:=hid (RwI.below HR4.out hAL)
     have HB5:=hid (HB4.out.trans (hAL.mono HB4.out.size))
     have HI5:=hid (one_intT V2 (i:Nat))
     have hol:(iL O).length=O.length:=iL_length O
     clear hAL
     go_wp2_with (at_builtin;refine wpList_append_ints rfl _ _ rfl w2.heap.size _ (iL O) [((i:Nat):Int)] rfl HR5.out (some ⟨V2.heap.size,0,none⟩) 1 rfl HI5.out (fun e=>by cases e) (by rw[iL_length];simp;omega) HB5.out.size ?_;intro v8 w8 hr8 hg8;have HB8:=hid (HB5.out.grown hg8 HB5.out.size (fun k e=>owns_from HR5.out k e));have HR8:Hid (RwI w8 w2.heap.size v8 (iL (opN (i+1) (cmsB N (rowQ X)) S))):=(by rw[HNX.out,show iL (O++[i])=iL O++[((i:Nat):Int)] from List.map_append];exact hr8))
     go_roundw
     case rel=>exact⟨i+1,by omega,by go_num,HR8,HB8⟩
     case measure=>simp[intOf];omega
  ·obtain rfl:N=i:=by omega
   obtain⟨dl0,cl,hsv,hil⟩:=RwI.ints HRI.out
   subst hsv
   rw[iL_length]
   obtain⟨l,hl⟩:∃l,opN N (cmsB N (rowQ X)) S=l:=⟨_,rfl⟩
   rw[hl] at hil HHQ HCRT HCRM HMEM h4⊢
   clear hl HRI HCS HOB HOL HCP HCC HCO HIN
   obtain⟨n,hnl⟩:∃n,l.length=n:=⟨_,rfl⟩
   rw[hnl] at HHQ HCRT HCRM h4⊢
   have HNL:=hid hnl
   clear hnl
   obtain⟨wB,hwB⟩:∃x,x=wr:=⟨_,rfl⟩
   rw[←hwB] at hil HBQ⊢
   clear hwB
   have HBB0:=hid (HB2.out.trans (HBQ.out.mono HB2.out.size))
   have HLI:=hid hil
   have HLNN:Hid (∀i,i<n→l.getD i 0<N):=fun i hi=>((HMEM.out _).1 (getD_mem (by rw[HNL.out];exact hi))).1
   clear hil HBQ
   obtain⟨bq,hbq⟩:∃bq:Nat→Rat,bq=fun i=>lsm (rowQ X (l.getD i 0)) S:=⟨_,rfl⟩
   have HBE:Hid (∀i,bq i=lsm (rowQ X (l.getD i 0)) S):=fun i=>by rw[hbq]
   clear hbq
   have HO0B:Hid (OwR wB wB.heap.size (.slice none 0 0) []):=OwR.nil _ _
   have HQ0B:Hid (RwF wB wB.heap.size (.slice none 0 0) (lF 0 bq)):=⟨rfl,.inl ⟨rfl,rfl⟩⟩
   have HZB:Hid (Below wB.heap.size wB wB):=Below.refl _ _
   go_wp2_with fail
   go_loopw [12,13,14] (fun av bv iv wr=>∃(i:Nat) (Ps:List PR),i≤n∧iv=.int .i64 i∧Hid (OwR wr wB.heap.size av Ps)∧Hid (Ps.map (·.2)=(List.range i).map fun t=>lF n (mN X l t))∧Hid (RwF wr wB.heap.size bv (lF i bq))∧Hid (AprF Ps bv)∧Hid (Below wB.heap.size wB wr)) (fun _ _ iv _=>n - (intOf iv).toNat)
   case atStart=>exact⟨0,[],Nat.zero_le _,rfl,HO0B,rfl,HQ0B,AprF.nil _,HZB⟩
   case round=>
    clear HO0B HQ0B HZB
    obtain⟨i,Ps,hi,rfl,HO,HP,HBQ,HAP,HBB⟩:=hrel
    by_cases hli:i<n
    ·have h1n:1≤n:=by omega
     obtain⟨gl,ol,hdl,hgl, -⟩:=ints_at (i:=0) HLI.out (by rw[HNL.out];omega)
     subst hdl
     have HLC:Hid (∀i,i<n→∀U:World,Below wB.heap.size wB U→U.cell? ⟨gl,ol+i,none⟩=some (.int .i64 (l.getD i 0:Nat))):=fun i hi U hU=>by
      obtain⟨g,o,e,hg,c⟩:=ints_at HLI.out (show i<l.length by rw[HNL.out];exact hi)
      cases e
      exact(hU.cell (p:=⟨gl,_,none⟩) hg).trans c
     obtain⟨da,na,ca2,hav⟩:∃d n c,u12=.slice d n c:=by
      obtain⟨d,c,e,_⟩:=owns_slice HO.out.1
      exact⟨d,_,c,e⟩
     subst hav
     obtain⟨dq,nq,cq,hbv⟩:=HBQ.out.slv
     subst hbv
     obtain⟨V9,hV9⟩:∃x,x=wr:=⟨_,rfl⟩
     rw[←hV9] at HO HBQ HBB⊢
     clear hV9
     have HUP9:Hid (∀U:World,Below V9.heap.size V9 U→Below w.heap.size w U):=fun U hU=>HBB0.out.trans ((HBB.out.trans (hU.mono HBB.out.size)).mono HBB0.out.size)
     have HE0:Hid (RwF V9 V9.heap.size (.slice none 0 0) (lF 0 (mN X l i))):=⟨rfl,.inl ⟨rfl,rfl⟩⟩
     have HBZ9:Hid (Below V9.heap.size V9 V9):=Below.refl _ _
     go_wp2_with fail
     go_loopw [15,16] (fun rv kv wr=>∃k:Nat,k≤n∧kv=.int .i64 k∧Hid (RwF wr V9.heap.size rv (lF k (mN X l i)))∧Hid (Below V9.heap.size V9 wr)) (fun _ kv _=>n - (intOf kv).toNat)
     case atStart=>exact⟨0,Nat.zero_le _,rfl,HE0,HBZ9⟩
     case round=>
      clear HE0 HBZ9
      obtain⟨k,hk,rfl,HRW,HBR⟩:=hrel
      by_cases hlk:k<n
      ·obtain⟨dv,nv,cv,hlv⟩:=HRW.out.slv
       subst hlv
       have HSN:Hid (lF (k+1) (mN X l i)=lF k (mN X l i)++[qF (mN X l i k)]):=lF_snoc k _
       have HLN:Hid ((lF k (mN X l i)).length+1≤100000):=by show _≤_;rw[lF_length];omega
       have hlkN:=HLNN.out k hlk
       have HKE:=hid (HLC.out k hlk)
       have HIE:=hid (HLC.out i hli)
       have hliN:=HLNN.out i hli
       have HMQ:Hid (mN X l i k=(if i=k then 1 else 0) - frQ (X (l.getD i 0) (l.getD k 0))):=rfl
       obtain⟨li,hlie⟩:∃x,l.getD i 0=x:=⟨_,rfl⟩
       rw[hlie] at HIE hliN HMQ
       obtain⟨lk,hlke⟩:∃x,l.getD k 0=x:=⟨_,rfl⟩
       rw[hlke] at HKE hlkN HMQ
       have HLK:Hid (i=k→li=lk):=fun h=>by rw[←hlie,←hlke,h]
       clear hlie hlke
       obtain⟨ga,oa,gr,or_,cr,hae,hga,hgr,x0,x1,x2,x3⟩:=(HR.out w (Below.refl _ _)).at hliN hlkN
       subst hae
       have HSU1:=hid (fun U:World=>rSubFR 1 (X li lk) U (by have:=qw_one2;omega) (Nat.le_trans (HFEW.out li lk hliN hlkN) (by decide)))
       have HSU0:=hid (fun U:World=>rSubFR 0 (X li lk) U (by have:=qw_zero;omega) (Nat.le_trans (HFEW.out li lk hliN hlkN) (by decide)))
       have HMQ1:Hid (i=k→(1:Rat) - frQ (X li lk)=mN X l i k):=fun h=>by rw[HMQ.out,if_pos h]
       have HMQ0:Hid (¬i=k→(0:Rat) - frQ (X li lk)=mN X l i k):=fun h=>by rw[HMQ.out,if_neg h]
       clear HMQ
       generalize mN X l i k=mq at *
       generalize (lF k (mN X l i))=L0 at *
       generalize frQ (X li lk)=fq at *
       generalize X li lk=zz at *
       obtain⟨an,ax,ay⟩:=zz
       simp only at x1 x2 x3 HSU1 HSU0
       have HELDW:Hid (∀u,Below wB.heap.size wB u→Below w.heap.size w u→u.cell? ⟨gl,ol+i,none⟩=some (.int .i64 (li:Nat))∧u.cell? ⟨ga,oa+li,none⟩=some (.slice (some ⟨gr,or_,none⟩) N cr)∧u.cell? ⟨gl,ol+k,none⟩=some (.int .i64 (lk:Nat))∧u.cell? ⟨gr,or_+lk*3,none⟩=some (.bool an)∧u.cell? ⟨gr,or_+lk*3+1,none⟩=some (.string ax)∧u.cell? ⟨gr,or_+lk*3+2,none⟩=some (.string ay)):=fun u hq h=>⟨HIE.out u hq,(h.cell (p:=⟨ga,_,none⟩) hga).trans x0,HKE.out u hq,(h.cell (p:=⟨gr,_,none⟩) hgr).trans x1,(h.cell (p:=⟨gr,_,none⟩) hgr).trans x2,(h.cell (p:=⟨gr,_,none⟩) hgr).trans x3⟩
       clear x0 x1 x2 x3
       go_wp2_with fail
       refine(HO0.out _).mono ?_
       rintro e V0 ⟨rfl,hbv⟩
       have HBV:=hid (HBR.out.trans (hbv.mono HBR.out.size))
       have HRV:=hid (HRW.out.below hbv)
       have hA:=(Below.refl V0.heap.size V0).alloc (Nat.le_refl _) (FC (sgn 0) (nu 0) (de 0))
       have HX0:Hid (Box (V0.alloc (FC (sgn 0) (nu 0) (de 0))) V0.heap.size (qF (0)).1 (qF (0)).2.1 (qF (0)).2.2):=Box.new V0 (sgn 0) (nu 0) (de 0)
       have HB0:=hid hA
       obtain⟨gB,hgB⟩:∃x,V0.heap.size=x:=⟨_,rfl⟩
       rw[hgB] at HX0 HB0
       have HGE2:=hid hgB
       have HGV:Hid (gB≤V0.heap.size):=Nat.le_of_eq hgB.symm
       have HWG:Hid (V9.heap.size≤gB):=by rw[←hgB];exact HBV.out.size
       have HELD:Hid (∀u,Below gB V0 u→u.cell? ⟨gl,ol+i,none⟩=some (.int .i64 (li:Nat))∧u.cell? ⟨ga,oa+li,none⟩=some (.slice (some ⟨gr,or_,none⟩) N cr)∧u.cell? ⟨gl,ol+k,none⟩=some (.int .i64 (lk:Nat))∧u.cell? ⟨gr,or_+lk*3,none⟩=some (.bool an)∧u.cell? ⟨gr,or_+lk*3+1,none⟩=some (.string ax)∧u.cell? ⟨gr,or_+lk*3+2,none⟩=some (.string ay)):=fun u h0=>HELDW.out u (HBB.out.trans ((HBV.out.trans (h0.mono HWG.out)).mono HBB.out.size)) (HUP9.out u (HBV.out.trans (h0.mono HWG.out)))
       clear hbv hA HRW HBR HELDW
       by_cases hik:i=k
       ·subst hik
        have hlk9:=HLK.out rfl
        subst hlk9
        clear HLK
        have HSU:Hid (∀U:World,Calls Tryz.prog 54 #[.agg #[.bool (qF (1)).1,.string (qF (1)).2.1,.string (qF (1)).2.2],.agg #[.bool an,.string ax,.string ay]] U fun e w'=>e=.returned (.agg #[.bool (qF (mq)).1,.string (qF (mq)).2.1,.string (qF (mq)).2.2])∧Below U.heap.size U w'):=fun U=>by
         have h9:=HSU1.out U
         rw[HMQ1.out rfl] at h9
         exact h9
        clear HSU1 HSU0 HMQ1 HMQ0
        go_wp2_with fail
        refine(HO1.out _).mono ?_
        rintro e V1 ⟨rfl,hb⟩
        simp only[hgB]
        clear hgB
        have HX1:=hid (HX0.out.below hb HX0.out.lt)
        have HB1:=hid (HB0.out.trans (hb.mono (Nat.le_trans HGV.out HB0.out.size)))
        clear hb HX0 HB0
        obtain⟨k0,k1,k2⟩:=HX1.out.trio
        have f0:=HX1.out.fz 0
        have f1:=HX1.out.fz 1
        have f2:=HX1.out.fz 2
        have HX:Hid (Box (((V1.setCell ⟨gB,0,none⟩ (.bool (sgn 1))).setCell ⟨gB,1,none⟩ (.string (nu 1))).setCell ⟨gB,2,none⟩ (.string (de 1))) gB (qF (1)).1 (qF (1)).2.1 (qF (1)).2.2):=HX1.out.put (sgn 1) (nu 1) (de 1)
        have HB:=hid (((HB1.out.setCell (p:=⟨gB,0,none⟩) (Nat.le_refl _) (.bool (sgn 1))).setCell (p:=⟨gB,1,none⟩) (Nat.le_refl _) (.string (nu 1))).setCell (p:=⟨gB,2,none⟩) (Nat.le_refl _) (.string (de 1)))
        clear HX1 HB1
        go_upto_region 27 with fail
        clear k0 k1 k2 f0 f1 f2
        generalize (((V1.setCell ⟨gB,0,none⟩ (.bool (sgn 1))).setCell ⟨gB,1,none⟩ (.string (nu 1))).setCell ⟨gB,2,none⟩ (.string (de 1)))=w9 at *
        go_upto_region 27 with fail
        replace HX:=hid HX.out.drew
        replace HB:=hid HB.out.drew
        refine wp_region_until 15 (fun (b:Bool) (u:World)=>(u.cell? ⟨gl,ol+i,none⟩=some (.int .i64 (li:Nat))∧u.cell? ⟨ga,oa+li,none⟩=some (.slice (some ⟨gr,or_,none⟩) N cr)∧u.cell? ⟨gl,ol+i,none⟩=some (.int .i64 (li:Nat))∧u.cell? ⟨gr,or_+li*3,none⟩=some (.bool an)∧u.cell? ⟨gr,or_+li*3+1,none⟩=some (.string ax)∧u.cell? ⟨gr,or_+li*3+2,none⟩=some (.string ay))∧(b=false→(u.cell? ⟨gB,0,none⟩=some (.bool (qF (1)).1)∧u.cell? ⟨gB,1,none⟩=some (.string (qF (1)).2.1)∧u.cell? ⟨gB,2,none⟩=some (.string (qF (1)).2.2)))) (by kernel_rfl) ⟨HELD.out _ HB.out,fun _=>HX.out.trio⟩ (fun hSd=>?_)
        generalize w9.drew=u0 at *
        refine wpU_take (i:=1) (oi:=_) (v:=.slice (some ⟨ga,oa,none⟩) N ca) (b:=false) rfl (by kernel_rfl) (by kernel_rfl) (by kernel_rfl) (by decide) (fun _ _ _ h=>h) (Or.inl ⟨by rfl,?_⟩) (by kernel_rfl) (by assumption) ?_
        ·intro u' hSu
         (try simp only[List.getElem_toArray,List.getElem_cons_zero,List.getElem_cons_succ])
         go_simp
        (try simp only[List.getElem_toArray,List.getElem_cons_zero,List.getElem_cons_succ])
        (try simp only[Act.put,List.setIfInBounds_toArray,List.set_cons_zero,List.set_cons_succ])
        refine wpU_take (i:=2) (oi:=_) (v:=.slice (some ⟨gl,ol,none⟩) n cl) (b:=false) rfl (by kernel_rfl) (by kernel_rfl) (by kernel_rfl) (by decide) (fun _ _ _ h=>h) (Or.inl ⟨by rfl,?_⟩) (by kernel_rfl) (by assumption) ?_
        ·intro u' hSu
         (try simp only[List.getElem_toArray,List.getElem_cons_zero,List.getElem_cons_succ])
         go_simp
        (try simp only[List.getElem_toArray,List.getElem_cons_zero,List.getElem_cons_succ])
        (try simp only[Act.put,List.setIfInBounds_toArray,List.set_cons_zero,List.set_cons_succ])
        refine wpU_take (i:=3) (oi:=_) (v:=.int .i64 (i:Nat)) (b:=false) rfl (by kernel_rfl) (by kernel_rfl) (by kernel_rfl) (by decide) (fun _ _ _ h=>h) (Or.inl ⟨by rfl,?_⟩) (by kernel_rfl) (by assumption) ?_
        ·intro u' hSu
         (try simp only[List.getElem_toArray,List.getElem_cons_zero,List.getElem_cons_succ])
         go_simp
        (try simp only[List.getElem_toArray,List.getElem_cons_zero,List.getElem_cons_succ])
        (try simp only[Act.put,List.setIfInBounds_toArray,List.set_cons_zero,List.set_cons_succ])
        refine wpU_take (i:=4) (oi:=_) (v:=.pointer (some ⟨gl,ol+i,none⟩)) (b:=false) rfl (by kernel_rfl) (by kernel_rfl) (by kernel_rfl) (by decide) (fun _ _ _ h=>h) (Or.inl ⟨by rfl,?_⟩) (by kernel_rfl) (by assumption) ?_
        ·intro u' hSu
         (try simp only[List.getElem_toArray,List.getElem_cons_zero,List.getElem_cons_succ])
         go_simp
        (try simp only[List.getElem_toArray,List.getElem_cons_zero,List.getElem_cons_succ])
        (try simp only[Act.put,List.setIfInBounds_toArray,List.set_cons_zero,List.set_cons_succ])
        refine wpU_take (i:=5) (oi:=_) (v:=.int .i64 (li:Nat)) (b:=false) rfl (by kernel_rfl) (by kernel_rfl) (by kernel_rfl) (by decide) (fun _ _ _ h=>h) (Or.inl ⟨by rfl,?_⟩) (by kernel_rfl) (by assumption) ?_
        ·intro u' hSu
         (try simp only[List.getElem_toArray,List.getElem_cons_zero,List.getElem_cons_succ])
         obtain⟨_,⟨s0,s1,s2,s3,s4,s5⟩,_⟩:=hSu
         go_simp
        (try simp only[List.getElem_toArray,List.getElem_cons_zero,List.getElem_cons_succ])
        (try simp only[Act.put,List.setIfInBounds_toArray,List.set_cons_zero,List.set_cons_succ])
        refine wpU_take (i:=6) (oi:=_) (v:=.pointer (some ⟨ga,oa+li,none⟩)) (b:=false) rfl (by kernel_rfl) (by kernel_rfl) (by kernel_rfl) (by decide) (fun _ _ _ h=>h) (Or.inl ⟨by rfl,?_⟩) (by kernel_rfl) (by assumption) ?_
        ·intro u' hSu
         (try simp only[List.getElem_toArray,List.getElem_cons_zero,List.getElem_cons_succ])
         go_simp
        (try simp only[List.getElem_toArray,List.getElem_cons_zero,List.getElem_cons_succ])
        (try simp only[Act.put,List.setIfInBounds_toArray,List.set_cons_zero,List.set_cons_succ])
        refine wpU_take (i:=7) (oi:=_) (v:=.slice (some ⟨gr,or_,none⟩) N cr) (b:=false) rfl (by kernel_rfl) (by kernel_rfl) (by kernel_rfl) (by decide) (fun _ _ _ h=>h) (Or.inl ⟨by rfl,?_⟩) (by kernel_rfl) (by assumption) ?_
        ·intro u' hSu
         (try simp only[List.getElem_toArray,List.getElem_cons_zero,List.getElem_cons_succ])
         obtain⟨_,⟨s0,s1,s2,s3,s4,s5⟩,_⟩:=hSu
         go_simp
        (try simp only[List.getElem_toArray,List.getElem_cons_zero,List.getElem_cons_succ])
        (try simp only[Act.put,List.setIfInBounds_toArray,List.set_cons_zero,List.set_cons_succ])
        refine wpU_take (i:=8) (oi:=_) (v:=.slice (some ⟨gl,ol,none⟩) n cl) (b:=false) rfl (by kernel_rfl) (by kernel_rfl) (by kernel_rfl) (by decide) (fun _ _ _ h=>h) (Or.inl ⟨by rfl,?_⟩) (by kernel_rfl) (by assumption) ?_
        ·intro u' hSu
         (try simp only[List.getElem_toArray,List.getElem_cons_zero,List.getElem_cons_succ])
         go_simp
        (try simp only[List.getElem_toArray,List.getElem_cons_zero,List.getElem_cons_succ])
        (try simp only[Act.put,List.setIfInBounds_toArray,List.set_cons_zero,List.set_cons_succ])
        refine wpU_take (i:=9) (oi:=_) (v:=.int .i64 (i:Nat)) (b:=false) rfl (by kernel_rfl) (by kernel_rfl) (by kernel_rfl) (by decide) (fun _ _ _ h=>h) (Or.inl ⟨by rfl,?_⟩) (by kernel_rfl) (by assumption) ?_
        ·intro u' hSu
         (try simp only[List.getElem_toArray,List.getElem_cons_zero,List.getElem_cons_succ])
         go_simp
        (try simp only[List.getElem_toArray,List.getElem_cons_zero,List.getElem_cons_succ])
        (try simp only[Act.put,List.setIfInBounds_toArray,List.set_cons_zero,List.set_cons_succ])
        refine wpU_take (i:=10) (oi:=_) (v:=.pointer (some ⟨gl,ol+i,none⟩)) (b:=false) rfl (by kernel_rfl) (by kernel_rfl) (by kernel_rfl) (by decide) (fun _ _ _ h=>h) (Or.inl ⟨by rfl,?_⟩) (by kernel_rfl) (by assumption) ?_
        ·intro u' hSu
         (try simp only[List.getElem_toArray,List.getElem_cons_zero,List.getElem_cons_succ])
         go_simp
        (try simp only[List.getElem_toArray,List.getElem_cons_zero,List.getElem_cons_succ])
        (try simp only[Act.put,List.setIfInBounds_toArray,List.set_cons_zero,List.set_cons_succ])
        refine wpU_take (i:=11) (oi:=_) (v:=.int .i64 (li:Nat)) (b:=false) rfl (by kernel_rfl) (by kernel_rfl) (by kernel_rfl) (by decide) (fun _ _ _ h=>h) (Or.inl ⟨by rfl,?_⟩) (by kernel_rfl) (by assumption) ?_
        ·intro u' hSu
         (try simp only[List.getElem_toArray,List.getElem_cons_zero,List.getElem_cons_succ])
         obtain⟨_,⟨s0,s1,s2,s3,s4,s5⟩,_⟩:=hSu
         go_simp
        (try simp only[List.getElem_toArray,List.getElem_cons_zero,List.getElem_cons_succ])
        (try simp only[Act.put,List.setIfInBounds_toArray,List.set_cons_zero,List.set_cons_succ])
        refine wpU_take (i:=12) (oi:=_) (v:=.pointer (some ⟨gr,or_+li*3,none⟩)) (b:=false) rfl (by kernel_rfl) (by kernel_rfl) (by kernel_rfl) (by decide) (fun _ _ _ h=>h) (Or.inl ⟨by rfl,?_⟩) (by kernel_rfl) (by assumption) ?_
        ·intro u' hSu
         (try simp only[List.getElem_toArray,List.getElem_cons_zero,List.getElem_cons_succ])
         go_simp
        (try simp only[List.getElem_toArray,List.getElem_cons_zero,List.getElem_cons_succ])
        (try simp only[Act.put,List.setIfInBounds_toArray,List.set_cons_zero,List.set_cons_succ])
        refine wpU_take (i:=13) (oi:=_) (v:=.agg #[.bool an,.string ax,.string ay]) (b:=false) rfl (by kernel_rfl) (by kernel_rfl) (by kernel_rfl) (by decide) (fun _ _ _ h=>h) (Or.inl ⟨by rfl,?_⟩) (by kernel_rfl) (by assumption) ?_
        ·intro u' hSu
         (try simp only[List.getElem_toArray,List.getElem_cons_zero,List.getElem_cons_succ])
         obtain⟨_,⟨s0,s1,s2,s3,s4,s5⟩,_⟩:=hSu
         go_simp
        (try simp only[List.getElem_toArray,List.getElem_cons_zero,List.getElem_cons_succ])
        (try simp only[Act.put,List.setIfInBounds_toArray,List.set_cons_zero,List.set_cons_succ])
        refine wpU_ahead (i:=0) (oi:=_) (v:=.agg #[.bool (qF (1)).1,.string (qF (1)).2.1,.string (qF (1)).2.2]) rfl (by kernel_rfl) (by kernel_rfl) (by kernel_rfl) (by decide) rfl (by kernel_rfl) (fun _ _ _ h=>h) (Or.inl ⟨by rfl,?_⟩) (by kernel_rfl) (by assumption) ?_
        ·intro u' hSu
         (try simp only[List.getElem_toArray,List.getElem_cons_zero])
         obtain⟨_,s99⟩:=hSu
         obtain⟨s97,s98,s99⟩:=s99 rfl
         go_simp
        (try simp only[List.getElem_toArray,List.getElem_cons_zero])
        (try simp only[Act.put,List.setIfInBounds_toArray,List.set_cons_zero,List.set_cons_succ])
        refine wpU_ready (rs:=[14]) (by kernel_rfl) (by simp) (AllU.cons (b:=false) rfl (by kernel_rfl) ?_ (AllU.nil))
        ·intro K' hK'
         (try simp only[List.getElem_toArray,List.getElem_cons_zero,List.getElem_cons_succ])
         go_simp
         refine(HSU.out _).mono ?_
         rintro e u3 ⟨rfl,hb⟩
         replace HX:=hid (HX.out.below hb HX.out.lt)
         replace HB:=hid (HB.out.trans (hb.mono (Nat.le_trans HGV.out HB.out.size)))
         refine hK'.out _ _ ⟨HELD.out _ HB.out,fun _=>HX.out.trio⟩ (fun hSe=>?_)
         clear hK' K' hSd
         have hSd:=hSe
         clear hSe
         clear hb
         (try simp only[List.getElem_toArray,List.getElem_cons_zero,List.getElem_cons_succ])
         (try simp only[Act.put,List.setIfInBounds_toArray,List.set_cons_zero,List.set_cons_succ])
         obtain⟨q0,q1,q2⟩:=HX.out.trio
         have q3:=HX.out.fz 0
         have q4:=HX.out.fz 1
         have q5:=HX.out.fz 2
         refine wpU_ready (rs:=[15]) (by kernel_rfl) (by simp) (AllU.cons (b:=true) rfl (by kernel_rfl) ?_ (AllU.nil))
         ·intro K' hK'
          (try simp only[List.getElem_toArray,List.getElem_cons_zero,List.getElem_cons_succ])
          go_simp
          have HXN:=hid (HX.out.put (qF (mq)).1 (qF (mq)).2.1 (qF (mq)).2.2)
          have HBN:=hid (((HB.out.setCell (p:=⟨gB,0,none⟩) (Nat.le_refl _) (.bool (qF (mq)).1)).setCell (p:=⟨gB,1,none⟩) (Nat.le_refl _) (.string (qF (mq)).2.1)).setCell (p:=⟨gB,2,none⟩) (Nat.le_refl _) (.string (qF (mq)).2.2))
          refine hK'.out _ _ ⟨HELD.out _ HBN.out,fun e=>by cases e⟩ (fun _=>wpU_done (by kernel_rfl) ?_ _)
          clear hK' K' hSd q0 q1 q2 q3 q4 q5 HX HB
          clear HELD
          go_upto_region 28 with fail
          generalize (((u3.setCell ⟨gB,0,none⟩ (.bool (qF (mq)).1)).setCell ⟨gB,1,none⟩ (.string (qF (mq)).2.1)).setCell ⟨gB,2,none⟩ (.string (qF (mq)).2.2))=V3 at *
          obtain⟨k0,k1,k2⟩:=HXN.out.trio
          have hAL:=(Below.refl V3.heap.size V3).alloc (Nat.le_refl _) (FC (qF (mq)).1 (qF (mq)).2.1 (qF (mq)).2.2)
          have HC1:=hid (Box.new V3 (qF (mq)).1 (qF (mq)).2.1 (qF (mq)).2.2)
          have HRB:=hid (HRV.out.below (HGE2.out▸HBN.out))
          have HBB:=hid (HBV.out.trans (HBN.out.mono HWG.out))
          have HR4:=hid (HRB.out.below hAL)
          have HB4:=hid (HBB.out.trans (hAL.mono HBB.out.size))
          clear hAL HXN HBN HRB HBB
          go_wp2_with (at_builtin;refine wpList_append_fr rfl _ _ rfl V9.heap.size (.slice dv nv cv) L0 (qF (mq)) rfl HR4.out V3.heap.size rfl HC1.out HLN.out HB4.out.size ?_;intro v5 w5 hr5 hg5;have HR5:Hid (RwF w5 V9.heap.size v5 (lF (i+1) (mN X l i))):=(by rw[HSN.out];exact hr5);have HB5:=hid (HB4.out.grown hg5 HB4.out.size (fun k e=>HR4.out.own k e)))
          go_roundw
          case rel=>exact⟨i+1,by omega,by go_num,HR5,HB5⟩
          case measure=>simp[intOf];omega
       ·have HSU:Hid (∀U:World,Calls Tryz.prog 54 #[.agg #[.bool (qF (0)).1,.string (qF (0)).2.1,.string (qF (0)).2.2],.agg #[.bool an,.string ax,.string ay]] U fun e w'=>e=.returned (.agg #[.bool (qF (mq)).1,.string (qF (mq)).2.1,.string (qF (mq)).2.2])∧Below U.heap.size U w'):=fun U=>by
         have h9:=HSU0.out U
         rw[HMQ0.out hik] at h9
         exact h9
        clear HSU1 HSU0 HMQ1 HMQ0
        have hik2:¬(i:Int)=(k:Int):=by omega
        clear hik HLK
        have HX:=HX0
        have HB:=HB0
        clear HX0 HB0
        go_upto_region 27 with fail
        try simp only[hgB]
        clear hgB
        generalize (V0.alloc (FC (sgn 0) (nu 0) (de 0)))=w9 at *
        go_upto_region 27 with fail
        replace HX:=hid HX.out.drew
        replace HB:=hid HB.out.drew
        refine wp_region_until 15 (fun (b:Bool) (u:World)=>(u.cell? ⟨gl,ol+i,none⟩=some (.int .i64 (li:Nat))∧u.cell? ⟨ga,oa+li,none⟩=some (.slice (some ⟨gr,or_,none⟩) N cr)∧u.cell? ⟨gl,ol+k,none⟩=some (.int .i64 (lk:Nat))∧u.cell? ⟨gr,or_+lk*3,none⟩=some (.bool an)∧u.cell? ⟨gr,or_+lk*3+1,none⟩=some (.string ax)∧u.cell? ⟨gr,or_+lk*3+2,none⟩=some (.string ay))∧(b=false→(u.cell? ⟨gB,0,none⟩=some (.bool (qF (0)).1)∧u.cell? ⟨gB,1,none⟩=some (.string (qF (0)).2.1)∧u.cell? ⟨gB,2,none⟩=some (.string (qF (0)).2.2)))) (by kernel_rfl) ⟨HELD.out _ HB.out,fun _=>HX.out.trio⟩ (fun hSd=>?_)
        generalize w9.drew=u0 at *
        refine wpU_take (i:=1) (oi:=_) (v:=.slice (some ⟨ga,oa,none⟩) N ca) (b:=false) rfl (by kernel_rfl) (by kernel_rfl) (by kernel_rfl) (by decide) (fun _ _ _ h=>h) (Or.inl ⟨by rfl,?_⟩) (by kernel_rfl) (by assumption) ?_
        ·intro u' hSu
         (try simp only[List.getElem_toArray,List.getElem_cons_zero,List.getElem_cons_succ])
         go_simp
        (try simp only[List.getElem_toArray,List.getElem_cons_zero,List.getElem_cons_succ])
        (try simp only[Act.put,List.setIfInBounds_toArray,List.set_cons_zero,List.set_cons_succ])
        refine wpU_take (i:=2) (oi:=_) (v:=.slice (some ⟨gl,ol,none⟩) n cl) (b:=false) rfl (by kernel_rfl) (by kernel_rfl) (by kernel_rfl) (by decide) (fun _ _ _ h=>h) (Or.inl ⟨by rfl,?_⟩) (by kernel_rfl) (by assumption) ?_
        ·intro u' hSu
         (try simp only[List.getElem_toArray,List.getElem_cons_zero,List.getElem_cons_succ])
         go_simp
        (try simp only[List.getElem_toArray,List.getElem_cons_zero,List.getElem_cons_succ])
        (try simp only[Act.put,List.setIfInBounds_toArray,List.set_cons_zero,List.set_cons_succ])
        refine wpU_take (i:=3) (oi:=_) (v:=.int .i64 (i:Nat)) (b:=false) rfl (by kernel_rfl) (by kernel_rfl) (by kernel_rfl) (by decide) (fun _ _ _ h=>h) (Or.inl ⟨by rfl,?_⟩) (by kernel_rfl) (by assumption) ?_
        ·intro u' hSu
         (try simp only[List.getElem_toArray,List.getElem_cons_zero,List.getElem_cons_succ])
         go_simp
        (try simp only[List.getElem_toArray,List.getElem_cons_zero,List.getElem_cons_succ])
        (try simp only[Act.put,List.setIfInBounds_toArray,List.set_cons_zero,List.set_cons_succ])
        refine wpU_take (i:=4) (oi:=_) (v:=.pointer (some ⟨gl,ol+i,none⟩)) (b:=false) rfl (by kernel_rfl) (by kernel_rfl) (by kernel_rfl) (by decide) (fun _ _ _ h=>h) (Or.inl ⟨by rfl,?_⟩) (by kernel_rfl) (by assumption) ?_
        ·intro u' hSu
         (try simp only[List.getElem_toArray,List.getElem_cons_zero,List.getElem_cons_succ])
         go_simp
        (try simp only[List.getElem_toArray,List.getElem_cons_zero,List.getElem_cons_succ])
        (try simp only[Act.put,List.setIfInBounds_toArray,List.set_cons_zero,List.set_cons_succ])
        refine wpU_take (i:=5) (oi:=_) (v:=.int .i64 (li:Nat)) (b:=false) rfl (by kernel_rfl) (by kernel_rfl) (by kernel_rfl) (by decide) (fun _ _ _ h=>h) (Or.inl ⟨by rfl,?_⟩) (by kernel_rfl) (by assumption) ?_
        ·intro u' hSu
         (try simp only[List.getElem_toArray,List.getElem_cons_zero,List.getElem_cons_succ])
         obtain⟨_,⟨s0,s1,s2,s3,s4,s5⟩,_⟩:=hSu
         go_simp
        (try simp only[List.getElem_toArray,List.getElem_cons_zero,List.getElem_cons_succ])
        (try simp only[Act.put,List.setIfInBounds_toArray,List.set_cons_zero,List.set_cons_succ])
        refine wpU_take (i:=6) (oi:=_) (v:=.pointer (some ⟨ga,oa+li,none⟩)) (b:=false) rfl (by kernel_rfl) (by kernel_rfl) (by kernel_rfl) (by decide) (fun _ _ _ h=>h) (Or.inl ⟨by rfl,?_⟩) (by kernel_rfl) (by assumption) ?_
        ·intro u' hSu
         (try simp only[List.getElem_toArray,List.getElem_cons_zero,List.getElem_cons_succ])
         go_simp
        (try simp only[List.getElem_toArray,List.getElem_cons_zero,List.getElem_cons_succ])
        (try simp only[Act.put,List.setIfInBounds_toArray,List.set_cons_zero,List.set_cons_succ])
        refine wpU_take (i:=7) (oi:=_) (v:=.slice (some ⟨gr,or_,none⟩) N cr) (b:=false) rfl (by kernel_rfl) (by kernel_rfl) (by kernel_rfl) (by decide) (fun _ _ _ h=>h) (Or.inl ⟨by rfl,?_⟩) (by kernel_rfl) (by assumption) ?_
        ·intro u' hSu
         (try simp only[List.getElem_toArray,List.getElem_cons_zero,List.getElem_cons_succ])
         obtain⟨_,⟨s0,s1,s2,s3,s4,s5⟩,_⟩:=hSu
         go_simp
        (try simp only[List.getElem_toArray,List.getElem_cons_zero,List.getElem_cons_succ])
        (try simp only[Act.put,List.setIfInBounds_toArray,List.set_cons_zero,List.set_cons_succ])
        refine wpU_take (i:=8) (oi:=_) (v:=.slice (some ⟨gl,ol,none⟩) n cl) (b:=false) rfl (by kernel_rfl) (by kernel_rfl) (by kernel_rfl) (by decide) (fun _ _ _ h=>h) (Or.inl ⟨by rfl,?_⟩) (by kernel_rfl) (by assumption) ?_
        ·intro u' hSu
         (try simp only[List.getElem_toArray,List.getElem_cons_zero,List.getElem_cons_succ])
         go_simp
        (try simp only[List.getElem_toArray,List.getElem_cons_zero,List.getElem_cons_succ])
        (try simp only[Act.put,List.setIfInBounds_toArray,List.set_cons_zero,List.set_cons_succ])
        refine wpU_take (i:=9) (oi:=_) (v:=.int .i64 (k:Nat)) (b:=false) rfl (by kernel_rfl) (by kernel_rfl) (by kernel_rfl) (by decide) (fun _ _ _ h=>h) (Or.inl ⟨by rfl,?_⟩) (by kernel_rfl) (by assumption) ?_
        ·intro u' hSu
         (try simp only[List.getElem_toArray,List.getElem_cons_zero,List.getElem_cons_succ])
         go_simp
        (try simp only[List.getElem_toArray,List.getElem_cons_zero,List.getElem_cons_succ])
        (try simp only[Act.put,List.setIfInBounds_toArray,List.set_cons_zero,List.set_cons_succ])
        refine wpU_take (i:=10) (oi:=_) (v:=.pointer (some ⟨gl,ol+k,none⟩)) (b:=false) rfl (by kernel_rfl) (by kernel_rfl) (by kernel_rfl) (by decide) (fun _ _ _ h=>h) (Or.inl ⟨by rfl,?_⟩) (by kernel_rfl) (by assumption) ?_
        ·intro u' hSu
         (try simp only[List.getElem_toArray,List.getElem_cons_zero,List.getElem_cons_succ])
         go_simp
        (try simp only[List.getElem_toArray,List.getElem_cons_zero,List.getElem_cons_succ])
        (try simp only[Act.put,List.setIfInBounds_toArray,List.set_cons_zero,List.set_cons_succ])
        refine wpU_take (i:=11) (oi:=_) (v:=.int .i64 (lk:Nat)) (b:=false) rfl (by kernel_rfl) (by kernel_rfl) (by kernel_rfl) (by decide) (fun _ _ _ h=>h) (Or.inl ⟨by rfl,?_⟩) (by kernel_rfl) (by assumption) ?_
        ·intro u' hSu
         (try simp only[List.getElem_toArray,List.getElem_cons_zero,List.getElem_cons_succ])
         obtain⟨_,⟨s0,s1,s2,s3,s4,s5⟩,_⟩:=hSu
         go_simp
        (try simp only[List.getElem_toArray,List.getElem_cons_zero,List.getElem_cons_succ])
        (try simp only[Act.put,List.setIfInBounds_toArray,List.set_cons_zero,List.set_cons_succ])
        refine wpU_take (i:=12) (oi:=_) (v:=.pointer (some ⟨gr,or_+lk*3,none⟩)) (b:=false) rfl (by kernel_rfl) (by kernel_rfl) (by kernel_rfl) (by decide) (fun _ _ _ h=>h) (Or.inl ⟨by rfl,?_⟩) (by kernel_rfl) (by assumption) ?_
        ·intro u' hSu
         (try simp only[List.getElem_toArray,List.getElem_cons_zero,List.getElem_cons_succ])
         go_simp
        (try simp only[List.getElem_toArray,List.getElem_cons_zero,List.getElem_cons_succ])
        (try simp only[Act.put,List.setIfInBounds_toArray,List.set_cons_zero,List.set_cons_succ])
        refine wpU_take (i:=13) (oi:=_) (v:=.agg #[.bool an,.string ax,.string ay]) (b:=false) rfl (by kernel_rfl) (by kernel_rfl) (by kernel_rfl) (by decide) (fun _ _ _ h=>h) (Or.inl ⟨by rfl,?_⟩) (by kernel_rfl) (by assumption) ?_
        ·intro u' hSu
         (try simp only[List.getElem_toArray,List.getElem_cons_zero,List.getElem_cons_succ])
         obtain⟨_,⟨s0,s1,s2,s3,s4,s5⟩,_⟩:=hSu
         go_simp
        (try simp only[List.getElem_toArray,List.getElem_cons_zero,List.getElem_cons_succ])
        (try simp only[Act.put,List.setIfInBounds_toArray,List.set_cons_zero,List.set_cons_succ])
        refine wpU_ahead (i:=0) (oi:=_) (v:=.agg #[.bool (qF (0)).1,.string (qF (0)).2.1,.string (qF (0)).2.2]) rfl (by kernel_rfl) (by kernel_rfl) (by kernel_rfl) (by decide) rfl (by kernel_rfl) (fun _ _ _ h=>h) (Or.inl ⟨by rfl,?_⟩) (by kernel_rfl) (by assumption) ?_
        ·intro u' hSu
         (try simp only[List.getElem_toArray,List.getElem_cons_zero])
         obtain⟨_,s99⟩:=hSu
         obtain⟨s97,s98,s99⟩:=s99 rfl
         go_simp
        (try simp only[List.getElem_toArray,List.getElem_cons_zero])
        (try simp only[Act.put,List.setIfInBounds_toArray,List.set_cons_zero,List.set_cons_succ])
        refine wpU_ready (rs:=[14]) (by kernel_rfl) (by simp) (AllU.cons (b:=false) rfl (by kernel_rfl) ?_ (AllU.nil))
        ·intro K' hK'
         (try simp only[List.getElem_toArray,List.getElem_cons_zero,List.getElem_cons_succ])
         go_simp
         refine(HSU.out _).mono ?_
         rintro e u3 ⟨rfl,hb⟩
         replace HX:=hid (HX.out.below hb HX.out.lt)
         replace HB:=hid (HB.out.trans (hb.mono (Nat.le_trans HGV.out HB.out.size)))
         refine hK'.out _ _ ⟨HELD.out _ HB.out,fun _=>HX.out.trio⟩ (fun hSe=>?_)
         clear hK' K' hSd
         have hSd:=hSe
         clear hSe
         clear hb
         (try simp only[List.getElem_toArray,List.getElem_cons_zero,List.getElem_cons_succ])
         (try simp only[Act.put,List.setIfInBounds_toArray,List.set_cons_zero,List.set_cons_succ])
         obtain⟨q0,q1,q2⟩:=HX.out.trio
         have q3:=HX.out.fz 0
         have q4:=HX.out.fz 1
         have q5:=HX.out.fz 2
         refine wpU_ready (rs:=[15]) (by kernel_rfl) (by simp) (AllU.cons (b:=true) rfl (by kernel_rfl) ?_ (AllU.nil))
         ·intro K' hK'
          (try simp only[List.getElem_toArray,List.getElem_cons_zero,List.getElem_cons_succ])
          go_simp
          have HXN:=hid (HX.out.put (qF (mq)).1 (qF (mq)).2.1 (qF (mq)).2.2)
          have HBN:=hid (((HB.out.setCell (p:=⟨gB,0,none⟩) (Nat.le_refl _) (.bool (qF (mq)).1)).setCell (p:=⟨gB,1,none⟩) (Nat.le_refl _) (.string (qF (mq)).2.1)).setCell (p:=⟨gB,2,none⟩) (Nat.le_refl _) (.string (qF (mq)).2.2))
          refine hK'.out _ _ ⟨HELD.out _ HBN.out,fun e=>by cases e⟩ (fun _=>wpU_done (by kernel_rfl) ?_ _)
          clear hK' K' hSd q0 q1 q2 q3 q4 q5 HX HB
          clear HELD
          go_upto_region 28 with fail
          generalize (((u3.setCell ⟨gB,0,none⟩ (.bool (qF (mq)).1)).setCell ⟨gB,1,none⟩ (.string (qF (mq)).2.1)).setCell ⟨gB,2,none⟩ (.string (qF (mq)).2.2))=V3 at *
          obtain⟨k0,k1,k2⟩:=HXN.out.trio
          have hAL:=(Below.refl V3.heap.size V3).alloc (Nat.le_refl _) (FC (qF (mq)).1 (qF (mq)).2.1 (qF (mq)).2.2)
          have HC1:=hid (Box.new V3 (qF (mq)).1 (qF (mq)).2.1 (qF (mq)).2.2)
          have HRB:=hid (HRV.out.below (HGE2.out▸HBN.out))
          have HBB:=hid (HBV.out.trans (HBN.out.mono HWG.out))
          have HR4:=hid (HRB.out.below hAL)
          have HB4:=hid (HBB.out.trans (hAL.mono HBB.out.size))
          clear hAL HXN HBN HRB HBB
          go_wp2_with (at_builtin;refine wpList_append_fr rfl _ _ rfl V9.heap.size (.slice dv nv cv) L0 (qF (mq)) rfl HR4.out V3.heap.size rfl HC1.out HLN.out HB4.out.size ?_;intro v5 w5 hr5 hg5;have HR5:Hid (RwF w5 V9.heap.size v5 (lF (k+1) (mN X l i))):=(by rw[HSN.out];exact hr5);have HB5:=hid (HB4.out.grown hg5 HB4.out.size (fun k e=>HR4.out.own k e)))
          go_roundw
          case rel=>exact⟨k+1,by omega,by go_num,HR5,HB5⟩
          case measure=>simp[intOf];omega
      ·obtain rfl:n=k:=by omega
       obtain⟨g6,c6,hv6⟩:=rwF_some HRW.out (lF_length _ _) h1n
       subst hv6
       obtain⟨SQ,hSQ⟩:∃SQ:Nat→Rat,SQ=fun k=>lsm (rowQ X (l.getD i 0)) (S.take k):=⟨_,rfl⟩
       have HSQ:Hid (∀k,SQ k=lsm (rowQ X (l.getD i 0)) (S.take k)):=fun k=>by rw[hSQ]
       have hli9:=HLNN.out i hli
       have HSL:Hid (∀k,Fits 701 (SQ k)):=fun k=>by rw[hSQ];exact HLNG.out _ hli9 k
       have HSQ0:Hid (SQ 0=0):=by show _=_;rw[hSQ];rfl
       clear hSQ
       go_wp2_with fail
       refine(HO0.out _).mono ?_
       rintro e V0 ⟨rfl,hbv⟩
       have HBV:=hid (HBR.out.trans (hbv.mono HBR.out.size))
       have HRV:=hid (HRW.out.below hbv)
       have hA:=(Below.refl V0.heap.size V0).alloc (Nat.le_refl _) (FC (sgn 0) (nu 0) (de 0))
       have HX0:Hid (Box (V0.alloc (FC (sgn 0) (nu 0) (de 0))) V0.heap.size (qF (SQ 0)).1 (qF (SQ 0)).2.1 (qF (SQ 0)).2.2):=by show Box _ _ _ _ _;rw[HSQ0.out];exact Box.new V0 (sgn 0) (nu 0) (de 0)
       have HB0:=hid hA
       clear hbv hA HRW HBR
       go_wp2_with fail
       generalize (V0.alloc (FC (sgn 0) (nu 0) (de 0)))=V1 at *
       obtain⟨gB,hgB⟩:∃x,V0.heap.size=x:=⟨_,rfl⟩
       rw[hgB] at HX0 HB0
       have HGE2:=hid hgB
       have HGV:Hid (gB≤V0.heap.size):=Nat.le_of_eq hgB.symm
       have HWG:Hid (V9.heap.size≤gB):=by rw[←hgB];exact HBV.out.size
       simp only[hgB]
       clear hgB
       go_loopw [19] (fun kv wr=>∃k:Nat,k≤S.length∧kv=.int .i64 k∧Hid (Box wr gB (qF (SQ k)).1 (qF (SQ k)).2.1 (qF (SQ k)).2.2)∧Hid (Below gB V0 wr)) (fun kv _=>S.length - (intOf kv).toNat)
       case atStart=>exact⟨0,Nat.zero_le _,rfl,HX0,HB0⟩
       case round=>
        clear HX0 HB0
        obtain⟨k,hk,rfl,HX,HB⟩:=hrel
        by_cases hlk:k<S.length
        ·obtain⟨gt,ot,hbe,hgt,t0⟩:=ints_at HIS.out hlk
         subst hbe
         have hsk:=HSN.out (S.getD k 0) (getD_mem hlk)
         have HIE:=hid (HLC.out i hli)
         have hliN:=HLNN.out i hli
         have HSS:Hid (SQ (k+1)=SQ k+frQ (X (l.getD i 0) (S.getD k 0))):=by
          show _=_
          rw[HSQ.out,HSQ.out,lsm_take hlk]
          rfl
         obtain⟨li,hlie⟩:∃x,l.getD i 0=x:=⟨_,rfl⟩
         rw[hlie] at HIE hliN HSS
         obtain⟨lk,hlke⟩:∃x,S.getD k 0=x:=⟨_,rfl⟩
         rw[hlke] at t0 hsk HSS
         clear hlie hlke
         obtain⟨ga,oa,gr,or_,cr,hae,hga,hgr,x0,x1,x2,x3⟩:=(HR.out w (Below.refl _ _)).at hliN hsk
         subst hae
         have HAD:Hid (∀U:World,Calls Tryz.prog 55 #[.agg #[.bool (qF (SQ k)).1,.string (qF (SQ k)).2.1,.string (qF (SQ k)).2.2],.agg #[.bool (X li lk).1,.string (X li lk).2.1,.string (X li lk).2.2]] U fun e w'=>e=.returned (.agg #[.bool (qF (SQ (k+1))).1,.string (qF (SQ (k+1))).2.1,.string (qF (SQ (k+1))).2.2])∧Below U.heap.size U w'):=fun U=>by
          have h9:=rAddFR (SQ k) (X li lk) U (by have:=fits_qw (HSL.out k);omega) (Nat.le_trans (HFEW.out li lk hliN hsk) (by decide))
          rw[←HSS.out] at h9
          exact h9
         clear HSS
         generalize X li lk=zz at *
         obtain⟨an,ax,ay⟩:=zz
         simp only at x1 x2 x3 HAD
         have HELD:Hid (∀u,Below gB V0 u→u.cell? ⟨gl,ol+i,none⟩=some (.int .i64 (li:Nat))∧u.cell? ⟨ga,oa+li,none⟩=some (.slice (some ⟨gr,or_,none⟩) N cr)∧u.cell? ⟨gt,ot+k,none⟩=some (.int .i64 (lk:Nat))∧u.cell? ⟨gr,or_+lk*3,none⟩=some (.bool an)∧u.cell? ⟨gr,or_+lk*3+1,none⟩=some (.string ax)∧u.cell? ⟨gr,or_+lk*3+2,none⟩=some (.string ay)):=fun u h0=>by
          have h:=HUP9.out u (HBV.out.trans (h0.mono HWG.out))
          exact⟨HIE.out u (HBB.out.trans ((HBV.out.trans (h0.mono HWG.out)).mono HBB.out.size)),(h.cell (p:=⟨ga,_,none⟩) hga).trans x0,(h.cell (p:=⟨gt,_,none⟩) hgt).trans t0,(h.cell (p:=⟨gr,_,none⟩) hgr).trans x1,(h.cell (p:=⟨gr,_,none⟩) hgr).trans x2,(h.cell (p:=⟨gr,_,none⟩) hgr).trans x3⟩
         clear x0 x1 x2 x3 t0
         go_upto_region 33 with fail
         replace HX:=hid HX.out.drew
         replace HB:=hid HB.out.drew
         refine wp_region_until 15 (fun (b:Bool) (u:World)=>(u.cell? ⟨gl,ol+i,none⟩=some (.int .i64 (li:Nat))∧u.cell? ⟨ga,oa+li,none⟩=some (.slice (some ⟨gr,or_,none⟩) N cr)∧u.cell? ⟨gt,ot+k,none⟩=some (.int .i64 (lk:Nat))∧u.cell? ⟨gr,or_+lk*3,none⟩=some (.bool an)∧u.cell? ⟨gr,or_+lk*3+1,none⟩=some (.string ax)∧u.cell? ⟨gr,or_+lk*3+2,none⟩=some (.string ay))∧(b=false→(u.cell? ⟨gB,0,none⟩=some (.bool (qF (SQ k)).1)∧u.cell? ⟨gB,1,none⟩=some (.string (qF (SQ k)).2.1)∧u.cell? ⟨gB,2,none⟩=some (.string (qF (SQ k)).2.2)))) (by kernel_rfl) ⟨HELD.out _ HB.out,fun _=>HX.out.trio⟩ (fun hSd=>?_)
         generalize wr.drew=u0 at *
         refine wpU_take (i:=1) (oi:=_) (v:=.slice (some ⟨ga,oa,none⟩) N ca) (b:=false) rfl (by kernel_rfl) (by kernel_rfl) (by kernel_rfl) (by decide) (fun _ _ _ h=>h) (Or.inl ⟨by rfl,?_⟩) (by kernel_rfl) (by assumption) ?_
         ·intro u' hSu
          (try simp only[List.getElem_toArray,List.getElem_cons_zero,List.getElem_cons_succ])
          go_simp
         (try simp only[List.getElem_toArray,List.getElem_cons_zero,List.getElem_cons_succ])
         (try simp only[Act.put,List.setIfInBounds_toArray,List.set_cons_zero,List.set_cons_succ])
         refine wpU_take (i:=2) (oi:=_) (v:=.slice (some ⟨gl,ol,none⟩) n cl) (b:=false) rfl (by kernel_rfl) (by kernel_rfl) (by kernel_rfl) (by decide) (fun _ _ _ h=>h) (Or.inl ⟨by rfl,?_⟩) (by kernel_rfl) (by assumption) ?_
         ·intro u' hSu
          (try simp only[List.getElem_toArray,List.getElem_cons_zero,List.getElem_cons_succ])
          go_simp
         (try simp only[List.getElem_toArray,List.getElem_cons_zero,List.getElem_cons_succ])
         (try simp only[Act.put,List.setIfInBounds_toArray,List.set_cons_zero,List.set_cons_succ])
         refine wpU_take (i:=3) (oi:=_) (v:=.int .i64 (i:Nat)) (b:=false) rfl (by kernel_rfl) (by kernel_rfl) (by kernel_rfl) (by decide) (fun _ _ _ h=>h) (Or.inl ⟨by rfl,?_⟩) (by kernel_rfl) (by assumption) ?_
         ·intro u' hSu
          (try simp only[List.getElem_toArray,List.getElem_cons_zero,List.getElem_cons_succ])
          go_simp
         (try simp only[List.getElem_toArray,List.getElem_cons_zero,List.getElem_cons_succ])
         (try simp only[Act.put,List.setIfInBounds_toArray,List.set_cons_zero,List.set_cons_succ])
         refine wpU_take (i:=4) (oi:=_) (v:=.pointer (some ⟨gl,ol+i,none⟩)) (b:=false) rfl (by kernel_rfl) (by kernel_rfl) (by kernel_rfl) (by decide) (fun _ _ _ h=>h) (Or.inl ⟨by rfl,?_⟩) (by kernel_rfl) (by assumption) ?_
         ·intro u' hSu
          (try simp only[List.getElem_toArray,List.getElem_cons_zero,List.getElem_cons_succ])
          go_simp
         (try simp only[List.getElem_toArray,List.getElem_cons_zero,List.getElem_cons_succ])
         (try simp only[Act.put,List.setIfInBounds_toArray,List.set_cons_zero,List.set_cons_succ])
         refine wpU_take (i:=5) (oi:=_) (v:=.int .i64 (li:Nat)) (b:=false) rfl (by kernel_rfl) (by kernel_rfl) (by kernel_rfl) (by decide) (fun _ _ _ h=>h) (Or.inl ⟨by rfl,?_⟩) (by kernel_rfl) (by assumption) ?_
         ·intro u' hSu
          (try simp only[List.getElem_toArray,List.getElem_cons_zero,List.getElem_cons_succ])
          obtain⟨_,⟨s0,s1,s2,s3,s4,s5⟩,_⟩:=hSu
          go_simp
         (try simp only[List.getElem_toArray,List.getElem_cons_zero,List.getElem_cons_succ])
         (try simp only[Act.put,List.setIfInBounds_toArray,List.set_cons_zero,List.set_cons_succ])
         refine wpU_take (i:=6) (oi:=_) (v:=.pointer (some ⟨ga,oa+li,none⟩)) (b:=false) rfl (by kernel_rfl) (by kernel_rfl) (by kernel_rfl) (by decide) (fun _ _ _ h=>h) (Or.inl ⟨by rfl,?_⟩) (by kernel_rfl) (by assumption) ?_
         ·intro u' hSu
          (try simp only[List.getElem_toArray,List.getElem_cons_zero,List.getElem_cons_succ])
          go_simp
         (try simp only[List.getElem_toArray,List.getElem_cons_zero,List.getElem_cons_succ])
         (try simp only[Act.put,List.setIfInBounds_toArray,List.set_cons_zero,List.set_cons_succ])
         refine wpU_take (i:=7) (oi:=_) (v:=.slice (some ⟨gr,or_,none⟩) N cr) (b:=false) rfl (by kernel_rfl) (by kernel_rfl) (by kernel_rfl) (by decide) (fun _ _ _ h=>h) (Or.inl ⟨by rfl,?_⟩) (by kernel_rfl) (by assumption) ?_
         ·intro u' hSu
          (try simp only[List.getElem_toArray,List.getElem_cons_zero,List.getElem_cons_succ])
          obtain⟨_,⟨s0,s1,s2,s3,s4,s5⟩,_⟩:=hSu
          go_simp
         (try simp only[List.getElem_toArray,List.getElem_cons_zero,List.getElem_cons_succ])
         (try simp only[Act.put,List.setIfInBounds_toArray,List.set_cons_zero,List.set_cons_succ])
         refine wpU_take (i:=8) (oi:=_) (v:=.slice (some ⟨gt,ot,none⟩) S.length cb) (b:=false) rfl (by kernel_rfl) (by kernel_rfl) (by kernel_rfl) (by decide) (fun _ _ _ h=>h) (Or.inl ⟨by rfl,?_⟩) (by kernel_rfl) (by assumption) ?_
         ·intro u' hSu
          (try simp only[List.getElem_toArray,List.getElem_cons_zero,List.getElem_cons_succ])
          go_simp
         (try simp only[List.getElem_toArray,List.getElem_cons_zero,List.getElem_cons_succ])
         (try simp only[Act.put,List.setIfInBounds_toArray,List.set_cons_zero,List.set_cons_succ])
         refine wpU_take (i:=9) (oi:=_) (v:=.int .i64 (k:Nat)) (b:=false) rfl (by kernel_rfl) (by kernel_rfl) (by kernel_rfl) (by decide) (fun _ _ _ h=>h) (Or.inl ⟨by rfl,?_⟩) (by kernel_rfl) (by assumption) ?_
         ·intro u' hSu
          (try simp only[List.getElem_toArray,List.getElem_cons_zero,List.getElem_cons_succ])
          go_simp
         (try simp only[List.getElem_toArray,List.getElem_cons_zero,List.getElem_cons_succ])
         (try simp only[Act.put,List.setIfInBounds_toArray,List.set_cons_zero,List.set_cons_succ])
         refine wpU_take (i:=10) (oi:=_) (v:=.pointer (some ⟨gt,ot+k,none⟩)) (b:=false) rfl (by kernel_rfl) (by kernel_rfl) (by kernel_rfl) (by decide) (fun _ _ _ h=>h) (Or.inl ⟨by rfl,?_⟩) (by kernel_rfl) (by assumption) ?_
         ·intro u' hSu
          (try simp only[List.getElem_toArray,List.getElem_cons_zero,List.getElem_cons_succ])
          go_simp
         (try simp only[List.getElem_toArray,List.getElem_cons_zero,List.getElem_cons_succ])
         (try simp only[Act.put,List.setIfInBounds_toArray,List.set_cons_zero,List.set_cons_succ])
         refine wpU_take (i:=11) (oi:=_) (v:=.int .i64 (lk:Nat)) (b:=false) rfl (by kernel_rfl) (by kernel_rfl) (by kernel_rfl) (by decide) (fun _ _ _ h=>h) (Or.inl ⟨by rfl,?_⟩) (by kernel_rfl) (by assumption) ?_
         ·intro u' hSu
          (try simp only[List.getElem_toArray,List.getElem_cons_zero,List.getElem_cons_succ])
          obtain⟨_,⟨s0,s1,s2,s3,s4,s5⟩,_⟩:=hSu
          go_simp
         (try simp only[List.getElem_toArray,List.getElem_cons_zero,List.getElem_cons_succ])
         (try simp only[Act.put,List.setIfInBounds_toArray,List.set_cons_zero,List.set_cons_succ])
         refine wpU_take (i:=12) (oi:=_) (v:=.pointer (some ⟨gr,or_+lk*3,none⟩)) (b:=false) rfl (by kernel_rfl) (by kernel_rfl) (by kernel_rfl) (by decide) (fun _ _ _ h=>h) (Or.inl ⟨by rfl,?_⟩) (by kernel_rfl) (by assumption) ?_
         ·intro u' hSu
          (try simp only[List.getElem_toArray,List.getElem_cons_zero,List.getElem_cons_succ])
          go_simp
         (try simp only[List.getElem_toArray,List.getElem_cons_zero,List.getElem_cons_succ])
         (try simp only[Act.put,List.setIfInBounds_toArray,List.set_cons_zero,List.set_cons_succ])
         refine wpU_take (i:=13) (oi:=_) (v:=.agg #[.bool an,.string ax,.string ay]) (b:=false) rfl (by kernel_rfl) (by kernel_rfl) (by kernel_rfl) (by decide) (fun _ _ _ h=>h) (Or.inl ⟨by rfl,?_⟩) (by kernel_rfl) (by assumption) ?_
         ·intro u' hSu
          (try simp only[List.getElem_toArray,List.getElem_cons_zero,List.getElem_cons_succ])
          obtain⟨_,⟨s0,s1,s2,s3,s4,s5⟩,_⟩:=hSu
          go_simp
         (try simp only[List.getElem_toArray,List.getElem_cons_zero,List.getElem_cons_succ])
         (try simp only[Act.put,List.setIfInBounds_toArray,List.set_cons_zero,List.set_cons_succ])
         refine wpU_ahead (i:=0) (oi:=_) (v:=.agg #[.bool (qF (SQ k)).1,.string (qF (SQ k)).2.1,.string (qF (SQ k)).2.2]) rfl (by kernel_rfl) (by kernel_rfl) (by kernel_rfl) (by decide) rfl (by kernel_rfl) (fun _ _ _ h=>h) (Or.inl ⟨by rfl,?_⟩) (by kernel_rfl) (by assumption) ?_
         ·intro u' hSu
          (try simp only[List.getElem_toArray,List.getElem_cons_zero])
          obtain⟨_,s99⟩:=hSu
          obtain⟨s97,s98,s99⟩:=s99 rfl
          go_simp
         (try simp only[List.getElem_toArray,List.getElem_cons_zero])
         (try simp only[Act.put,List.setIfInBounds_toArray,List.set_cons_zero,List.set_cons_succ])
         refine wpU_ready (rs:=[14]) (by kernel_rfl) (by simp) (AllU.cons (b:=false) rfl (by kernel_rfl) ?_ (AllU.nil))
         ·intro K' hK'
          (try simp only[List.getElem_toArray,List.getElem_cons_zero,List.getElem_cons_succ])
          go_simp
          refine(HAD.out _).mono ?_
          rintro e u3 ⟨rfl,hb⟩
          replace HX:=hid (HX.out.below hb HX.out.lt)
          replace HB:=hid (HB.out.trans (hb.mono (Nat.le_trans HGV.out HB.out.size)))
          refine hK'.out _ _ ⟨HELD.out _ HB.out,fun _=>HX.out.trio⟩ (fun hSe=>?_)
          clear hK' K' hSd
          have hSd:=hSe
          clear hSe
          clear hb
          (try simp only[List.getElem_toArray,List.getElem_cons_zero,List.getElem_cons_succ])
          (try simp only[Act.put,List.setIfInBounds_toArray,List.set_cons_zero,List.set_cons_succ])
          obtain⟨q0,q1,q2⟩:=HX.out.trio
          have q3:=HX.out.fz 0
          have q4:=HX.out.fz 1
          have q5:=HX.out.fz 2
          refine wpU_ready (rs:=[15]) (by kernel_rfl) (by simp) (AllU.cons (b:=true) rfl (by kernel_rfl) ?_ (AllU.nil))
          ·intro K' hK'
           (try simp only[List.getElem_toArray,List.getElem_cons_zero,List.getElem_cons_succ])
           go_simp
           have HXN:=hid (HX.out.put (qF (SQ (k+1))).1 (qF (SQ (k+1))).2.1 (qF (SQ (k+1))).2.2)
           have HBN:=hid (((HB.out.setCell (p:=⟨gB,0,none⟩) (Nat.le_refl _) (.bool (qF (SQ (k+1))).1)).setCell (p:=⟨gB,1,none⟩) (Nat.le_refl _) (.string (qF (SQ (k+1))).2.1)).setCell (p:=⟨gB,2,none⟩) (Nat.le_refl _) (.string (qF (SQ (k+1))).2.2))
           refine hK'.out _ _ ⟨HELD.out _ HBN.out,fun e=>by cases e⟩ (fun _=>wpU_done (by kernel_rfl) ?_ _)
           clear hK' K' hSd q0 q1 q2 q3 q4 q5 HX HB
           clear HELD
           go_wp2
           go_roundw
           case rel=>exact⟨k+1,by omega,by go_num,HXN,HBN⟩
           case measure=>simp[intOf];omega
        ·have hkS:k=S.length:=by omega
         have HSE:Hid (SQ k=bq i):=by
          show _=_
          rw[HSQ.out,HBE.out,hkS,List.take_length]
         clear hkS
         have HBW3:=hid (HBV.out.trans (HB.out.mono HWG.out))
         have HRW3:=hid (HRV.out.below (HGE2.out▸HB.out))
         obtain⟨k0,k1,k2⟩:=HX.out.trio
         have HO3:=hid (HO.out.below HBW3.out)
         have HQ3:=hid (HBQ.out.below HBW3.out)
         have HB3:=hid (HBB.out.trans (HBW3.out.mono HBB.out.size))
         have hAL:=(Below.refl wr.heap.size wr).alloc (Nat.le_refl _) (.cells #[.slice (some ⟨g6,0,none⟩) n c6] 23)
         have HC1:Hid ((wr.alloc (.cells #[.slice (some ⟨g6,0,none⟩) n c6] 23)).cell? ⟨wr.heap.size,0,none⟩=some (.slice (some ⟨g6,0,none⟩) n c6)):=by
          show _=_
          rw[cell_of_row _ _ _ _ _ (0,0) (heap_alloc_new wr _)]
          rfl
         have HO4:=hid (HO3.out.below hAL)
         have HQ4:=hid (HQ3.out.below hAL)
         have HX4:=hid (HX.out.below hAL HX.out.lt)
         have HB4:=hid (HB3.out.trans (hAL.mono HB3.out.size))
         have HRW4:=hid (HRW3.out.below hAL)
         have HA4:=hid (HRW4.out.lower HBB.out.size)
         have HAP4:=hid (HAP.out.push HBQ.out HRW4.out (Nat.le_refl _))
         have HL1:Hid (Ps.length+1≤100000):=by
          have h9:=congrArg List.length HP.out
          rw[List.length_map,List.length_map,List.length_range] at h9
          show _≤_
          omega
         have HL2:Hid ((lF i bq).length+1≤100000):=by show _≤_;rw[lF_length];omega
         have HSN2:Hid (lF (i+1) bq=lF i bq++[qF (SQ k)]):=by show _=_;rw[HSE.out];exact lF_snoc i _
         have HPN:Hid ((Ps++[((Value.slice (some ⟨g6,0,none⟩) n c6,lF n (mN X l i)):PR)]).map (·.2)=(List.range (i+1)).map fun t=>lF n (mN X l t)):=by
          show _=_
          rw[List.map_append,HP.out,List.range_succ,List.map_append]
          rfl
         clear hAL HO3 HQ3 HB3 HRW3 HBW3 HX HB HRV HBV HSE HSQ HSL HSQ0
         generalize SQ k=sq at *
         go_wp2_with (first
          |(at_builtin;refine wpList_append_fr1 rfl _ _ rfl wB.heap.size (.slice dq nq cq) (lF i bq) (qF sq) rfl HQ6.out w5.heap.size rfl HC6.out HL2.out HB6.out.size ?_;intro v7 w7 hr7 hg7 hn7;have HR7:Hid (RwF w7 wB.heap.size v7 (lF (i+1) bq)):=(by rw[HSN2.out];exact hr7);have HB7:=hid (HB6.out.grown hg7 HB6.out.size (fun k e=>HQ6.out.own k e));have HO7:=hid (HO6.out.beside HAP4.out HQ6.out hg7);have HAP7:=hid (HAP4.out.grow HO6.out hn7);clear hr7 hg7 hn7)
          |(at_builtin;refine wpList_append_rs rfl _ _ rfl wB.heap.size _ Ps (.slice (some ⟨g6,0,none⟩) n c6) ⟨_,_,_,rfl⟩ rfl HO4.out.1 wr.heap.size rfl HC1.out HL1.out HB4.out.size ?_;intro v5 w5 hr5 hg5;have HO5:=hid (HO4.out.push hr5 hg5 HA4.out);have HB5:=hid (HB4.out.grown hg5 HB4.out.size (fun k e=>owns_from HO4.out.1 k e));have HK5:Hid (KeepT 44 (wr.alloc (.cells #[.slice (some ⟨g6,0,none⟩) n c6] 23)) w5):=KeepT.grown hg5 (owns_typed HO4.out.1) (by decide);have HQ5:Hid (RwF w5 wB.heap.size (.slice dq nq cq) (lF i bq)):=owns_keep HQ4.out HK5.out;have HX5:Hid (Box w5 gB (qF (sq)).1 (qF (sq)).2.1 (qF (sq)).2.2):=HK5.out _ _ _ HX4.out;obtain⟨j0,j1,j2⟩:=HX5.out.trio;have hA6:=(Below.refl w5.heap.size w5).alloc (Nat.le_refl _) (FC (qF (sq)).1 (qF (sq)).2.1 (qF (sq)).2.2);have HC6:=hid (Box.new w5 (qF (sq)).1 (qF (sq)).2.1 (qF (sq)).2.2);have HQ6:=hid (HQ5.out.below hA6);have HO6:=hid (HO5.out.below hA6);have HB6:=hid (HB5.out.trans (hA6.mono HB5.out.size));clear hr5 hg5 hA6))
         go_roundw
         case rel=>exact⟨i+1,_,by omega,by go_num,HO7,HPN,HR7,HAP7,HB7⟩
         case measure=>simp[intOf];omega
    ·obtain rfl:n=i:=by omega
     obtain⟨dy,cy,hav,hfs⟩:=OwR.rows HO.out
     subst hav
     have hro:rOf Ps=mR n (mN X l):=HP.out
     rw[hro] at hfs
     rw[hro,mR_length]
     obtain⟨db,cb2,hbv,hbf⟩:=HBQ.out.fr
     subst hbv
     rw[lF_length]
     have hll:∀i,i<n→l.getD i 0<N:=HLNN.out
     have HSV:Hid (Calls Tryz.prog 56 #[.slice dy n cy,.slice db n cb2] wr fun e w'=>∃v,e=.returned v∧RwF w' wr.heap.size v (lF n fun k=>detQ n (putC (mN X l) k bq)/detQ n (mN X l))∧Below wr.heap.size wr w'):=by
      refine HSVD.out n (mN X l) bq dy db cy cb2 wr (by omega) (fun i j hi hj=>?_) (fun i j hi hj=>?_) (fun i hi=>?_) (fun i hi=>?_) HCRT.out hfs hbf
      ·exact(delta_whl T i j).sub (HWHL.out _ _ (hll i hi) (hll j hj))
      ·exact((delta_abs i j).sub (HCHN.out.abs (hll i hi) (hll j hj))).up (by decide)
      ·rw[HBE.out];exact lsm_whl fun x hx=>HWHL.out _ _ (hll i hi) (HSN.out x hx)
      ·rw[HBE.out];exact(lsm_abs fun x hx=>HCHN.out.abs (hll i hi) (HSN.out x hx)).up (by omega)
     obtain⟨xx,hxx⟩:∃xx:Nat→Rat,xx=fun k=>elm (hM (rowQ X) l S) n k n:=⟨_,rfl⟩
     have hxe:lF n (fun k=>detQ n (putC (mN X l) k bq)/detQ n (mN X l))=lF n xx:=lF_congr fun k hk=>by
      rw[hxx]
      have h9:=HCRM.out k hk
      have e9:bq=fun i=>lsm (rowQ X (l.getD i 0)) S:=funext HBE.out
      rw[e9]
      exact h9
     rw[hxe] at HSV
     rw[←hxx] at HHQ
     clear hxe hxx hro hfs hbf hll HO HP HBQ HAP HCRM HCRT HSVD HBE
     go_wp2_with fail
     refine HSV.out.mono ?_
     rintro e wX ⟨xv,rfl,hxr,hb⟩
     have HBX:=hid (HBB0.out.trans ((HBB.out.trans (hb.mono HBB.out.size)).mono HBB0.out.size))
     have HBXB:=hid (HBB.out.trans (hb.mono HBB.out.size))
     obtain⟨dx,cx,hxv,hxf⟩:=hxr.fr
     subst hxv
     rw[lF_length]
     have HXV:=hid hxf
     clear hxr hb HSV hxf HBB
     have HUPX:Hid (∀U:World,Below wX.heap.size wX U→Below wB.heap.size wB U):=fun U hU=>HBXB.out.trans (hU.mono HBXB.out.size)
     have HUPW:Hid (∀U:World,Below wX.heap.size wX U→Below w.heap.size w U):=fun U hU=>HBX.out.trans (hU.mono HBX.out.size)
     have HLZ:Hid (w.heap.size≤wX.heap.size):=HBX.out.size
     have HLC:Hid (∀k,k<n→∀U:World,Below wB.heap.size wB U→∃gl ol,dl0=some ⟨gl,ol,none⟩∧U.cell? ⟨gl,ol+k,none⟩=some (.int .i64 (l.getD k 0:Nat))):=fun k hk U hU=>by
      obtain⟨g,o,e,hg,c⟩:=ints_at HLI.out (show k<l.length by rw[HNL.out];exact hk)
      exact⟨g,o,e,(hU.cell (p:=⟨g,_,none⟩) hg).trans c⟩
     have HE0:Hid (RwF wX wX.heap.size (.slice none 0 0) (lF 0 hq)):=⟨rfl,.inl ⟨rfl,rfl⟩⟩
     have HZX:Hid (Below wX.heap.size wX wX):=Below.refl _ _
     go_wp2_with fail
     go_loopw [21,22] (fun ov iv wr=>∃i:Nat,i≤N∧iv=.int .i64 i∧Hid (RwF wr wX.heap.size ov (lF i hq))∧Hid (Below wX.heap.size wX wr)) (fun _ iv _=>N - (intOf iv).toNat)
     case atStart=>exact⟨0,Nat.zero_le _,rfl,HE0,HZX⟩
     case round=>
      clear HE0 HZX
      obtain⟨i,hi,rfl,HRW,HBR⟩:=hrel
      by_cases hliN:i<N
      ·obtain⟨dv,nv,cv,hlv⟩:=HRW.out.slv
       subst hlv
       have HSN2:Hid (lF (i+1) hq=lF i hq++[qF (hq i)]):=lF_snoc i _
       have HLN:Hid ((lF i hq).length+1≤100000):=by show _≤_;rw[lF_length];omega
       generalize (lF i hq)=L0 at *
       obtain⟨fv,hfv⟩:∃fv:Nat→Rat,fv=fun k=>if i∈S then 1 else sprQ l xx k i:=⟨_,rfl⟩
       have HFZ:Hid (fv n=hq i):=by show _=_;rw[HHQ.out,hfv]
       have HFS:Hid (∀k,k<n→fv (k+1)=if l.getD k 0=i then xx k else fv k):=fun k hk=>by
        rw[hfv]
        by_cases h:i∈S
        ·have hne:¬l.getD k 0=i:=fun e=>((HMEM.out _).1 (getD_mem (show k<l.length by rw[HNL.out];exact hk))).2.2 (by rw[e];exact h)
         simp only[if_pos h,if_neg hne]
        ·simp only[if_neg h]
         show (if i=l.getD k 0 then xx k else sprQ l xx k i)=_
         by_cases e:l.getD k 0=i
         ·rw[if_pos e.symm,if_pos e]
         ·rw[if_neg (Ne.symm e),if_neg e]
       have HF1:Hid (i∈S→fv 0=1):=fun h=>by rw[hfv];exact if_pos h
       have HF0:Hid (i∉S→fv 0=0):=fun h=>by rw[hfv];exact if_neg h
       clear hfv
       have HINI:Hid (∀U:World,Below w.heap.size w U→Calls Tryz.prog 39 #[.int .i64 (i:Nat),.slice b S.length cb] U fun e w'=>e=.returned (.bool (decide (i∈S)))∧w'=U):=fun U hU=>by
        have h:=rIn_any ((i:Nat):Int) b cb (iL S) U (HIS.out.below hU) (by rw[iL_length];omega)
        rw[inB_chn,iL_length] at h
        exact h
       obtain⟨ib,hib⟩:∃x,decide (i∈S)=x:=⟨_,rfl⟩
       rw[hib] at HINI
       have HIB:=hid hib
       clear hib
       go_wp2_with fail
       refine(HO0.out _).mono ?_
       rintro e V0 ⟨rfl,hbv⟩
       have HBV:=hid (HBR.out.trans (hbv.mono HBR.out.size))
       have HRV:=hid (HRW.out.below hbv)
       have hA:=(Below.refl V0.heap.size V0).alloc (Nat.le_refl _) (FC (sgn 0) (nu 0) (de 0))
       have HXZ:Hid (Box (V0.alloc (FC (sgn 0) (nu 0) (de 0))) V0.heap.size (qF (0)).1 (qF (0)).2.1 (qF (0)).2.2):=Box.new V0 (sgn 0) (nu 0) (de 0)
       have HBZ:=hid hA
       obtain⟨gB,hgB⟩:∃x,V0.heap.size=x:=⟨_,rfl⟩
       rw[hgB] at HXZ HBZ
       have HGE2:=hid hgB
       have HGV:Hid (gB≤V0.heap.size):=Nat.le_of_eq hgB.symm
       have HWG:Hid (wX.heap.size≤gB):=by rw[←hgB];exact HBV.out.size
       clear hbv hA HRW HBR
       have HINV:=hid (HINI.out _ (HUPW.out _ (HBV.out.trans (HBZ.out.mono HWG.out))))
       go_wp2_with fail
       refine HINV.out.mono ?_
       rintro e V9 ⟨rfl,rfl⟩
       clear HINV HINI
       simp only[hgB]
       clear hgB
       cases ib with
       |true=>
        have hF:=HF1.out (of_decide_eq_true HIB.out)
        go_wp2_with fail
        refine(HO1.out _).mono ?_
        rintro e V1 ⟨rfl,hb⟩
        have HX1:=hid (HXZ.out.below hb HXZ.out.lt)
        have HB1:=hid (HBZ.out.trans (hb.mono (Nat.le_trans HGV.out HBZ.out.size)))
        clear hb HXZ HBZ
        obtain⟨k0,k1,k2⟩:=HX1.out.trio
        have f0:=HX1.out.fz 0
        have f1:=HX1.out.fz 1
        have f2:=HX1.out.fz 2
        have HX0:Hid (Box (((V1.setCell ⟨gB,0,none⟩ (.bool (sgn 1))).setCell ⟨gB,1,none⟩ (.string (nu 1))).setCell ⟨gB,2,none⟩ (.string (de 1))) gB (qF (fv 0)).1 (qF (fv 0)).2.1 (qF (fv 0)).2.2):=by show Box _ _ _ _ _;rw[hF];exact HX1.out.put (sgn 1) (nu 1) (de 1)
        have HB0:=hid (((HB1.out.setCell (p:=⟨gB,0,none⟩) (Nat.le_refl _) (.bool (sgn 1))).setCell (p:=⟨gB,1,none⟩) (Nat.le_refl _) (.string (nu 1))).setCell (p:=⟨gB,2,none⟩) (Nat.le_refl _) (.string (de 1)))
        clear HX1 HB1 hF
        go_wp2_with fail
        clear k0 k1 k2 f0 f1 f2
        go_loopw [25] (fun kv wr=>∃k:Nat,k≤n∧kv=.int .i64 k∧Hid (Box wr gB (qF (fv k)).1 (qF (fv k)).2.1 (qF (fv k)).2.2)∧Hid (Below gB V0 wr)) (fun kv _=>n - (intOf kv).toNat)
        case atStart=>exact⟨0,Nat.zero_le _,rfl,HX0,HB0⟩
        case round=>
         clear HX0 HB0
         obtain⟨k,hk,rfl,HX,HB⟩:=hrel
         by_cases hlk:k<n
         ·have HWu:Hid (Below wX.heap.size wX wr):=HBV.out.trans (HB.out.mono HWG.out)
          obtain⟨gl,ol,hdl,c0⟩:=HLC.out k hlk wr (HUPX.out _ HWu.out)
          subst hdl
          have hfs:=HFS.out k hlk
          obtain⟨gx,ox,hxe,hgx,y0,y1,y2⟩:=(HXV.out.below HWu.out) k (by rw[lF_length];exact hlk)
          subst hxe
          rw[lF_get] at y0 y1 y2
          obtain⟨lk,hlke⟩:∃x,l.getD k 0=x:=⟨_,rfl⟩
          rw[hlke] at c0 hfs
          clear hlke
          by_cases hlki:lk=i
          ·rw[if_pos hlki] at hfs
           have HFN:Hid (fv (k+1)=xx k):=hfs
           have hl2:((lk:Nat):Int)=(i:Int):=by omega
           rw[hl2] at c0
           clear hfs hl2 hlki
           obtain⟨k0,k1,k2⟩:=HX.out.trio
           have f0:=HX.out.fz 0
           have f1:=HX.out.fz 1
           have f2:=HX.out.fz 2
           have HXN:Hid (Box (((wr.setCell ⟨gB,0,none⟩ (.bool (qF (xx k)).1)).setCell ⟨gB,1,none⟩ (.string (qF (xx k)).2.1)).setCell ⟨gB,2,none⟩ (.string (qF (xx k)).2.2)) gB (qF (fv (k+1))).1 (qF (fv (k+1))).2.1 (qF (fv (k+1))).2.2):=by show Box _ _ _ _ _;rw[HFN.out];exact HX.out.put (qF (xx k)).1 (qF (xx k)).2.1 (qF (xx k)).2.2
           have HBN:=hid (((HB.out.setCell (p:=⟨gB,0,none⟩) (Nat.le_refl _) (.bool (qF (xx k)).1)).setCell (p:=⟨gB,1,none⟩) (Nat.le_refl _) (.string (qF (xx k)).2.1)).setCell (p:=⟨gB,2,none⟩) (Nat.le_refl _) (.string (qF (xx k)).2.2))
           clear HX HB
           go_wp2
           go_roundw
           case rel=>exact⟨k+1,by omega,by go_num,HXN,HBN⟩
           case measure=>simp[intOf];omega
          ·rw[if_neg hlki] at hfs
           have hl2:¬((lk:Nat):Int)=(i:Int):=by omega
           have HXN:Hid (Box wr gB (qF (fv (k+1))).1 (qF (fv (k+1))).2.1 (qF (fv (k+1))).2.2):=by show Box _ _ _ _ _;rw[hfs];exact HX.out
           clear hfs hlki HX
           go_wp2
           go_roundw
           case rel=>exact⟨k+1,by omega,by go_num,HXN,HB⟩
           case measure=>simp[intOf];omega
         ·have HFE:Hid (fv k=hq i):=by
           show _=_
           rw[show k=n by omega]
           exact HFZ.out
          obtain⟨k0,k1,k2⟩:=HX.out.trio
          have hAL:=(Below.refl wr.heap.size wr).alloc (Nat.le_refl _) (FC (qF (fv k)).1 (qF (fv k)).2.1 (qF (fv k)).2.2)
          have HC1:=hid (Box.new wr (qF (fv k)).1 (qF (fv k)).2.1 (qF (fv k)).2.2)
          have HRB:=hid (HRV.out.below (HGE2.out▸HB.out))
          have HBB:=hid (HBV.out.trans (HB.out.mono HWG.out))
          have HR4:=hid (HRB.out.below hAL)
          have HB4:=hid (HBB.out.trans (hAL.mono HBB.out.size))
          clear hAL HX HB HRB HBB
          go_wp2_with (at_builtin;refine wpList_append_fr rfl _ _ rfl wX.heap.size (.slice dv nv cv) L0 (qF (fv k)) rfl HR4.out wr.heap.size rfl HC1.out HLN.out HB4.out.size ?_;intro v5 w5 hr5 hg5;have HR5:Hid (RwF w5 wX.heap.size v5 (lF (i+1) hq)):=(by rw[HSN2.out,←HFE.out];exact hr5);have HB5:=hid (HB4.out.grown hg5 HB4.out.size (fun k e=>HR4.out.own k e)))
          go_roundw
          case rel=>exact⟨i+1,by omega,by go_num,HR5,HB5⟩
          case measure=>simp[intOf];omega
       |false=>
        have hF:=HF0.out (of_decide_eq_false HIB.out)
        have HX0:Hid (Box (V0.alloc (FC (sgn 0) (nu 0) (de 0))) gB (qF (fv 0)).1 (qF (fv 0)).2.1 (qF (fv 0)).2.2):=by show Box _ _ _ _ _;rw[hF];exact HXZ.out
        have HB0:=HBZ
        clear HXZ HBZ hF
        go_wp2_with fail
        go_loopw [25] (fun kv wr=>∃k:Nat,k≤n∧kv=.int .i64 k∧Hid (Box wr gB (qF (fv k)).1 (qF (fv k)).2.1 (qF (fv k)).2.2)∧Hid (Below gB V0 wr)) (fun kv _=>n - (intOf kv).toNat)
        case atStart=>exact⟨0,Nat.zero_le _,rfl,HX0,HB0⟩
        case round=>
         clear HX0 HB0
         obtain⟨k,hk,rfl,HX,HB⟩:=hrel
         by_cases hlk:k<n
         ·have HWu:Hid (Below wX.heap.size wX wr):=HBV.out.trans (HB.out.mono HWG.out)
          obtain⟨gl,ol,hdl,c0⟩:=HLC.out k hlk wr (HUPX.out _ HWu.out)
          subst hdl
          have hfs:=HFS.out k hlk
          obtain⟨gx,ox,hxe,hgx,y0,y1,y2⟩:=(HXV.out.below HWu.out) k (by rw[lF_length];exact hlk)
          subst hxe
          rw[lF_get] at y0 y1 y2
          obtain⟨lk,hlke⟩:∃x,l.getD k 0=x:=⟨_,rfl⟩
          rw[hlke] at c0 hfs
          clear hlke
          by_cases hlki:lk=i
          ·rw[if_pos hlki] at hfs
           have HFN:Hid (fv (k+1)=xx k):=hfs
           have hl2:((lk:Nat):Int)=(i:Int):=by omega
           rw[hl2] at c0
           clear hfs hl2 hlki
           obtain⟨k0,k1,k2⟩:=HX.out.trio
           have f0:=HX.out.fz 0
           have f1:=HX.out.fz 1
           have f2:=HX.out.fz 2
           have HXN:Hid (Box (((wr.setCell ⟨gB,0,none⟩ (.bool (qF (xx k)).1)).setCell ⟨gB,1,none⟩ (.string (qF (xx k)).2.1)).setCell ⟨gB,2,none⟩ (.string (qF (xx k)).2.2)) gB (qF (fv (k+1))).1 (qF (fv (k+1))).2.1 (qF (fv (k+1))).2.2):=by show Box _ _ _ _ _;rw[HFN.out];exact HX.out.put (qF (xx k)).1 (qF (xx k)).2.1 (qF (xx k)).2.2
           have HBN:=hid (((HB.out.setCell (p:=⟨gB,0,none⟩) (Nat.le_refl _) (.bool (qF (xx k)).1)).setCell (p:=⟨gB,1,none⟩) (Nat.le_refl _) (.string (qF (xx k)).2.1)).setCell (p:=⟨gB,2,none⟩) (Nat.le_refl _) (.string (qF (xx k)).2.2))
           clear HX HB
           go_wp2
           go_roundw
           case rel=>exact⟨k+1,by omega,by go_num,HXN,HBN⟩
           case measure=>simp[intOf];omega
          ·rw[if_neg hlki] at hfs
           have hl2:¬((lk:Nat):Int)=(i:Int):=by omega
           have HXN:Hid (Box wr gB (qF (fv (k+1))).1 (qF (fv (k+1))).2.1 (qF (fv (k+1))).2.2):=by show Box _ _ _ _ _;rw[hfs];exact HX.out
           clear hfs hlki HX
           go_wp2
           go_roundw
           case rel=>exact⟨k+1,by omega,by go_num,HXN,HB⟩
           case measure=>simp[intOf];omega
         ·have HFE:Hid (fv k=hq i):=by
           show _=_
           rw[show k=n by omega]
           exact HFZ.out
          obtain⟨k0,k1,k2⟩:=HX.out.trio
          have hAL:=(Below.refl wr.heap.size wr).alloc (Nat.le_refl _) (FC (qF (fv k)).1 (qF (fv k)).2.1 (qF (fv k)).2.2)
          have HC1:=hid (Box.new wr (qF (fv k)).1 (qF (fv k)).2.1 (qF (fv k)).2.2)
          have HRB:=hid (HRV.out.below (HGE2.out▸HB.out))
          have HBB:=hid (HBV.out.trans (HB.out.mono HWG.out))
          have HR4:=hid (HRB.out.below hAL)
          have HB4:=hid (HBB.out.trans (hAL.mono HBB.out.size))
          clear hAL HX HB HRB HBB
          go_wp2_with (at_builtin;refine wpList_append_fr rfl _ _ rfl wX.heap.size (.slice dv nv cv) L0 (qF (fv k)) rfl HR4.out wr.heap.size rfl HC1.out HLN.out HB4.out.size ?_;intro v5 w5 hr5 hg5;have HR5:Hid (RwF w5 wX.heap.size v5 (lF (i+1) hq)):=(by rw[HSN2.out,←HFE.out];exact hr5);have HB5:=hid (HB4.out.grown hg5 HB4.out.size (fun k e=>HR4.out.own k e)))
          go_roundw
          case rel=>exact⟨i+1,by omega,by go_num,HR5,HB5⟩
          case measure=>simp[intOf];omega
      ·obtain rfl:N=i:=by omega
       have HRF:=hid (HRW.out.lower HLZ.out)
       have HBF:=hid (HUPW.out _ HBR.out)
       obtain⟨dv,nv,cv,hlv⟩:=HRW.out.slv
       subst hlv
       clear HRW HBR
       go_wp2
       go_ret2
       exact⟨_,rfl,HRF.out,HBF.out⟩
end Go.Proofs.YtmbjmiioggfneaaGreatDoor
