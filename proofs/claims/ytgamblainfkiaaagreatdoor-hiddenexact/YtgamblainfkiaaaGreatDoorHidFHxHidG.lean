/- backward of package hidden. -/
import Derived.Test.YtgamblainfkiaaaGreatDoorRegTHxHexB
import Derived.Test.YtgamblainfkiaaaGreatDoorHidEHx
import Derived.Test.YtgamblainfkiaaaGreatDoorHidCHxMadA
namespace Go.Proofs.YtgamblainfkiaaaGreatDoor
open Go.RowKit Go.Shelf
theorem FrS.at {w w':World} {g b:Nat} {l:List Fr} (h:FrS w (some ⟨g,0,none⟩) l) (hb:Below b w w') (hg:g<b):FrS w' (some ⟨g,0,none⟩) l:=fun k hk=>by
 obtain⟨g',o,e,h2,h3,h4,h5⟩:=h k hk
 cases e
 exact⟨g,0,rfl,Nat.lt_of_lt_of_le h2 hb.size,(hb.cell (p:=⟨g,_,none⟩) hg).trans h3,(hb.cell (p:=⟨g,_,none⟩) hg).trans h4,(hb.cell (p:=⟨g,_,none⟩) hg).trans h5⟩
theorem FrS.setOff {w:World} {g b j:Nat} {l:List Fr} (h:FrS w (some ⟨g,0,none⟩) l) (v:Value) (hne:g≠b):FrS (w.setCell ⟨b,j,none⟩ v) (some ⟨g,0,none⟩) l:=fun k hk=>by
 obtain⟨g',o,e,h2,h3,h4,h5⟩:=h k hk
 cases e
 refine⟨g,0,rfl,by simpa using h2,?_,?_,?_⟩
 ·exact(World.cell?_setCell_other _ _ _ _ (fun e=>hne (congrArg Addr.block e).symm)).trans h3
 ·exact(World.cell?_setCell_other _ _ _ _ (fun e=>hne (congrArg Addr.block e).symm)).trans h4
 ·exact(World.cell?_setCell_other _ _ _ _ (fun e=>hne (congrArg Addr.block e).symm)).trans h5
theorem RwF.some' {w:World} {B:Nat} {v:Value} {l:List Fr} (h:RwF w B v l) (h1:1≤l.length):∃g cd,v=.slice (some ⟨g,0,none⟩) l.length cd∧g<w.heap.size∧l.length≤cd∧FrS w (some ⟨g,0,none⟩) l:=by
 obtain⟨d,cd,e,hf⟩:=h.fr
 rcases h.2 with ⟨_,h2⟩ |⟨g,cap,cur,e1,h2,h3,h4,_⟩
 ·omega
 ·rw[e] at e1
  cases e1
  exact⟨g,cd,e,(Array.getElem?_eq_some_iff.1 h3).1,h4,hf⟩
structure BoS (w:World) (n L G back:Nat) (F:Nat→Nat→Rat) (U:World):Prop where
 ex:∃X:List Value,X.length=L∧RowV U G X∧(∀k (hk:k<X.length),k+back<L→X[k]=.slice none 0 0)∧∀k (hk:k<X.length),L≤k+back→∃g c,X[k]=.slice (some ⟨g,0,none⟩) n c∧n≤c∧g<U.heap.size∧G<g∧FrS U (some ⟨g,0,none⟩) (lF n (F k))
 Gw:w.heap.size<G
 bel:Below w.heap.size w U
structure BkS (w:World) (n L G M t:Nat) (F:Nat→Nat→Rat) (v:Value) (p:List Fr) (U:World):Prop where
 ex:∃X:List Value,X.length=L∧RowV U G X∧(∃h:t<X.length,X[t]=v)∧(∀k (hk:k<X.length),k<t→X[k]=.slice none 0 0)∧∀k (hk:k<X.length),t<k→∃g c,X[k]=.slice (some ⟨g,0,none⟩) n c∧n≤c∧g<M∧G<g∧FrS U (some ⟨g,0,none⟩) (lF n (F k))
 own:RwF U M v p
 GM:G<M
 Gw:w.heap.size<G
 MU:M≤U.heap.size
 bel:Below w.heap.size w U
theorem BkS.step {w U U':World} {n L G M t:Nat} {F:Nat→Nat→Rat} {v:Value} {p:List Fr} (h:BkS w n L G M t F v p U) (hb:Below U.heap.size U U'):BkS w n L G M t F v p U':=by
 obtain⟨X,h1,h2,h3,h4,h5⟩:=h.ex
 refine⟨⟨X,h1,h2.below hb h2.lt,h3,h4,fun k hk ht=>?_⟩,h.own.below hb,h.GM,h.Gw,Nat.le_trans h.MU hb.size,h.bel.trans (hb.mono h.bel.size)⟩
 obtain⟨g,c,e1,e2,e3,e4,e5⟩:=h5 k hk ht
 exact⟨g,c,e1,e2,e3,e4,e5.below hb⟩
theorem BkS.cell {w U:World} {n L G M t:Nat} {F:Nat→Nat→Rat} {v:Value} {p:List Fr} (h:BkS w n L G M t F v p U):U.cell? ⟨G,t,none⟩=some v∧U.frozen? ⟨G,t,none⟩=false∧G<U.heap.size:=by
 obtain⟨X,h1,h2,⟨h3,h4⟩,_⟩:=h.ex
 exact⟨by rw[h2.cell t h3,h4],h2.fz t,h2.lt⟩
theorem BkS.grown {w U U':World} {n L G M t:Nat} {F:Nat→Nat→Rat} {v v':Value} {p p':List Fr} (h:BkS w n L G M t F v p U) (hg:U.grownBy U' v.ownBlock) (hr:RwF U' M v' p'):BkS w n L G M t F v' p' (U'.setCell ⟨G,t,none⟩ v')∧U'.cell? ⟨G,t,none⟩=some v∧U'.frozen? ⟨G,t,none⟩=false∧Below M U U':=by
 have hbM:Below M U U':=(Below.refl M U).grown hg h.MU h.own.own
 obtain⟨X,h1,h2,⟨h3,h3'⟩,h4,h5⟩:=h.ex
 have hX:=h2.below hbM h.GM
 have hGM:=h.GM
 have hGw:=h.Gw
 refine⟨⟨⟨X.set t v',by rw[List.length_set];exact h1,hX.set t v',⟨by rw[List.length_set];exact h3,by simp⟩,fun k hk hkt=>?_,fun k hk hkt=>?_⟩,hr.off G t v' h.GM,h.GM,h.Gw,by rw[World.size_setCell];exact Nat.le_trans h.MU hbM.size,?_⟩,by rw[hX.cell t h3,h3'],hX.fz t,hbM⟩
 ·rw[List.getElem_set_ne (by omega)]
  exact h4 k (by rw[List.length_set] at hk;exact hk) hkt
 ·rw[List.getElem_set_ne (by omega)]
  obtain⟨g,c,e1,e2,e3,e4,e5⟩:=h5 k (by rw[List.length_set] at hk;exact hk) hkt
  exact⟨g,c,e1,e2,e3,e4,(e5.at hbM e3).setOff v' (Nat.ne_of_gt e4)⟩
 ·exact(h.bel.trans (hbM.mono (by have:=h.bel.size;omega))).setCell (p:=⟨G,t,none⟩) (show w.heap.size≤G by omega) v'
theorem BoS.into {w U:World} {n L G back t:Nat} {F:Nat→Nat→Rat} (h:BoS w n L G back F U) (ht:t+back+1=L):BkS w n L G U.heap.size t F (.slice none 0 0) [] U:=by
 obtain⟨X,h1,h2,h3,h4⟩:=h.ex
 refine⟨⟨X,h1,h2,⟨by omega,h3 t (by omega) (by omega)⟩,fun k hk hkt=>h3 k hk (by omega),fun k hk hkt=>h4 k hk (by omega)⟩,RwF.empty _ _,h2.lt,h.Gw,Nat.le_refl _,h.bel⟩
theorem BkS.done {w U:World} {n L G M t back:Nat} {F:Nat→Nat→Rat} {v:Value} (h:BkS w n L G M t F v (lF n (F t)) U) (ht:t+back+1=L) (h1:1≤n):BoS w n L G (back+1) F U:=by
 obtain⟨X,x1,x2,⟨x3,x3'⟩,x4,x5⟩:=h.ex
 have hGM:=h.GM
 refine⟨⟨X,x1,x2,fun k hk hkt=>x4 k hk (by omega),fun k hk hkt=>?_⟩,h.Gw,h.bel⟩
 by_cases hkt2:k=t
 ·subst hkt2
  obtain⟨g,cd,e1,e2,e3,e4⟩:=h.own.some' (by rw[lF_length];exact h1)
  rw[lF_length] at e1 e3
  refine⟨g,cd,by rw[x3',e1],e3,e2,?_,e4⟩
  have h9:=h.own.own g (by rw[e1];rfl)
  omega
 ·obtain⟨g,c,e1,e2,e3,e4,e5⟩:=x5 k hk (by omega)
  exact⟨g,c,e1,e2,Nat.lt_of_lt_of_le e3 h.MU,e4,e5⟩
theorem BoS.start {w U:World} {n L G:Nat} {F:Nat→Nat→Rat} (hr:RowV U G (List.replicate L (.slice none 0 0))) (hG:w.heap.size<G) (hb:Below w.heap.size w U):BoS w n L G 0 F U:=
 ⟨⟨_,List.length_replicate,hr,fun k hk _=>by simp,fun k hk h=>by rw[List.length_replicate] at hk;omega⟩,hG,hb⟩
theorem BoS.rows {w U:World} {n L G:Nat} {F:Nat→Nat→Rat} (h:BoS w n L G L F U):FsS U (some ⟨G,0,none⟩) ((List.range L).map fun t=>lF n (F t)):=fun k hk=>by
 obtain⟨X,h1,h2,h3,h4⟩:=h.ex
 have hk':k<L:=by simpa using hk
 obtain⟨g,c,e1,e2,_,_,e5⟩:=h4 k (by omega) (by omega)
 have e:((List.range L).map fun t=>lF n (F t))[k]=lF n (F k):=by simp
 rw[e,lF_length]
 exact⟨G,0,_,c,rfl,h2.lt,by rw[Nat.zero_add,h2.cell k (by omega),e1],e5,e2⟩
theorem BkS.next {w U:World} {n L G M t:Nat} {F:Nat→Nat→Rat} {v:Value} {p:List Fr} (h:BkS w n L G M t F v p U) (ht:t+1<L):∃g c,U.cell? ⟨G,t+1,none⟩=some (.slice (some ⟨g,0,none⟩) n c)∧g<U.heap.size∧FrS U (some ⟨g,0,none⟩) (lF n (F (t+1))):=by
 obtain⟨X,h1,h2,h3,h4,h5⟩:=h.ex
 obtain⟨g,c,e1,e2,e3,e4,e5⟩:=h5 (t+1) (by omega) (by omega)
 exact⟨g,c,by rw[h2.cell (t+1) (by omega),e1],Nat.lt_of_lt_of_le e3 h.MU,e5⟩
theorem lF_take_succ {n i:Nat} {f:Nat→Rat} (h:i<n):(lF n f).take i++[qF (f i)]=(lF n f).take (i+1):=by
 rw[List.take_succ_eq_append_getElem (by rw[lF_length];exact h),lF_get]
theorem HBox.setOff {w:World} {g:Nat} {x y z:Value} (h:HBox w g x y z) (b j:Nat) (v:Value) (hne:g≠b):HBox (w.setCell ⟨b,j,none⟩ v) g x y z:=(Below.heap_setCell w ⟨b,j,none⟩ v g hne).trans h
set_option maxRecDepth 100000 in
set_option maxHeartbeats 4000000 in
theorem hiBackward_own {D:Nat} (a b c d:Option Addr) (ca cb cc cd n L m fid:Nat) (l:List Fr) (R1 R2:List (List Fr)) (Q:List Nat) (h:HC) (F:Nat→Nat→Rat) (Tg:(Nat→Rat)→Rat) (w:World) (hI:HidI w a b c n m l R1 R2) (hV:HidV D h m l R1 R2 Q) (hsn:h.s=n) (hL:h.L=L) (hQ:IntS w d (iL Q)) (eF:∀args w,(callFunc fid args).run Tryz.prog w=.ok (.enter fid args) w)
  (hF0:∀i,i<n→F (L - 1) i=1) (hF1:∀t i,t+1<L→i<n→F t i=Tg fun j=>h.mv i j*h.sh (t+1) j*F (t+1) j) (hFs:∀t i,t<L→i<n→qw (F t i)≤30010) (hFp:∀t i j,t+1<L→i<n→j<n→qw (h.mv i j*h.sh (t+1) j)≤30010∧qw (h.mv i j*h.sh (t+1) j*F (t+1) j)≤30010)
  (hFq:∀t i k,t+1<L→i<n→k≤n→qw (sumR (fun j=>h.mv i j*h.sh (t+1) j*F (t+1) j) k)≤40000) (hTg:∀(f:Nat→Rat) (U:World) (g k:Nat),(∀i,i<n→qw (f i)≤30010)→(∀k,k≤n→qw (sumR f k)≤40000)→FrS U (some ⟨g,0,none⟩) (lF n f)→Calls Tryz.prog fid #[.slice (some ⟨g,0,none⟩) n k] U fun e w'=>e=.returned (frV (qF (Tg f)))∧Below U.heap.size U w'):
  Calls Tryz.prog 46 #[.agg #[.slice a n ca,.slice b n cb,.slice c n cc],.slice d L cd,.func (.func fid) #[] #[]] w fun e w'=>∃G,e=.returned (.slice (some ⟨G,0,none⟩) L L)∧BoS w n L G L F w':=by
 obtain⟨i0,hi0,hz0,hz1,hz2⟩:=info_parts Tryz.infoFracs
 have hn4:=hV.sm.s4
 have hL8:=hV.sm.L8
 have hn1:=hV.ok.n1
 have hm4:=hV.ok.m4
 have hok:=hV.ok
 obtain⟨-,hq1,hq2,hst,hmv,hsh, -⟩:=hV
 rw[hsn] at hn4 hn1 hok hst hmv
 rw[hL] at hL8 hq1
 have HOK:=hid hok
 have HQL:=hid hq1
 have HQM:=hid hq2
 have HMV:=hid hmv
 have HSHV:=hid hsh
 have HF0:=hid hF0
 have HF1:=hid hF1
 have HFS:=hid hFs
 have HFP:=hid hFp
 have HFQ:=hid hFq
 have HTGA:=hid hTg
 have HI:=hid hI
 have HQ:=hid hQ
 have HO1:=hid (fun V:World=>fOf_q (k:=1) (w:=V) 1 1 rfl (by decide) (by rfl))
 clear hI hQ hsn hL hok hq1 hq2 hst hmv hsh hF0 hF1 hFs hFp hFq hTg
 have hA:=(Below.refl w.heap.size w).alloc (Nat.le_refl _) (HC3 (.slice a n ca) (.slice b n cb) (.slice c n cc))
 have hHB:=HBox.new w (.slice a n ca) (.slice b n cb) (.slice c n cc)
 have HDL:Hid (w.heap.size+1≤(w.alloc (HC3 (.slice a n ca) (.slice b n cb) (.slice c n cc))).heap.size):=by show _≤_;simp
 go_enter Tryz.func46,Tryz.ntmps46
 go_upto_region 1 with fail
 generalize (w.alloc (HC3 (.slice a n ca) (.slice b n cb) (.slice c n cc)))=W at *
 go_upto_region 2 with (at_make;refine wpList_make_full _ rfl _ _ 23 rfl W.heap.size 22 i0 (.slice none 0 0) 1 Tryz.underlying23 hi0 hz0 hz1 .i64 .i64 _ _ L rfl rfl (by go_num) (by go_num) (by rw[hz2];omega) (by unfold maxLen;omega) (Nat.le_refl _) ?_;intro w2 hown2 hgrow2)
 have hB2:Below W.heap.size W w2:=(Below.refl _ W).grown hgrow2 (Nat.le_refl _) (fun k e=>by cases e)
 have hb2:=block_of_own hown2
 rw[made_slices] at hb2
 have HK0:Hid (BoS w n L W.heap.size 0 F w2):=BoS.start hb2 (by have:=HDL.out;omega) (hA.trans (hB2.mono hA.size))
 have HH0:=hid (hHB.below hB2 hHB.lt)
 obtain⟨G,hGe⟩:∃G,W.heap.size=G:=⟨_,rfl⟩
 simp only[hGe] at HK0⊢
 clear hown2 hgrow2 hb2 hB2 hA hHB HDL hGe
 go_wp2_with fail
 go_loopw [17] (fun iv wr=>∃back:Nat,back≤L∧iv=.int .i64 back∧Hid (BoS w n L G back F wr)∧Hid (HBox wr w.heap.size (.slice a n ca) (.slice b n cb) (.slice c n cc))) (fun iv _=>L - (intOf iv).toNat)
 case atStart=>exact⟨0,Nat.zero_le _,rfl,HK0,HH0⟩
 case round=>
  obtain⟨back,hbk,rfl,HKO,HHO⟩:=hrel
  clear HK0 HH0
  by_cases hlt:back<L
  ·obtain⟨t,ht⟩:∃t,t+back+1=L:=⟨L - 1 - back,by omega⟩
   have htL:t<L:=by omega
   have HW1:Hid ((L:Int) - 1 - (back:Int)=(t:Int)):=by show _=_;omega
   have HKI:=hid (HKO.out.into ht)
   obtain⟨e0, -, -⟩:=HHO.out.cells
   obtain⟨M,hM⟩:∃M,wr.heap.size=M:=⟨_,rfl⟩
   rw[hM] at HKI
   clear hM HKO
   go_wp2_with fail
   rw[HW1.out]
   clear e0
   go_loopw [28] (fun iv wr=>∃i:Nat,i≤n∧iv=.int .i64 i∧(∃v,Hid (BkS w n L G M t F v ((lF n (F t)).take i) wr))∧Hid (HBox wr w.heap.size (.slice a n ca) (.slice b n cb) (.slice c n cc))) (fun iv _=>n - (intOf iv).toNat)
   case atStart=>exact⟨0,Nat.zero_le _,rfl,⟨.slice none 0 0,HKI⟩,HHO⟩
   case round=>
    obtain⟨i,hi,rfl,⟨v,HK⟩,HH⟩:=hrel
    clear HKI HHO
    by_cases hlti:i<n
    ·have HTS:=hid (lF_take_succ (f:=F t) hlti)
     go_wp2_with fail
     refine(HO1.out _).mono ?_
     rintro e w3 ⟨rfl,hb3⟩
     have HX:=hid (Box.new w3 (sgn 1) (nu 1) (de 1))
     have HB1:=hid (hb3.alloc hb3.size (FC (sgn 1) (nu 1) (de 1)))
     have hgL2:wr.heap.size≤w3.heap.size:=hb3.size
     clear hb3
     by_cases hb0:back=0
     ·have HQ1:Hid ((sgn 1,nu 1,de 1)=qF (F t i)):=by
       show _=_
       obtain rfl:t=L - 1:=by omega
       rw[HF0.out i hlti]
       rfl
      have hbz:¬(0:Int)<(back:Int):=by omega
      clear hb0
      generalize sgn 1=on at *
      generalize nu 1=ox at *
      generalize de 1=oy at *
      go_upto_region 12 with fail
      generalize (w3.alloc (FC on ox oy))=W9 at *
      generalize w3.heap.size=gL at *
      replace HK:=hid (HK.out.step HB1.out)
      replace HH:=hid (HH.out.below HB1.out HH.out.lt)
      obtain⟨qf,hqf⟩:∃qf:Fr,qf=(on,ox,oy):=⟨_,rfl⟩
      rw[←HQ1.out,←hqf] at HTS
      have HX2:Hid (Box W9 gL qf.1 qf.2.1 qf.2.2):=by rw[hqf];exact HX.out
      clear HX hqf HQ1 HB1
      have HX:=HX2
      clear HX2
      generalize W9=Wz at *
      go_upto_region 12 with fail
      refine wp_region_held_drew (S:=fun _=>True) (by kernel_rfl) trivial (fun _=>?_)
      replace HK:=hid (HK.out.step (Below.refl _ _).drew)
      have HHd:Hid (HBox Wz.drew w.heap.size (.slice a n ca) (.slice b n cb) (.slice c n cc)):=HH.out
      have HXd:Hid (Box Wz.drew gL qf.1 qf.2.1 qf.2.2):=HX.out
      clear HH HX
      have HH:=HHd
      have HX:=HXd
      clear HHd HXd
      generalize Wz.drew=z0 at *
      refine tkB 0 (.slice (some ⟨G,0,none⟩) L L) ?_
      try simp only[gE,aP]
      refine tkB 1 (.int .i64 (t:Nat)) ?_
      try simp only[gE,aP]
      refine tkB 2 (.slice (some ⟨G,0,none⟩) L L) ?_
      try simp only[gE,aP]
      refine tkB 3 (.int .i64 (t:Nat)) ?_
      try simp only[gE,aP]
      refine tkB 4 (.pointer (some ⟨G,t,none⟩)) ?_
      try simp only[gE,aP]
      refine rdA [5,6] (cA ?_ (cA ?_ AllReadyH.nil))
      ·intro K' hK'
       obtain⟨k0, -, -⟩:=HK.out.cell
       go_simp
       refine hK'.out _ _ trivial (fun _=>?_)
       clear hK' K'
       clear k0
       try simp only[gE,aP]
       refine rdA [6] (cA ?_ AllReadyH.nil)
       ·intro K' hK'
        obtain⟨x0,x1,x2, -⟩:=HX.out.facts
        go_simp
        refine hK'.out _ _ trivial (fun _=>?_)
        clear hK' K'
        clear x0 x1 x2
        try simp only[gE,aP]
        refine rdA [7] (cA ?_ AllReadyH.nil)
        ·intro K' hK'
         go_simp
         have hbA:=(Below.refl z0.heap.size z0).alloc (Nat.le_refl _) (FC qf.1 qf.2.1 qf.2.2)
         have HY:=hid (Box.new z0 qf.1 qf.2.1 qf.2.2)
         replace HK:=hid (HK.out.step hbA)
         replace HH:=hid (HH.out.below hbA HH.out.lt)
         replace HX:=hid (HX.out.below hbA HX.out.lt)
         clear hbA
         refine hK'.out _ _ trivial (fun _=>?_)
         clear hK' K'
         obtain⟨gy,hgy⟩:∃x,z0.heap.size=x:=⟨_,rfl⟩
         obtain⟨z1,hV⟩:∃x,z0.alloc (FC qf.1 qf.2.1 qf.2.2)=x:=⟨_,rfl⟩
         rw[hgy] at HY
         rw[hV] at HY HK HH HX
         simp only[hV]
         simp only[hgy]
         clear hgy hV
         try simp only[gE,aP]
         refine rdA [8] (cA ?_ AllReadyH.nil)
         ·intro K' hK'
          rw[if_pos (by rfl)]
          refine wp_append_fr _ _ rfl M v ((lF n (F t)).take i) qf rfl HK.out.own gy rfl HY.out (by rw[List.length_take,lF_length];omega) HK.out.MU ?_
          intro v2 V8 hr8 hg8
          obtain⟨d8,n8,c8,rfl⟩:=hr8.slv
          obtain⟨hk8,kc,kf,hb8⟩:=HK.out.grown hg8 hr8
          refine hK'.out _ _ trivial (fun _=>?_)
          clear hK' K'
          try simp only[gE,aP]
          refine tkB 9 (.pointer (some ⟨G,t,none⟩)) ?_
          try simp only[gE,aP]
          refine rdA [10] (cA ?_ AllReadyH.nil)
          ·intro K' hK'
           go_simp
           have HKN:=hid hk8
           have HHN:Hid (HBox (V8.setCell ⟨G,t,none⟩ (.slice d8 n8 c8)) w.heap.size (.slice a n ca) (.slice b n cb) (.slice c n cc)):=(HH.out.below hb8 (by have:=HK.out.GM;have:=HK.out.Gw;omega)).setOff G t (.slice d8 n8 c8) (by have:=HK.out.Gw;omega)
           refine hK'.out _ _ trivial (fun _=>?_)
           clear hK' K'
           refine wpAnyH_done (by kernel_rfl) ?_ _
           rw[HTS.out] at HKN
           clear kc kf hb8 hk8 hr8 hg8 HK HH HX HY
           go_wp2
           go_roundw
           case rel=>exact⟨i+1,by omega,by go_num,⟨.slice d8 n8 c8,HKN⟩,HHN⟩
           case measure=>simp[intOf];omega
      ·intro K' hK'
       obtain⟨x0,x1,x2, -⟩:=HX.out.facts
       go_simp
       refine hK'.out _ _ trivial (fun _=>?_)
       clear hK' K'
       clear x0 x1 x2
       try simp only[gE,aP]
       refine rdA [5,7] (cA ?_ (cA ?_ AllReadyH.nil))
       ·intro K' hK'
        obtain⟨k0, -, -⟩:=HK.out.cell
        go_simp
        refine hK'.out _ _ trivial (fun _=>?_)
        clear hK' K'
        clear k0
        try simp only[gE,aP]
        refine rdA [7] (cA ?_ AllReadyH.nil)
        ·intro K' hK'
         go_simp
         have hbA:=(Below.refl z0.heap.size z0).alloc (Nat.le_refl _) (FC qf.1 qf.2.1 qf.2.2)
         have HY:=hid (Box.new z0 qf.1 qf.2.1 qf.2.2)
         replace HK:=hid (HK.out.step hbA)
         replace HH:=hid (HH.out.below hbA HH.out.lt)
         replace HX:=hid (HX.out.below hbA HX.out.lt)
         clear hbA
         refine hK'.out _ _ trivial (fun _=>?_)
         clear hK' K'
         obtain⟨gy,hgy⟩:∃x,z0.heap.size=x:=⟨_,rfl⟩
         obtain⟨z1,hV⟩:∃x,z0.alloc (FC qf.1 qf.2.1 qf.2.2)=x:=⟨_,rfl⟩
         rw[hgy] at HY
         rw[hV] at HY HK HH HX
         simp only[hV]
         simp only[hgy]
         clear hgy hV
         try simp only[gE,aP]
         refine rdA [8] (cA ?_ AllReadyH.nil)
         ·intro K' hK'
          rw[if_pos (by rfl)]
          refine wp_append_fr _ _ rfl M v ((lF n (F t)).take i) qf rfl HK.out.own gy rfl HY.out (by rw[List.length_take,lF_length];omega) HK.out.MU ?_
          intro v2 V8 hr8 hg8
          obtain⟨d8,n8,c8,rfl⟩:=hr8.slv
          obtain⟨hk8,kc,kf,hb8⟩:=HK.out.grown hg8 hr8
          refine hK'.out _ _ trivial (fun _=>?_)
          clear hK' K'
          try simp only[gE,aP]
          refine tkB 9 (.pointer (some ⟨G,t,none⟩)) ?_
          try simp only[gE,aP]
          refine rdA [10] (cA ?_ AllReadyH.nil)
          ·intro K' hK'
           go_simp
           have HKN:=hid hk8
           have HHN:Hid (HBox (V8.setCell ⟨G,t,none⟩ (.slice d8 n8 c8)) w.heap.size (.slice a n ca) (.slice b n cb) (.slice c n cc)):=(HH.out.below hb8 (by have:=HK.out.GM;have:=HK.out.Gw;omega)).setOff G t (.slice d8 n8 c8) (by have:=HK.out.Gw;omega)
           refine hK'.out _ _ trivial (fun _=>?_)
           clear hK' K'
           refine wpAnyH_done (by kernel_rfl) ?_ _
           rw[HTS.out] at HKN
           clear kc kf hb8 hk8 hr8 hg8 HK HH HX HY
           go_wp2
           go_roundw
           case rel=>exact⟨i+1,by omega,by go_num,⟨.slice d8 n8 c8,HKN⟩,HHN⟩
           case measure=>simp[intOf];omega
       ·intro K' hK'
        go_simp
        have hbA:=(Below.refl z0.heap.size z0).alloc (Nat.le_refl _) (FC qf.1 qf.2.1 qf.2.2)
        have HY:=hid (Box.new z0 qf.1 qf.2.1 qf.2.2)
        replace HK:=hid (HK.out.step hbA)
        replace HH:=hid (HH.out.below hbA HH.out.lt)
        replace HX:=hid (HX.out.below hbA HX.out.lt)
        clear hbA
        refine hK'.out _ _ trivial (fun _=>?_)
        clear hK' K'
        obtain⟨gy,hgy⟩:∃x,z0.heap.size=x:=⟨_,rfl⟩
        obtain⟨z1,hV⟩:∃x,z0.alloc (FC qf.1 qf.2.1 qf.2.2)=x:=⟨_,rfl⟩
        rw[hgy] at HY
        rw[hV] at HY HK HH HX
        simp only[hV]
        simp only[hgy]
        clear hgy hV
        try simp only[gE,aP]
        refine rdA [5] (cA ?_ AllReadyH.nil)
        ·intro K' hK'
         obtain⟨k0, -, -⟩:=HK.out.cell
         go_simp
         refine hK'.out _ _ trivial (fun _=>?_)
         clear hK' K'
         clear k0
         try simp only[gE,aP]
         refine rdA [8] (cA ?_ AllReadyH.nil)
         ·intro K' hK'
          rw[if_pos (by rfl)]
          refine wp_append_fr _ _ rfl M v ((lF n (F t)).take i) qf rfl HK.out.own gy rfl HY.out (by rw[List.length_take,lF_length];omega) HK.out.MU ?_
          intro v2 V8 hr8 hg8
          obtain⟨d8,n8,c8,rfl⟩:=hr8.slv
          obtain⟨hk8,kc,kf,hb8⟩:=HK.out.grown hg8 hr8
          refine hK'.out _ _ trivial (fun _=>?_)
          clear hK' K'
          try simp only[gE,aP]
          refine tkB 9 (.pointer (some ⟨G,t,none⟩)) ?_
          try simp only[gE,aP]
          refine rdA [10] (cA ?_ AllReadyH.nil)
          ·intro K' hK'
           go_simp
           have HKN:=hid hk8
           have HHN:Hid (HBox (V8.setCell ⟨G,t,none⟩ (.slice d8 n8 c8)) w.heap.size (.slice a n ca) (.slice b n cb) (.slice c n cc)):=(HH.out.below hb8 (by have:=HK.out.GM;have:=HK.out.Gw;omega)).setOff G t (.slice d8 n8 c8) (by have:=HK.out.Gw;omega)
           refine hK'.out _ _ trivial (fun _=>?_)
           clear hK' K'
           refine wpAnyH_done (by kernel_rfl) ?_ _
           rw[HTS.out] at HKN
           clear kc kf hb8 hk8 hr8 hg8 HK HH HX HY
           go_wp2
           go_roundw
           case rel=>exact⟨i+1,by omega,by go_num,⟨.slice d8 n8 c8,HKN⟩,HHN⟩
           case measure=>simp[intOf];omega
     ·have ht1L:t+1<L:=by omega
      have hti1:(t:Int)+1<(L:Int):=by omega
      have hti2:IntKind.i64.wrap ((t:Int)+1)=(t:Int)+1:=by rw[IntKind.wrap_i64];omega
      have hti3:¬(t:Int)+1<0:=by omega
      have hiR:i<R1.length:=by rw[HOK.out.mv.len];exact hlti
      obtain⟨gm,om,bm,cm,rfl,hgm,m0,hmf, -⟩:=HI.out.mv i hiR
      rw[HOK.out.mv.each i hiR] at m0
      have htQ:t+1<Q.length:=by rw[HQL.out];exact ht1L
      obtain⟨gq,oq,rfl,hgq,q0⟩:=HQ.out (t+1) (by rw[iL_length];exact htQ)
      have eq:(iL Q)[t+1]'(by rw[iL_length];exact htQ)=((Q[t+1]:Nat):Int):=by simp[iL]
      rw[eq] at q0
      obtain⟨gn,cn,n0,hgn,hnf⟩:=HK.out.next (by omega)
      have hq4:Q[t+1]<m:=HQM.out _ (List.getElem_mem htQ)
      have hbw:=HK.out.bel
      have HSH:Hid (∀(U:World),Below wr.heap.size wr U→Calls Tryz.prog 52 #[.agg #[.slice a n ca,.slice (some ⟨gm,om,none⟩) n cb,.slice c n cc],.slice bm n cm,.int .i64 (Q[t+1]:Nat)] U fun e w'=>∃g1,e=.returned (.slice (some ⟨g1,0,none⟩) n n)∧U.heap.size≤g1∧RowF w' g1 (lF n fun j=>h.mv i j*h.sh (t+1) j)∧Below U.heap.size U w'):=fun U hU=>by
       have hwU:=hbw.trans (hU.mono hbw.size)
       exact hShown_any a (some ⟨gm,om,none⟩) c bm n n ca cb cc cm n Q[t+1] R2 R1[i] (h.mv i) (h.sh (t+1)) U ((HI.out.below hwU).sh) (hmf.below hwU) (HMV.out i hiR) HOK.out.sh.len (HSHV.out (t+1) htQ) (fun i hi=>by rw[HOK.out.sh.each i hi];omega) (by omega)
      have HTI:Hid (∀(U:World),Below wr.heap.size wr U→∀g k,FrS U (some ⟨g,0,none⟩) (lF n fun j=>h.mv i j*h.sh (t+1) j)→Calls Tryz.prog 47 #[.slice (some ⟨g,0,none⟩) n k,.slice (some ⟨gn,0,none⟩) n cn] U fun e w'=>∃g2,e=.returned (.slice (some ⟨g2,0,none⟩) n n)∧U.heap.size≤g2∧RowF w' g2 (lF n fun j=>h.mv i j*h.sh (t+1) j*F (t+1) j)∧Below U.heap.size U w'):=fun U hU g k hg=>
       hTimes_any (some ⟨g,0,none⟩) (some ⟨gn,0,none⟩) k cn n _ _ (fun j=>h.mv i j*h.sh (t+1) j) (F (t+1)) U hg (hnf.below hU) (Lst.mk' fun j hj=>by exact(HFP.out t i j (by omega) hlti hj).1) (Lst.mk' fun j hj=>HFS.out (t+1) j ht1L hj) (by omega)
      have HTG:Hid (∀(U:World) (g k:Nat),FrS U (some ⟨g,0,none⟩) (lF n fun j=>h.mv i j*h.sh (t+1) j*F (t+1) j)→Calls Tryz.prog fid #[.slice (some ⟨g,0,none⟩) n k] U fun e w'=>e=.returned (.agg #[.bool (qF (F t i)).1,.string (qF (F t i)).2.1,.string (qF (F t i)).2.2])∧Below U.heap.size U w'):=fun U g k hg=>by
       have h9:=HTGA.out (fun j=>h.mv i j*h.sh (t+1) j*F (t+1) j) U g k (fun j hj=>by exact(HFP.out t i j (by omega) hlti hj).2) (fun k hk=>HFQ.out t i k (by omega) hlti hk) hg
       rw[HF1.out t i (by omega) hlti]
       exact h9
      clear eq hmf hnf
      generalize Q[t+1]=qt at *
      have HELD:Hid (∀u,Below wr.heap.size wr u→u.cell? ⟨w.heap.size,0,none⟩=some (.slice a n ca)∧u.cell? ⟨w.heap.size,1,none⟩=some (.slice (some ⟨gm,om,none⟩) n cb)∧u.cell? ⟨w.heap.size,2,none⟩=some (.slice c n cc)∧u.cell? ⟨gm,om+i,none⟩=some (.slice bm n cm)∧u.cell? ⟨gq,oq+(t+1),none⟩=some (.int .i64 (qt:Nat))∧u.cell? ⟨G,t+1,none⟩=some (.slice (some ⟨gn,0,none⟩) n cn)):=fun u hu=>by
       have hwu:=hbw.trans (hu.mono hbw.size)
       obtain⟨z0,z1,z2⟩:=(HH.out.below hu HH.out.lt).cells
       exact⟨z0,z1,z2,(hwu.cell (p:=⟨gm,_,none⟩) hgm).trans m0,(hwu.cell (p:=⟨gq,_,none⟩) hgq).trans q0,(hu.cell (p:=⟨G,_,none⟩) HK.out.cell.2.2).trans n0⟩
      generalize qF (F t i)=qf at *
      have hbp:(0:Int)<(back:Int):=by omega
      generalize sgn 1=on at *
      generalize nu 1=ox at *
      generalize de 1=oy at *
      go_upto_region 11 with fail
      clear q0 m0 n0 hbw
      generalize (w3.alloc (FC on ox oy))=W8 at *
      generalize w3.heap.size=gL at *
      replace HB1:=hid HB1.out.drew
      have HXd:Hid (Box W8.drew gL on ox oy):=HX.out
      clear HX
      have HX:=HXd
      clear HXd
      refine wp_region_held_drew (S:=fun u=>u.cell? ⟨w.heap.size,0,none⟩=some (.slice a n ca)∧u.cell? ⟨w.heap.size,1,none⟩=some (.slice (some ⟨gm,om,none⟩) n cb)∧u.cell? ⟨w.heap.size,2,none⟩=some (.slice c n cc)∧u.cell? ⟨gm,om+i,none⟩=some (.slice bm n cm)∧u.cell? ⟨gq,oq+(t+1),none⟩=some (.int .i64 (qt:Nat))∧u.cell? ⟨G,t+1,none⟩=some (.slice (some ⟨gn,0,none⟩) n cn)) (by kernel_rfl) (HELD.out _ HB1.out) (fun hSd=>?_)
      generalize W8.drew=u0 at *
      refine tkB 0 (.func (.func fid) #[] #[]) ?_
      try simp only[gE,aP]
      refine tkB 1 (.agg #[.slice a n ca,.slice (some ⟨gm,om,none⟩) n cb,.slice c n cc]) ?_
      try simp only[gE,aP]
      refine tkB 2 (.pointer (some ⟨w.heap.size,1,none⟩)) ?_
      try simp only[gE,aP]
      refine tkB 3 (.slice (some ⟨gm,om,none⟩) n cb) ?_
      try simp only[gE,aP]
      refine tkB 4 (.int .i64 (i:Nat)) ?_
      try simp only[gE,aP]
      refine tkB 5 (.pointer (some ⟨gm,om+i,none⟩)) ?_
      try simp only[gE,aP]
      refine tkB 6 (.slice bm n cm) ?_
      try simp only[gE,aP]
      refine tkB 7 (.slice (some ⟨gq,oq,none⟩) L cd) ?_
      try simp only[gE,aP]
      refine tkB 8 (.int .i64 (t:Nat)) ?_
      try simp only[gE,aP]
      refine tkB 9 (.int .i64 (t+1:Nat)) ?_
      try simp only[gE,aP]
      refine tkB 10 (.pointer (some ⟨gq,oq+(t+1),none⟩)) ?_
      try simp only[gE,aP]
      refine tkB 11 (.int .i64 (qt:Nat)) ?_
      try simp only[gE,aP]
      refine tkB 13 (.slice (some ⟨G,0,none⟩) L L) ?_
      try simp only[gE,aP]
      refine tkB 14 (.int .i64 (t:Nat)) ?_
      try simp only[gE,aP]
      refine tkB 15 (.int .i64 (t+1:Nat)) ?_
      try simp only[gE,aP]
      refine tkB 16 (.pointer (some ⟨G,t+1,none⟩)) ?_
      try simp only[gE,aP]
      refine tkB 17 (.slice (some ⟨gn,0,none⟩) n cn) ?_
      try simp only[gE,aP]
      refine rdA [12] (cA ?_ AllReadyH.nil)
      ·intro K' hK'
       go_simp
       refine(HSH.out _ HB1.out).mono ?_
       rintro e u1 ⟨g1,rfl,hg1,hr1,hb⟩
       replace HX:=hid (HX.out.below hb HX.out.lt)
       replace HB1:=hid (HB1.out.trans (hb.mono HB1.out.size))
       refine hK'.out _ _ (HELD.out _ HB1.out) (fun hSe=>?_)
       clear hK' K' hSd
       have hSd:=hSe
       clear hSe hb
       try simp only[gE,aP]
       refine rdA [18] (cA ?_ AllReadyH.nil)
       ·intro K' hK'
        go_simp
        refine(HTI.out _ HB1.out g1 n hr1.fr).mono ?_
        rintro e u2 ⟨g2,rfl,hg2,hr2,hb⟩
        replace HX:=hid (HX.out.below hb HX.out.lt)
        replace HB1:=hid (HB1.out.trans (hb.mono HB1.out.size))
        refine hK'.out _ _ (HELD.out _ HB1.out) (fun hSe=>?_)
        clear hK' K' hSd
        have hSd:=hSe
        clear hSe hb
        try simp only[gE,aP]
        refine rdA [19] (cA ?_ AllReadyH.nil)
        ·intro K' hK'
         go_simp
         refine(HTG.out _ g2 n hr2.fr).mono ?_
         rintro e u3 ⟨rfl,hb⟩
         replace HX:=hid (HX.out.below hb HX.out.lt)
         replace HB1:=hid (HB1.out.trans (hb.mono HB1.out.size))
         refine hK'.out _ _ (HELD.out _ HB1.out) (fun hSe=>?_)
         clear hK' K' hSd
         have hSd:=hSe
         clear hSe hb
         try simp only[gE,aP]
         obtain⟨k0,k1,k2,f0,f1,f2⟩:=HX.out.facts
         refine rdA [20] (cA ?_ AllReadyH.nil)
         ·intro K' hK'
          go_simp
          refine hK'.out _ _ (HELD.out _ (below_put HB1.out hgL2 _ _ _)) (fun _=>wpAnyH_done (by kernel_rfl) ?_ _)
          clear hK' K' hSd
          have HXP:=hid (HX.out.put qf.1 qf.2.1 qf.2.2)
          have HBP:=hid (below_put HB1.out hgL2 (.bool qf.1) (.string qf.2.1) (.string qf.2.2))
          clear k0 k1 k2 f0 f1 f2
          generalize (((u3.setCell ⟨gL,0,none⟩ (.bool qf.1)).setCell ⟨gL,1,none⟩ (.string qf.2.1)).setCell ⟨gL,2,none⟩ (.string qf.2.2))=W9 at *
          replace HK:=hid (HK.out.step HBP.out)
          replace HH:=hid (HH.out.below HBP.out HH.out.lt)
          clear HB1 HX HBP HELD HSH HTI HTG
          have HX:=HXP
          clear HXP
          generalize W9=Wz at *
          go_upto_region 12 with fail
          refine wp_region_held_drew (S:=fun _=>True) (by kernel_rfl) trivial (fun _=>?_)
          replace HK:=hid (HK.out.step (Below.refl _ _).drew)
          have HHd:Hid (HBox Wz.drew w.heap.size (.slice a n ca) (.slice (some ⟨gm,om,none⟩) n cb) (.slice c n cc)):=HH.out
          have HXd:Hid (Box Wz.drew gL qf.1 qf.2.1 qf.2.2):=HX.out
          clear HH HX
          have HH:=HHd
          have HX:=HXd
          clear HHd HXd
          generalize Wz.drew=z0 at *
          refine tkB 0 (.slice (some ⟨G,0,none⟩) L L) ?_
          try simp only[gE,aP]
          refine tkB 1 (.int .i64 (t:Nat)) ?_
          try simp only[gE,aP]
          refine tkB 2 (.slice (some ⟨G,0,none⟩) L L) ?_
          try simp only[gE,aP]
          refine tkB 3 (.int .i64 (t:Nat)) ?_
          try simp only[gE,aP]
          refine tkB 4 (.pointer (some ⟨G,t,none⟩)) ?_
          try simp only[gE,aP]
          refine rdA [5,6] (cA ?_ (cA ?_ AllReadyH.nil))
          ·intro K' hK'
           obtain⟨k0, -, -⟩:=HK.out.cell
           go_simp
           refine hK'.out _ _ trivial (fun _=>?_)
           clear hK' K'
           clear k0
           try simp only[gE,aP]
           refine rdA [6] (cA ?_ AllReadyH.nil)
           ·intro K' hK'
            obtain⟨x0,x1,x2, -⟩:=HX.out.facts
            go_simp
            refine hK'.out _ _ trivial (fun _=>?_)
            clear hK' K'
            clear x0 x1 x2
            try simp only[gE,aP]
            refine rdA [7] (cA ?_ AllReadyH.nil)
            ·intro K' hK'
             go_simp
             have hbA:=(Below.refl z0.heap.size z0).alloc (Nat.le_refl _) (FC qf.1 qf.2.1 qf.2.2)
             have HY:=hid (Box.new z0 qf.1 qf.2.1 qf.2.2)
             replace HK:=hid (HK.out.step hbA)
             replace HH:=hid (HH.out.below hbA HH.out.lt)
             replace HX:=hid (HX.out.below hbA HX.out.lt)
             clear hbA
             refine hK'.out _ _ trivial (fun _=>?_)
             clear hK' K'
             obtain⟨gy,hgy⟩:∃x,z0.heap.size=x:=⟨_,rfl⟩
             obtain⟨z1,hV⟩:∃x,z0.alloc (FC qf.1 qf.2.1 qf.2.2)=x:=⟨_,rfl⟩
             rw[hgy] at HY
             rw[hV] at HY HK HH HX
             simp only[hV]
             simp only[hgy]
             clear hgy hV
             try simp only[gE,aP]
             refine rdA [8] (cA ?_ AllReadyH.nil)
             ·intro K' hK'
              rw[if_pos (by rfl)]
              refine wp_append_fr _ _ rfl M v ((lF n (F t)).take i) qf rfl HK.out.own gy rfl HY.out (by rw[List.length_take,lF_length];omega) HK.out.MU ?_
              intro v2 V8 hr8 hg8
              obtain⟨d8,n8,c8,rfl⟩:=hr8.slv
              obtain⟨hk8,kc,kf,hb8⟩:=HK.out.grown hg8 hr8
              refine hK'.out _ _ trivial (fun _=>?_)
              clear hK' K'
              try simp only[gE,aP]
              refine tkB 9 (.pointer (some ⟨G,t,none⟩)) ?_
              try simp only[gE,aP]
              refine rdA [10] (cA ?_ AllReadyH.nil)
              ·intro K' hK'
               go_simp
               have HKN:=hid hk8
               have HHN:Hid (HBox (V8.setCell ⟨G,t,none⟩ (.slice d8 n8 c8)) w.heap.size (.slice a n ca) (.slice (some ⟨gm,om,none⟩) n cb) (.slice c n cc)):=(HH.out.below hb8 (by have:=HK.out.GM;have:=HK.out.Gw;omega)).setOff G t (.slice d8 n8 c8) (by have:=HK.out.Gw;omega)
               refine hK'.out _ _ trivial (fun _=>?_)
               clear hK' K'
               refine wpAnyH_done (by kernel_rfl) ?_ _
               rw[HTS.out] at HKN
               clear kc kf hb8 hk8 hr8 hg8 HK HH HX HY
               go_wp2
               go_roundw
               case rel=>exact⟨i+1,by omega,by go_num,⟨.slice d8 n8 c8,HKN⟩,HHN⟩
               case measure=>simp[intOf];omega
          ·intro K' hK'
           obtain⟨x0,x1,x2, -⟩:=HX.out.facts
           go_simp
           refine hK'.out _ _ trivial (fun _=>?_)
           clear hK' K'
           clear x0 x1 x2
           try simp only[gE,aP]
           refine rdA [5,7] (cA ?_ (cA ?_ AllReadyH.nil))
           ·intro K' hK'
            obtain⟨k0, -, -⟩:=HK.out.cell
            go_simp
            refine hK'.out _ _ trivial (fun _=>?_)
            clear hK' K'
            clear k0
            try simp only[gE,aP]
            refine rdA [7] (cA ?_ AllReadyH.nil)
            ·intro K' hK'
             go_simp
             have hbA:=(Below.refl z0.heap.size z0).alloc (Nat.le_refl _) (FC qf.1 qf.2.1 qf.2.2)
             have HY:=hid (Box.new z0 qf.1 qf.2.1 qf.2.2)
             replace HK:=hid (HK.out.step hbA)
             replace HH:=hid (HH.out.below hbA HH.out.lt)
             replace HX:=hid (HX.out.below hbA HX.out.lt)
             clear hbA
             refine hK'.out _ _ trivial (fun _=>?_)
             clear hK' K'
             obtain⟨gy,hgy⟩:∃x,z0.heap.size=x:=⟨_,rfl⟩
             obtain⟨z1,hV⟩:∃x,z0.alloc (FC qf.1 qf.2.1 qf.2.2)=x:=⟨_,rfl⟩
             rw[hgy] at HY
             rw[hV] at HY HK HH HX
             simp only[hV]
             simp only[hgy]
             clear hgy hV
             try simp only[gE,aP]
             refine rdA [8] (cA ?_ AllReadyH.nil)
             ·intro K' hK'
              rw[if_pos (by rfl)]
              refine wp_append_fr _ _ rfl M v ((lF n (F t)).take i) qf rfl HK.out.own gy rfl HY.out (by rw[List.length_take,lF_length];omega) HK.out.MU ?_
              intro v2 V8 hr8 hg8
              obtain⟨d8,n8,c8,rfl⟩:=hr8.slv
              obtain⟨hk8,kc,kf,hb8⟩:=HK.out.grown hg8 hr8
              refine hK'.out _ _ trivial (fun _=>?_)
              clear hK' K'
              try simp only[gE,aP]
              refine tkB 9 (.pointer (some ⟨G,t,none⟩)) ?_
              try simp only[gE,aP]
              refine rdA [10] (cA ?_ AllReadyH.nil)
              ·intro K' hK'
               go_simp
               have HKN:=hid hk8
               have HHN:Hid (HBox (V8.setCell ⟨G,t,none⟩ (.slice d8 n8 c8)) w.heap.size (.slice a n ca) (.slice (some ⟨gm,om,none⟩) n cb) (.slice c n cc)):=(HH.out.below hb8 (by have:=HK.out.GM;have:=HK.out.Gw;omega)).setOff G t (.slice d8 n8 c8) (by have:=HK.out.Gw;omega)
               refine hK'.out _ _ trivial (fun _=>?_)
               clear hK' K'
               refine wpAnyH_done (by kernel_rfl) ?_ _
               rw[HTS.out] at HKN
               clear kc kf hb8 hk8 hr8 hg8 HK HH HX HY
               go_wp2
               go_roundw
               case rel=>exact⟨i+1,by omega,by go_num,⟨.slice d8 n8 c8,HKN⟩,HHN⟩
               case measure=>simp[intOf];omega
           ·intro K' hK'
            go_simp
            have hbA:=(Below.refl z0.heap.size z0).alloc (Nat.le_refl _) (FC qf.1 qf.2.1 qf.2.2)
            have HY:=hid (Box.new z0 qf.1 qf.2.1 qf.2.2)
            replace HK:=hid (HK.out.step hbA)
            replace HH:=hid (HH.out.below hbA HH.out.lt)
            replace HX:=hid (HX.out.below hbA HX.out.lt)
            clear hbA
            refine hK'.out _ _ trivial (fun _=>?_)
            clear hK' K'
            obtain⟨gy,hgy⟩:∃x,z0.heap.size=x:=⟨_,rfl⟩
            obtain⟨z1,hV⟩:∃x,z0.alloc (FC qf.1 qf.2.1 qf.2.2)=x:=⟨_,rfl⟩
            rw[hgy] at HY
            rw[hV] at HY HK HH HX
            simp only[hV]
            simp only[hgy]
            clear hgy hV
            try simp only[gE,aP]
            refine rdA [5] (cA ?_ AllReadyH.nil)
            ·intro K' hK'
             obtain⟨k0, -, -⟩:=HK.out.cell
             go_simp
             refine hK'.out _ _ trivial (fun _=>?_)
             clear hK' K'
             clear k0
             try simp only[gE,aP]
             refine rdA [8] (cA ?_ AllReadyH.nil)
             ·intro K' hK'
              rw[if_pos (by rfl)]
              refine wp_append_fr _ _ rfl M v ((lF n (F t)).take i) qf rfl HK.out.own gy rfl HY.out (by rw[List.length_take,lF_length];omega) HK.out.MU ?_
              intro v2 V8 hr8 hg8
              obtain⟨d8,n8,c8,rfl⟩:=hr8.slv
              obtain⟨hk8,kc,kf,hb8⟩:=HK.out.grown hg8 hr8
              refine hK'.out _ _ trivial (fun _=>?_)
              clear hK' K'
              try simp only[gE,aP]
              refine tkB 9 (.pointer (some ⟨G,t,none⟩)) ?_
              try simp only[gE,aP]
              refine rdA [10] (cA ?_ AllReadyH.nil)
              ·intro K' hK'
               go_simp
               have HKN:=hid hk8
               have HHN:Hid (HBox (V8.setCell ⟨G,t,none⟩ (.slice d8 n8 c8)) w.heap.size (.slice a n ca) (.slice (some ⟨gm,om,none⟩) n cb) (.slice c n cc)):=(HH.out.below hb8 (by have:=HK.out.GM;have:=HK.out.Gw;omega)).setOff G t (.slice d8 n8 c8) (by have:=HK.out.Gw;omega)
               refine hK'.out _ _ trivial (fun _=>?_)
               clear hK' K'
               refine wpAnyH_done (by kernel_rfl) ?_ _
               rw[HTS.out] at HKN
               clear kc kf hb8 hk8 hr8 hg8 HK HH HX HY
               go_wp2
               go_roundw
               case rel=>exact⟨i+1,by omega,by go_num,⟨.slice d8 n8 c8,HKN⟩,HHN⟩
               case measure=>simp[intOf];omega
    ·obtain rfl:i=n:=by omega
     have hdn:=HK.out
     rw[List.take_of_length_le (by rw[lF_length];exact Nat.le_refl _)] at hdn
     have HDN:=hid (hdn.done ht (by omega))
     clear hdn HK
     go_wp2
     go_roundw
     case rel=>exact⟨back+1,by omega,by go_num,HDN,HH⟩
     case measure=>simp[intOf];omega
  ·obtain rfl:back=L:=by omega
   go_wp2
   go_ret
   exact⟨G,rfl,HKO.out⟩
theorem hiBackward_any {D:Nat} (a b c d:Option Addr) (ca cb cc cd n L m fid:Nat) (l:List Fr) (R1 R2:List (List Fr)) (Q:List Nat) (h:HC) (F:Nat→Nat→Rat) (Tg:(Nat→Rat)→Rat) (w:World) (hI:HidI w a b c n m l R1 R2) (hV:HidV D h m l R1 R2 Q) (hsn:h.s=n) (hL:h.L=L) (hQ:IntS w d (iL Q)) (eF:∀args w,(callFunc fid args).run Tryz.prog w=.ok (.enter fid args) w)
  (hF0:∀i,i<n→F (L - 1) i=1) (hF1:∀t i,t+1<L→i<n→F t i=Tg fun j=>h.mv i j*h.sh (t+1) j*F (t+1) j) (hFs:∀t i,t<L→i<n→qw (F t i)≤30010) (hFp:∀t i j,t+1<L→i<n→j<n→qw (h.mv i j*h.sh (t+1) j)≤30010∧qw (h.mv i j*h.sh (t+1) j*F (t+1) j)≤30010)
  (hFq:∀t i k,t+1<L→i<n→k≤n→qw (sumR (fun j=>h.mv i j*h.sh (t+1) j*F (t+1) j) k)≤40000) (hTg:∀(f:Nat→Rat) (U:World) (g k:Nat),(∀i,i<n→qw (f i)≤30010)→(∀k,k≤n→qw (sumR f k)≤40000)→FrS U (some ⟨g,0,none⟩) (lF n f)→Calls Tryz.prog fid #[.slice (some ⟨g,0,none⟩) n k] U fun e w'=>e=.returned (frV (qF (Tg f)))∧Below U.heap.size U w'):
  Calls Tryz.prog 46 #[.agg #[.slice a n ca,.slice b n cb,.slice c n cc],.slice d L cd,.func (.func fid) #[] #[]] w fun e w'=>∃G,e=.returned (.slice (some ⟨G,0,none⟩) L L)∧w.heap.size≤G∧FsS w' (some ⟨G,0,none⟩) ((List.range L).map fun t=>lF n (F t))∧Below w.heap.size w w':=by
 refine(hiBackward_own a b c d ca cb cc cd n L m fid l R1 R2 Q h F Tg w hI hV hsn hL hQ eF hF0 hF1 hFs hFp hFq hTg).mono ?_
 rintro e w' ⟨G,rfl,hK⟩
 exact⟨G,rfl,Nat.le_of_lt hK.Gw,hK.rows,hK.bel⟩
end Go.Proofs.YtgamblainfkiaaaGreatDoor

/- Likely, Forward, Backward of package hidden. -/
namespace Go.Proofs.YtgamblainfkiaaaGreatDoor
open Go.RowKit Go.Shelf
theorem HidV.okn {D:Nat} {h:HC} {m n:Nat} {l:List Fr} {R1 R2:List (List Fr)} {Q:List Nat} (v:HidV D h m l R1 R2 Q) (hsn:h.s=n):HidOK n m l R1 R2:=by
 have h1:=v.ok
 rwa [hsn] at h1
def HC.behind (h:HC) (t i:Nat):Rat:=h.bet (h.L - 1 - t) i
def HC.best (h:HC) (t i:Nat):Rat:=h.gam (h.L - 1 - t) i
theorem HC.behind_last (h:HC) (i:Nat):h.behind (h.L - 1) i=1:=by rw[HC.behind,Nat.sub_self];rfl
theorem HC.best_last (h:HC) (i:Nat):h.best (h.L - 1) i=1:=by rw[HC.best,Nat.sub_self];rfl
theorem HC.behind_step (h:HC) {t i:Nat} (ht:t+1<h.L):h.behind t i=sumR (fun j=>h.mv i j*h.sh (t+1) j*h.behind (t+1) j) h.s:=by
 rw[HC.behind,show h.L - 1 - t=(h.L - 1 - (t+1))+1 by omega,HC.bet,show h.L - 1 - (h.L - 1 - (t+1))=t+1 by omega]
 rfl
theorem HC.best_step (h:HC) {t i:Nat} (ht:t+1<h.L):h.best t i=(fun f:Nat→Rat=>f (bstR f (h.s - 1))) fun j=>h.mv i j*h.sh (t+1) j*h.best (t+1) j:=by
 rw[HC.best,show h.L - 1 - t=(h.L - 1 - (t+1))+1 by omega,HC.gam,show h.L - 1 - (h.L - 1 - (t+1))=t+1 by omega]
 rfl
theorem HC.Sml.behind {D:Nat} {h:HC} (v:h.Sml D) {t i:Nat} (ht:t<h.L) (hi:i<h.s):Sm D (3*(h.L - 1 - t)) (h.behind t i):=v.bet (h.L - 1 - t) i (by omega) hi
theorem HC.Sml.best {D:Nat} {h:HC} (v:h.Sml D) (h1:1≤h.s) {t i:Nat} (ht:t<h.L) (hi:i<h.s):Sm D (3*(h.L - 1 - t)) (h.best t i):=v.gam h1 (h.L - 1 - t) i (by omega) hi
def HC.seen (h:HC):Rat:=if h.L=0 then 1 else h.all
set_option maxRecDepth 100000 in
theorem hiBackSum_own {D:Nat} (a b c d:Option Addr) (ca cb cc cd n L m:Nat) (l:List Fr) (R1 R2:List (List Fr)) (Q:List Nat) (h:HC) (w:World) (hI:HidI w a b c n m l R1 R2) (hV:HidV D h m l R1 R2 Q) (hsn:h.s=n) (hL:h.L=L) (hQ:IntS w d (iL Q)):
  Calls Tryz.prog 46 #[.agg #[.slice a n ca,.slice b n cb,.slice c n cc],.slice d L cd,.func (.func 30) #[] #[]] w fun e w'=>∃G,e=.returned (.slice (some ⟨G,0,none⟩) L L)∧BoS w n L G L h.behind w':=by
 have hs4:=hV.sm.s4
 refine hiBackward_own a b c d ca cb cc cd n L m 30 l R1 R2 Q h h.behind (fun f=>sumR f n) w hI hV hsn hL hQ (enters_of Tryz.func30 (by kernel_rfl) rfl) ?_ ?_ ?_ ?_ ?_ ?_
 ·intro i _;rw[←hL];exact h.behind_last i
 ·intro t i ht _;rw[←hsn];exact h.behind_step (by omega)
 ·intro t i ht hi;exact hV.sm.qw (hV.sm.behind (by omega) (by omega)) (by omega)
 ·intro t i j ht hi hj
  have h1:=(hV.sm.mv i (by omega) j (by omega)).mul (hV.sm.sh (t+1) (by omega) j (by omega))
  exact⟨hV.sm.qw h1 (by omega),hV.sm.qw (h1.mul (hV.sm.behind (t:=t+1) (by omega) (by omega))) (by omega)⟩
 ·intro t i k ht hi hk
  exact Nat.le_trans (hV.sm.qw (Sm.sum (by omega) fun j hj=>((hV.sm.mv i (by omega) j (by omega)).mul (hV.sm.sh (t+1) (by omega) j (by omega))).mul (hV.sm.behind (t:=t+1) (by omega) (by omega))) (by omega)) (by omega)
 ·intro f U g k hf hp hU
  have hl:=Lst.mk' hf
  have h9:=fSum_cw (some ⟨g,0,none⟩) k (lF n f) U hU (fun q hq=>Nat.le_trans (hl.size q hq) (by omega)) (fun q hq=>by rw[lF_length] at hq;rw[hl.fsumk hq];exact hp q hq) (by rw[lF_length];omega)
  rw[lF_length,hl.fsum] at h9
  exact h9
theorem hiBackSum {D:Nat} (a b c d:Option Addr) (ca cb cc cd n L m:Nat) (l:List Fr) (R1 R2:List (List Fr)) (Q:List Nat) (h:HC) (w:World) (hI:HidI w a b c n m l R1 R2) (hV:HidV D h m l R1 R2 Q) (hsn:h.s=n) (hL:h.L=L) (hQ:IntS w d (iL Q)):
  Calls Tryz.prog 46 #[.agg #[.slice a n ca,.slice b n cb,.slice c n cc],.slice d L cd,.func (.func 30) #[] #[]] w fun e w'=>∃G,e=.returned (.slice (some ⟨G,0,none⟩) L L)∧w.heap.size≤G∧FsS w' (some ⟨G,0,none⟩) ((List.range L).map fun t=>lF n (h.behind t))∧Below w.heap.size w w':=by
 refine(hiBackSum_own a b c d ca cb cc cd n L m l R1 R2 Q h w hI hV hsn hL hQ).mono ?_
 rintro e w' ⟨G,rfl,hK⟩
 exact⟨G,rfl,Nat.le_of_lt hK.Gw,hK.rows,hK.bel⟩
set_option maxRecDepth 100000 in
theorem hiBackBest {D:Nat} (a b c d:Option Addr) (ca cb cc cd n L m:Nat) (l:List Fr) (R1 R2:List (List Fr)) (Q:List Nat) (h:HC) (w:World) (hI:HidI w a b c n m l R1 R2) (hV:HidV D h m l R1 R2 Q) (hsn:h.s=n) (hL:h.L=L) (hQ:IntS w d (iL Q)):
  Calls Tryz.prog 46 #[.agg #[.slice a n ca,.slice b n cb,.slice c n cc],.slice d L cd,.func (.func 51) #[] #[]] w fun e w'=>∃G,e=.returned (.slice (some ⟨G,0,none⟩) L L)∧w.heap.size≤G∧FsS w' (some ⟨G,0,none⟩) ((List.range L).map fun t=>lF n (h.best t))∧Below w.heap.size w w':=by
 have hs4:=hV.sm.s4
 have hs1:=hV.ok.n1
 refine hiBackward_any a b c d ca cb cc cd n L m 51 l R1 R2 Q h h.best (fun f=>f (bstR f (n - 1))) w hI hV hsn hL hQ (enters_of Tryz.func51 (by kernel_rfl) rfl) ?_ ?_ ?_ ?_ ?_ ?_
 ·intro i _;rw[←hL];exact h.best_last i
 ·intro t i ht _;rw[←hsn];exact h.best_step (by omega)
 ·intro t i ht hi;exact hV.sm.qw (hV.sm.best hs1 (by omega) (by omega)) (by omega)
 ·intro t i j ht hi hj
  have h1:=(hV.sm.mv i (by omega) j (by omega)).mul (hV.sm.sh (t+1) (by omega) j (by omega))
  exact⟨hV.sm.qw h1 (by omega),hV.sm.qw (h1.mul (hV.sm.best hs1 (t:=t+1) (by omega) (by omega))) (by omega)⟩
 ·intro t i k ht hi hk
  exact Nat.le_trans (hV.sm.qw (Sm.sum (by omega) fun j hj=>((hV.sm.mv i (by omega) j (by omega)).mul (hV.sm.sh (t+1) (by omega) j (by omega))).mul (hV.sm.best hs1 (t:=t+1) (by omega) (by omega))) (by omega)) (by omega)
 ·intro f U g k hf _ hU
  exact hGreat_any (some ⟨g,0,none⟩) k n (lF n f) f U hU (Lst.mk' hf) (fun i hi=>lF_get hi) (by omega) (by omega)
set_option maxRecDepth 100000 in
set_option maxHeartbeats 1000000 in
theorem hiForward_yes {D:Nat} (a b c d:Option Addr) (ca cb cc cd n L m:Nat) (l:List Fr) (R1 R2:List (List Fr)) (Q:List Nat) (h:HC) (w:World) (hI:HidI w a b c n m l R1 R2) (hV:HidV D h m l R1 R2 Q) (hsn:h.s=n) (hL:h.L=L) (hb0:b=none→cb=0) (hc0:c=none→cc=0) (hQ:IntS w d (iL Q)):
  Calls Tryz.prog 11 #[.agg #[.slice a n ca,.slice b n cb,.slice c n cc],.slice d L cd] w fun e w'=>∃G,e=.returned (.tuple #[.slice (some ⟨G,0,none⟩) L L,.int .i64 0])∧w.heap.size≤G∧FsS w' (some ⟨G,0,none⟩) ((List.range L).map fun t=>lF n (h.alp t))∧Below w.heap.size w w':=by
 have hqL:=hV.L
 rw[hL] at hqL
 have hA:=(Below.refl w.heap.size w).alloc (Nat.le_refl _) (HC3 (.slice a n ca) (.slice b n cb) (.slice c n cc))
 have hHB:=HBox.new w (.slice a n ca) (.slice b n cb) (.slice c n cc)
 have HCK:Hid (Calls Tryz.prog 28 #[.agg #[.slice a n ca,.slice b n cb,.slice c n cc],.slice d L cd] (w.alloc (HC3 (.slice a n ca) (.slice b n cb) (.slice c n cc))) fun e w'=>e=.returned (.int .i64 0)∧Below (w.alloc (HC3 (.slice a n ca) (.slice b n cb) (.slice c n cc))).heap.size (w.alloc (HC3 (.slice a n ca) (.slice b n cb) (.slice c n cc))) w'):=by
  have h9:=hiCheck2_yes a b c d ca cb cc cd n m l R1 R2 Q (w.alloc (HC3 (.slice a n ca) (.slice b n cb) (.slice c n cc))) (hI.below hA) (hV.okn hsn) hb0 hc0 (hQ.below hA) hV.q (by rw[hqL,←hL];exact hV.sm.L8)
  rwa [hqL] at h9
 have HFW:=hid (fun (U:World) (hU:Below w.heap.size w U)=>hiForward_any a b c d ca cb cc cd n L m l R1 R2 Q h U (hI.below hU) hV hsn hL (hQ.below hU))
 have HH:=hid hHB
 have HA:=hid hA
 obtain⟨e0,e1,e2⟩:=hHB.cells
 clear hI hV hsn hL hb0 hc0 hQ hqL hA hHB
 go_enter Tryz.func11,Tryz.ntmps11
 go_wp2_with fail
 generalize (w.alloc (HC3 (.slice a n ca) (.slice b n cb) (.slice c n cc)))=W at *
 refine HCK.out.mono ?_
 rintro e w1 ⟨rfl,hb1⟩
 have HB1:=hid (HA.out.trans (hb1.mono HA.out.size))
 have hH1:=HH.out.below hb1 HH.out.lt
 clear hb1 e0 e1 e2
 obtain⟨e0,e1,e2⟩:=hH1.cells
 go_wp2_with fail
 refine(HFW.out _ HB1.out).mono ?_
 rintro e w2 ⟨G,rfl,hG,hr,hb2⟩
 have HR:=hid hr
 have HB2:=hid (HB1.out.trans (hb2.mono HB1.out.size))
 have hGw:w.heap.size≤G:=Nat.le_trans HB1.out.size hG
 clear hr hb2 hG hH1 e0 e1 e2
 go_wp2
 go_ret2
 exact⟨G,rfl,hGw,HR.out,HB2.out⟩
set_option maxRecDepth 100000 in
set_option maxHeartbeats 1000000 in
theorem hiBackward_yes {D:Nat} (a b c d:Option Addr) (ca cb cc cd n L m:Nat) (l:List Fr) (R1 R2:List (List Fr)) (Q:List Nat) (h:HC) (w:World) (hI:HidI w a b c n m l R1 R2) (hV:HidV D h m l R1 R2 Q) (hsn:h.s=n) (hL:h.L=L) (hb0:b=none→cb=0) (hc0:c=none→cc=0) (hQ:IntS w d (iL Q)):
  Calls Tryz.prog 14 #[.agg #[.slice a n ca,.slice b n cb,.slice c n cc],.slice d L cd] w fun e w'=>∃G,e=.returned (.tuple #[.slice (some ⟨G,0,none⟩) L L,.int .i64 0])∧w.heap.size≤G∧FsS w' (some ⟨G,0,none⟩) ((List.range L).map fun t=>lF n (h.behind t))∧Below w.heap.size w w':=by
 have hqL:=hV.L
 rw[hL] at hqL
 have hA:=(Below.refl w.heap.size w).alloc (Nat.le_refl _) (HC3 (.slice a n ca) (.slice b n cb) (.slice c n cc))
 have hHB:=HBox.new w (.slice a n ca) (.slice b n cb) (.slice c n cc)
 have HCK:Hid (Calls Tryz.prog 28 #[.agg #[.slice a n ca,.slice b n cb,.slice c n cc],.slice d L cd] (w.alloc (HC3 (.slice a n ca) (.slice b n cb) (.slice c n cc))) fun e w'=>e=.returned (.int .i64 0)∧Below (w.alloc (HC3 (.slice a n ca) (.slice b n cb) (.slice c n cc))).heap.size (w.alloc (HC3 (.slice a n ca) (.slice b n cb) (.slice c n cc))) w'):=by
  have h9:=hiCheck2_yes a b c d ca cb cc cd n m l R1 R2 Q (w.alloc (HC3 (.slice a n ca) (.slice b n cb) (.slice c n cc))) (hI.below hA) (hV.okn hsn) hb0 hc0 (hQ.below hA) hV.q (by rw[hqL,←hL];exact hV.sm.L8)
  rwa [hqL] at h9
 have HFW:=hid (fun (U:World) (hU:Below w.heap.size w U)=>hiBackSum a b c d ca cb cc cd n L m l R1 R2 Q h U (hI.below hU) hV hsn hL (hQ.below hU))
 have HH:=hid hHB
 have HA:=hid hA
 obtain⟨e0,e1,e2⟩:=hHB.cells
 clear hI hV hsn hL hb0 hc0 hQ hqL hA hHB
 go_enter Tryz.func14,Tryz.ntmps14
 go_wp2_with fail
 generalize (w.alloc (HC3 (.slice a n ca) (.slice b n cb) (.slice c n cc)))=W at *
 refine HCK.out.mono ?_
 rintro e w1 ⟨rfl,hb1⟩
 have HB1:=hid (HA.out.trans (hb1.mono HA.out.size))
 have hH1:=HH.out.below hb1 HH.out.lt
 clear hb1 e0 e1 e2
 obtain⟨e0,e1,e2⟩:=hH1.cells
 go_wp2_with fail
 refine(HFW.out _ HB1.out).mono ?_
 rintro e w2 ⟨G,rfl,hG,hr,hb2⟩
 have HR:=hid hr
 have HB2:=hid (HB1.out.trans (hb2.mono HB1.out.size))
 have hGw:w.heap.size≤G:=Nat.le_trans HB1.out.size hG
 clear hr hb2 hG hH1 e0 e1 e2
 go_wp2
 go_ret2
 exact⟨G,rfl,hGw,HR.out,HB2.out⟩
set_option maxRecDepth 100000 in
set_option maxHeartbeats 1000000 in
theorem hiLikely_yes {D:Nat} (a b c d:Option Addr) (ca cb cc cd n L m:Nat) (l:List Fr) (R1 R2:List (List Fr)) (Q:List Nat) (h:HC) (w:World) (hI:HidI w a b c n m l R1 R2) (hV:HidV D h m l R1 R2 Q) (hsn:h.s=n) (hL:h.L=L) (hb0:b=none→cb=0) (hc0:c=none→cc=0) (hQ:IntS w d (iL Q)):
  Calls Tryz.prog 6 #[.agg #[.slice a n ca,.slice b n cb,.slice c n cc],.slice d L cd] w fun e w'=>e=.returned (.tuple #[frV (qF h.seen),.int .i64 0])∧Below w.heap.size w w':=by
 have hqL:=hV.L
 rw[hL] at hqL
 have hA0:=(Below.refl w.heap.size w).alloc (Nat.le_refl _) (HC3 (.slice a n ca) (.slice b n cb) (.slice c n cc))
 have hHB0:=HBox.new w (.slice a n ca) (.slice b n cb) (.slice c n cc)
 have hA:=hA0.alloc hA0.size (FC false ⟨#[]⟩ ⟨#[]⟩)
 have hst:=(Below.refl (w.alloc (HC3 (.slice a n ca) (.slice b n cb) (.slice c n cc))).heap.size (w.alloc (HC3 (.slice a n ca) (.slice b n cb) (.slice c n cc)))).alloc (Nat.le_refl _) (FC false ⟨#[]⟩ ⟨#[]⟩)
 have hHB:=hHB0.below hst hHB0.lt
 have hX:Box ((w.alloc (HC3 (.slice a n ca) (.slice b n cb) (.slice c n cc))).alloc (FC false ⟨#[]⟩ ⟨#[]⟩)) (w.heap.size+1) false ⟨#[]⟩ ⟨#[]⟩:=by
  have h9:=Box.new (w.alloc (HC3 (.slice a n ca) (.slice b n cb) (.slice c n cc))) false ⟨#[]⟩ ⟨#[]⟩
  rwa [World.size_alloc] at h9
 have HCK:Hid (Calls Tryz.prog 28 #[.agg #[.slice a n ca,.slice b n cb,.slice c n cc],.slice d L cd] ((w.alloc (HC3 (.slice a n ca) (.slice b n cb) (.slice c n cc))).alloc (FC false ⟨#[]⟩ ⟨#[]⟩)) fun e w'=>e=.returned (.int .i64 0)∧Below ((w.alloc (HC3 (.slice a n ca) (.slice b n cb) (.slice c n cc))).alloc (FC false ⟨#[]⟩ ⟨#[]⟩)).heap.size ((w.alloc (HC3 (.slice a n ca) (.slice b n cb) (.slice c n cc))).alloc (FC false ⟨#[]⟩ ⟨#[]⟩)) w'):=by
  have h9:=hiCheck2_yes a b c d ca cb cc cd n m l R1 R2 Q _ (hI.below hA) (hV.okn hsn) hb0 hc0 (hQ.below hA) hV.q (by rw[hqL,←hL];exact hV.sm.L8)
  rwa [hqL] at h9
 have HFW:=hid (fun (U:World) (hU:Below w.heap.size w U)=>hiForward_any a b c d ca cb cc cd n L m l R1 R2 Q h U (hI.below hU) hV hsn hL (hQ.below hU))
 have hn4:=hV.sm.s4
 have hL8:=hV.sm.L8
 rw[hsn] at hn4
 rw[hL] at hL8
 have HSE:Hid (∀k,k+1=L→h.seen=sumR (h.alp k) n):=fun k hk=>by
  rw[HC.seen,if_neg (by omega),HC.all,hsn,show h.L - 1=k by omega]
 have HSZ:Hid (L=0→h.seen=1):=fun e=>by rw[HC.seen,if_pos (by omega)]
 have HAL:Hid (∀k,k+1=L→Lst n (h.alp k) (lF n (h.alp k))):=fun k hk=>by
  have h9:=hV.alps k (by omega)
  rwa [hsn] at h9
 have HAPP:Hid (∀k,k+1=L→∀q,q≤n→qw (sumR (h.alp k) q)≤40000):=fun k hk q hq=>Nat.le_trans (hV.sm.qw (Sm.sum (by have:=hV.sm.s4;omega) fun i hi=>hV.sm.alp k i (by omega) (by omega)) (by omega)) (by omega)
 have HO1:=hid (fun V:World=>fOf_q (k:=1) (w:=V) 1 1 rfl (by decide) (by rfl))
 have HH:=hid hHB
 have HX:=hid hX
 have HA:=hid hA
 obtain⟨e0,e1,e2⟩:=hHB.cells
 clear hI hV hsn hL hb0 hc0 hQ hqL hA hHB hA0 hHB0 hst hX
 generalize h.seen=q at *
 go_enter Tryz.func6,Tryz.ntmps6
 go_wp2_with fail
 generalize ((w.alloc (HC3 (.slice a n ca) (.slice b n cb) (.slice c n cc))).alloc (FC false ⟨#[]⟩ ⟨#[]⟩))=W at *
 refine HCK.out.mono ?_
 rintro e w1 ⟨rfl,hb1⟩
 have HB1:=hid (HA.out.trans (hb1.mono HA.out.size))
 have hH1:=HH.out.below hb1 HH.out.lt
 replace HX:=hid (HX.out.below hb1 HX.out.lt)
 clear hb1 e0 e1 e2
 obtain⟨e0,e1,e2⟩:=hH1.cells
 by_cases hL0:L=0
 ·have HQ1:=hid (HSZ.out hL0)
  have hli:(L:Int)=0:=by omega
  clear hL0
  go_wp2_with fail
  refine(HO1.out _).mono ?_
  rintro e w2 ⟨rfl,hb2⟩
  replace HX:=hid (HX.out.below hb2 HX.out.lt)
  have HB2:=hid (HB1.out.trans (hb2.mono HB1.out.size))
  obtain⟨k0,k1,k2,f0,f1,f2⟩:=HX.out.facts
  clear hb2 hH1 e0 e1 e2
  go_wp2
  refine bodyPost_ret ((HX.out.put _ _ _).result2 rfl _ rfl) rfl ?_
  exact⟨by rw[HQ1.out];rfl,below_put HB2.out (by omega) _ _ _⟩
 ·obtain⟨k,hk⟩:∃k,k+1=L:=⟨L - 1,by omega⟩
  have hli:¬(L:Int)=0:=by omega
  have hlb:((L:Int)==0)=false:=by simpa using hli
  have hk1:(L:Int) - 1=(k:Int):=by omega
  have hkL:k<L:=by omega
  have HQ2:=hid (HSE.out k hk)
  have HAK:=hid (HAL.out k hk)
  have HAP:=hid (HAPP.out k hk)
  clear hk hL0
  go_wp2_with fail
  refine(HFW.out _ HB1.out).mono ?_
  rintro e w2 ⟨G,rfl,hG,hr,hb2⟩
  replace HX:=hid (HX.out.below hb2 HX.out.lt)
  have HB2:=hid (HB1.out.trans (hb2.mono HB1.out.size))
  obtain⟨g',o',b',c',e',hg',r0,r1, -⟩:=hr k (by simpa using hkL)
  cases e'
  have er:((List.range L).map fun t=>lF n (h.alp t))[k]'(by simpa using hkL)=lF n (h.alp k):=by simp
  rw[er,lF_length,Nat.zero_add] at r0
  rw[er] at r1
  have HSU:Hid (Calls Tryz.prog 30 #[.slice b' n c'] w2 fun e w'=>e=.returned (.agg #[.bool (sgn q),.string (nu q),.string (de q)])∧Below w2.heap.size w2 w'):=by
   have h9:=fSum_cw b' c' (lF n (h.alp k)) w2 r1 (fun q hq=>Nat.le_trans (HAK.out.size q hq) (by omega)) (fun q hq=>by rw[lF_length] at hq;rw[HAK.out.fsumk hq];exact HAP.out q hq) (by rw[lF_length];omega)
   rw[lF_length,HAK.out.fsum,←HQ2.out] at h9
   exact h9
  clear hr hb2 hG hH1 e0 e1 e2 er r1
  go_wp2_with fail
  refine HSU.out.mono ?_
  rintro e w3 ⟨rfl,hb3⟩
  replace HX:=hid (HX.out.below hb3 HX.out.lt)
  have HB3:=hid (HB2.out.trans (hb3.mono HB2.out.size))
  obtain⟨k0,k1,k2,f0,f1,f2⟩:=HX.out.facts
  clear hb3 r0
  go_wp2
  refine bodyPost_ret ((HX.out.put _ _ _).result2 rfl _ rfl) rfl ?_
  exact⟨rfl,below_put HB3.out (by omega) _ _ _⟩
end Go.Proofs.YtgamblainfkiaaaGreatDoor
