/- The answer's share, its list in memory of its own. -/
import Derived.Test.YtgamblainfkiaaaGreatDoorRefSHxFillA
import Derived.Test.YtgamblainfkiaaaGreatDoorFillBHxHidQ
import Derived.Test.YtgamblainfkiaaaGreatDoorMadBHxCofI
namespace Go.Proofs.YtgamblainfkiaaaGreatDoor
open Go.RowKit Go.Shelf
theorem own_ltS {w:World} {B:Nat} {e:TypeId} {s:Nat} {v:Value} {n:Nat} {xs:List Value} (h:w.ownsRow B e s v n xs):∀R,v.ownBlock=some R→B≤R∧R<w.heap.size:=fun R hR=>by
 rcases h.2 with ⟨h1,h2⟩ |⟨g,cap,cur,h1,h2,h3,_⟩
 ·rw[h1] at hR;cases hR
 ·rw[h1] at hR
  cases hR
  exact⟨h2,(Array.getElem?_eq_some_iff.1 h3).1⟩
set_option maxRecDepth 100000 in
set_option maxHeartbeats 2000000 in
theorem rSum_cw (a:Option Addr) (cap:Nat) (l:List Fr) (w:World) (h:FrS w a l) (hl:∀k (h:k<l.length),l[k].2.1.size+l[k].2.2.size≤40000) (hq:∀k,k≤l.length→qw (fsum (l.take k))≤40000) (hn:l.length≤10000):
  Calls Tryz.prog 85 #[.slice a l.length cap] w fun e w'=>e=.returned (C (fsum l))∧Below w.heap.size w w':=by
 have HF:=hide h
 clear h
 have HFIN:Hid (fsum (l.take l.length)=fsum l):=by show _=_;rw[List.take_length]
 have HO:=hide (fun V=>rOfF_any 0 V (by omega) (by omega))
 rw[Rat.zero_mkRat] at HO
 go_enter Tryz.func85,Tryz.ntmps85
 have hbr:=Box.at (w:=w) rfl false ⟨#[]⟩ ⟨#[]⟩
 have hB0:Below w.heap.size w (w.alloc (FC false ⟨#[]⟩ ⟨#[]⟩)):=(Below.refl _ w).alloc (Nat.le_refl _) _
 go_wp2_with fail
 refine(HO.out _).mono ?_
 rintro e w1 ⟨rfl,hb1⟩
 have hr1:=hbr.below hb1 hbr.lt
 have hB1:Below w.heap.size w w1:=hB0.trans (hb1.mono hB0.size)
 clear hbr hB0 hb1
 rw[C_eq]
 go_wp2_with fail
 have hlt1:=hr1.lt
 go_loopw [4] (fun iv wr=>∃k:Nat,k≤l.length∧iv=.int .i64 k∧Hid (Box wr w1.heap.size (sgn (fsum (l.take k))) (nu (fsum (l.take k))) (de (fsum (l.take k))))∧Hid (Box wr w.heap.size false ⟨#[]⟩ ⟨#[]⟩)∧Below w.heap.size w wr) (fun iv _=>l.length - (intOf iv).toNat)
 case atStart=>exact⟨0,Nat.zero_le _,rfl,Box.at rfl _ _ _,hr1.alloc _,hB1.alloc hB1.size _⟩
 case round=>
  obtain⟨k,hk,rfl,HS,HR,hBr⟩:=hrel
  by_cases hlt:k<l.length
  ·obtain⟨g,o,rfl,hg,c0,c1,c2⟩:=(HF.out.below hBr) k hlt
   have hstep:=take_one hlt
   have hmem:=hl k hlt
   have hfit:=hq k hk
   have hz:=own_size (fsum (l.take k))
   have HADD:=hide (fun V=>rAddF_any (sgn (fsum (l.take k))) l[k].1 (nu (fsum (l.take k))) (de (fsum (l.take k))) l[k].2.1 l[k].2.2 V (by omega) (by omega))
   rw[val_own,show val l[k].1 l[k].2.1 l[k].2.2=frv l[k] from rfl,←hstep] at HADD
   have hbq:=HS.out
   clear HS hstep hmem hfit hz
   generalize l[k].1=fn at *
   generalize l[k].2.1=fx at *
   generalize l[k].2.2=fy at *
   obtain⟨k0,k1,k2,f0,f1,f2⟩:=hbq.facts
   have hgl:=hbq.lt
   go_upto_region 5 with fail
   go_region_with (
     (go_at_call 36;refine(HADD.out _).mono ?_;rintro e w2 ⟨rfl,hb2⟩;have hs2:=hbq.drew.below hb2 hbq.lt;have hr2:=(Box.drew HR.out).below hb2 HR.out.lt;have hB2:=hBr.drew.trans (hb2.mono hBr.size);obtain⟨k0,k1,k2,f0,f1,f2⟩:=hs2.facts;rw[C_eq]))
   all_goals
    go_wp2
    go_roundw
    case rel=>exact⟨k+1,by omega,by go_num,hs2.put _ _ _,hr2.far3 (by omega) _ _ _,below_put hB2 hB1.size _ _ _⟩
    case measure=>simp[intOf];omega
  ·obtain rfl:k=l.length:=by omega
   have hbq:=HS.out
   rw[HFIN.out] at hbq
   obtain⟨k0,k1,k2,f0,f1,f2⟩:=hbq.facts
   obtain⟨j0,j1,j2,i0,i1,i2⟩:=HR.out.facts
   go_wp2
   refine bodyPost_ret ((HR.out.put _ _ _).result rfl _ rfl) rfl ?_
   exact⟨rfl,below_put hBr (Nat.le_refl _) _ _ _⟩
structure ShK (w:World) (B4 base:Nat) (s:Fr) (v:Value) (N:List Fr) (U:World):Prop where
 bx:Box U B4 s.1 s.2.1 s.2.2
 row:RwF U base v N
 bel:Below w.heap.size w U
theorem ShK.step {w U U':World} {B4 base:Nat} {s:Fr} {v:Value} {N:List Fr} (h:ShK w B4 base s v N U) (hb:Below U.heap.size U U'):ShK w B4 base s v N U':=⟨h.bx.below hb h.bx.lt,h.row.below hb,h.bel.trans (hb.mono h.bel.size)⟩
theorem ShK.put3 {w U:World} {B4 base g:Nat} {s:Fr} {v:Value} {N:List Fr} (h:ShK w B4 base s v N U) (h1:g≠B4) (h2:v.ownBlock≠some g) (h3:w.heap.size≤g) (x y z:Value):ShK w B4 base s v N (((U.setCell ⟨g,0,none⟩ x).setCell ⟨g,1,none⟩ y).setCell ⟨g,2,none⟩ z):=
 ⟨h.bx.far3 (Ne.symm h1) x y z,ownsRow_setCell_other (ownsRow_setCell_other (ownsRow_setCell_other h.row h2 x) h2 y) h2 z,below_put h.bel h3 x y z⟩
set_option maxRecDepth 100000 in
set_option maxHeartbeats 2000000 in
theorem rShare_own (a:Option Addr) (cap:Nat) (l:List Fr) (w:World) (h:FrS w a l) (hl:∀k (h:k<l.length),l[k].2.1.size+l[k].2.2.size≤40000) (hq:∀k,k≤l.length→qw (fsum (l.take k))≤40000) (hn:l.length≤10000) (h1:1≤l.length):
  Calls Tryz.prog 50 #[.slice a l.length cap] w fun e w'=>((fsum l=0∧e=.returned (.tuple #[.slice none 0 0,.int .i64 3]))∨(fsum l≠0∧∃v,e=.returned (.tuple #[v,.int .i64 0])∧RwF w' w.heap.size v (normL l)))∧Below w.heap.size w w':=by
 have HSU:=hid (rSum_cw a cap l w h hl hq hn)
 have HF:=hid h
 have hqs:=hq l.length (Nat.le_refl _)
 rw[List.take_length] at hqs
 obtain⟨DV,hDV⟩:∃DV:Nat→Fr×Int,∀k (hk:k<l.length),DV k=if fsum l=0 then((false,⟨#[]⟩,⟨#[]⟩),3) else(qF (frQ l[k]*(1/fsum l)),0):=⟨fun k=>if fsum l=0 then((false,⟨#[]⟩,⟨#[]⟩),3) else(qF (frQ (l.getD k (false,⟨#[]⟩,⟨#[]⟩))*(1/fsum l)),0),fun k hk=>by dsimp only;rw[List.getD_eq_getElem?_getD,List.getElem?_eq_getElem hk];rfl⟩
 have HDV0:Hid (∀k (hk:k<l.length) (U:World),Calls Tryz.prog 87 #[.agg #[.bool l[k].1,.string l[k].2.1,.string l[k].2.2],.agg #[.bool (sgn (fsum l)),.string (nu (fsum l)),.string (de (fsum l))]] U fun e w'=>e=.returned (.tuple #[.agg #[.bool (DV k).1.1,.string (DV k).1.2.1,.string (DV k).1.2.2],.int .i64 (DV k).2])∧Below U.heap.size U w'):=fun k hk U=>by
  have hz:=own_size (fsum l)
  have hlk:=hl k hk
  rw[hDV k hk]
  by_cases e:fsum l=0
  ·rw[if_pos e]
   exact rDivF_no l[k].1 (sgn (fsum l)) l[k].2.1 l[k].2.2 (nu (fsum l)) (de (fsum l)) U (by rw[val_own];exact e) (by omega)
  ·rw[if_neg e]
   have:=rDivF_yes l[k].1 (sgn (fsum l)) l[k].2.1 l[k].2.2 (nu (fsum l)) (de (fsum l)) U (by rw[val_own];exact e) (by omega) (by omega)
   rw[val_own,Rat.div_def,←Rat.one_mul (fsum l)⁻¹,←Rat.div_def] at this
   exact this
 have HZ3:Hid (fsum l=0→∀k (hk:k<l.length),(DV k).2=3):=fun e k hk=>by rw[hDV k hk,if_pos e]
 have HZ0:Hid (fsum l≠0→∀k (hk:k<l.length),(DV k).2=0):=fun e k hk=>by rw[hDV k hk,if_neg e]
 obtain⟨NK,hNK⟩:∃NK:Nat→List Fr,∀k,(normL l).take k=NK k:=⟨fun k=>(normL l).take k,fun _=>rfl⟩
 have hnl:(normL l).length=l.length:=by simp[normL]
 have HN0:Hid (NK 0=[]):=by show _=_;rw[←hNK];rfl
 have HNS:Hid (fsum l≠0→∀k (hk:k<l.length),NK (k+1)=NK k++[(DV k).1]):=fun e k hk=>by
  have hk':k<(normL l).length:=by rw[hnl];exact hk
  rw[←hNK,←hNK,List.take_succ_eq_append_getElem hk',hDV k hk,if_neg e]
  simp[normL]
 have HNE:Hid (NK l.length=normL l):=by show _=_;rw[←hNK,←hnl,List.take_length]
 have HNL:Hid (∀k,(NK k).length≤l.length):=fun k=>by rw[←hNK,List.length_take];omega
 clear h hl hq hDV hNK
 obtain⟨s,hs⟩:∃s:Fr,s=(sgn (fsum l),nu (fsum l),de (fsum l)):=⟨_,rfl⟩
 obtain⟨z,hz⟩:∃z:Prop,z=(fsum l=0):=⟨_,rfl⟩
 have HSC:Hid (C (fsum l)=.agg #[.bool s.1,.string s.2.1,.string s.2.2]):=by show _=_;rw[hs];rfl
 have HDV1:Hid (∀k (hk:k<l.length) (U:World),Calls Tryz.prog 87 #[.agg #[.bool l[k].1,.string l[k].2.1,.string l[k].2.2],.agg #[.bool s.1,.string s.2.1,.string s.2.2]] U fun e w'=>e=.returned (.tuple #[.agg #[.bool (DV k).1.1,.string (DV k).1.2.1,.string (DV k).1.2.2],.int .i64 (DV k).2])∧Below U.heap.size U w'):=by rw[hs];exact HDV0
 rw[HSC.out] at HSU
 clear HDV0 HSC hs
 have HLR:Hid ((normL l).length=l.length):=hnl
 clear hnl hqs hz z
 obtain⟨sn,sx,sy⟩:=s
 go_enter Tryz.func50,Tryz.ntmps50
 go_wp2_with fail
 refine HSU.out.mono ?_
 rintro e w1 ⟨rfl,hb1⟩
 have hA:=hb1.alloc hb1.size (FC sn sx sy)
 have HK0:Hid (ShK w w1.heap.size (w1.heap.size+1) (sn,sx,sy) (.slice none 0 0) [] (w1.alloc (FC sn sx sy))):=⟨Box.new w1 sn sx sy,RwF.empty _ _,hA⟩
 have hs1:=hb1.size
 clear hb1 hA HSU
 go_wp2_with fail
 generalize hB4:w1.heap.size=B4 at *
 generalize hW2:(w1.alloc (FC sn sx sy))=W2 at *
 clear hB4 hW2
 go_loopw [5,6] (fun v iv wr=>∃k:Nat,k≤l.length∧iv=.int .i64 k∧Hid (k=0∨fsum l≠0)∧Hid (ShK w B4 (B4+1) (sn,sx,sy) v (NK k) wr)) (fun _ iv _=>l.length - (intOf iv).toNat)
 case atStart=>exact⟨0,Nat.zero_le _,rfl,.inl rfl,by rw[HN0.out];exact HK0⟩
 case round=>
  obtain⟨k,hk,rfl,HZK,HKR⟩:=hrel
  clear HK0
  obtain⟨vd,vn,vc,rfl⟩:=HKR.out.row.slv
  by_cases hlt:k<l.length
  ·obtain⟨g,o,rfl,hg,c0,c1,c2⟩:=HF.out k hlt
   have HDV:=hid (HDV1.out k hlt)
   have HZ3k:=hid (fun e=>HZ3.out e k hlt)
   have HZ0k:=hid (fun e=>HZ0.out e k hlt)
   have HNSk:=hid (fun e=>HNS.out e k hlt)
   generalize l[k].1=fn at *
   generalize l[k].2.1=fx at *
   generalize l[k].2.2=fy at *
   generalize DV k=dv at *
   obtain⟨⟨dn,dx,dy⟩,dk⟩:=dv
   simp only at HDV HZ3k HZ0k HNSk
   have HKS:Hid (∀U:World,ShK w B4 (B4+1) (sn,sx,sy) (.slice vd vn vc) (NK k) U→(U.cell? ⟨g,o+k*3,none⟩=some (.bool fn)∧U.cell? ⟨g,o+k*3+1,none⟩=some (.string fx)∧U.cell? ⟨g,o+k*3+2,none⟩=some (.string fy))∧U.cell? ⟨B4,0,none⟩=some (.bool sn)∧U.cell? ⟨B4,1,none⟩=some (.string sx)∧U.cell? ⟨B4,2,none⟩=some (.string sy)):=fun U hU=>⟨⟨(hU.bel.cell (p:=⟨g,_,none⟩) hg).trans c0,(hU.bel.cell (p:=⟨g,_,none⟩) hg).trans c1,(hU.bel.cell (p:=⟨g,_,none⟩) hg).trans c2⟩,hU.bx.c0,hU.bx.c1,hU.bx.c2⟩
   clear c0 c1 c2
   obtain⟨v,hv⟩:∃v,v=Value.slice vd vn vc:=⟨_,rfl⟩
   clear hv v
   go_upto_region 6 with (go_quiet (fail))
   obtain⟨D5,hD5⟩:∃D5,wr.drew=D5:=⟨_,rfl⟩
   have HK:=hid (HKR.out.step ((Below.refl wr.heap.size wr).drew))
   rw[hD5] at HK
   refine wp_region_held_drew (S:=(fun U=>(U.cell? ⟨g,o+k*3,none⟩=some (.bool fn)∧U.cell? ⟨g,o+k*3+1,none⟩=some (.string fx)∧U.cell? ⟨g,o+k*3+2,none⟩=some (.string fy))∧U.cell? ⟨B4,0,none⟩=some (.bool sn)∧U.cell? ⟨B4,1,none⟩=some (.string sx)∧U.cell? ⟨B4,2,none⟩=some (.string sy))) (by kernel_rfl) (by rw[hD5];exact HKS.out D5 HK.out) (fun hSd=>?_)
   rw[hD5] at hSd⊢
   clear hD5 HKR
   (try simp only[List.getElem_toArray,List.getElem_cons_zero,List.getElem_cons_succ])
   (try simp only[Act.put,List.setIfInBounds_toArray,List.set_cons_zero,List.set_cons_succ])
   refine wpAnyH_take (i:=0) (oi:=_) (v:=.slice (some ⟨g,o,none⟩) l.length cap) rfl (by kernel_rfl) (by kernel_rfl) (by kernel_rfl) (fun _ _ _ h=>h) (Or.inl ⟨by rfl,?_⟩) (by assumption) ?_
   ·intro u' hSu
    (try simp only[List.getElem_toArray,List.getElem_cons_zero])
    go_simp
   (try simp only[List.getElem_toArray,List.getElem_cons_zero])
   (try simp only[Act.put,List.setIfInBounds_toArray,List.set_cons_zero,List.set_cons_succ])
   refine wpAnyH_take (i:=1) (oi:=_) (v:=.int .i64 (k:Nat)) rfl (by kernel_rfl) (by kernel_rfl) (by kernel_rfl) (fun _ _ _ h=>h) (Or.inl ⟨by rfl,?_⟩) (by assumption) ?_
   ·intro u' hSu
    (try simp only[List.getElem_toArray,List.getElem_cons_zero,List.getElem_cons_succ])
    go_simp
   (try simp only[List.getElem_toArray,List.getElem_cons_zero,List.getElem_cons_succ])
   (try simp only[Act.put,List.setIfInBounds_toArray,List.set_cons_zero,List.set_cons_succ])
   refine wpAnyH_take (i:=2) (oi:=_) (v:=.pointer (some ⟨g,o+k*3,none⟩)) rfl (by kernel_rfl) (by kernel_rfl) (by kernel_rfl) (fun _ _ _ h=>h) (Or.inl ⟨by rfl,?_⟩) (by assumption) ?_
   ·intro u' hSu
    (try simp only[List.getElem_toArray,List.getElem_cons_zero,List.getElem_cons_succ])
    go_simp
   (try simp only[List.getElem_toArray,List.getElem_cons_zero,List.getElem_cons_succ])
   (try simp only[Act.put,List.setIfInBounds_toArray,List.set_cons_zero,List.set_cons_succ])
   refine wpAnyH_take (i:=3) (oi:=_) (v:=.agg #[.bool fn,.string fx,.string fy]) rfl (by kernel_rfl) (by kernel_rfl) (by kernel_rfl) (fun _ _ _ h=>h) (Or.inl ⟨by rfl,?_⟩) (by assumption) ?_
   ·intro u' hSu
    (try simp only[List.getElem_toArray,List.getElem_cons_zero,List.getElem_cons_succ])
    obtain⟨⟨s0,s1,s2⟩,s3,s4,s5⟩:=hSu
    go_simp
   (try simp only[List.getElem_toArray,List.getElem_cons_zero,List.getElem_cons_succ])
   (try simp only[Act.put,List.setIfInBounds_toArray,List.set_cons_zero,List.set_cons_succ])
   refine wpAnyH_take (i:=4) (oi:=_) (v:=.agg #[.bool sn,.string sx,.string sy]) rfl (by kernel_rfl) (by kernel_rfl) (by kernel_rfl) (fun _ _ _ h=>h) (Or.inl ⟨by rfl,?_⟩) (by assumption) ?_
   ·intro u' hSu
    (try simp only[List.getElem_toArray,List.getElem_cons_zero,List.getElem_cons_succ])
    obtain⟨⟨s0,s1,s2⟩,s3,s4,s5⟩:=hSu
    go_simp
   (try simp only[List.getElem_toArray,List.getElem_cons_zero,List.getElem_cons_succ])
   (try simp only[Act.put,List.setIfInBounds_toArray,List.set_cons_zero,List.set_cons_succ])
   refine wpAnyH_ready (rs:=[5,9]) (by kernel_rfl) (by simp) (AllReadyH.cons rfl ?_ (AllReadyH.cons rfl ?_ (AllReadyH.nil)))
   ·intro K' hK'
    (try simp only[List.getElem_toArray,List.getElem_cons_zero,List.getElem_cons_succ])
    go_simp
    refine(HDV.out D5).mono ?_
    rintro e u1 ⟨rfl,hb1⟩
    replace HK:=hid (HK.out.step hb1)
    refine hK'.out _ _ (HKS.out u1 HK.out) (fun hSe=>?_)
    clear hb1
    clear hK' K' hSd
    have hSd:=hSe
    clear hSe
    (try simp only[List.getElem_toArray,List.getElem_cons_zero,List.getElem_cons_succ])
    (try simp only[Act.put,List.setIfInBounds_toArray,List.set_cons_zero,List.set_cons_succ])
    refine wpAnyH_take (i:=6) (oi:=_) (v:=.tuple #[.agg #[.bool dn,.string dx,.string dy],.int .i64 dk]) rfl (by kernel_rfl) (by kernel_rfl) (by kernel_rfl) (fun _ _ _ h=>h) (Or.inl ⟨by rfl,?_⟩) (by assumption) ?_
    ·intro u' hSu
     (try simp only[List.getElem_toArray,List.getElem_cons_zero,List.getElem_cons_succ])
     go_simp
    (try simp only[List.getElem_toArray,List.getElem_cons_zero,List.getElem_cons_succ])
    (try simp only[Act.put,List.setIfInBounds_toArray,List.set_cons_zero,List.set_cons_succ])
    refine wpAnyH_take (i:=7) (oi:=_) (v:=.agg #[.bool dn,.string dx,.string dy]) rfl (by kernel_rfl) (by kernel_rfl) (by kernel_rfl) (fun _ _ _ h=>h) (Or.inl ⟨by rfl,?_⟩) (by assumption) ?_
    ·intro u' hSu
     (try simp only[List.getElem_toArray,List.getElem_cons_zero,List.getElem_cons_succ])
     go_simp
    (try simp only[List.getElem_toArray,List.getElem_cons_zero,List.getElem_cons_succ])
    (try simp only[Act.put,List.setIfInBounds_toArray,List.set_cons_zero,List.set_cons_succ])
    refine wpAnyH_take (i:=8) (oi:=_) (v:=.int .i64 dk) rfl (by kernel_rfl) (by kernel_rfl) (by kernel_rfl) (fun _ _ _ h=>h) (Or.inl ⟨by rfl,?_⟩) (by assumption) ?_
    ·intro u' hSu
     (try simp only[List.getElem_toArray,List.getElem_cons_zero,List.getElem_cons_succ])
     go_simp
    (try simp only[List.getElem_toArray,List.getElem_cons_zero,List.getElem_cons_succ])
    (try simp only[Act.put,List.setIfInBounds_toArray,List.set_cons_zero,List.set_cons_succ])
    refine wpAnyH_ready (rs:=[9]) (by kernel_rfl) (by simp) (AllReadyH.cons rfl ?_ (AllReadyH.nil))
    ·intro K' hK'
     (try simp only[List.getElem_toArray,List.getElem_cons_zero,List.getElem_cons_succ])
     go_simp
     have hbA:=(Below.refl _ u1).alloc (Nat.le_refl _) (FC false ⟨#[]⟩ ⟨#[]⟩)
     have HX7:=hid (Box.new u1 false ⟨#[]⟩ ⟨#[]⟩)
     have hB7:u1.heap.size≠B4∧w.heap.size≤u1.heap.size:=⟨by have:=HK.out.bx.lt;omega,HK.out.bel.size⟩
     have HO7:Hid (Value.ownBlock (.slice vd vn vc)≠some u1.heap.size):=fun e=>by
      have:=(own_ltS HK.out.row _ e).2
      omega
     replace HK:=hid (HK.out.step hbA)
     refine hK'.out _ _ (HKS.out _ HK.out) (fun hSe=>?_)
     clear hbA
     clear hK' K' hSd
     have hSd:=hSe
     clear hSe
     obtain⟨B7,hBB⟩:∃B7,u1.heap.size=B7:=⟨_,rfl⟩
     obtain⟨u3,hu3⟩:∃u3,u1.alloc (FC false ⟨#[]⟩ ⟨#[]⟩)=u3:=⟨_,rfl⟩
     have hu3':u1.alloc (.cells #[.bool false,.string ⟨#[]⟩,.string ⟨#[]⟩] 30)=u3:=hu3
     rw[hBB] at HX7 hB7 HO7
     rw[hu3] at HX7 HK
     simp only[hu3'] at hSd⊢
     simp only[hBB]
     clear hu3 hu3' hBB
     (try simp only[List.getElem_toArray,List.getElem_cons_zero,List.getElem_cons_succ])
     (try simp only[Act.put,List.setIfInBounds_toArray,List.set_cons_zero,List.set_cons_succ])
     obtain⟨x0,x1,x2,f0,f1,f2⟩:=HX7.out.facts
     refine wpAnyH_ready (rs:=[10]) (by kernel_rfl) (by simp) (AllReadyH.cons rfl ?_ (AllReadyH.nil))
     ·intro K' hK'
      (try simp only[List.getElem_toArray,List.getElem_cons_zero,List.getElem_cons_succ])
      go_simp
      have HX8:=hid (HX7.out.put dn dx dy)
      have HK8:=hid (HK.out.put3 hB7.1 HO7.out hB7.2 (.bool dn) (.string dx) (.string dy))
      refine hK'.out _ _ (HKS.out _ HK8.out) (fun hSe=>?_)
      clear x0 x1 x2 f0 f1 f2 HX7 HK HO7 hB7
      clear hK' K' hSd
      have hSd:=hSe
      clear hSe
      (try simp only[List.getElem_toArray,List.getElem_cons_zero,List.getElem_cons_succ])
      (try simp only[Act.put,List.setIfInBounds_toArray,List.set_cons_zero,List.set_cons_succ])
      refine wpAnyH_take (i:=11) (oi:=_) (v:=.int .i64 dk) rfl (by kernel_rfl) (by kernel_rfl) (by kernel_rfl) (fun _ _ _ h=>h) (Or.inl ⟨by rfl,?_⟩) (by assumption) ?_
      ·intro u' hSu
       (try simp only[List.getElem_toArray,List.getElem_cons_zero,List.getElem_cons_succ])
       go_simp
      (try simp only[List.getElem_toArray,List.getElem_cons_zero,List.getElem_cons_succ])
      (try simp only[Act.put,List.setIfInBounds_toArray,List.set_cons_zero,List.set_cons_succ])
      refine wpAnyH_done (by kernel_rfl) ?_ _
      clear hSd HKS HDV
      obtain⟨u9,hu9⟩:∃u9,((u3.setCell ⟨B7,0,none⟩ (.bool dn)).setCell ⟨B7,1,none⟩ (.string dx)).setCell ⟨B7,2,none⟩ (.string dy)=u9:=⟨_,rfl⟩
      rw[hu9] at HX8 HK8⊢
      clear hu9
      by_cases hd0:dk=0
      ·subst hd0
       have hz:fsum l≠0:=fun e=>by have:=HZ3k.out e;omega
       have HNk:=hid (HNSk.out hz)
       have HZZ:Hid (k+1=0∨fsum l≠0):=.inr hz
       obtain⟨x0,x1,x2, -⟩:=HX8.out.facts
       have hbA:=(Below.refl _ u9).alloc (Nat.le_refl _) (FC dn dx dy)
       have HK9:=hid (HK8.out.step hbA)
       have HX9:=hid (Box.new u9 dn dx dy)
       have HS9:Hid (B4+1≤(u9.alloc (FC dn dx dy)).heap.size):=HK9.out.bx.lt
       have hnl:=HNL.out k
       clear hz hbA HZ3k HZ0k HNSk HZK HK8
       go_wp2_with (at_builtin;refine wpList_append_fr rfl _ _ rfl (B4+1) (.slice vd vn vc) (NK k) (dn,dx,dy) rfl HK9.out.row u9.heap.size rfl HX9.out (by omega) HS9.out ?_;intro v' w10 ho10 hg10;have HK10:Hid (ShK w B4 (B4+1) (sn,sx,sy) v' (NK k++[(dn,dx,dy)]) w10):=⟨(hg10.block B4 HK9.out.bx.lt (fun e=>by have:=HK9.out.row.own B4 e.symm;omega)).trans HK9.out.bx,ho10,HK9.out.bel.grown hg10 HK9.out.bel.size (fun j e=>Nat.le_trans (by omega) (HK9.out.row.own j e))⟩;obtain⟨d10,n10,c10,rfl⟩:=ho10.slv;clear ho10 hg10)
       go_roundw
       case rel=>exact⟨k+1,by omega,by go_num,HZZ,by rw[HNk.out];exact HK10⟩
       case measure=>simp[intOf];omega
      ·have hz:fsum l=0:=Decidable.byContradiction fun e=>hd0 (HZ0k.out e)
       have hd3:=HZ3k.out hz
       subst hd3
       have HZZ:=hid hz
       have HB9:=hid HK8.out.bel
       clear hz hd0 HZ3k HZ0k HNSk HZK HK8 HX8
       go_wp2
       go_ret2
       exact⟨.inl ⟨HZZ.out,rfl⟩,HB9.out⟩
   ·intro K' hK'
    (try simp only[List.getElem_toArray,List.getElem_cons_zero,List.getElem_cons_succ])
    go_simp
    have hbA:=(Below.refl _ D5).alloc (Nat.le_refl _) (FC false ⟨#[]⟩ ⟨#[]⟩)
    have HX7:=hid (Box.new D5 false ⟨#[]⟩ ⟨#[]⟩)
    have hB7:D5.heap.size≠B4∧w.heap.size≤D5.heap.size:=⟨by have:=HK.out.bx.lt;omega,HK.out.bel.size⟩
    have HO7:Hid (Value.ownBlock (.slice vd vn vc)≠some D5.heap.size):=fun e=>by
     have:=(own_ltS HK.out.row _ e).2
     omega
    replace HK:=hid (HK.out.step hbA)
    refine hK'.out _ _ (HKS.out _ HK.out) (fun hSe=>?_)
    clear hbA
    clear hK' K' hSd
    have hSd:=hSe
    clear hSe
    obtain⟨B7,hBB⟩:∃B7,D5.heap.size=B7:=⟨_,rfl⟩
    obtain⟨u3,hu3⟩:∃u3,D5.alloc (FC false ⟨#[]⟩ ⟨#[]⟩)=u3:=⟨_,rfl⟩
    have hu3':D5.alloc (.cells #[.bool false,.string ⟨#[]⟩,.string ⟨#[]⟩] 30)=u3:=hu3
    rw[hBB] at HX7 hB7 HO7
    rw[hu3] at HX7 HK
    simp only[hu3'] at hSd⊢
    simp only[hBB]
    clear hu3 hu3' hBB
    (try simp only[List.getElem_toArray,List.getElem_cons_zero,List.getElem_cons_succ])
    (try simp only[Act.put,List.setIfInBounds_toArray,List.set_cons_zero,List.set_cons_succ])
    refine wpAnyH_ready (rs:=[5]) (by kernel_rfl) (by simp) (AllReadyH.cons rfl ?_ (AllReadyH.nil))
    ·intro K' hK'
     (try simp only[List.getElem_toArray,List.getElem_cons_zero,List.getElem_cons_succ])
     go_simp
     refine(HDV.out u3).mono ?_
     rintro e u1 ⟨rfl,hb1⟩
     replace HK:=hid (HK.out.step hb1)
     replace HX7:=hid (HX7.out.below hb1 HX7.out.lt)
     refine hK'.out _ _ (HKS.out u1 HK.out) (fun hSe=>?_)
     clear hb1
     clear hK' K' hSd
     have hSd:=hSe
     clear hSe
     (try simp only[List.getElem_toArray,List.getElem_cons_zero,List.getElem_cons_succ])
     (try simp only[Act.put,List.setIfInBounds_toArray,List.set_cons_zero,List.set_cons_succ])
     refine wpAnyH_take (i:=6) (oi:=_) (v:=.tuple #[.agg #[.bool dn,.string dx,.string dy],.int .i64 dk]) rfl (by kernel_rfl) (by kernel_rfl) (by kernel_rfl) (fun _ _ _ h=>h) (Or.inl ⟨by rfl,?_⟩) (by assumption) ?_
     ·intro u' hSu
      (try simp only[List.getElem_toArray,List.getElem_cons_zero,List.getElem_cons_succ])
      go_simp
     (try simp only[List.getElem_toArray,List.getElem_cons_zero,List.getElem_cons_succ])
     (try simp only[Act.put,List.setIfInBounds_toArray,List.set_cons_zero,List.set_cons_succ])
     refine wpAnyH_take (i:=7) (oi:=_) (v:=.agg #[.bool dn,.string dx,.string dy]) rfl (by kernel_rfl) (by kernel_rfl) (by kernel_rfl) (fun _ _ _ h=>h) (Or.inl ⟨by rfl,?_⟩) (by assumption) ?_
     ·intro u' hSu
      (try simp only[List.getElem_toArray,List.getElem_cons_zero,List.getElem_cons_succ])
      go_simp
     (try simp only[List.getElem_toArray,List.getElem_cons_zero,List.getElem_cons_succ])
     (try simp only[Act.put,List.setIfInBounds_toArray,List.set_cons_zero,List.set_cons_succ])
     refine wpAnyH_take (i:=8) (oi:=_) (v:=.int .i64 dk) rfl (by kernel_rfl) (by kernel_rfl) (by kernel_rfl) (fun _ _ _ h=>h) (Or.inl ⟨by rfl,?_⟩) (by assumption) ?_
     ·intro u' hSu
      (try simp only[List.getElem_toArray,List.getElem_cons_zero,List.getElem_cons_succ])
      go_simp
     (try simp only[List.getElem_toArray,List.getElem_cons_zero,List.getElem_cons_succ])
     (try simp only[Act.put,List.setIfInBounds_toArray,List.set_cons_zero,List.set_cons_succ])
     obtain⟨x0,x1,x2,f0,f1,f2⟩:=HX7.out.facts
     refine wpAnyH_ready (rs:=[10]) (by kernel_rfl) (by simp) (AllReadyH.cons rfl ?_ (AllReadyH.nil))
     ·intro K' hK'
      (try simp only[List.getElem_toArray,List.getElem_cons_zero,List.getElem_cons_succ])
      go_simp
      have HX8:=hid (HX7.out.put dn dx dy)
      have HK8:=hid (HK.out.put3 hB7.1 HO7.out hB7.2 (.bool dn) (.string dx) (.string dy))
      refine hK'.out _ _ (HKS.out _ HK8.out) (fun hSe=>?_)
      clear x0 x1 x2 f0 f1 f2 HX7 HK HO7 hB7
      clear hK' K' hSd
      have hSd:=hSe
      clear hSe
      (try simp only[List.getElem_toArray,List.getElem_cons_zero,List.getElem_cons_succ])
      (try simp only[Act.put,List.setIfInBounds_toArray,List.set_cons_zero,List.set_cons_succ])
      refine wpAnyH_take (i:=11) (oi:=_) (v:=.int .i64 dk) rfl (by kernel_rfl) (by kernel_rfl) (by kernel_rfl) (fun _ _ _ h=>h) (Or.inl ⟨by rfl,?_⟩) (by assumption) ?_
      ·intro u' hSu
       (try simp only[List.getElem_toArray,List.getElem_cons_zero,List.getElem_cons_succ])
       go_simp
      (try simp only[List.getElem_toArray,List.getElem_cons_zero,List.getElem_cons_succ])
      (try simp only[Act.put,List.setIfInBounds_toArray,List.set_cons_zero,List.set_cons_succ])
      refine wpAnyH_done (by kernel_rfl) ?_ _
      clear hSd HKS HDV
      obtain⟨u9,hu9⟩:∃u9,((u1.setCell ⟨B7,0,none⟩ (.bool dn)).setCell ⟨B7,1,none⟩ (.string dx)).setCell ⟨B7,2,none⟩ (.string dy)=u9:=⟨_,rfl⟩
      rw[hu9] at HX8 HK8⊢
      clear hu9
      by_cases hd0:dk=0
      ·subst hd0
       have hz:fsum l≠0:=fun e=>by have:=HZ3k.out e;omega
       have HNk:=hid (HNSk.out hz)
       have HZZ:Hid (k+1=0∨fsum l≠0):=.inr hz
       obtain⟨x0,x1,x2, -⟩:=HX8.out.facts
       have hbA:=(Below.refl _ u9).alloc (Nat.le_refl _) (FC dn dx dy)
       have HK9:=hid (HK8.out.step hbA)
       have HX9:=hid (Box.new u9 dn dx dy)
       have HS9:Hid (B4+1≤(u9.alloc (FC dn dx dy)).heap.size):=HK9.out.bx.lt
       have hnl:=HNL.out k
       clear hz hbA HZ3k HZ0k HNSk HZK HK8
       go_wp2_with (at_builtin;refine wpList_append_fr rfl _ _ rfl (B4+1) (.slice vd vn vc) (NK k) (dn,dx,dy) rfl HK9.out.row u9.heap.size rfl HX9.out (by omega) HS9.out ?_;intro v' w10 ho10 hg10;have HK10:Hid (ShK w B4 (B4+1) (sn,sx,sy) v' (NK k++[(dn,dx,dy)]) w10):=⟨(hg10.block B4 HK9.out.bx.lt (fun e=>by have:=HK9.out.row.own B4 e.symm;omega)).trans HK9.out.bx,ho10,HK9.out.bel.grown hg10 HK9.out.bel.size (fun j e=>Nat.le_trans (by omega) (HK9.out.row.own j e))⟩;obtain⟨d10,n10,c10,rfl⟩:=ho10.slv;clear ho10 hg10)
       go_roundw
       case rel=>exact⟨k+1,by omega,by go_num,HZZ,by rw[HNk.out];exact HK10⟩
       case measure=>simp[intOf];omega
      ·have hz:fsum l=0:=Decidable.byContradiction fun e=>hd0 (HZ0k.out e)
       have hd3:=HZ3k.out hz
       subst hd3
       have HZZ:=hid hz
       have HB9:=hid HK8.out.bel
       clear hz hd0 HZ3k HZ0k HNSk HZK HK8 HX8
       go_wp2
       go_ret2
       exact⟨.inl ⟨HZZ.out,rfl⟩,HB9.out⟩
  ·obtain rfl:k=l.length:=by omega
   have hz:=HZK.out.resolve_left (by omega)
   have HZZ:=hid hz
   have HK9:=HKR
   rw[HNE.out] at HK9
   have HFR:=hid (HK9.out.row.lower (B':=w.heap.size) (by omega))
   have HB9:=hid HK9.out.bel
   clear hz HZK HKR
   go_wp2
   go_ret2
   exact⟨.inr ⟨HZZ.out,_,rfl,HFR.out⟩,HB9.out⟩
end Go.Proofs.YtgamblainfkiaaaGreatDoor
