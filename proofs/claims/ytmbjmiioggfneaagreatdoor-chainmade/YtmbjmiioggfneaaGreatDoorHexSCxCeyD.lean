/- The answer's share, its list in memory of its own. -/
import Derived.Test.YtmbjmiioggfneaaGreatDoorRefSCxDicP
import Derived.Test.YtmbjmiioggfneaaGreatDoorChnPCxNetD
import Derived.Test.YtmbjmiioggfneaaGreatDoorHidACxChnB
import Derived.Test.YtmbjmiioggfneaaGreatDoorCeyCCx
set_option linter.unusedVariables false
set_option linter.unusedSimpArgs false
namespace Go.Proofs.YtmbjmiioggfneaaGreatDoor
open Go.RowKit Go.Shelf
theorem own_ltS {w:World} {B:Nat} {e:TypeId} {s:Nat} {v:Value} {n:Nat} {xs:List Value} (h:w.ownsRow B e s v n xs):∀R,v.ownBlock=some R→B≤R∧R<w.heap.size:=fun R hR=>by
 rcases h.2 with ⟨h1,h2⟩ |⟨g,cap,cur,h1,h2,h3,_⟩
 ·rw[h1] at hR;cases hR
 ·rw[h1] at hR
  cases hR
  exact⟨h2,(Array.getElem?_eq_some_iff.1 h3).1⟩
set_option maxRecDepth 100000 in
set_option maxHeartbeats 2000000 in
theorem rSum_cw (a:Option Addr) (cap:Nat) (l:List Fr) (w:World) (h:FrS w a l) (hl:∀k (h:k<l.length),l[k].2.1.size+l[k].2.2.size≤40000) (hq:∀k,k≤l.length→qw (fsum (l.take k))≤40000) (hn:l.length≤10000):
  Calls Tryz.prog 81 #[.slice a l.length cap] w fun e w'=>e=.returned (C (fsum l))∧Below w.heap.size w w':=by
 have HF:=hide h
 clear h
 have HFIN:Hid (fsum (l.take l.length)=fsum l):=by show _=_;rw[List.take_length]
 have HO:=hide (fun V=>rOfF_any 0 V (by omega) (by omega))
 rw[Rat.zero_mkRat] at HO
 go_enter Tryz.func81,Tryz.ntmps81
 have hbr:=Box.at (w:=w) rfl false ⟨#[]⟩ ⟨#[]⟩
 have hB0:Below w.heap.size w (w.alloc (FC false ⟨#[]⟩ ⟨#[]⟩)):=(Below.refl _ w).alloc (Nat.le_refl _) _
 go_wp2_with fail
 refine(HO.out _).mono ?_
 rintro e w1 ⟨rfl,hb1⟩
 have hr1:=hbr.below hb1 hbr.lt
 have hB1:Below w.heap.size w w1:=hB0.trans (hb1.mono hB0.size)
 clear hbr hB0 hb1
 rw[C_eq]
 go_wp2_with fail
 have hlt1:=hr1.lt
 go_loopw [4] (fun iv wr=>∃k:Nat,k≤l.length∧iv=.int .i64 k∧Hid (Box wr w1.heap.size (sgn (fsum (l.take k))) (nu (fsum (l.take k))) (de (fsum (l.take k))))∧Hid (Box wr w.heap.size false ⟨#[]⟩ ⟨#[]⟩)∧Below w.heap.size w wr) (fun iv _=>l.length - (intOf iv).toNat)
 case atStart=>exact⟨0,Nat.zero_le _,rfl,Box.at rfl _ _ _,hr1.alloc _,hB1.alloc hB1.size _⟩
 case round=>
  obtain⟨k,hk,rfl,HS,HR,hBr⟩:=hrel
  by_cases hlt:k<l.length
  ·obtain⟨g,o,rfl,hg,c0,c1,c2⟩:=(HF.out.below hBr) k hlt
   have hstep:=take_one hlt
   have hmem:=hl k hlt
   have hfit:=hq k hk
   have hz:=own_size (fsum (l.take k))
   have HADD:=hide (fun V=>rAddF_any (sgn (fsum (l.take k))) l[k].1 (nu (fsum (l.take k))) (de (fsum (l.take k))) l[k].2.1 l[k].2.2 V (by omega) (by omega))
   rw[val_own,show val l[k].1 l[k].2.1 l[k].2.2=frv l[k] from rfl,←hstep] at HADD
   have hbq:=HS.out
   clear HS hstep hmem hfit hz
   generalize l[k].1=fn at *
   generalize l[k].2.1=fx at *
   generalize l[k].2.2=fy at *
   obtain⟨k0,k1,k2,f0,f1,f2⟩:=hbq.facts
   have hgl:=hbq.lt
   go_upto_region 5 with fail
   go_region_with (
     (go_at_call 55;refine(HADD.out _).mono ?_;rintro e w2 ⟨rfl,hb2⟩;have hs2:=hbq.drew.below hb2 hbq.lt;have hr2:=(Box.drew HR.out).below hb2 HR.out.lt;have hB2:=hBr.drew.trans (hb2.mono hBr.size);obtain⟨k0,k1,k2,f0,f1,f2⟩:=hs2.facts;rw[C_eq]))
   all_goals
    go_wp2
    go_roundw
    case rel=>exact⟨k+1,by omega,by go_num,hs2.put _ _ _,hr2.far3 (by omega) _ _ _,below_put hB2 hB1.size _ _ _⟩
    case measure=>simp[intOf];omega
  ·obtain rfl:k=l.length:=by omega
   have hbq:=HS.out
   rw[HFIN.out] at hbq
   obtain⟨k0,k1,k2,f0,f1,f2⟩:=hbq.facts
   obtain⟨j0,j1,j2,i0,i1,i2⟩:=HR.out.facts
   go_wp2
   refine bodyPost_ret ((HR.out.put _ _ _).result rfl _ rfl) rfl ?_
   exact⟨rfl,below_put hBr (Nat.le_refl _) _ _ _⟩
structure ShK (w:World) (B4 base:Nat) (s:Fr) (v:Value) (N:List Fr) (U:World):Prop where
 bx:Box U B4 s.1 s.2.1 s.2.2
 row:RwF U base v N
 bel:Below w.heap.size w U
theorem ShK.step {w U U':World} {B4 base:Nat} {s:Fr} {v:Value} {N:List Fr} (h:ShK w B4 base s v N U) (hb:Below U.heap.size U U'):ShK w B4 base s v N U':=⟨h.bx.below hb h.bx.lt,h.row.below hb,h.bel.trans (hb.mono h.bel.size)⟩
theorem ShK.put3 {w U:World} {B4 base g:Nat} {s:Fr} {v:Value} {N:List Fr} (h:ShK w B4 base s v N U) (h1:g≠B4) (h2:v.ownBlock≠some g) (h3:w.heap.size≤g) (x y z:Value):ShK w B4 base s v N (((U.setCell ⟨g,0,none⟩ x).setCell ⟨g,1,none⟩ y).setCell ⟨g,2,none⟩ z):=
 ⟨h.bx.far3 (Ne.symm h1) x y z,ownsRow_setCell_other (ownsRow_setCell_other (ownsRow_setCell_other h.row h2 x) h2 y) h2 z,below_put h.bel h3 x y z⟩
set_option maxRecDepth 100000 in
set_option maxHeartbeats 2000000 in
theorem rShare_own (a:Option Addr) (cap:Nat) (l:List Fr) (w:World) (h:FrS w a l) (hl:∀k (h:k<l.length),l[k].2.1.size+l[k].2.2.size≤40000) (hq:∀k,k≤l.length→qw (fsum (l.take k))≤40000) (hn:l.length≤10000) (h1:1≤l.length):
  Calls Tryz.prog 47 #[.slice a l.length cap] w fun e w'=>((fsum l=0∧e=.returned (.tuple #[.slice none 0 0,.int .i64 3]))∨(fsum l≠0∧∃v,e=.returned (.tuple #[v,.int .i64 0])∧RwF w' w.heap.size v (normL l)))∧Below w.heap.size w w':=by
 have HSU:=hid (rSum_cw a cap l w h hl hq hn)
 have HF:=hid h
 have hqs:=hq l.length (Nat.le_refl _)
 rw[List.take_length] at hqs
 obtain⟨DV,hDV⟩:∃DV:Nat→Fr×Int,∀k (hk:k<l.length),DV k=if fsum l=0 then((false,⟨#[]⟩,⟨#[]⟩),3) else(qF (frQ l[k]*(1/fsum l)),0):=⟨fun k=>if fsum l=0 then((false,⟨#[]⟩,⟨#[]⟩),3) else(qF (frQ (l.getD k (false,⟨#[]⟩,⟨#[]⟩))*(1/fsum l)),0),fun k hk=>by dsimp only;rw[List.getD_eq_getElem?_getD,List.getElem?_eq_getElem hk];rfl⟩
 have HDV0:Hid (∀k (hk:k<l.length) (U:World),Calls Tryz.prog 82 #[.agg #[.bool l[k].1,.string l[k].2.1,.string l[k].2.2],.agg #[.bool (sgn (fsum l)),.string (nu (fsum l)),.string (de (fsum l))]] U fun e w'=>e=.returned (.tuple #[.agg #[.bool (DV k).1.1,.string (DV k).1.2.1,.string (DV k).1.2.2],.int .i64 (DV k).2])∧Below U.heap.size U w'):=fun k hk U=>by
  have hz:=own_size (fsum l)
  have hlk:=hl k hk
  rw[hDV k hk]
  by_cases e:fsum l=0
  ·rw[if_pos e]
   exact rDivF_no l[k].1 (sgn (fsum l)) l[k].2.1 l[k].2.2 (nu (fsum l)) (de (fsum l)) U (by rw[val_own];exact e) (by omega)
  ·rw[if_neg e]
   have:=rDivF_yes l[k].1 (sgn (fsum l)) l[k].2.1 l[k].2.2 (nu (fsum l)) (de (fsum l)) U (by rw[val_own];exact e) (by omega) (by omega)
   rw[val_own,Rat.div_def,←Rat.one_mul (fsum l)⁻¹,←Rat.div_def] at this
   exact this
 have HZ3:Hid (fsum l=0→∀k (hk:k<l.length),(DV k).2=3):=fun e k hk=>by rw[hDV k hk,if_pos e]
 have HZ0:Hid (fsum l≠0→∀k (hk:k<l.length),(DV k).2=0):=fun e k hk=>by rw[hDV k hk,if_neg e]
 obtain⟨NK,hNK⟩:∃NK:Nat→List Fr,∀k,(normL l).take k=NK k:=⟨fun k=>(normL l).take k,fun _=>rfl⟩
 have hnl:(normL l).length=l.length:=by simp[normL]
 have HN0:Hid (NK 0=[]):=by show _=_;rw[←hNK];rfl
 have HNS:Hid (fsum l≠0→∀k (hk:k<l.length),NK (k+1)=NK k++[(DV k).1]):=fun e k hk=>by
  have hk':k<(normL l).length:=by rw[hnl];exact hk
  rw[←hNK,←hNK,List.take_succ_eq_append_getElem hk',hDV k hk,if_neg e]
  simp[normL]
 have HNE:Hid (NK l.length=normL l):=by show _=_;rw[←hNK,←hnl,List.take_length]
 have HNL:Hid (∀k,(NK k).length≤l.length):=fun k=>by rw[←hNK,List.length_take];omega
 clear h hl hq hDV hNK
 obtain⟨s,hs⟩:∃s:Fr,s=(sgn (fsum l),nu (fsum l),de (fsum l)):=⟨_,rfl⟩
 obtain⟨z,hz⟩:∃z:Prop,z=(fsum l=0):=⟨_,rfl⟩
 have HSC:Hid (C (fsum l)=.agg #[.bool s.1,.string s.2.1,.string s.2.2]):=by show _=_;rw[hs];rfl
 have HDV1:Hid (∀k (hk:k<l.length) (U:World),Calls Tryz.prog 82 #[.agg #[.bool l[k].1,.string l[k].2.1,.string l[k].2.2],.agg #[.bool s.1,.string s.2.1,.string s.2.2]] U fun e w'=>e=.returned (.tuple #[.agg #[.bool (DV k).1.1,.string (DV k).1.2.1,.string (DV k).1.2.2],.int .i64 (DV k).2])∧Below U.heap.size U w'):=by rw[hs];exact HDV0
 rw[HSC.out] at HSU
 clear HDV0 HSC hs
 have HLR:Hid ((normL l).length=l.length):=hnl
 clear hnl hqs hz z
 obtain⟨sn,sx,sy⟩:=s
 go_enter Tryz.func47,Tryz.ntmps47
 go_wp2_with fail
 refine HSU.out.mono ?_
 rintro e w1 ⟨rfl,hb1⟩
 have hA:=hb1.alloc hb1.size (FC sn sx sy)
 have HK0:Hid (ShK w w1.heap.size (w1.heap.size+1) (sn,sx,sy) (.slice none 0 0) [] (w1.alloc (FC sn sx sy))):=⟨Box.new w1 sn sx sy,RwF.empty _ _,hA⟩
 have hs1:=hb1.size
 clear hb1 hA HSU
 go_wp2_with fail
 generalize hB4:w1.heap.size=B4 at *
 generalize hW2:(w1.alloc (FC sn sx sy))=W2 at *
 clear hB4 hW2
 go_loopw [5,6] (fun v iv wr=>∃k:Nat,k≤l.length∧iv=.int .i64 k∧Hid (k=0∨fsum l≠0)∧Hid (ShK w B4 (B4+1) (sn,sx,sy) v (NK k) wr)) (fun _ iv _=>l.length - (intOf iv).toNat)
 case atStart=>exact⟨0,Nat.zero_le _,rfl,.inl rfl,by rw[HN0.out];exact HK0⟩
 case round=>
  obtain⟨k,hk,rfl,HZK,HKR⟩:=hrel
  clear HK0
  obtain⟨vd,vn,vc,rfl⟩:=HKR.out.row.slv
  by_cases hlt:k<l.length
  ·obtain⟨g,o,rfl,hg,c0,c1,c2⟩:=HF.out k hlt
   have HDV:=hid (HDV1.out k hlt)
   have HZ3k:=hid (fun e=>HZ3.out e k hlt)
   have HZ0k:=hid (fun e=>HZ0.out e k hlt)
   have HNSk:=hid (fun e=>HNS.out e k hlt)
   generalize l[k].1=fn at *
   generalize l[k].2.1=fx at *
   generalize l[k].2.2=fy at *
   generalize DV k=dv at *
   obtain⟨⟨dn,dx,dy⟩,dk⟩:=dv
   simp only at HDV HZ3k HZ0k HNSk
   have HKS:Hid (∀U:World,ShK w B4 (B4+1) (sn,sx,sy) (.slice vd vn vc) (NK k) U→(U.cell? ⟨g,o+k*3,none⟩=some (.bool fn)∧U.cell? ⟨g,o+k*3+1,none⟩=some (.string fx)∧U.cell? ⟨g,o+k*3+2,none⟩=some (.string fy))∧U.cell? ⟨B4,0,none⟩=some (.bool sn)∧U.cell? ⟨B4,1,none⟩=some (.string sx)∧U.cell? ⟨B4,2,none⟩=some (.string sy)):=fun U hU=>⟨⟨(hU.bel.cell (p:=⟨g,_,none⟩) hg).trans c0,(hU.bel.cell (p:=⟨g,_,none⟩) hg).trans c1,(hU.bel.cell (p:=⟨g,_,none⟩) hg).trans c2⟩,hU.bx.c0,hU.bx.c1,hU.bx.c2⟩
   clear c0 c1 c2
   obtain⟨v,hv⟩:∃v,v=Value.slice vd vn vc:=⟨_,rfl⟩
   clear hv v
   go_upto_region 6 with (go_quiet (fail))
   obtain⟨D5,hD5⟩:∃D5,wr.drew=D5:=⟨_,rfl⟩
   have HK:=hid (HKR.out.step ((Below.refl wr.heap.size wr).drew))
   rw[hD5] at HK
   refine wp_region_held_drew (S:=(fun U=>(U.cell? ⟨g,o+k*3,none⟩=some (.bool fn)∧U.cell? ⟨g,o+k*3+1,none⟩=some (.string fx)∧U.cell? ⟨g,o+k*3+2,none⟩=some (.string fy))∧U.cell? ⟨B4,0,none⟩=some (.bool sn)∧U.cell? ⟨B4,1,none⟩=some (.string sx)∧U.cell? ⟨B4,2,none⟩=some (.string sy))) (by kernel_rfl) (by rw[hD5];exact HKS.out D5 HK.out) (fun hSd=>?_)
   rw[hD5] at hSd⊢
   clear hD5 HKR
   (try simp only[List.getElem_toArray,List.getElem_cons_zero,List.getElem_cons_succ])
   (try simp only[Act.put,List.setIfInBounds_toArray,List.set_cons_zero,List.set_cons_succ])
   refine wpAnyH_take (i:=0) (oi:=_) (v:=.slice (some ⟨g,o,none⟩) l.length cap) rfl (by kernel_rfl) (by kernel_rfl) (by kernel_rfl) (fun _ _ _ h=>h) (Or.inl ⟨by rfl,?_⟩) (by assumption) ?_
   ·intro u' hSu
    (try simp only[List.getElem_toArray,List.getElem_cons_zero])
    go_simp
   (try simp only[List.getElem_toArray,List.getElem_cons_zero])
   (try simp only[Act.put,List.setIfInBounds_toArray,List.set_cons_zero,List.set_cons_succ])
   refine wpAnyH_take (i:=1) (oi:=_) (v:=.int .i64 (k:Nat)) rfl (by kernel_rfl) (by kernel_rfl) (by kernel_rfl) (fun _ _ _ h=>h) (Or.inl ⟨by rfl,?_⟩) (by assumption) ?_
   ·intro u' hSu
    (try simp only[List.getElem_toArray,List.getElem_cons_zero,List.getElem_cons_succ])
    go_simp
   (try simp only[List.getElem_toArray,List.getElem_cons_zero,List.getElem_cons_succ])
   (try simp only[Act.put,List.setIfInBounds_toArray,List.set_cons_zero,List.set_cons_succ])
   refine wpAnyH_take (i:=2) (oi:=_) (v:=.pointer (some ⟨g,o+k*3,none⟩)) rfl (by kernel_rfl) (by kernel_rfl) (by kernel_rfl) (fun _ _ _ h=>h) (Or.inl ⟨by rfl,?_⟩) (by assumption) ?_
   ·intro u' hSu
    (try simp only[List.getElem_toArray,List.getElem_cons_zero,List.getElem_cons_succ])
    go_simp
   (try simp only[List.getElem_toArray,List.getElem_cons_zero,List.getElem_cons_succ])
   (try simp only[Act.put,List.setIfInBounds_toArray,List.set_cons_zero,List.set_cons_succ])
   refine wpAnyH_take (i:=3) (oi:=_) (v:=.agg #[.bool fn,.string fx,.string fy]) rfl (by kernel_rfl) (by kernel_rfl) (by kernel_rfl) (fun _ _ _ h=>h) (Or.inl ⟨by rfl,?_⟩) (by assumption) ?_
   ·intro u' hSu
    (try simp only[List.getElem_toArray,List.getElem_cons_zero,List.getElem_cons_succ])
    obtain⟨⟨s0,s1,s2⟩,s3,s4,s5⟩:=hSu
    go_simp
   (try simp only[List.getElem_toArray,List.getElem_cons_zero,List.getElem_cons_succ])
   (try simp only[Act.put,List.setIfInBounds_toArray,List.set_cons_zero,List.set_cons_succ])
   refine wpAnyH_take (i:=4) (oi:=_) (v:=.agg #[.bool sn,.string sx,.string sy]) rfl (by kernel_rfl) (by kernel_rfl) (by kernel_rfl) (fun _ _ _ h=>h) (Or.inl ⟨by rfl,?_⟩) (by assumption) ?_
   ·intro u' hSu
    (try simp only[List.getElem_toArray,List.getElem_cons_zero,List.getElem_cons_succ])
    obtain⟨⟨s0,s1,s2⟩,s3,s4,s5⟩:=hSu
    go_simp
   (try simp only[List.getElem_toArray,List.getElem_cons_zero,List.getElem_cons_succ])
   (try simp only[Act.put,List.setIfInBounds_toArray,List.set_cons_zero,List.set_cons_succ])
   refine wpAnyH_ready (rs:=[5,9]) (by kernel_rfl) (by simp) (AllReadyH.cons rfl ?_ (AllReadyH.cons rfl ?_ (AllReadyH.nil)))
   ·intro K' hK'
    (try simp only[List.getElem_toArray,List.getElem_cons_zero,List.getElem_cons_succ])
    go_simp
    refine(HDV.out D5).mono ?_
    rintro e u1 ⟨rfl,hb1⟩
    replace HK:=hid (HK.out.step hb1)
    refine hK'.out _ _ (HKS.out u1 HK.out) (fun hSe=>?_)
    clear hb1
    clear hK' K' hSd
    have hSd:=hSe
    clear hSe
    (try simp only[List.getElem_toArray,List.getElem_cons_zero,List.getElem_cons_succ])
    (try simp only[Act.put,List.setIfInBounds_toArray,List.set_cons_zero,List.set_cons_succ])
    refine wpAnyH_take (i:=6) (oi:=_) (v:=.tuple #[.agg #[.bool dn,.string dx,.string dy],.int .i64 dk]) rfl (by kernel_rfl) (by kernel_rfl) (by kernel_rfl) (fun _ _ _ h=>h) (Or.inl ⟨by rfl,?_⟩) (by assumption) ?_
    ·intro u' hSu
     (try simp only[List.getElem_toArray,List.getElem_cons_zero,List.getElem_cons_succ])
     go_simp
    (try simp only[List.getElem_toArray,List.getElem_cons_zero,List.getElem_cons_succ])
    (try simp only[Act.put,List.setIfInBounds_toArray,List.set_cons_zero,List.set_cons_succ])
    refine wpAnyH_take (i:=7) (oi:=_) (v:=.agg #[.bool dn,.string dx,.string dy]) rfl (by kernel_rfl) (by kernel_rfl) (by kernel_rfl) (fun _ _ _ h=>h) (Or.inl ⟨by rfl,?_⟩) (by assumption) ?_
    ·intro u' hSu
     (try simp only[List.getElem_toArray,List.getElem_cons_zero,List.getElem_cons_succ])
     go_simp
    (try simp only[List.getElem_toArray,List.getElem_cons_zero,List.getElem_cons_succ])
    (try simp only[Act.put,List.setIfInBounds_toArray,List.set_cons_zero,List.set_cons_succ])
    refine wpAnyH_take (i:=8) (oi:=_) (v:=.int .i64 dk) rfl (by kernel_rfl) (by kernel_rfl) (by kernel_rfl) (fun _ _ _ h=>h) (Or.inl ⟨by rfl,?_⟩) (by assumption) ?_
    ·intro u' hSu
     (try simp only[List.getElem_toArray,List.getElem_cons_zero,List.getElem_cons_succ])
     go_simp
    (try simp only[List.getElem_toArray,List.getElem_cons_zero,List.getElem_cons_succ])
    (try simp only[Act.put,List.setIfInBounds_toArray,List.set_cons_zero,List.set_cons_succ])
    refine wpAnyH_ready (rs:=[9]) (by kernel_rfl) (by simp) (AllReadyH.cons rfl ?_ (AllReadyH.nil))
    ·intro K' hK'
     (try simp only[List.getElem_toArray,List.getElem_cons_zero,List.getElem_cons_succ])
     go_simp
     have hbA:=(Below.refl _ u1).alloc (Nat.le_refl _) (FC false ⟨#[]⟩ ⟨#[]⟩)
     have HX7:=hid (Box.new u1 false ⟨#[]⟩ ⟨#[]⟩)
     have hB7:u1.heap.size≠B4∧w.heap.size≤u1.heap.size:=⟨by have:=HK.out.bx.lt;omega,HK.out.bel.size⟩
     have HO7:Hid (Value.ownBlock (.slice vd vn vc)≠some u1.heap.size):=fun e=>by
      have:=(own_ltS HK.out.row _ e).2
      omega
     replace HK:=hid (HK.out.step hbA)
     refine hK'.out _ _ (HKS.out _ HK.out) (fun hSe=>?_)
     clear hbA
     clear hK' K' hSd
     have hSd:=hSe
     clear hSe
     obtain⟨B7,hBB⟩:∃B7,u1.heap.size=B7:=⟨_,rfl⟩
     obtain⟨u3,hu3⟩:∃u3,u1.alloc (FC false ⟨#[]⟩ ⟨#[]⟩)=u3:=⟨_,rfl⟩
     have hu3':u1.alloc (.cells #[.bool false,.string ⟨#[]⟩,.string ⟨#[]⟩] 44)=u3:=hu3
     rw[hBB] at HX7 hB7 HO7
     rw[hu3] at HX7 HK
     simp only[hu3'] at hSd⊢
     simp only[hBB]
     clear hu3 hu3' hBB
     (try simp only[List.getElem_toArray,List.getElem_cons_zero,List.getElem_cons_succ])
     (try simp only[Act.put,List.setIfInBounds_toArray,List.set_cons_zero,List.set_cons_succ])
     obtain⟨x0,x1,x2,f0,f1,f2⟩:=HX7.out.facts
     refine wpAnyH_ready (rs:=[10]) (by kernel_rfl) (by simp) (AllReadyH.cons rfl ?_ (AllReadyH.nil))
     ·intro K' hK'
      (try simp only[List.getElem_toArray,List.getElem_cons_zero,List.getElem_cons_succ])
      go_simp
      have HX8:=hid (HX7.out.put dn dx dy)
      have HK8:=hid (HK.out.put3 hB7.1 HO7.out hB7.2 (.bool dn) (.string dx) (.string dy))
      refine hK'.out _ _ (HKS.out _ HK8.out) (fun hSe=>?_)
      clear x0 x1 x2 f0 f1 f2 HX7 HK HO7 hB7
      clear hK' K' hSd
      have hSd:=hSe
      clear hSe
      (try simp only[List.getElem_toArray,List.getElem_cons_zero,List.getElem_cons_succ])
      (try simp only[Act.put,List.setIfInBounds_toArray,List.set_cons_zero,List.set_cons_succ])
      refine wpAnyH_take (i:=11) (oi:=_) (v:=.int .i64 dk) rfl (by kernel_rfl) (by kernel_rfl) (by kernel_rfl) (fun _ _ _ h=>h) (Or.inl ⟨by rfl,?_⟩) (by assumption) ?_
      ·intro u' hSu
       (try simp only[List.getElem_toArray,List.getElem_cons_zero,List.getElem_cons_succ])
       go_simp
      (try simp only[List.getElem_toArray,List.getElem_cons_zero,List.getElem_cons_succ])
      (try simp only[Act.put,List.setIfInBounds_toArray,List.set_cons_zero,List.set_cons_succ])
      refine wpAnyH_done (by kernel_rfl) ?_ _
      clear hSd HKS HDV
      obtain⟨u9,hu9⟩:∃u9,((u3.setCell ⟨B7,0,none⟩ (.bool dn)).setCell ⟨B7,1,none⟩ (.string dx)).setCell ⟨B7,2,none⟩ (.string dy)=u9:=⟨_,rfl⟩
      rw[hu9] at HX8 HK8⊢
      clear hu9
      by_cases hd0:dk=0
      ·subst hd0
       have hz:fsum l≠0:=fun e=>by have:=HZ3k.out e;omega
       have HNk:=hid (HNSk.out hz)
       have HZZ:Hid (k+1=0∨fsum l≠0):=.inr hz
       obtain⟨x0,x1,x2, -⟩:=HX8.out.facts
       have hbA:=(Below.refl _ u9).alloc (Nat.le_refl _) (FC dn dx dy)
       have HK9:=hid (HK8.out.step hbA)
       have HX9:=hid (Box.new u9 dn dx dy)
       have HS9:Hid (B4+1≤(u9.alloc (FC dn dx dy)).heap.size):=HK9.out.bx.lt
       have hnl:=HNL.out k
       clear hz hbA HZ3k HZ0k HNSk HZK HK8
       go_wp2_with (at_builtin;refine wpList_append_fr rfl _ _ rfl (B4+1) (.slice vd vn vc) (NK k) (dn,dx,dy) rfl HK9.out.row u9.heap.size rfl HX9.out (by omega) HS9.out ?_;intro v' w10 ho10 hg10;have HK10:Hid (ShK w B4 (B4+1) (sn,sx,sy) v' (NK k++[(dn,dx,dy)]) w10):=⟨(hg10.block B4 HK9.out.bx.lt (fun e=>by have:=HK9.out.row.own B4 e.symm;omega)).trans HK9.out.bx,ho10,HK9.out.bel.grown hg10 HK9.out.bel.size (fun j e=>Nat.le_trans (by omega) (HK9.out.row.own j e))⟩;obtain⟨d10,n10,c10,rfl⟩:=ho10.slv;clear ho10 hg10)
       go_roundw
       case rel=>exact⟨k+1,by omega,by go_num,HZZ,by rw[HNk.out];exact HK10⟩
       case measure=>simp[intOf];omega
      ·have hz:fsum l=0:=Decidable.byContradiction fun e=>hd0 (HZ0k.out e)
       have hd3:=HZ3k.out hz
       subst hd3
       have HZZ:=hid hz
       have HB9:=hid HK8.out.bel
       clear hz hd0 HZ3k HZ0k HNSk HZK HK8 HX8
       go_wp2
       go_ret2
       exact⟨.inl ⟨HZZ.out,rfl⟩,HB9.out⟩
   ·intro K' hK'
    (try simp only[List.getElem_toArray,List.getElem_cons_zero,List.getElem_cons_succ])
    go_simp
    have hbA:=(Below.refl _ D5).alloc (Nat.le_refl _) (FC false ⟨#[]⟩ ⟨#[]⟩)
    have HX7:=hid (Box.new D5 false ⟨#[]⟩ ⟨#[]⟩)
    have hB7:D5.heap.size≠B4∧w.heap.size≤D5.heap.size:=⟨by have:=HK.out.bx.lt;omega,HK.out.bel.size⟩
    have HO7:Hid (Value.ownBlock (.slice vd vn vc)≠some D5.heap.size):=fun e=>by
     have:=(own_ltS HK.out.row _ e).2
     omega
    replace HK:=hid (HK.out.step hbA)
    refine hK'.out _ _ (HKS.out _ HK.out) (fun hSe=>?_)
    clear hbA
    clear hK' K' hSd
    have hSd:=hSe
    clear hSe
    obtain⟨B7,hBB⟩:∃B7,D5.heap.size=B7:=⟨_,rfl⟩
    obtain⟨u3,hu3⟩:∃u3,D5.alloc (FC false ⟨#[]⟩ ⟨#[]⟩)=u3:=⟨_,rfl⟩
    have hu3':D5.alloc (.cells #[.bool false,.string ⟨#[]⟩,.string ⟨#[]⟩] 44)=u3:=hu3
    rw[hBB] at HX7 hB7 HO7
    rw[hu3] at HX7 HK
    simp only[hu3'] at hSd⊢
    simp only[hBB]
    clear hu3 hu3' hBB
    (try simp only[List.getElem_toArray,List.getElem_cons_zero,List.getElem_cons_succ])
    (try simp only[Act.put,List.setIfInBounds_toArray,List.set_cons_zero,List.set_cons_succ])
    refine wpAnyH_ready (rs:=[5]) (by kernel_rfl) (by simp) (AllReadyH.cons rfl ?_ (AllReadyH.nil))
    ·intro K' hK'
     (try simp only[List.getElem_toArray,List.getElem_cons_zero,List.getElem_cons_succ])
     go_simp
     refine(HDV.out u3).mono ?_
     rintro e u1 ⟨rfl,hb1⟩
     replace HK:=hid (HK.out.step hb1)
     replace HX7:=hid (HX7.out.below hb1 HX7.out.lt)
     refine hK'.out _ _ (HKS.out u1 HK.out) (fun hSe=>?_)
     clear hb1
     clear hK' K' hSd
     have hSd:=hSe
     clear hSe
     (try simp only[List.getElem_toArray,List.getElem_cons_zero,List.getElem_cons_succ])
     (try simp only[Act.put,List.setIfInBounds_toArray,List.set_cons_zero,List.set_cons_succ])
     refine wpAnyH_take (i:=6) (oi:=_) (v:=.tuple #[.agg #[.bool dn,.string dx,.string dy],.int .i64 dk]) rfl (by kernel_rfl) (by kernel_rfl) (by kernel_rfl) (fun _ _ _ h=>h) (Or.inl ⟨by rfl,?_⟩) (by assumption) ?_
     ·intro u' hSu
      (try simp only[List.getElem_toArray,List.getElem_cons_zero,List.getElem_cons_succ])
      go_simp
     (try simp only[List.getElem_toArray,List.getElem_cons_zero,List.getElem_cons_succ])
     (try simp only[Act.put,List.setIfInBounds_toArray,List.set_cons_zero,List.set_cons_succ])
     refine wpAnyH_take (i:=7) (oi:=_) (v:=.agg #[.bool dn,.string dx,.string dy]) rfl (by kernel_rfl) (by kernel_rfl) (by kernel_rfl) (fun _ _ _ h=>h) (Or.inl ⟨by rfl,?_⟩) (by assumption) ?_
     ·intro u' hSu
      (try simp only[List.getElem_toArray,List.getElem_cons_zero,List.getElem_cons_succ])
      go_simp
     (try simp only[List.getElem_toArray,List.getElem_cons_zero,List.getElem_cons_succ])
     (try simp only[Act.put,List.setIfInBounds_toArray,List.set_cons_zero,List.set_cons_succ])
     refine wpAnyH_take (i:=8) (oi:=_) (v:=.int .i64 dk) rfl (by kernel_rfl) (by kernel_rfl) (by kernel_rfl) (fun _ _ _ h=>h) (Or.inl ⟨by rfl,?_⟩) (by assumption) ?_
     ·intro u' hSu
      (try simp only[List.getElem_toArray,List.getElem_cons_zero,List.getElem_cons_succ])
      go_simp
     (try simp only[List.getElem_toArray,List.getElem_cons_zero,List.getElem_cons_succ])
     (try simp only[Act.put,List.setIfInBounds_toArray,List.set_cons_zero,List.set_cons_succ])
     obtain⟨x0,x1,x2,f0,f1,f2⟩:=HX7.out.facts
     refine wpAnyH_ready (rs:=[10]) (by kernel_rfl) (by simp) (AllReadyH.cons rfl ?_ (AllReadyH.nil))
     ·intro K' hK'
      (try simp only[List.getElem_toArray,List.getElem_cons_zero,List.getElem_cons_succ])
      go_simp
      have HX8:=hid (HX7.out.put dn dx dy)
      have HK8:=hid (HK.out.put3 hB7.1 HO7.out hB7.2 (.bool dn) (.string dx) (.string dy))
      refine hK'.out _ _ (HKS.out _ HK8.out) (fun hSe=>?_)
      clear x0 x1 x2 f0 f1 f2 HX7 HK HO7 hB7
      clear hK' K' hSd
      have hSd:=hSe
      clear hSe
      (try simp only[List.getElem_toArray,List.getElem_cons_zero,List.getElem_cons_succ])
      (try simp only[Act.put,List.setIfInBounds_toArray,List.set_cons_zero,List.set_cons_succ])
      refine wpAnyH_take (i:=11) (oi:=_) (v:=.int .i64 dk) rfl (by kernel_rfl) (by kernel_rfl) (by kernel_rfl) (fun _ _ _ h=>h) (Or.inl ⟨by rfl,?_⟩) (by assumption) ?_
      ·intro u' hSu
       (try simp only[List.getElem_toArray,List.getElem_cons_zero,List.getElem_cons_succ])
       go_simp
      (try simp only[List.getElem_toArray,List.getElem_cons_zero,List.getElem_cons_succ])
      (try simp only[Act.put,List.setIfInBounds_toArray,List.set_cons_zero,List.set_cons_succ])
      refine wpAnyH_done (by kernel_rfl) ?_ _
      clear hSd HKS HDV
      obtain⟨u9,hu9⟩:∃u9,((u1.setCell ⟨B7,0,none⟩ (.bool dn)).setCell ⟨B7,1,none⟩ (.string dx)).setCell ⟨B7,2,none⟩ (.string dy)=u9:=⟨_,rfl⟩
      rw[hu9] at HX8 HK8⊢
      clear hu9
      by_cases hd0:dk=0
      ·subst hd0
       have hz:fsum l≠0:=fun e=>by have:=HZ3k.out e;omega
       have HNk:=hid (HNSk.out hz)
       have HZZ:Hid (k+1=0∨fsum l≠0):=.inr hz
       obtain⟨x0,x1,x2, -⟩:=HX8.out.facts
       have hbA:=(Below.refl _ u9).alloc (Nat.le_refl _) (FC dn dx dy)
       have HK9:=hid (HK8.out.step hbA)
       have HX9:=hid (Box.new u9 dn dx dy)
       have HS9:Hid (B4+1≤(u9.alloc (FC dn dx dy)).heap.size):=HK9.out.bx.lt
       have hnl:=HNL.out k
       clear hz hbA HZ3k HZ0k HNSk HZK HK8
       go_wp2_with (at_builtin;refine wpList_append_fr rfl _ _ rfl (B4+1) (.slice vd vn vc) (NK k) (dn,dx,dy) rfl HK9.out.row u9.heap.size rfl HX9.out (by omega) HS9.out ?_;intro v' w10 ho10 hg10;have HK10:Hid (ShK w B4 (B4+1) (sn,sx,sy) v' (NK k++[(dn,dx,dy)]) w10):=⟨(hg10.block B4 HK9.out.bx.lt (fun e=>by have:=HK9.out.row.own B4 e.symm;omega)).trans HK9.out.bx,ho10,HK9.out.bel.grown hg10 HK9.out.bel.size (fun j e=>Nat.le_trans (by omega) (HK9.out.row.own j e))⟩;obtain⟨d10,n10,c10,rfl⟩:=ho10.slv;clear ho10 hg10)
       go_roundw
       case rel=>exact⟨k+1,by omega,by go_num,HZZ,by rw[HNk.out];exact HK10⟩
       case measure=>simp[intOf];omega
      ·have hz:fsum l=0:=Decidable.byContradiction fun e=>hd0 (HZ0k.out e)
       have hd3:=HZ3k.out hz
       subst hd3
       have HZZ:=hid hz
       have HB9:=hid HK8.out.bel
       clear hz hd0 HZ3k HZ0k HNSk HZK HK8 HX8
       go_wp2
       go_ret2
       exact⟨.inl ⟨HZZ.out,rfl⟩,HB9.out⟩
  ·obtain rfl:k=l.length:=by omega
   have hz:=HZK.out.resolve_left (by omega)
   have HZZ:=hid hz
   have HK9:=HKR
   rw[HNE.out] at HK9
   have HFR:=hid (HK9.out.row.lower (B':=w.heap.size) (by omega))
   have HB9:=hid HK9.out.bel
   clear hz HZK HKR
   go_wp2
   go_ret2
   exact⟨.inr ⟨HZZ.out,_,rfl,HFR.out⟩,HB9.out⟩
end Go.Proofs.YtmbjmiioggfneaaGreatDoor

/- The answer's Still: by its trees. -/
namespace Go.Proofs.YtmbjmiioggfneaaGreatDoor
open Go.RowKit Go.Shelf
def tqQ (P:Nat→Nat→Rat) (l:List Nat) (i:Nat):Rat:=sprQ l (trL P l) l.length i
theorem tqQ_on {n:Nat} {P:Nat→Nat→Rat} {l:List Nat} (h:Cls n P l) {k:Nat} (hk:k<l.length):tqQ P l (l.getD k 0)=trL P l k:=sprQ_on h.nd (Nat.le_refl _) hk
theorem tqQ_off {P:Nat→Nat→Rat} {l:List Nat} {i:Nat} (hi:i∉l):tqQ P l i=0:=sprQ_off hi (Nat.le_refl _)
theorem tqQ_low {n:Nat} {P:Nat→Nat→Rat} {l:List Nat} (h:Cls n P l) (hc:Chn n P) (i:Nat):0≤tqQ P l i:=by
 by_cases e:i∈l
 ·obtain⟨k,hk,rfl⟩:=getD_of e
  rw[tqQ_on h hk]
  exact Rat.le_of_lt (h.trees_pos hc hk)
 ·rw[tqQ_off e];exact Rat.le_refl
theorem tqQ_sum {n:Nat} {P:Nat→Nat→Rat} {l:List Nat} (h:Cls n P l) (hc:Chn n P):sumR (tqQ P l) n=sumR (trL P l) l.length:=by
 rw[←lsm_all (f:=tqQ P l) (fun i _=>tqQ_low h hc i) h.nd h.lt fun j _ hj=>tqQ_off hj,←lsm_at]
 exact sumR_congr fun k hk=>tqQ_on h hk
theorem tqQ_share {n:Nat} {P:Nat→Nat→Rat} {l:List Nat} (h:Cls n P l) (hc:Chn n P) (h5:l.length≤5) (i:Nat):tqQ P l i*(1/sumR (tqQ P l) n)=stQ P l i:=by
 rw[tqQ_sum h hc]
 by_cases e:i∈l
 ·obtain⟨k,hk,rfl⟩:=getD_of e
  rw[tqQ_on h hk,stQ_on h hk]
  exact(h.trees hc h5).2 k hk
 ·rw[tqQ_off e,stQ_off e,Rat.zero_mul]
theorem tqQ_long {n T:Nat} {X:Nat→Nat→Fr} {l:List Nat} (h:Cls n (rowQ X) l) (hm:ChX n X) (hT0:0<T) (hTw:∀i j,i<n→j<n→Whl T (rowQ X i j)) (i:Nat):Whl (T^l.length) (tqQ (rowQ X) l i)∧Abs 3125 (tqQ (rowQ X) l i):=by
 have h5:l.length≤5:=Nat.le_trans (nod_most h.nd h.lt) hm.five
 by_cases e:i∈l
 ·obtain⟨k,hk,rfl⟩:=getD_of e
  rw[tqQ_on h hk]
  have e9:trL (rowQ X) l k=trQ l.length (clP X l) k l.length []:=(trQ_all (clP X l) hk).symm
  rw[e9]
  obtain⟨q1,q2⟩:=trQ_whl (n:=l.length) (r:=k) (p:=clP X l) (D:=fun _=>T) (by omega) (fun i hi k hk=>hTw _ _ (h.lt _ (getD_mem hi)) (h.lt _ (getD_mem hk))) (fun i hi k hk=>hm.chn.abs (h.lt _ (getD_mem hi)) (h.lt _ (getD_mem hk))) l.length [] (by simp)
  rw[prodF_const] at q1
  exact⟨q1,q2.up (Nat.le_trans (Nat.pow_le_pow_left h5 _) (Nat.le_trans (Nat.pow_le_pow_right (by decide) h5) (by decide)))⟩
 ·rw[tqQ_off e]
  exact⟨Whl.zero _,Abs.zero.up (by decide)⟩
theorem tqQ_sums {n:Nat} {X:Nat→Nat→Fr} {l:List Nat} (h:Cls n (rowQ X) l) (hm:ChX n X) {k:Nat} (hk:k≤n):Fits 3505 (sumR (tqQ (rowQ X) l) k):=by
 obtain⟨T,hT0,hT,hTw⟩:=hm.den
 have h5:l.length≤5:=Nat.le_trans (nod_most h.nd h.lt) hm.five
 have hn5:=hm.five
 exact fits_many (B:=k*3125+1) hT0 hT h5 (by omega) (by omega) (Whl.sum fun i _=>(tqQ_long h hm hT0 hTw i).1) ((Abs.sum fun i _=>(tqQ_long h hm hT0 hTw i).2).up (by omega))
theorem norm_lFc (n:Nat) (f:Nat→Rat):normL (lF n f)=lF n fun j=>f j*(1/sumR f n):=by
 rw[normL,fsum_lF]
 simp only[lF,List.map_map]
 refine List.map_congr_left fun j _=>?_
 show qF (frQ (qF (f j))*_)=_
 rw[frQ_qF]
theorem fsum_take {n:Nat} {f:Nat→Rat} {k:Nat} (hk:k≤n):fsum ((lF n f).take k)=sumR f k:=by
 have e:(lF n f).take k=lF k f:=by
  simp only[lF,←List.map_take,List.take_range,Nat.min_eq_left hk]
 rw[e,fsum_lF]
set_option maxRecDepth 100000 in
set_option maxHeartbeats 4000000 in
theorem rStill_any (a:Option Addr) (ca n:Nat) (X:Nat→Nat→Fr) (w:World) (hR:FsS w a (mF n X)) (hm:ChX n X):
  Calls Tryz.prog 19 #[.slice a n ca] w fun e w'=>Below w.heap.size w w'∧((∃k v,OneC n (rowQ X) k∧e=.returned (.tuple #[v,.int .i64 0])∧RwF w' w.heap.size v (lF n (stQ (rowQ X) (clN n (cmsB n (rowQ X)) k))))∨(true∈(clB n (rowQ X)).drop (fstT (clB n (rowQ X))+1)∧e=.returned (.tuple #[.slice none 0 0,.int .i64 13]))):=by
 have h1:=hm.one
 have h5:=hm.five
 have HCH:=hid (rChain_yes a ca n (mF n X) w hR hm.ok h1 (by omega))
 have HCL0:=hid (fun (U:World) (hU:Below w.heap.size w U)=>rClosed_any a ca n X U (hR.below hU) hm)
 have HCM:=hid hm
 have HR:=hid hR
 have HO0:=hid (fun V:World=>rOf_zero V)
 have HONE0:=hid (oneC_of (P:=rowQ X) h1)
 have HMANY0:=hid (clsd_many (P:=rowQ X) h1)
 clear hR hm
 go_enter Tryz.func19,Tryz.ntmps19
 go_wp2_with fail
 refine HCH.out.mono ?_
 rintro e1 w1 ⟨rfl,hb1⟩
 have HB1:=hid hb1
 clear hb1 HCH
 go_wp2_with fail
 refine(HCL0.out _ HB1.out).mono ?_
 rintro e2 w2 ⟨d,m,c,rfl,hb2,hlast⟩
 have HB2:=hid (HB1.out.trans (hb2.mono HB1.out.size))
 have HLAST:=hid hlast
 clear hb2 hlast HB1 HCL0
 by_cases hmany:true∈(clB n (rowQ X)).drop (fstT (clB n (rowQ X))+1)
 ·rw[decide_eq_false (HMANY0.out hmany)]
  have HMY:=hid hmany
  clear hmany HMANY0 HONE0 HLAST
  go_wp2
  go_ret2
  exact⟨HB2.out,.inr ⟨HMY.out,rfl⟩⟩
 ·obtain⟨_,hone⟩:=HONE0.out hmany
  generalize (lstN n (cmsB n (rowQ X)) n)[fstT (clB n (rowQ X))]=k0 at *
  have hsole:=hone.sole
  obtain⟨hml,hid2⟩:=HLAST.out k0 (by rw[hsole];rfl)
  have HONE:=hid hone
  rw[hsole]
  have hcls:=hone.cls
  clear hmany HMANY0 HONE0 HLAST hsole hone
  obtain⟨l,hl⟩:∃l,clN n (cmsB n (rowQ X)) k0=l:=⟨_,rfl⟩
  have HLE:=hid hl
  rw[hl] at hcls hml hid2
  clear hl
  have HML:Hid (l.length=m):=hml.symm
  have HCL:=hid hcls
  have hl5:l.length≤5:=Nat.le_trans (nod_most hcls.nd hcls.lt) h5
  have HD:Hid (∀U:World,Below w.heap.size w U→IntS w2 d (iL l)→Below w2.heap.size w2 U→IntS U d (iL l)):=fun U _ h h2=>h.below h2
  have HD2:=hid hid2
  have hm5:m≤5:=by rw[hml];exact hl5
  have HIN:Hid (∀(i:Nat) (U:World),Below w2.heap.size w2 U→Calls Tryz.prog 39 #[.int .i64 (i:Nat),.slice d m c] U fun e w'=>e=.returned (.bool (decide (i∈l)))∧w'=U):=fun i U hU=>by
   have h:=rIn_any ((i:Nat):Int) d c (iL l) U (HD2.out.below hU) (by rw[iL_length];omega)
   rw[inB_chn,iL_length,HML.out] at h
   exact h
  have HSH:Hid (∀(d:Option Addr) (cd:Nat) (U:World),FrS U d (lF n (tqQ (rowQ X) l))→Calls Tryz.prog 47 #[.slice d n cd] U fun e w'=>(∃v,e=.returned (.tuple #[v,.int .i64 0])∧RwF w' U.heap.size v (lF n (stQ (rowQ X) l)))∧Below U.heap.size U w'):=fun d cd U hU=>by
   have h9:=rShare_own d cd (lF n (tqQ (rowQ X) l)) U hU (fun k hk=>by
    rw[lF_get]
    show (nu _).size+(de _).size≤40000
    rw[own_size]
    obtain⟨T,hT0,hT,hTw⟩:=HCM.out.den
    obtain⟨q1,q2⟩:=tqQ_long HCL.out HCM.out hT0 hTw k
    have:=fits_qw (fits_many hT0 hT (by rw[HML.out];exact hm5) (by decide) (by decide) q1 q2)
    omega) (fun k hk=>by
    rw[lF_length] at hk
    rw[fsum_take hk]
    have:=fits_qw (tqQ_sums HCL.out HCM.out hk)
    omega) (by rw[lF_length];omega) (by rw[lF_length];omega)
   rw[lF_length] at h9
   refine h9.mono ?_
   rintro e w' ⟨⟨h0,_⟩ |⟨_,v,rfl,hv⟩,hb⟩
   ·rw[fsum_lF,tqQ_sum HCL.out HCM.out.chn] at h0
    have h8:=(HCL.out.trees HCM.out.chn (by rw[HML.out];exact hm5)).1
    rw[h0] at h8
    exact absurd h8 Rat.lt_irrefl
   ·refine⟨⟨v,rfl,?_⟩,hb⟩
    rw[norm_lFc] at hv
    have e9:(fun j=>tqQ (rowQ X) l j*(1/sumR (tqQ (rowQ X) l) n))=stQ (rowQ X) l:=by
     funext j
     exact tqQ_share HCL.out HCM.out.chn (by rw[HML.out];exact hm5) j
    rw[e9] at hv
    exact hv
  clear hid2 hcls hl5 hml HD
  have HUP:Hid (∀U:World,Below w2.heap.size w2 U→Below w.heap.size w U):=fun U hU=>HB2.out.trans (hU.mono HB2.out.size)
  have HUZ:Hid (w.heap.size≤w2.heap.size):=HB2.out.size
  have HE0:Hid (RwF w2 w2.heap.size (.slice none 0 0) (lF 0 (tqQ (rowQ X) l))):=⟨rfl,.inl ⟨rfl,rfl⟩⟩
  have HBZ:Hid (Below w2.heap.size w2 w2):=Below.refl _ _
  go_wp2_with fail
  go_loopw [7,8] (fun ov iv wr=>∃i:Nat,i≤n∧iv=.int .i64 i∧Hid (RwF wr w2.heap.size ov (lF i (tqQ (rowQ X) l)))∧Hid (Below w2.heap.size w2 wr)) (fun _ iv _=>n - (intOf iv).toNat)
  case atStart=>exact⟨0,Nat.zero_le _,rfl,HE0,HBZ⟩
  case round=>
   clear HE0 HB2 HBZ
   obtain⟨i,hi,rfl,HRW,HB⟩:=hrel
   by_cases hlt:i<n
   ·obtain⟨dv,nv,cv,hlv⟩:=HRW.out.slv
    subst hlv
    have HSN:Hid (lF (i+1) (tqQ (rowQ X) l)=lF i (tqQ (rowQ X) l)++[qF (tqQ (rowQ X) l i)]):=lF_snoc i _
    have HLN:Hid ((lF i (tqQ (rowQ X) l)).length+1≤100000):=by show _≤_;rw[lF_length];omega
    generalize (lF i (tqQ (rowQ X) l))=L0 at *
    go_wp2_with fail
    refine(HO0.out _).mono ?_
    rintro e V0 ⟨rfl,hbv⟩
    have HBV:=hid (HB.out.trans (hbv.mono HB.out.size))
    have HRV:=hid (HRW.out.below hbv)
    have hA:=(Below.refl V0.heap.size V0).alloc (Nat.le_refl _) (FC (sgn 0) (nu 0) (de 0))
    have HX:=hid (Box.new V0 (sgn 0) (nu 0) (de 0))
    have HB2:=hid (HBV.out.trans (hA.mono HBV.out.size))
    have HR2:=hid (HRV.out.below hA)
    have HBX:Hid (w2.heap.size≤V0.heap.size):=HBV.out.size
    have HRN:Hid (∀x,(Value.slice dv nv cv).ownBlock=some x→x<V0.heap.size):=fun x e=>rwF_lt HRV.out e
    have HINI:=hid (HIN.out i _ HB2.out)
    have HIV0:Hid (decide (i∈l)=true↔i∈l):=decide_eq_true_iff
    obtain⟨tb,htb⟩:∃b,decide (i∈l)=b:=⟨_,rfl⟩
    rw[htb] at HINI HIV0
    have HIV:Hid ((tb=true→i∈l)∧(i∈l→tb=true)):=⟨HIV0.out.1,HIV0.out.2⟩
    clear hbv hA HRW HB HBV HRV htb HIV0
    go_wp2_with fail
    refine HINI.out.mono ?_
    rintro e V9 ⟨rfl,rfl⟩
    clear HINI
    cases hin:tb with
    |true=>
     obtain⟨r,hr,hri⟩:=getD_of (HIV.out.1 hin)
     have HTR:Hid (∀U:World,Below w.heap.size w U→IntS U d (iL l)→Calls Tryz.prog 46 #[.slice a n ca,.slice d m c,.int .i64 (i:Nat),.int .i64 0,.slice none 0 0] U fun e w'=>e=.returned (.agg #[.bool (qF (tqQ (rowQ X) l i)).1,.string (qF (tqQ (rowQ X) l i)).2.1,.string (qF (tqQ (rowQ X) l i)).2.2])∧Below U.heap.size U w'):=fun U hU hd=>by
      have h9:=rTrees_any a d ca c n m r X l HCM.out HML.out HCL.out.nd HCL.out.lt (by rw[←HML.out];exact hr) m 0 [] none 0 U rfl (by omega) (fun x hx=>by cases hx) (HR.out.below hU) hd (fun k hk=>absurd hk (Nat.not_lt_zero _)) (fun _=>rfl)
      rw[hri] at h9
      have e9:trQ m (clP X l) r m []=tqQ (rowQ X) l i:=by
       rw[←hri,tqQ_on HCL.out hr,trQ_all _ (by rw[←HML.out];exact hr),←HML.out]
       rfl
      rw[e9] at h9
      exact h9
     clear hr hri
     go_wp2_with fail
     refine(HTR.out _ (HUP.out _ HB2.out) (HD2.out.below HB2.out)).mono ?_
     rintro e V1 ⟨rfl,hb⟩
     have HX1:=hid (HX.out.below hb HX.out.lt)
     have HB3:=hid (HB2.out.trans (hb.mono HB2.out.size))
     have HR3:=hid (HR2.out.below hb)
     clear hb HX HB2 HR2 HTR
     obtain⟨k0,k1,k2⟩:=HX1.out.trio
     have f0:=HX1.out.fz 0
     have f1:=HX1.out.fz 1
     have f2:=HX1.out.fz 2
     generalize tqQ (rowQ X) l i=tq at *
     have HXN:=hid (HX1.out.put (qF (tq)).1 (qF (tq)).2.1 (qF (tq)).2.2)
     replace HB3:=hid (((HB3.out.setCell (p:=⟨V0.heap.size,0,none⟩) HBX.out (.bool (qF tq).1)).setCell (p:=⟨V0.heap.size,1,none⟩) HBX.out (.string (qF tq).2.1)).setCell (p:=⟨V0.heap.size,2,none⟩) HBX.out (.string (qF tq).2.2))
     replace HR3:=hid (((HR3.out.away HRN.out 0 (.bool (qF tq).1)).away HRN.out 1 (.string (qF tq).2.1)).away HRN.out 2 (.string (qF tq).2.2))
     clear HX1
     go_upto_region 15 with fail
     clear k0 k1 k2 f0 f1 f2
     generalize (((V1.setCell ⟨V0.heap.size,0,none⟩ (.bool (qF tq).1)).setCell ⟨V0.heap.size,1,none⟩ (.string (qF tq).2.1)).setCell ⟨V0.heap.size,2,none⟩ (.string (qF tq).2.2))=V3 at *
     obtain⟨k0,k1,k2⟩:=HXN.out.trio
     have hAL:=(Below.refl V3.heap.size V3).alloc (Nat.le_refl _) (FC (qF (tq)).1 (qF (tq)).2.1 (qF (tq)).2.2)
     have HC1:=hid (Box.new V3 (qF (tq)).1 (qF (tq)).2.1 (qF (tq)).2.2)
     have HR4:=hid (HR3.out.below hAL)
     have HB4:=hid (HB3.out.trans (hAL.mono HB3.out.size))
     clear hAL HXN HB3 HR3
     go_wp2_with (at_builtin;refine wpList_append_fr rfl _ _ rfl w2.heap.size (.slice dv nv cv) L0 (qF (tq)) rfl HR4.out V3.heap.size rfl HC1.out HLN.out HB4.out.size ?_;intro v5 w5 hr5 hg5;have HR5:Hid (RwF w5 w2.heap.size v5 (lF (i+1) (tqQ (rowQ X) l))):=(by rw[HSN.out];exact hr5);have HB5:=hid (HB4.out.grown hg5 HB4.out.size (fun k e=>HR4.out.own k e)))
     go_roundw
     case rel=>exact⟨i+1,by omega,by go_num,HR5,HB5⟩
     case measure=>simp[intOf];omega
    |false=>
     have htq:tqQ (rowQ X) l i=0:=tqQ_off fun h=>by have h9:=HIV.out.2 h;rw[hin] at h9;exact absurd h9 (by decide)
     rw[htq] at HSN
     have HXN:Hid (Box (V0.alloc (FC (sgn 0) (nu 0) (de 0))) V0.heap.size (qF 0).1 (qF 0).2.1 (qF 0).2.2):=HX.out
     have HB3:=HB2
     have HR3:=HR2
     clear HX HB2 HR2 htq
     go_upto_region 15 with fail
     generalize (V0.alloc (FC (sgn 0) (nu 0) (de 0)))=V3 at *
     obtain⟨k0,k1,k2⟩:=HXN.out.trio
     have hAL:=(Below.refl V3.heap.size V3).alloc (Nat.le_refl _) (FC (qF (0)).1 (qF (0)).2.1 (qF (0)).2.2)
     have HC1:=hid (Box.new V3 (qF (0)).1 (qF (0)).2.1 (qF (0)).2.2)
     have HR4:=hid (HR3.out.below hAL)
     have HB4:=hid (HB3.out.trans (hAL.mono HB3.out.size))
     clear hAL HXN HB3 HR3
     go_wp2_with (at_builtin;refine wpList_append_fr rfl _ _ rfl w2.heap.size (.slice dv nv cv) L0 (qF (0)) rfl HR4.out V3.heap.size rfl HC1.out HLN.out HB4.out.size ?_;intro v5 w5 hr5 hg5;have HR5:Hid (RwF w5 w2.heap.size v5 (lF (i+1) (tqQ (rowQ X) l))):=(by rw[HSN.out];exact hr5);have HB5:=hid (HB4.out.grown hg5 HB4.out.size (fun k e=>HR4.out.own k e)))
     go_roundw
     case rel=>exact⟨i+1,by omega,by go_num,HR5,HB5⟩
     case measure=>simp[intOf];omega
   ·obtain rfl:n=i:=by omega
    obtain⟨dv,cv,hlv,hfr⟩:=HRW.out.fr
    subst hlv
    rw[lF_length]
    have HSH2:=hid (HSH.out dv cv _ hfr)
    clear hfr HRW
    go_wp2_with fail
    refine HSH2.out.mono ?_
    rintro e w5 ⟨⟨v,rfl,hr⟩,hb⟩
    have HB5:=hid (HUP.out _ (HB.out.trans (hb.mono HB.out.size)))
    have HR5:=hid (hr.lower (Nat.le_trans HUZ.out HB.out.size))
    obtain⟨dv,nv,cv,hlv⟩:=hr.slv
    subst hlv
    clear hr hb HSH2
    go_wp2
    go_ret2
    exact⟨HB5.out,.inl ⟨k0,_,HONE.out,rfl,by rw[HLE.out];exact HR5.out⟩⟩
end Go.Proofs.YtmbjmiioggfneaaGreatDoor
