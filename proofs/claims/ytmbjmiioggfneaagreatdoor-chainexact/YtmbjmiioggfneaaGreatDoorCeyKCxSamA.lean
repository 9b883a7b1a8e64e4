/- Check of both sides, of any rows. -/
import Derived.Test.YtmbjmiioggfneaaGreatDoorCeyJCx
import Derived.Test.YtmbjmiioggfneaaGreatDoorHidACxChnB
import Derived.Test.YtmbjmiioggfneaaGreatDoorChnPCxNetD
import Derived.Test.YtmbjmiioggfneaaGreatDoorMadDCxCeyB
set_option linter.unusedVariables false
set_option linter.unusedSimpArgs false
namespace Go.Proofs.YtmbjmiioggfneaaGreatDoor
open Go.RowKit Go.Shelf
def SqM (R:List (List Fr)):Prop:=(1≤R.length∧R.length≤6)∧∀k,k<R.length→(R.getD k []).length=R.length
def RwM (R:List (List Fr)):Prop:=∀k,k<R.length→rowB (R.getD k [])=true
def CkE (R:List (List Fr)) (e:Int):Prop:=(e=8∧¬SqM R)∨(e=9∧SqM R∧¬RwM R)∨(e=0∧SqM R∧RwM R)
theorem CkE.uniq {R:List (List Fr)} {e e':Int} (h:CkE R e) (h':CkE R e'):e=e':=by
 rcases h with ⟨rfl,a⟩ |⟨rfl,a,b⟩ |⟨rfl,a,b⟩<;>rcases h' with ⟨rfl,c⟩ |⟨rfl,c,d⟩ |⟨rfl,c,d⟩<;>first |rfl |exact absurd b d |exact absurd d b |exact absurd a c |exact absurd c a
theorem CkE.some (R:List (List Fr)):∃e,CkE R e:=by
 by_cases h:SqM R
 ·by_cases h2:RwM R
  ·exact⟨0,.inr (.inr ⟨rfl,h,h2⟩)⟩
  ·exact⟨9,.inr (.inl ⟨rfl,h,h2⟩)⟩
 ·exact⟨8,.inl ⟨rfl,h⟩⟩
structure CkS (R:List (List Fr)):Prop where
 len:R.length≤1000
 each:∀r∈R,r.length≤1000
 fw:∀r∈R,fw r≤10000
theorem ck_post (R:List (List Fr)):((R.length<1∨6<R.length)→CkE R 8)∧((1≤R.length∧R.length≤6)→(∀k,k<R.length→(fun k=>(R.getD k []).length) k≠R.length→CkE R 8)∧((∀k,k<R.length→(fun k=>(R.getD k []).length) k=R.length)→(∀k,k<R.length→(fun k=>rowB (R.getD k [])) k=false→CkE R 9)∧((∀k,k<R.length→(fun k=>rowB (R.getD k [])) k=true)→CkE R 0))):=
 ⟨fun h=>.inl ⟨rfl,fun h2=>by have:=h2.1;omega⟩,fun h16=>⟨fun k hk h=>.inl ⟨rfl,fun h2=>h (h2.2 k hk)⟩,fun hl=>⟨fun k hk h=>.inr (.inl ⟨rfl,⟨h16,hl⟩,fun h2=>by have h3:rowB (R.getD k [])=false:=h;rw[h2 k hk] at h3;cases h3⟩),fun h=>.inr (.inr ⟨rfl,⟨h16,hl⟩,h⟩)⟩⟩⟩
set_option maxRecDepth 100000 in
set_option maxHeartbeats 2000000 in
theorem chCheck_all (c:Option Addr) (cc:Nat) (R:List (List Fr)) (w:World) (hR:FsS w c R) (hs:CkS R):
  Calls Tryz.prog 9 #[.slice c R.length cc] w fun e w'=>(∃z:Int,e=.returned (.int .i64 z)∧CkE R z)∧Below w.heap.size w w':=by
 have HFR:=hid hR
 have HLN:Hid (∀k (h:k<R.length),R[k].length=(R.getD k []).length):=fun k h=>by rw[List.getD_eq_getElem?_getD,List.getElem?_eq_getElem h];rfl
 have HRB:Hid (∀k (h:k<R.length),rowB R[k]=rowB (R.getD k [])):=fun k h=>by rw[List.getD_eq_getElem?_getD,List.getElem?_eq_getElem h];rfl
 have HFW:Hid (∀k (h:k<R.length),fw R[k]≤10000):=fun k h=>hs.fw _ (List.getElem_mem h)
 have HLE:Hid (∀k (h:k<R.length),R[k].length≤1000):=fun k h=>hs.each _ (List.getElem_mem h)
 have hlen:=hs.len
 have HP:=hid (ck_post R)
 generalize CkE R=E at *
 obtain⟨ln,hln⟩:∃f:Nat→Nat,f=fun k=>(R.getD k []).length:=⟨_,rfl⟩
 obtain⟨rw_,hrw⟩:∃f:Nat→Bool,f=fun k=>rowB (R.getD k []):=⟨_,rfl⟩
 have HLN2:Hid (∀k (h:k<R.length),R[k].length=ln k):=fun k h=>by rw[hln];exact HLN.out k h
 have HRB2:Hid (∀k (h:k<R.length),rowB R[k]=rw_ k):=fun k h=>by rw[hrw];exact HRB.out k h
 have HP2:Hid (((R.length<1∨6<R.length)→E 8)∧((1≤R.length∧R.length≤6)→(∀k,k<R.length→ln k≠R.length→E 8)∧((∀k,k<R.length→ln k=R.length)→(∀k,k<R.length→rw_ k=false→E 9)∧((∀k,k<R.length→rw_ k=true)→E 0)))):=by rw[hln,hrw];exact HP.out
 obtain⟨n,hn⟩:∃n,R.length=n:=⟨_,rfl⟩
 rw[hn] at HP2 hlen⊢
 have HN:=hid hn
 clear hR hs HLN HRB HP hln hrw hn
 go_enter Tryz.func9,Tryz.ntmps9
 by_cases h1:n<1
 ·have HE:=hid (HP2.out.1 (.inl h1))
  clear HP2
  go_wp2
  go_ret
  exact⟨⟨8,rfl,HE.out⟩,Below.refl _ _⟩
 ·by_cases h6:6<n
  ·have HE:=hid (HP2.out.1 (.inr h6))
   clear HP2
   go_wp2
   go_ret
   exact⟨⟨8,rfl,HE.out⟩,Below.refl _ _⟩
  ·have HQ:=hid (HP2.out.2 ⟨by omega,by omega⟩)
   clear HP2
   have HI0:Hid (∀k,k<0→ln k=n):=fun k hk=>absurd hk (by omega)
   go_wp2_with fail
   go_loopw [17] (fun iv wr=>∃i:Nat,i≤n∧iv=.int .i64 i∧Hid (∀k,k<i→ln k=n)∧w=wr) (fun iv _=>n - (intOf iv).toNat)
   case atStart=>exact⟨0,Nat.zero_le _,rfl,HI0,rfl⟩
   case round=>
    clear HI0
    obtain⟨i,hi,rfl,HI,rfl⟩:=hrel
    by_cases hlt:i<n
    ·have hiR:i<R.length:=by rw[HN.out];exact hlt
     obtain⟨gc,oc,bc,cr,rfl,hgc,c0, -, -⟩:=HFR.out i hiR
     have hle:=HLE.out i hiR
     rw[HLN2.out i hiR] at c0 hle
     have HE8:=hid ((HQ.out.1) i hlt)
     have HIS:Hid (ln i=n→∀k,k<i+1→ln k=n):=fun h k hk=>by
      by_cases e:k=i
      ·rw[e];exact h
      ·exact HI.out k (by omega)
     generalize ln i=li at *
     by_cases hli:li=n
     ·have HI2:=hid (HIS.out hli)
      clear HE8 HIS HI
      subst hli
      go_wp2
      go_roundw
      case rel=>exact⟨i+1,by omega,by go_num,HI2,trivial⟩
      case measure=>simp[intOf];omega
     ·have HE:=hid (HE8.out hli)
      have hli2:¬((li:Nat):Int)=(n:Int):=by omega
      clear HE8 HIS HI HQ
      go_wp2
      go_ret
      exact⟨⟨8,rfl,HE.out⟩,Below.refl _ _⟩
    ·have hin:i=n:=by omega
     subst hin
     have HT:=hid (HQ.out.2 HI.out)
     clear HQ HI
     have HJ0:Hid (∀k,k<0→rw_ k=true):=fun k hk=>absurd hk (by omega)
     have HZ:Hid (Below w.heap.size w w):=Below.refl _ _
     go_wp2_with fail
     go_loopw [29] (fun kv wr=>∃k:Nat,k≤i∧kv=.int .i64 k∧Hid (∀t,t<k→rw_ t=true)∧Hid (Below w.heap.size w wr)) (fun kv _=>i - (intOf kv).toNat)
     case atStart=>exact⟨0,Nat.zero_le _,rfl,HJ0,HZ⟩
     case round=>
      clear HJ0 HZ
      obtain⟨k,hk,rfl,HJ,HB⟩:=hrel
      by_cases hlt2:k<i
      ·have hkR:k<R.length:=by rw[HN.out];exact hlt2
       obtain⟨gc,oc,bc,cr,rfl,hgc,c0,hfr, -⟩:=(HFR.out.below HB.out) k hkR
       have HRO:=hid (chRow_any bc cr R[k] wr hfr (HFW.out k hkR) (Nat.le_trans (HLE.out k hkR) (by decide)))
       rw[HRB2.out k hkR] at HRO
       have HE9:=hid (HT.out.1 k hlt2)
       have HJS:Hid (rw_ k=true→∀t,t<k+1→rw_ t=true):=fun h t ht=>by
        by_cases e:t=k
        ·rw[e];exact h
        ·exact HJ.out t (by omega)
       clear hfr
       generalize rw_ k=rk at *
       generalize R[k].length=rl at *
       go_wp2_with fail
       refine HRO.out.mono ?_
       rintro e w2 ⟨rfl,hb2⟩
       have HB2:=hid (HB.out.trans (hb2.mono HB.out.size))
       clear hb2 HRO HB
       cases rk with
       |true=>
        have HJ2:=hid (HJS.out rfl)
        clear HJS HE9 HJ
        go_wp2
        go_roundw
        case rel=>exact⟨k+1,by omega,by go_num,HJ2,HB2⟩
        case measure=>simp[intOf];omega
       |false=>
        have HE:=hid (HE9.out rfl)
        clear HJS HE9 HJ HT
        go_wp2
        go_ret
        exact⟨⟨9,rfl,HE.out⟩,HB2.out⟩
      ·have HE:Hid (E 0):=HT.out.2 fun t ht=>HJ.out t (by omega)
       clear HT HJ
       obtain rfl:k=i:=by omega
       go_wp2
       go_ret
       exact⟨⟨0,rfl,HE.out⟩,HB.out⟩
set_option maxRecDepth 100000 in
set_option maxHeartbeats 2000000 in
theorem rSquare_all (c:Option Addr) (cc:Nat) (R:List (List Fr)) (w:World) (hR:FsS w c R) (hs:CkS R) (h1:1≤R.length) (h6:R.length≤6):
  Calls Tryz.prog 33 #[.slice c R.length cc] w fun e w'=>(∃z:Int,e=.returned (.int .i64 z)∧CkE R z)∧Below w.heap.size w w':=by
 have HFR:=hid hR
 have HLN:Hid (∀k (h:k<R.length),R[k].length=(R.getD k []).length):=fun k h=>by rw[List.getD_eq_getElem?_getD,List.getElem?_eq_getElem h];rfl
 have HRB:Hid (∀k (h:k<R.length),rowB R[k]=rowB (R.getD k [])):=fun k h=>by rw[List.getD_eq_getElem?_getD,List.getElem?_eq_getElem h];rfl
 have HFW:Hid (∀k (h:k<R.length),fw R[k]≤10000):=fun k h=>hs.fw _ (List.getElem_mem h)
 have HLE:Hid (∀k (h:k<R.length),R[k].length≤1000):=fun k h=>hs.each _ (List.getElem_mem h)
 have hlen:=hs.len
 have HP:=hid (ck_post R)
 generalize CkE R=E at *
 obtain⟨ln,hln⟩:∃f:Nat→Nat,f=fun k=>(R.getD k []).length:=⟨_,rfl⟩
 obtain⟨rw_,hrw⟩:∃f:Nat→Bool,f=fun k=>rowB (R.getD k []):=⟨_,rfl⟩
 have HLN2:Hid (∀k (h:k<R.length),R[k].length=ln k):=fun k h=>by rw[hln];exact HLN.out k h
 have HRB2:Hid (∀k (h:k<R.length),rowB R[k]=rw_ k):=fun k h=>by rw[hrw];exact HRB.out k h
 have HP2:Hid (((R.length<1∨6<R.length)→E 8)∧((1≤R.length∧R.length≤6)→(∀k,k<R.length→ln k≠R.length→E 8)∧((∀k,k<R.length→ln k=R.length)→(∀k,k<R.length→rw_ k=false→E 9)∧((∀k,k<R.length→rw_ k=true)→E 0)))):=by rw[hln,hrw];exact HP.out
 obtain⟨n,hn⟩:∃n,R.length=n:=⟨_,rfl⟩
 rw[hn] at HP2 hlen h1 h6⊢
 have HN:=hid hn
 clear hR hs HLN HRB HP hln hrw hn
 go_enter Tryz.func33,Tryz.ntmps33
 have HQ:=hid (HP2.out.2 ⟨h1,h6⟩)
 clear HP2
 have HI0:Hid (∀k,k<0→ln k=n):=fun k hk=>absurd hk (by omega)
 go_wp2_with fail
 go_loopw [3] (fun iv wr=>∃i:Nat,i≤n∧iv=.int .i64 i∧Hid (∀k,k<i→ln k=n)∧w=wr) (fun iv _=>n - (intOf iv).toNat)
 case atStart=>exact⟨0,Nat.zero_le _,rfl,HI0,rfl⟩
 case round=>
  clear HI0
  obtain⟨i,hi,rfl,HI,rfl⟩:=hrel
  by_cases hlt:i<n
  ·have hiR:i<R.length:=by rw[HN.out];exact hlt
   obtain⟨gc,oc,bc,cr,rfl,hgc,c0, -, -⟩:=HFR.out i hiR
   have hle:=HLE.out i hiR
   rw[HLN2.out i hiR] at c0 hle
   have HE8:=hid ((HQ.out.1) i hlt)
   have HIS:Hid (ln i=n→∀k,k<i+1→ln k=n):=fun h k hk=>by
    by_cases e:k=i
    ·rw[e];exact h
    ·exact HI.out k (by omega)
   generalize ln i=li at *
   by_cases hli:li=n
   ·have HI2:=hid (HIS.out hli)
    clear HE8 HIS HI
    subst hli
    go_wp2
    go_roundw
    case rel=>exact⟨i+1,by omega,by go_num,HI2,trivial⟩
    case measure=>simp[intOf];omega
   ·have HE:=hid (HE8.out hli)
    have hli2:¬((li:Nat):Int)=(n:Int):=by omega
    clear HE8 HIS HI HQ
    go_wp2
    go_ret
    exact⟨⟨8,rfl,HE.out⟩,Below.refl _ _⟩
  ·have hin:i=n:=by omega
   subst hin
   have HT:=hid (HQ.out.2 HI.out)
   clear HQ HI
   have HJ0:Hid (∀k,k<0→rw_ k=true):=fun k hk=>absurd hk (by omega)
   have HZ:Hid (Below w.heap.size w w):=Below.refl _ _
   go_wp2_with fail
   go_loopw [4] (fun kv wr=>∃k:Nat,k≤i∧kv=.int .i64 k∧Hid (∀t,t<k→rw_ t=true)∧Hid (Below w.heap.size w wr)) (fun kv _=>i - (intOf kv).toNat)
   case atStart=>exact⟨0,Nat.zero_le _,rfl,HJ0,HZ⟩
   case round=>
    clear HJ0 HZ
    obtain⟨k,hk,rfl,HJ,HB⟩:=hrel
    by_cases hlt2:k<i
    ·have hkR:k<R.length:=by rw[HN.out];exact hlt2
     obtain⟨gc,oc,bc,cr,rfl,hgc,c0,hfr, -⟩:=(HFR.out.below HB.out) k hkR
     have HRO:=hid (chances_any bc cr R[k] wr hfr (HFW.out k hkR) (Nat.le_trans (HLE.out k hkR) (by decide)))
     rw[HRB2.out k hkR] at HRO
     have HE9:=hid (HT.out.1 k hlt2)
     have HJS:Hid (rw_ k=true→∀t,t<k+1→rw_ t=true):=fun h t ht=>by
      by_cases e:t=k
      ·rw[e];exact h
      ·exact HJ.out t (by omega)
     clear hfr
     generalize rw_ k=rk at *
     generalize R[k].length=rl at *
     go_wp2_with fail
     refine HRO.out.mono ?_
     rintro e w2 ⟨rfl,hb2⟩
     have HB2:=hid (HB.out.trans (hb2.mono HB.out.size))
     clear hb2 HRO HB
     cases rk with
     |true=>
      have HJ2:=hid (HJS.out rfl)
      clear HJS HE9 HJ
      go_wp2
      go_roundw
      case rel=>exact⟨k+1,by omega,by go_num,HJ2,HB2⟩
      case measure=>simp[intOf];omega
     |false=>
      have HE:=hid (HE9.out rfl)
      clear HJS HE9 HJ HT
      go_wp2
      go_ret
      exact⟨⟨9,rfl,HE.out⟩,HB2.out⟩
    ·have HE:Hid (E 0):=HT.out.2 fun t ht=>HJ.out t (by omega)
     clear HT HJ
     obtain rfl:k=i:=by omega
     go_wp2
     go_ret
     exact⟨⟨0,rfl,HE.out⟩,HB.out⟩
set_option maxRecDepth 100000 in
set_option maxHeartbeats 1000000 in
theorem rChain_all (c:Option Addr) (cc:Nat) (R:List (List Fr)) (w:World) (hR:FsS w c R) (hs:CkS R):
  Calls Tryz.prog 10 #[.slice c R.length cc] w fun e w'=>(∃z:Int,e=.returned (.int .i64 z)∧CkE R z)∧Below w.heap.size w w':=by
 have HSQ:=hid (fun (h1:1≤R.length) (h6:R.length≤6)=>rSquare_all c cc R w hR hs h1 h6)
 have HP:=hid (ck_post R).1
 have hlen:=hs.len
 generalize CkE R=E at *
 generalize R.length=n at *
 clear hR hs
 go_enter Tryz.func10,Tryz.ntmps10
 by_cases h1:n<1
 ·have HE:=hid (HP.out (.inl h1))
  go_wp2
  go_ret
  exact⟨⟨8,rfl,HE.out⟩,Below.refl _ _⟩
 ·by_cases h6:6<n
  ·have HE:=hid (HP.out (.inr h6))
   go_wp2
   go_ret
   exact⟨⟨8,rfl,HE.out⟩,Below.refl _ _⟩
  ·have HS:=hid (HSQ.out (by omega) (by omega))
   clear HSQ HP
   go_wp2_with fail
   refine HS.out.mono ?_
   rintro e w2 ⟨⟨z,rfl,hz⟩,hb⟩
   have HZ:=hid hz
   clear hz
   go_wp2
   go_ret
   exact⟨⟨z,rfl,HZ.out⟩,hb⟩
end Go.Proofs.YtmbjmiioggfneaaGreatDoor

/- What both sides answer to rows that may not be, and the other errors. -/
namespace Go.Proofs.YtmbjmiioggfneaaGreatDoor
open Go.RowKit Go.Shelf
theorem chCheck_is (c:Option Addr) (cc:Nat) (R:List (List Fr)) (w:World) (hR:FsS w c R) (hs:CkS R) {z:Int} (hz:CkE R z):Calls Tryz.prog 9 #[.slice c R.length cc] w fun e w'=>e=.returned (.int .i64 z)∧Below w.heap.size w w':=
 (chCheck_all c cc R w hR hs).mono fun e w' ⟨⟨_,he,hq⟩,hb⟩=>⟨by rw[he,hq.uniq hz],hb⟩
theorem rChain_is (c:Option Addr) (cc:Nat) (R:List (List Fr)) (w:World) (hR:FsS w c R) (hs:CkS R) {z:Int} (hz:CkE R z):Calls Tryz.prog 10 #[.slice c R.length cc] w fun e w'=>e=.returned (.int .i64 z)∧Below w.heap.size w w':=
 (rChain_all c cc R w hR hs).mono fun e w' ⟨⟨_,he,hq⟩,hb⟩=>⟨by rw[he,hq.uniq hz],hb⟩
theorem ok_least {l:List Int} {n least:Int} {i:Nat} (h:i<l.length) (hl:least=if i=0 then 0 else l.getD (i - 1) 0+1) (h0:0≤least):okAt l n i=decide (least≤l[i]∧l[i]<n):=by
 rw[okAt,getD_eq h]
 congr 1
 rw[hl] at h0⊢
 by_cases e:i=0
 ·subst e
  simp
 ·rw[if_neg e] at h0⊢
  apply propext
  constructor
  ·intro ⟨h1,h2,h3⟩
   have:=h3 (by omega)
   omega
  ·intro ⟨h1,h2⟩
   exact⟨by omega,h2,fun _=>by omega⟩
set_option maxRecDepth 100000 in
set_option maxHeartbeats 1000000 in
theorem chRises_any (a:Option Addr) (ca n:Nat) (l:List Int) (w:World) (h:IntS w a l) (hn:n≤1000) (hl:l.length≤140737488355328):
  Calls Tryz.prog 48 #[.slice a l.length ca,.int .i64 (n:Nat)] w fun e w'=>e=.returned (.bool (risB l (n:Nat)))∧Below w.heap.size w w':=by
 have HV:=hid h
 have HBD:=hid (fun i h e=>risB_bad (l:=l) (n:=(n:Nat)) (i:=i) h e)
 have HT:Hid ((List.range l.length).all (okAt l (n:Nat))=true→risB l (n:Nat)=true):=id
 clear h
 generalize risB l (n:Nat)=rb at *
 have HI0:Hid ((0:Int)=if (0:Nat)=0 then 0 else l.getD (0 - 1) 0+1):=rfl
 have HA0:Hid ((List.range 0).all (okAt l (n:Nat))=true):=rfl
 have HZ:Hid (Below w.heap.size w w):=Below.refl _ _
 go_enter Tryz.func48,Tryz.ntmps48
 go_wp2_with fail
 go_loopw [5,10] (fun lv iv wr=>∃(i:Nat) (least:Int),i≤l.length∧iv=.int .i64 i∧lv=.int .i64 least∧0≤least∧least≤n∧Hid (least=if i=0 then 0 else l.getD (i - 1) 0+1)∧Hid ((List.range i).all (okAt l (n:Nat))=true)∧Hid (Below w.heap.size w wr)) (fun _ iv _=>l.length - (intOf iv).toNat)
 case atStart=>exact⟨0,0,Nat.zero_le _,rfl,rfl,Int.le_refl _,by omega,HI0,HA0,HZ⟩
 case round=>
  clear HI0 HA0 HZ
  obtain⟨i,least,hi,rfl,rfl,h0,hle,HL,HA,HW⟩:=hrel
  by_cases hlt:i<l.length
  ·obtain⟨g,o,rfl,hg,c0⟩:=(HV.out.below HW.out) i hlt
   have HO:=hid (ok_least (n:=(n:Nat)) hlt HL.out h0)
   have HE:=hid (HBD.out i hlt)
   have HS:=hid (ris_succ (i:=i) HA.out)
   have HNX:Hid (l[i]+1=if i+1=0 then 0 else l.getD (i+1 - 1) 0+1):=by
    show _=_
    rw[if_neg (by omega),Nat.add_sub_cancel,getD_eq hlt]
   generalize l[i]=x at *
   by_cases e1:x<least
   ·have HF:Hid (rb=false):=HE.out (by rw[HO.out];exact decide_eq_false (by omega))
    clear HE HS HNX HO HL HA
    go_wp2
    go_ret
    exact⟨by rw[HF.out];rfl,HW.out⟩
   ·by_cases e2:(n:Int)≤x
    ·have HF:Hid (rb=false):=HE.out (by rw[HO.out];exact decide_eq_false (by omega))
     clear HE HS HNX HO HL HA
     go_wp2
     go_ret
     exact⟨by rw[HF.out];rfl,HW.out⟩
    ·have HA2:=hid (HS.out (by rw[HO.out];exact decide_eq_true (by omega)))
     clear HE HS HO HL HA
     go_wp2
     go_roundw
     case rel=>exact⟨i+1,x+1,by omega,by go_num,by go_num,by omega,by omega,HNX,HA2,HW⟩
     case measure=>simp[intOf];omega
  ·obtain rfl:i=l.length:=by omega
   have HF:Hid (rb=true):=HT.out HA.out
   clear HL HA
   go_wp2
   go_ret
   exact⟨by rw[HF.out];rfl,HW.out⟩
set_option maxRecDepth 100000 in
set_option maxHeartbeats 1000000 in
theorem chStep_bad (v:Value) (c:Option Addr) (cc:Nat) (R:List (List Fr)) (w:World) (hR:FsS w c R) (hs:CkS R) {z:Int} (hz:CkE R z) (h0:z≠0):
  Calls Tryz.prog 7 #[v,.slice c R.length cc] w fun e w'=>e=.returned (.tuple #[.slice none 0 0,.int .i64 z])∧Below w.heap.size w w':=by
 have HC:=hid (chCheck_is c cc R w hR hs hz)
 clear hR hs hz
 generalize R.length=n at *
 go_enter Tryz.func7,Tryz.ntmps7
 go_wp2_with fail
 refine HC.out.mono ?_
 rintro e w1 ⟨rfl,hb⟩
 have HB:=hid hb
 clear hb HC
 go_wp2
 go_ret2
 exact⟨rfl,HB.out⟩
set_option maxRecDepth 100000 in
set_option maxHeartbeats 1000000 in
theorem chPower_bad (v:Value) (c:Option Addr) (cc:Nat) (R:List (List Fr)) (w:World) (hR:FsS w c R) (hs:CkS R) {z:Int} (hz:CkE R z) (h0:z≠0):
  Calls Tryz.prog 12 #[.slice c R.length cc,v] w fun e w'=>e=.returned (.tuple #[.slice none 0 0,.int .i64 z])∧Below w.heap.size w w':=by
 have HC:=hid (chCheck_is c cc R w hR hs hz)
 clear hR hs hz
 generalize R.length=n at *
 go_enter Tryz.func12,Tryz.ntmps12
 go_wp2_with fail
 refine HC.out.mono ?_
 rintro e w1 ⟨rfl,hb⟩
 have HB:=hid hb
 clear hb HC
 go_wp2
 go_ret2
 exact⟨rfl,HB.out⟩
set_option maxRecDepth 100000 in
set_option maxHeartbeats 1000000 in
theorem chClasses_bad (c:Option Addr) (cc:Nat) (R:List (List Fr)) (w:World) (hR:FsS w c R) (hs:CkS R) {z:Int} (hz:CkE R z) (h0:z≠0):
  Calls Tryz.prog 15 #[.slice c R.length cc] w fun e w'=>e=.returned (.tuple #[.slice none 0 0,.slice none 0 0,.int .i64 z])∧Below w.heap.size w w':=by
 have HC:=hid (chCheck_is c cc R w hR hs hz)
 clear hR hs hz
 generalize R.length=n at *
 go_enter Tryz.func15,Tryz.ntmps15
 go_wp2_with fail
 refine HC.out.mono ?_
 rintro e w1 ⟨rfl,hb⟩
 have HB:=hid hb
 clear hb HC
 go_wp2
 go_ret3
 exact⟨rfl,HB.out⟩
set_option maxRecDepth 100000 in
set_option maxHeartbeats 1000000 in
theorem chStill_bad (c:Option Addr) (cc:Nat) (R:List (List Fr)) (w:World) (hR:FsS w c R) (hs:CkS R) {z:Int} (hz:CkE R z) (h0:z≠0):
  Calls Tryz.prog 18 #[.slice c R.length cc] w fun e w'=>e=.returned (.tuple #[.slice none 0 0,.int .i64 z])∧Below w.heap.size w w':=by
 have HC:=hid (chClasses_bad c cc R w hR hs hz h0)
 clear hR hs hz
 generalize R.length=n at *
 go_enter Tryz.func18,Tryz.ntmps18
 go_wp2_with fail
 refine HC.out.mono ?_
 rintro e w1 ⟨rfl,hb⟩
 have HB:=hid hb
 clear hb HC
 go_wp2
 go_ret2
 exact⟨rfl,HB.out⟩
set_option maxRecDepth 100000 in
set_option maxHeartbeats 1000000 in
theorem chHits_bad (v:Value) (c:Option Addr) (cc:Nat) (R:List (List Fr)) (w:World) (hR:FsS w c R) (hs:CkS R) {z:Int} (hz:CkE R z) (h0:z≠0):
  Calls Tryz.prog 20 #[.slice c R.length cc,v] w fun e w'=>e=.returned (.tuple #[.slice none 0 0,.int .i64 z])∧Below w.heap.size w w':=by
 have HC:=hid (chCheck_is c cc R w hR hs hz)
 clear hR hs hz
 generalize R.length=n at *
 go_enter Tryz.func20,Tryz.ntmps20
 go_wp2_with fail
 refine HC.out.mono ?_
 rintro e w1 ⟨rfl,hb⟩
 have HB:=hid hb
 clear hb HC
 go_wp2
 go_ret2
 exact⟨rfl,HB.out⟩
set_option maxRecDepth 100000 in
set_option maxHeartbeats 1000000 in
theorem chTurns_bad (c:Option Addr) (cc:Nat) (R:List (List Fr)) (w:World) (hR:FsS w c R) (hs:CkS R) {z:Int} (hz:CkE R z) (h0:z≠0):
  Calls Tryz.prog 24 #[.slice c R.length cc] w fun e w'=>e=.returned (.tuple #[.bool false,.int .i64 z])∧Below w.heap.size w w':=by
 have HC:=hid (chStill_bad c cc R w hR hs hz h0)
 clear hR hs hz
 generalize R.length=n at *
 go_enter Tryz.func24,Tryz.ntmps24
 go_wp2_with fail
 refine HC.out.mono ?_
 rintro e w1 ⟨rfl,hb⟩
 have HB:=hid hb
 clear hb HC
 go_wp2
 go_ret2
 exact⟨rfl,HB.out⟩
set_option maxRecDepth 100000 in
set_option maxHeartbeats 1000000 in
theorem chBack_bad (v:Value) (c:Option Addr) (cc:Nat) (R:List (List Fr)) (w:World) (hR:FsS w c R) (hs:CkS R) {z:Int} (hz:CkE R z) (h0:z≠0):
  Calls Tryz.prog 22 #[.slice c R.length cc,v] w fun e w'=>e=.returned (.tuple #[.agg #[.bool false,.string ⟨#[]⟩,.string ⟨#[]⟩],.int .i64 z])∧Below w.heap.size w w':=by
 have hA:=(Below.refl w.heap.size w).alloc (Nat.le_refl _) (FC false ⟨#[]⟩ ⟨#[]⟩)
 have HX0:=hid (Box.new w false ⟨#[]⟩ ⟨#[]⟩)
 have HB0:=hid hA
 have HC:=hid (chCheck_is c cc R _ (hR.below hA) hs hz)
 clear hR hs hz hA
 generalize R.length=n at *
 go_enter Tryz.func22,Tryz.ntmps22
 go_wp2_with fail
 refine HC.out.mono ?_
 rintro e w1 ⟨rfl,hb⟩
 have HX:=hid (HX0.out.below hb HX0.out.lt)
 have HB:=hid (HB0.out.trans (hb.mono HB0.out.size))
 clear hb HC HX0 HB0
 obtain⟨k0,k1,k2⟩:=HX.out.trio
 have f0:=HX.out.fz 0
 have f1:=HX.out.fz 1
 have f2:=HX.out.fz 2
 have HX9:=hid (HX.out.put false ⟨#[]⟩ ⟨#[]⟩)
 have HB9:=hid (((HB.out.setCell (p:=⟨w.heap.size,0,none⟩) (Nat.le_refl _) (.bool false)).setCell (p:=⟨w.heap.size,1,none⟩) (Nat.le_refl _) (.string ⟨#[]⟩)).setCell (p:=⟨w.heap.size,2,none⟩) (Nat.le_refl _) (.string ⟨#[]⟩))
 clear HX HB
 go_wp2
 refine bodyPost_ret (HX9.out.result2 rfl _ rfl) rfl ?_
 exact⟨rfl,HB9.out⟩
set_option maxRecDepth 100000 in
set_option maxHeartbeats 1000000 in
theorem rStep_bad (v:Value) (c:Option Addr) (cc:Nat) (R:List (List Fr)) (w:World) (hR:FsS w c R) (hs:CkS R) {z:Int} (hz:CkE R z) (h0:z≠0):
  Calls Tryz.prog 8 #[v,.slice c R.length cc] w fun e w'=>e=.returned (.tuple #[.slice none 0 0,.int .i64 z])∧Below w.heap.size w w':=by
 have HC:=hid (rChain_is c cc R w hR hs hz)
 clear hR hs hz
 generalize R.length=n at *
 go_enter Tryz.func8,Tryz.ntmps8
 go_wp2_with fail
 refine HC.out.mono ?_
 rintro e w1 ⟨rfl,hb⟩
 have HB:=hid hb
 clear hb HC
 go_wp2
 go_ret2
 exact⟨rfl,HB.out⟩
set_option maxRecDepth 100000 in
set_option maxHeartbeats 1000000 in
theorem rPower_bad (v:Value) (c:Option Addr) (cc:Nat) (R:List (List Fr)) (w:World) (hR:FsS w c R) (hs:CkS R) {z:Int} (hz:CkE R z) (h0:z≠0):
  Calls Tryz.prog 13 #[.slice c R.length cc,v] w fun e w'=>e=.returned (.tuple #[.slice none 0 0,.int .i64 z])∧Below w.heap.size w w':=by
 have HC:=hid (rChain_is c cc R w hR hs hz)
 clear hR hs hz
 generalize R.length=n at *
 go_enter Tryz.func13,Tryz.ntmps13
 go_wp2_with fail
 refine HC.out.mono ?_
 rintro e w1 ⟨rfl,hb⟩
 have HB:=hid hb
 clear hb HC
 go_wp2
 go_ret2
 exact⟨rfl,HB.out⟩
set_option maxRecDepth 100000 in
set_option maxHeartbeats 1000000 in
theorem rClasses_bad (c:Option Addr) (cc:Nat) (R:List (List Fr)) (w:World) (hR:FsS w c R) (hs:CkS R) {z:Int} (hz:CkE R z) (h0:z≠0):
  Calls Tryz.prog 16 #[.slice c R.length cc] w fun e w'=>e=.returned (.tuple #[.slice none 0 0,.slice none 0 0,.int .i64 z])∧Below w.heap.size w w':=by
 have HC:=hid (rChain_is c cc R w hR hs hz)
 clear hR hs hz
 generalize R.length=n at *
 go_enter Tryz.func16,Tryz.ntmps16
 go_wp2_with fail
 refine HC.out.mono ?_
 rintro e w1 ⟨rfl,hb⟩
 have HB:=hid hb
 clear hb HC
 go_wp2
 go_ret3
 exact⟨rfl,HB.out⟩
set_option maxRecDepth 100000 in
set_option maxHeartbeats 1000000 in
theorem rStill_bad (c:Option Addr) (cc:Nat) (R:List (List Fr)) (w:World) (hR:FsS w c R) (hs:CkS R) {z:Int} (hz:CkE R z) (h0:z≠0):
  Calls Tryz.prog 19 #[.slice c R.length cc] w fun e w'=>e=.returned (.tuple #[.slice none 0 0,.int .i64 z])∧Below w.heap.size w w':=by
 have HC:=hid (rChain_is c cc R w hR hs hz)
 clear hR hs hz
 generalize R.length=n at *
 go_enter Tryz.func19,Tryz.ntmps19
 go_wp2_with fail
 refine HC.out.mono ?_
 rintro e w1 ⟨rfl,hb⟩
 have HB:=hid hb
 clear hb HC
 go_wp2
 go_ret2
 exact⟨rfl,HB.out⟩
set_option maxRecDepth 100000 in
set_option maxHeartbeats 1000000 in
theorem rHits_bad (v:Value) (c:Option Addr) (cc:Nat) (R:List (List Fr)) (w:World) (hR:FsS w c R) (hs:CkS R) {z:Int} (hz:CkE R z) (h0:z≠0):
  Calls Tryz.prog 21 #[.slice c R.length cc,v] w fun e w'=>e=.returned (.tuple #[.slice none 0 0,.int .i64 z])∧Below w.heap.size w w':=by
 have HC:=hid (rChain_is c cc R w hR hs hz)
 clear hR hs hz
 generalize R.length=n at *
 go_enter Tryz.func21,Tryz.ntmps21
 go_wp2_with fail
 refine HC.out.mono ?_
 rintro e w1 ⟨rfl,hb⟩
 have HB:=hid hb
 clear hb HC
 go_wp2
 go_ret2
 exact⟨rfl,HB.out⟩
set_option maxRecDepth 100000 in
set_option maxHeartbeats 1000000 in
theorem rTurns_bad (c:Option Addr) (cc:Nat) (R:List (List Fr)) (w:World) (hR:FsS w c R) (hs:CkS R) {z:Int} (hz:CkE R z) (h0:z≠0):
  Calls Tryz.prog 25 #[.slice c R.length cc] w fun e w'=>e=.returned (.tuple #[.bool false,.int .i64 z])∧Below w.heap.size w w':=by
 have HC:=hid (rStill_bad c cc R w hR hs hz h0)
 clear hR hs hz
 generalize R.length=n at *
 go_enter Tryz.func25,Tryz.ntmps25
 go_wp2_with fail
 refine HC.out.mono ?_
 rintro e w1 ⟨rfl,hb⟩
 have HB:=hid hb
 clear hb HC
 go_wp2
 go_ret2
 exact⟨rfl,HB.out⟩
set_option maxRecDepth 100000 in
set_option maxHeartbeats 1000000 in
theorem rBack_bad (v:Value) (c:Option Addr) (cc:Nat) (R:List (List Fr)) (w:World) (hR:FsS w c R) (hs:CkS R) {z:Int} (hz:CkE R z) (h0:z≠0):
  Calls Tryz.prog 23 #[.slice c R.length cc,v] w fun e w'=>e=.returned (.tuple #[.agg #[.bool false,.string ⟨#[]⟩,.string ⟨#[]⟩],.int .i64 z])∧Below w.heap.size w w':=by
 have hA:=(Below.refl w.heap.size w).alloc (Nat.le_refl _) (FC false ⟨#[]⟩ ⟨#[]⟩)
 have HX0:=hid (Box.new w false ⟨#[]⟩ ⟨#[]⟩)
 have HB0:=hid hA
 have HC:=hid (rChain_is c cc R _ (hR.below hA) hs hz)
 clear hR hs hz hA
 generalize R.length=n at *
 go_enter Tryz.func23,Tryz.ntmps23
 go_wp2_with fail
 refine HC.out.mono ?_
 rintro e w1 ⟨rfl,hb⟩
 have HX:=hid (HX0.out.below hb HX0.out.lt)
 have HB:=hid (HB0.out.trans (hb.mono HB0.out.size))
 clear hb HC HX0 HB0
 obtain⟨k0,k1,k2⟩:=HX.out.trio
 have f0:=HX.out.fz 0
 have f1:=HX.out.fz 1
 have f2:=HX.out.fz 2
 have HX9:=hid (HX.out.put false ⟨#[]⟩ ⟨#[]⟩)
 have HB9:=hid (((HB.out.setCell (p:=⟨w.heap.size,0,none⟩) (Nat.le_refl _) (.bool false)).setCell (p:=⟨w.heap.size,1,none⟩) (Nat.le_refl _) (.string ⟨#[]⟩)).setCell (p:=⟨w.heap.size,2,none⟩) (Nat.le_refl _) (.string ⟨#[]⟩))
 clear HX HB
 go_wp2
 refine bodyPost_ret (HX9.out.result2 rfl _ rfl) rfl ?_
 exact⟨rfl,HB9.out⟩
set_option maxRecDepth 100000 in
set_option maxHeartbeats 1000000 in
theorem chStep_len (d:Option Addr) (m k:Nat) (c:Option Addr) (cc:Nat) (R:List (List Fr)) (w:World) (hR:FsS w c R) (hs:CkS R) (hz:CkE R 0) (hm:m≠R.length):
  Calls Tryz.prog 7 #[.slice d m k,.slice c R.length cc] w fun e w'=>e=.returned (.tuple #[.slice none 0 0,.int .i64 8])∧Below w.heap.size w w':=by
 have hn:=hs.len
 have hne:¬((m:Nat):Int)=((R.length:Nat):Int):=by omega
 clear hm
 have HC:=hid (chCheck_is c cc R w hR hs hz)
 clear hR hs hz
 generalize R.length=n at *
 go_enter Tryz.func7,Tryz.ntmps7
 go_wp2_with fail
 refine HC.out.mono ?_
 rintro e w1 ⟨rfl,hb⟩
 have HB:=hid hb
 clear hb HC
 go_wp2
 go_ret2
 exact⟨rfl,HB.out⟩
set_option maxRecDepth 100000 in
set_option maxHeartbeats 1000000 in
theorem chPower_out (k:Int) (c:Option Addr) (cc:Nat) (R:List (List Fr)) (w:World) (hR:FsS w c R) (hs:CkS R) (hz:CkE R 0) (hk:k<0∨16<k):
  Calls Tryz.prog 12 #[.slice c R.length cc,.int .i64 k] w fun e w'=>e=.returned (.tuple #[.slice none 0 0,.int .i64 2])∧Below w.heap.size w w':=by
 have hn:=hs.len
 skip
 have HC:=hid (chCheck_is c cc R w hR hs hz)
 clear hR hs hz
 generalize R.length=n at *
 go_enter Tryz.func12,Tryz.ntmps12
 go_wp2_with fail
 refine HC.out.mono ?_
 rintro e w1 ⟨rfl,hb⟩
 have HB:=hid hb
 clear hb HC
 rcases hk with hk |hk
 ·go_wp2
  go_ret2
  exact⟨rfl,HB.out⟩
 ·have hk0:¬k<0:=by omega
  go_wp2
  go_ret2
  exact⟨rfl,HB.out⟩
set_option maxRecDepth 100000 in
set_option maxHeartbeats 1000000 in
theorem chHits_out (d:Option Addr) (k:Nat) (l:List Int) (c:Option Addr) (cc:Nat) (R:List (List Fr)) (w:World) (hR:FsS w c R) (hs:CkS R) (hz:CkE R 0) (hI:IntS w d l) (hl:l.length≤140737488355328) (hr:risB l (R.length:Nat)=false):
  Calls Tryz.prog 20 #[.slice c R.length cc,.slice d l.length k] w fun e w'=>e=.returned (.tuple #[.slice none 0 0,.int .i64 11])∧Below w.heap.size w w':=by
 have hn:=hs.len
 have HRI:Hid (∀U:World,Below w.heap.size w U→Calls Tryz.prog 48 #[.slice d l.length k,.int .i64 (R.length:Nat)] U fun e w'=>e=.returned (.bool false)∧Below U.heap.size U w'):=fun U hU=>by
  have h9:=chRises_any d k R.length l U (hI.below hU) (by omega) hl
  rw[hr] at h9
  exact h9
 clear hI hr
 have HC:=hid (chCheck_is c cc R w hR hs hz)
 clear hR hs hz
 generalize R.length=n at *
 go_enter Tryz.func20,Tryz.ntmps20
 go_wp2_with fail
 refine HC.out.mono ?_
 rintro e w1 ⟨rfl,hb⟩
 have HB:=hid hb
 clear hb HC
 go_wp2_with fail
 refine(HRI.out _ HB.out).mono ?_
 rintro e w2 ⟨rfl,hb⟩
 replace HB:=hid (HB.out.trans (hb.mono HB.out.size))
 clear hb HRI
 go_wp2
 go_ret2
 exact⟨rfl,HB.out⟩
set_option maxRecDepth 100000 in
set_option maxHeartbeats 1000000 in
theorem chBack_out (i:Int) (c:Option Addr) (cc:Nat) (R:List (List Fr)) (w:World) (hR:FsS w c R) (hs:CkS R) (hz:CkE R 0) (hi:i<0∨((R.length:Nat):Int)≤i):
  Calls Tryz.prog 22 #[.slice c R.length cc,.int .i64 i] w fun e w'=>e=.returned (.tuple #[.agg #[.bool false,.string ⟨#[]⟩,.string ⟨#[]⟩],.int .i64 11])∧Below w.heap.size w w':=by
 have hn:=hs.len
 skip
 have hA:=(Below.refl w.heap.size w).alloc (Nat.le_refl _) (FC false ⟨#[]⟩ ⟨#[]⟩)
 have HX0:=hid (Box.new w false ⟨#[]⟩ ⟨#[]⟩)
 have HB0:=hid hA
 have HC:=hid (chCheck_is c cc R _ (hR.below hA) hs hz)
 clear hR hs hz hA
 generalize R.length=n at *
 go_enter Tryz.func22,Tryz.ntmps22
 go_wp2_with fail
 refine HC.out.mono ?_
 rintro e w1 ⟨rfl,hb⟩
 have HX:=hid (HX0.out.below hb HX0.out.lt)
 have HB:=hid (HB0.out.trans (hb.mono HB0.out.size))
 clear hb HC HX0 HB0
 obtain⟨k0,k1,k2⟩:=HX.out.trio
 have f0:=HX.out.fz 0
 have f1:=HX.out.fz 1
 have f2:=HX.out.fz 2
 have HX9:=hid (HX.out.put false ⟨#[]⟩ ⟨#[]⟩)
 have HB9:=hid (((HB.out.setCell (p:=⟨w.heap.size,0,none⟩) (Nat.le_refl _) (.bool false)).setCell (p:=⟨w.heap.size,1,none⟩) (Nat.le_refl _) (.string ⟨#[]⟩)).setCell (p:=⟨w.heap.size,2,none⟩) (Nat.le_refl _) (.string ⟨#[]⟩))
 clear HX HB
 rcases hi with hi |hi
 ·go_wp2
  refine bodyPost_ret (HX9.out.result2 rfl _ rfl) rfl ?_
  exact⟨rfl,HB9.out⟩
 ·go_wp2
  refine bodyPost_ret (HX9.out.result2 rfl _ rfl) rfl ?_
  exact⟨rfl,HB9.out⟩
set_option maxRecDepth 100000 in
set_option maxHeartbeats 1000000 in
theorem rStep_len (d:Option Addr) (m k:Nat) (c:Option Addr) (cc:Nat) (R:List (List Fr)) (w:World) (hR:FsS w c R) (hs:CkS R) (hz:CkE R 0) (hm:m≠R.length):
  Calls Tryz.prog 8 #[.slice d m k,.slice c R.length cc] w fun e w'=>e=.returned (.tuple #[.slice none 0 0,.int .i64 8])∧Below w.heap.size w w':=by
 have hn:=hs.len
 have hne:¬((m:Nat):Int)=((R.length:Nat):Int):=by omega
 clear hm
 have HC:=hid (rChain_is c cc R w hR hs hz)
 clear hR hs hz
 generalize R.length=n at *
 go_enter Tryz.func8,Tryz.ntmps8
 go_wp2_with fail
 refine HC.out.mono ?_
 rintro e w1 ⟨rfl,hb⟩
 have HB:=hid hb
 clear hb HC
 go_wp2
 go_ret2
 exact⟨rfl,HB.out⟩
set_option maxRecDepth 100000 in
set_option maxHeartbeats 1000000 in
theorem rPower_out (k:Int) (c:Option Addr) (cc:Nat) (R:List (List Fr)) (w:World) (hR:FsS w c R) (hs:CkS R) (hz:CkE R 0) (hk:k<0∨16<k):
  Calls Tryz.prog 13 #[.slice c R.length cc,.int .i64 k] w fun e w'=>e=.returned (.tuple #[.slice none 0 0,.int .i64 2])∧Below w.heap.size w w':=by
 have hn:=hs.len
 skip
 have HC:=hid (rChain_is c cc R w hR hs hz)
 clear hR hs hz
 generalize R.length=n at *
 go_enter Tryz.func13,Tryz.ntmps13
 go_wp2_with fail
 refine HC.out.mono ?_
 rintro e w1 ⟨rfl,hb⟩
 have HB:=hid hb
 clear hb HC
 rcases hk with hk |hk
 ·go_wp2
  go_ret2
  exact⟨rfl,HB.out⟩
 ·have hk0:¬k<0:=by omega
  go_wp2
  go_ret2
  exact⟨rfl,HB.out⟩
set_option maxRecDepth 100000 in
set_option maxHeartbeats 1000000 in
theorem rHits_out (d:Option Addr) (k:Nat) (l:List Int) (c:Option Addr) (cc:Nat) (R:List (List Fr)) (w:World) (hR:FsS w c R) (hs:CkS R) (hz:CkE R 0) (hI:IntS w d l) (hl:l.length≤140737488355328) (hr:risB l (R.length:Nat)=false):
  Calls Tryz.prog 21 #[.slice c R.length cc,.slice d l.length k] w fun e w'=>e=.returned (.tuple #[.slice none 0 0,.int .i64 11])∧Below w.heap.size w w':=by
 have hn:=hs.len
 have HRI:Hid (∀U:World,Below w.heap.size w U→Calls Tryz.prog 52 #[.slice d l.length k,.int .i64 (R.length:Nat)] U fun e w'=>e=.returned (.bool false)∧Below U.heap.size U w'):=fun U hU=>by
  have h9:=rRising_any d k l (R.length:Nat) U (hI.below hU) hl
  rw[hr] at h9
  exact h9
 clear hI hr
 have HC:=hid (rChain_is c cc R w hR hs hz)
 clear hR hs hz
 generalize R.length=n at *
 go_enter Tryz.func21,Tryz.ntmps21
 go_wp2_with fail
 refine HC.out.mono ?_
 rintro e w1 ⟨rfl,hb⟩
 have HB:=hid hb
 clear hb HC
 go_wp2_with fail
 refine(HRI.out _ HB.out).mono ?_
 rintro e w2 ⟨rfl,hb⟩
 replace HB:=hid (HB.out.trans (hb.mono HB.out.size))
 clear hb HRI
 go_wp2
 go_ret2
 exact⟨rfl,HB.out⟩
set_option maxRecDepth 100000 in
set_option maxHeartbeats 1000000 in
theorem rBack_out (i:Int) (c:Option Addr) (cc:Nat) (R:List (List Fr)) (w:World) (hR:FsS w c R) (hs:CkS R) (hz:CkE R 0) (hi:i<0∨((R.length:Nat):Int)≤i):
  Calls Tryz.prog 23 #[.slice c R.length cc,.int .i64 i] w fun e w'=>e=.returned (.tuple #[.agg #[.bool false,.string ⟨#[]⟩,.string ⟨#[]⟩],.int .i64 11])∧Below w.heap.size w w':=by
 have hn:=hs.len
 skip
 have hA:=(Below.refl w.heap.size w).alloc (Nat.le_refl _) (FC false ⟨#[]⟩ ⟨#[]⟩)
 have HX0:=hid (Box.new w false ⟨#[]⟩ ⟨#[]⟩)
 have HB0:=hid hA
 have HC:=hid (rChain_is c cc R _ (hR.below hA) hs hz)
 clear hR hs hz hA
 generalize R.length=n at *
 go_enter Tryz.func23,Tryz.ntmps23
 go_wp2_with fail
 refine HC.out.mono ?_
 rintro e w1 ⟨rfl,hb⟩
 have HX:=hid (HX0.out.below hb HX0.out.lt)
 have HB:=hid (HB0.out.trans (hb.mono HB0.out.size))
 clear hb HC HX0 HB0
 obtain⟨k0,k1,k2⟩:=HX.out.trio
 have f0:=HX.out.fz 0
 have f1:=HX.out.fz 1
 have f2:=HX.out.fz 2
 have HX9:=hid (HX.out.put false ⟨#[]⟩ ⟨#[]⟩)
 have HB9:=hid (((HB.out.setCell (p:=⟨w.heap.size,0,none⟩) (Nat.le_refl _) (.bool false)).setCell (p:=⟨w.heap.size,1,none⟩) (Nat.le_refl _) (.string ⟨#[]⟩)).setCell (p:=⟨w.heap.size,2,none⟩) (Nat.le_refl _) (.string ⟨#[]⟩))
 clear HX HB
 rcases hi with hi |hi
 ·go_wp2
  refine bodyPost_ret (HX9.out.result2 rfl _ rfl) rfl ?_
  exact⟨rfl,HB9.out⟩
 ·go_wp2
  refine bodyPost_ret (HX9.out.result2 rfl _ rfl) rfl ?_
  exact⟨rfl,HB9.out⟩
end Go.Proofs.YtmbjmiioggfneaaGreatDoor

/- A matrix that is not heavy: a chain that may be, with one denominator of so many bytes. -/
namespace Go.Proofs.YtmbjmiioggfneaaGreatDoor
open Go.RowKit Go.Shelf
def dnM (f:Fr):Nat:=if N f.2.2=0 then 1 else N f.2.2
def dnL:List Fr→Nat
 |[]=>1
 |f::l=>dnM f*dnL l
theorem dnM_pos (f:Fr):0<dnM f:=by
 unfold dnM
 split<;>omega
theorem dnL_pos:∀l,0<dnL l
 |[]=>by decide
 |f::l=>Nat.mul_pos (dnM_pos f) (dnL_pos l)
theorem dnL_dvd:∀ {l:List Fr} {f:Fr},f∈l→dnM f∣dnL l
 |g::l,f,h=>by
  rcases List.mem_cons.1 h with rfl |h
  ·exact Nat.dvd_mul_right _ _
  ·exact Nat.dvd_trans (dnL_dvd h) (Nat.dvd_mul_left _ _)
theorem dnL_le:∀l,dnL l≤256^sw l
 |[]=>by decide
 |f::l=>by
  show dnM f*dnL l≤256^(f.2.1.size+f.2.2.size+sw l)
  rw[Nat.pow_add]
  refine Nat.mul_le_mul ?_ (dnL_le l)
  have h1:256^f.2.2.size≤256^(f.2.1.size+f.2.2.size):=Nat.pow_le_pow_right (by decide) (by omega)
  have h2:0<256^f.2.2.size:=Nat.pow_pos (by decide)
  have h3:=N_lt f.2.2
  unfold dnM
  split<;>omega
theorem dnL_sh {l:List Fr} {m:Nat} (h:sw l+1≤m):Sh m (dnL l):=by
 unfold Sh
 have h1:=dnL_le l
 have h2:256^sw l<256^m:=Nat.pow_lt_pow_right (by decide) (by omega)
 omega
theorem whl_dnL {l:List Fr} {f:Fr} (h:f∈l):Whl (dnL l) (frQ f):=by
 have hd:=dnL_dvd h
 by_cases h9:N f.2.2=0
 ·refine⟨0,?_⟩
  rw[show frQ f=0 from val_den0 h9,Rat.zero_mul]
  rfl
 ·rw[dnM,if_neg h9] at hd
  obtain⟨c,hc⟩:=hd
  have hne:((N f.2.2:Nat):Rat)≠0:=fun e=>h9 (by exact_mod_cast e)
  have e1:frQ f*((N f.2.2:Nat):Rat)=((sg f.1 (N f.2.1):Int):Rat):=by
   show mkRat _ _*_=_
   rw[Rat.mkRat_eq_div,Rat.div_def,Rat.mul_assoc]
   show _*((((N f.2.2:Nat):Rat))⁻¹*_)=_
   rw[Rat.inv_mul_cancel _ hne,Rat.mul_one]
  refine⟨sg f.1 (N f.2.1)*(c:Int),?_⟩
  rw[hc,Rat.natCast_mul,←Rat.mul_assoc,e1,Rat.intCast_mul]
  rfl
def sumM (R:List (List Fr)) (j:Nat):Nat:=((R.take j).map fun l=>l.length+sw l).sum
theorem sumM_succ {R:List (List Fr)} {j:Nat} (h:j<R.length):sumM R (j+1)=sumM R j+(R[j].length+sw R[j]):=by
 rw[sumM,sumM,List.take_succ_eq_append_getElem h,List.map_append,List.sum_append]
 simp
theorem sumM_each {R:List (List Fr)} {r:List Fr} (h:r∈R):r.length+sw r≤sumM R R.length:=by
 unfold sumM
 rw[List.take_length]
 induction R with
 |nil=>cases h
 |cons a R ih=>
  rw[List.map_cons,List.sum_cons]
  rcases List.mem_cons.1 h with rfl |h
  ·omega
  ·have:=ih h
   omega
theorem swM_app (a b:List Fr):sw (a++b)=sw a+sw b:=by
 induction a with
 |nil=>simp[sw]
 |cons f a ih=>simp only[List.cons_append,sw,ih];omega
theorem swM_flat (R:List (List Fr)):sw R.flatten≤sumM R R.length:=by
 unfold sumM
 rw[List.take_length]
 induction R with
 |nil=>exact Nat.le_refl _
 |cons a R ih=>
  rw[List.flatten_cons,swM_app,List.map_cons,List.sum_cons]
  omega
theorem swM_mem:∀ {l:List Fr} {f:Fr},f∈l→f.2.1.size+f.2.2.size≤sw l
 |g::l,f,h=>by
  rcases List.mem_cons.1 h with rfl |h
  ·simp only[sw];omega
  ·have:=swM_mem h
   simp only[sw];omega
theorem ckS_of {R:List (List Fr)} (h:R.length+sumM R R.length≤700):CkS R:=by
 refine⟨by omega,fun r hr=>?_,fun r hr=>?_⟩
 ·have:=sumM_each hr;omega
 ·have:=sumM_each hr
  rw[fw_sw]
  omega
theorem rows_mF {R:List (List Fr)} {n:Nat} (hn:R.length=n) (hl:∀k,k<n→(R.getD k []).length=n):R=mF n fun i j=>celF (R.getD i []) j:=by
 refine List.ext_getElem (by rw[mF_length,hn]) fun i h1 h2=>?_
 rw[mF_get]
 have e:R.getD i []=R[i]:=by rw[List.getD_eq_getElem?_getD,List.getElem?_eq_getElem h1];rfl
 have hl':=hl i (by omega)
 rw[e] at hl'
 refine List.ext_getElem (by rw[rF_length,hl']) fun j h3 h4=>?_
 rw[rF_get]
 show _=celF (R.getD i []) j
 rw[e,celF_eq h3]
theorem rowB_low {r:List Fr} (h:rowB r=true) {i:Nat} (hi:i<r.length):0≤frQ r[i]:=by
 unfold rowB at h
 simp only[Bool.and_eq_true,List.all_eq_true,decide_eq_true_eq] at h
 exact Rat.not_lt.1 (h.1 _ (List.getElem_mem hi))
theorem rowB_one {r:List Fr} (h:rowB r=true):fsum r=1:=by
 unfold rowB at h
 simp only[Bool.and_eq_true,decide_eq_true_eq] at h
 exact h.2
theorem chx_of {R:List (List Fr)} (h:CkE R 0) (h5:R.length≤5) (hw:R.length+sumM R R.length≤700):∃X,R=mF R.length X∧ChX R.length X:=by
 obtain⟨⟨⟨h1,h6⟩,hl⟩,hr⟩:SqM R∧RwM R:=by
  rcases h with ⟨h9,_⟩ |⟨h9,_⟩ |⟨_,a,b⟩
  ·exact absurd h9 (by decide)
  ·exact absurd h9 (by decide)
  ·exact⟨a,b⟩
 have hS:=ckS_of hw
 have e:=rows_mF rfl hl
 have eD:∀i (hi:i<R.length),R.getD i []=R[i]:=fun i hi=>by rw[List.getD_eq_getElem?_getD,List.getElem?_eq_getElem hi];rfl
 have hmem:∀i j,i<R.length→j<R.length→celF (R.getD i []) j∈R.getD i []:=fun i j hi hj=>by
  have h9:j<(R.getD i []).length:=by rw[hl i hi];exact hj
  rw[celF_eq h9]
  exact List.getElem_mem h9
 have hin:∀i (hi:i<R.length),R.getD i []∈R:=fun i hi=>by rw[eD i hi];exact List.getElem_mem hi
 refine⟨fun i j=>celF (R.getD i []) j,e,⟨h1,h5,⟨fun i j hi hj=>?_,fun i hi=>?_⟩,fun i j hi hj=>?_,?_,⟨dnL R.flatten,dnL_pos _,dnL_sh (by have:=swM_flat R;omega),fun i j hi hj=>?_⟩⟩⟩
 ·have h9:j<(R.getD i []).length:=by rw[hl i hi];exact hj
  show 0≤frQ (celF (R.getD i []) j)
  rw[celF_eq h9]
  exact rowB_low (hr i hi) h9
 ·rw[←rowB_one (hr i hi)]
  exact(fsum_isF (f:=rowQ (fun i j=>celF (R.getD i []) j) i) (R.getD i []) R.length (hl i hi) fun j hj=>by show _=frQ (celF (R.getD i []) j);rw[celF_eq hj]).symm
 ·have h9:=swM_mem (hmem i j hi hj)
  have h8:=sumM_each (hin i hi)
  show _+_≤700
  omega
 ·rw[←e]
  exact⟨rfl,fun i hi=>by rw[←eD i hi];exact hl i hi,fun i hi=>hS.fw _ (List.getElem_mem hi),fun i hi=>by rw[←eD i hi];exact hr i hi⟩
 ·exact whl_dnL (List.mem_flatten.2 ⟨_,hin i hi,hmem i j hi hj⟩)
structure HMu (R:List (List Fr)):Prop where
 len:R.length≤140737488355328
 each:∀r∈R,r.length≤140737488355328∧∀f∈r,f.2.1.size≤140737488355328∧f.2.2.size≤140737488355328
set_option maxRecDepth 100000 in
set_option maxHeartbeats 2000000 in
theorem heavyMatrix_any (c:Option Addr) (cc:Nat) (R:List (List Fr)) (w:World) (hR:FsS w c R) (hs:HMu R):
  Calls Tryz.prog 5 #[.slice c R.length cc] w fun e w'=>(∃r:Bool,e=.returned (.bool r)∧(r=false→R.length+sumM R R.length≤700))∧Below w.heap.size w w':=by
 have HFR:=hid hR
 have hlen:=hs.len
 have HFB:Hid (∀i (hi:i<R.length) (d:Option Addr) (k:Nat) (U:World),FrS U d R[i]→Calls Tryz.prog 6 #[.slice d R[i].length k] U fun e w'=>(∃r:Nat,e=.returned (.int .i64 r)∧r≤1000000000000000∧(r≤4096→r=R[i].length+sw R[i]))∧Below U.heap.size U w'):=fun i hi d k U hF=>fracBytes_any d k R[i] U hF (hs.each _ (List.getElem_mem hi)).1 (hs.each _ (List.getElem_mem hi)).2
 have HSU:Hid (∀i (hi:i<R.length),sumM R (i+1)=sumM R i+(R[i].length+sw R[i])):=fun i hi=>sumM_succ hi
 obtain⟨S,hS⟩:∃S,sumM R=S:=⟨_,rfl⟩
 have HS0:Hid (S 0=0):=by show _=_;rw[←hS];rfl
 rw[hS] at HSU⊢
 obtain⟨n,hn⟩:∃n,R.length=n:=⟨_,rfl⟩
 have HN:=hid hn
 rw[hn] at hlen⊢
 have HI0:Hid (n≤700→n=n+S 0):=fun _=>by rw[HS0.out];rfl
 have HZ:Hid (Below w.heap.size w w):=Below.refl _ _
 clear hR hs hS hn
 go_enter Tryz.func5,Tryz.ntmps5
 go_wp2_with fail
 go_loopw [3,4] (fun tv iv wr=>∃(i t:Nat),i≤n∧iv=.int .i64 i∧tv=.int .i64 t∧t≤2000000000000000∧Hid (t≤700→t=n+S i)∧Hid (Below w.heap.size w wr)) (fun _ iv _=>n - (intOf iv).toNat)
 case atStart=>exact⟨0,n,Nat.zero_le _,rfl,rfl,by omega,HI0,HZ⟩
 case round=>
  clear HI0 HZ
  obtain⟨i,t,hi,rfl,rfl,ht,HI,HB⟩:=hrel
  by_cases hlt:i<n
  ·by_cases h7:t≤700
   ·have hiR:i<R.length:=by rw[HN.out];exact hlt
    obtain⟨gc,oc,bc,cr,rfl,hgc,c0,hfr, -⟩:=(HFR.out.below HB.out) i hiR
    have HC:=hid (HFB.out i hiR bc cr wr hfr)
    have HST:=hid (HSU.out i hiR)
    have HTE:=hid (HI.out h7)
    clear hfr HI
    generalize sw R[i]=sb at *
    generalize R[i].length=rl at *
    go_wp2_with fail
    refine HC.out.mono ?_
    rintro e w2 ⟨⟨r,rfl,hr,hre⟩,hb⟩
    have HB2:=hid (HB.out.trans (hb.mono HB.out.size))
    have HI2:Hid (t+r≤700→t+r=n+S (i+1)):=fun h=>by
     have h1:=hre (by omega)
     have h2:=HST.out
     have h3:=HTE.out
     omega
    clear hb HB HC HST HTE hre
    go_wp2
    go_roundw
    case rel=>exact⟨i+1,t+r,by omega,by go_num,by go_num,by omega,HI2,HB2⟩
    case measure=>simp[intOf];omega
   ·have h8:(700:Int)<(t:Int):=by omega
    clear HI
    go_wp2
    go_ret
    exact⟨⟨true,rfl,fun h=>by cases h⟩,HB.out⟩
  ·obtain rfl:i=n:=by omega
   by_cases h7:t≤700
   ·have HTE:=hid (HI.out h7)
    have h8:¬(700:Int)<(t:Int):=by omega
    clear HI
    go_wp2
    go_ret
    have hT:i+S i≤700:=by have:=HTE.out;omega
    first |exact⟨⟨false,rfl,fun _=>hT⟩,HB.out⟩ |exact⟨.inl ⟨rfl,hT⟩,HB.out⟩
   ·have h8:(700:Int)<(t:Int):=by omega
    clear HI
    go_wp2
    go_ret
    exact⟨⟨true,rfl,fun h=>by cases h⟩,HB.out⟩
end Go.Proofs.YtmbjmiioggfneaaGreatDoor

/- The answer's HiddenCheck and Seen, of whatever hidden chain. -/
namespace Go.Proofs.YtmbjmiioggfneaaGreatDoor
open Go.RowKit Go.Shelf
theorem FsS.raw' {w:World} {a:Option Addr} {R:List (List Fr)} (h:FsS w a R) {i:Nat} (hi:i<R.length):∃g o b c,a=some ⟨g,o,none⟩∧g<w.heap.size∧w.cell? ⟨g,o+i,none⟩=some (.slice b R[i].length c)∧FrS w b R[i]:=by
 obtain⟨g,o,b,c,h1,h2,h3,h4,_⟩:=h i hi
 exact⟨g,o,b,c,h1,h2,h3,h4⟩
end Go.Proofs.YtmbjmiioggfneaaGreatDoor

/- The law: rows, names and texts that are alike. -/
namespace Go.Proofs.YtmbjmiioggfneaaGreatDoor
open Go.RowKit Go.Shelf
set_option maxRecDepth 100000 in
set_option maxHeartbeats 1000000 in
theorem sameRows_any (a b:Option Addr) (ca cb:Nat) (L:List (List Fr)) (w:World) (ha:FsS w a L) (hb:FsS w b L) (hL:L.length≤1000) (hl:∀l∈L,l.length≤1000):
  Calls Tryz.prog 14 #[.slice a L.length ca,.slice b L.length cb] w fun e w'=>e=.returned (.bool true)∧Below w.heap.size w w':=by
 have HA:=hid ha
 have HB:=hid hb
 have HL:=hid hl
 clear ha hb hl
 go_enter Tryz.func14,Tryz.ntmps14
 go_wp2_with fail
 go_loopw [5] (fun iv wr=>∃i:Nat,i≤L.length∧iv=.int .i64 i∧Hid (Below w.heap.size w wr)) (fun iv _=>L.length - (intOf iv).toNat)
 case atStart=>exact⟨0,Nat.zero_le _,rfl,Below.refl _ _⟩
 case round=>
  obtain⟨i,hi,rfl,HW⟩:=hrel
  by_cases hlt:i<L.length
  ·obtain⟨g,o,b1,c1,rfl,hg,k1,h1⟩:=HA.out.raw' hlt
   obtain⟨g2,o2,b2,c2,rfl,hg2,k2,h2⟩:=HB.out.raw' hlt
   have hli:=HL.out _ (List.getElem_mem hlt)
   have HC1:Hid (∀U:World,Below w.heap.size w U→U.cell? ⟨g,o+i,none⟩=some (.slice b1 L[i].length c1)):=fun U hb=>(hb.cell (p:=⟨g,_,none⟩) hg).trans k1
   have HC2:Hid (∀U:World,Below w.heap.size w U→U.cell? ⟨g2,o2+i,none⟩=some (.slice b2 L[i].length c2)):=fun U hb=>(hb.cell (p:=⟨g2,_,none⟩) hg2).trans k2
   have HS:=hid (fun (U:World) (hb:Below w.heap.size w U)=>sameFracs_any b1 b2 c1 c2 L[i] U (h1.below hb) (h2.below hb) (by omega))
   clear k1 k2 h1 h2
   generalize L[i].length=li at *
   go_upto_region 6 with fail
   refine wp_region_held_drew (S:=fun U=>U.cell? ⟨g,o+i,none⟩=some (.slice b1 li c1)∧U.cell? ⟨g2,o2+i,none⟩=some (.slice b2 li c2)) (by kernel_rfl) ⟨HC1.out _ HW.out.drew,HC2.out _ HW.out.drew⟩ (fun hSd=>?_)
   refine wpAnyH_take (i:=0) (oi:=_) (v:=.slice (some ⟨g,o,none⟩) L.length ca) rfl (by kernel_rfl) (by kernel_rfl) (by kernel_rfl) (fun _ _ _ h=>h) (Or.inl ⟨by rfl,?_⟩) (by assumption) ?_
   ·intro u' hSu
    (try simp only[List.getElem_toArray,List.getElem_cons_zero])
    go_simp
   (try simp only[List.getElem_toArray,List.getElem_cons_zero])
   (try simp only[Act.put,List.setIfInBounds_toArray,List.set_cons_zero,List.set_cons_succ])
   refine wpAnyH_take (i:=1) (oi:=_) (v:=.int .i64 (i:Nat)) rfl (by kernel_rfl) (by kernel_rfl) (by kernel_rfl) (fun _ _ _ h=>h) (Or.inl ⟨by rfl,?_⟩) (by assumption) ?_
   ·intro u' hSu
    (try simp only[List.getElem_toArray,List.getElem_cons_zero,List.getElem_cons_succ])
    go_simp
   (try simp only[List.getElem_toArray,List.getElem_cons_zero,List.getElem_cons_succ])
   (try simp only[Act.put,List.setIfInBounds_toArray,List.set_cons_zero,List.set_cons_succ])
   refine wpAnyH_take (i:=2) (oi:=_) (v:=.pointer (some ⟨g,o+i,none⟩)) rfl (by kernel_rfl) (by kernel_rfl) (by kernel_rfl) (fun _ _ _ h=>h) (Or.inl ⟨by rfl,?_⟩) (by assumption) ?_
   ·intro u' hSu
    (try simp only[List.getElem_toArray,List.getElem_cons_zero,List.getElem_cons_succ])
    go_simp
   (try simp only[List.getElem_toArray,List.getElem_cons_zero,List.getElem_cons_succ])
   (try simp only[Act.put,List.setIfInBounds_toArray,List.set_cons_zero,List.set_cons_succ])
   refine wpAnyH_take (i:=3) (oi:=_) (v:=.slice b1 li c1) rfl (by kernel_rfl) (by kernel_rfl) (by kernel_rfl) (fun _ _ _ h=>h) (Or.inl ⟨by rfl,?_⟩) (by assumption) ?_
   ·intro u' hSu
    (try simp only[List.getElem_toArray,List.getElem_cons_zero,List.getElem_cons_succ])
    obtain⟨s1,s2⟩:=hSu
    go_simp
   (try simp only[List.getElem_toArray,List.getElem_cons_zero,List.getElem_cons_succ])
   (try simp only[Act.put,List.setIfInBounds_toArray,List.set_cons_zero,List.set_cons_succ])
   refine wpAnyH_take (i:=4) (oi:=_) (v:=.slice (some ⟨g2,o2,none⟩) L.length cb) rfl (by kernel_rfl) (by kernel_rfl) (by kernel_rfl) (fun _ _ _ h=>h) (Or.inl ⟨by rfl,?_⟩) (by assumption) ?_
   ·intro u' hSu
    (try simp only[List.getElem_toArray,List.getElem_cons_zero,List.getElem_cons_succ])
    go_simp
   (try simp only[List.getElem_toArray,List.getElem_cons_zero,List.getElem_cons_succ])
   (try simp only[Act.put,List.setIfInBounds_toArray,List.set_cons_zero,List.set_cons_succ])
   refine wpAnyH_take (i:=5) (oi:=_) (v:=.int .i64 (i:Nat)) rfl (by kernel_rfl) (by kernel_rfl) (by kernel_rfl) (fun _ _ _ h=>h) (Or.inl ⟨by rfl,?_⟩) (by assumption) ?_
   ·intro u' hSu
    (try simp only[List.getElem_toArray,List.getElem_cons_zero,List.getElem_cons_succ])
    go_simp
   (try simp only[List.getElem_toArray,List.getElem_cons_zero,List.getElem_cons_succ])
   (try simp only[Act.put,List.setIfInBounds_toArray,List.set_cons_zero,List.set_cons_succ])
   refine wpAnyH_take (i:=6) (oi:=_) (v:=.pointer (some ⟨g2,o2+i,none⟩)) rfl (by kernel_rfl) (by kernel_rfl) (by kernel_rfl) (fun _ _ _ h=>h) (Or.inl ⟨by rfl,?_⟩) (by assumption) ?_
   ·intro u' hSu
    (try simp only[List.getElem_toArray,List.getElem_cons_zero,List.getElem_cons_succ])
    go_simp
   (try simp only[List.getElem_toArray,List.getElem_cons_zero,List.getElem_cons_succ])
   (try simp only[Act.put,List.setIfInBounds_toArray,List.set_cons_zero,List.set_cons_succ])
   refine wpAnyH_take (i:=7) (oi:=_) (v:=.slice b2 li c2) rfl (by kernel_rfl) (by kernel_rfl) (by kernel_rfl) (fun _ _ _ h=>h) (Or.inl ⟨by rfl,?_⟩) (by assumption) ?_
   ·intro u' hSu
    (try simp only[List.getElem_toArray,List.getElem_cons_zero,List.getElem_cons_succ])
    obtain⟨s1,s2⟩:=hSu
    go_simp
   (try simp only[List.getElem_toArray,List.getElem_cons_zero,List.getElem_cons_succ])
   (try simp only[Act.put,List.setIfInBounds_toArray,List.set_cons_zero,List.set_cons_succ])
   refine wpAnyH_ready (rs:=[8]) (by kernel_rfl) (by simp) (AllReadyH.cons rfl ?_ (AllReadyH.nil))
   ·intro K' hK'
    (try simp only[List.getElem_toArray,List.getElem_cons_zero,List.getElem_cons_succ])
    go_simp
    refine(HS.out _ HW.out.drew).mono ?_
    rintro r w5 ⟨rfl,hb5⟩
    have hl5:Below w.heap.size w w5:=HW.out.drew.trans (hb5.mono HW.out.drew.size)
    refine hK'.out _ _ ⟨HC1.out _ hl5,HC2.out _ hl5⟩ (fun hSe=>?_)
    clear hK' K' hSd
    (try simp only[List.getElem_toArray,List.getElem_cons_zero,List.getElem_cons_succ])
    (try simp only[Act.put,List.setIfInBounds_toArray,List.set_cons_zero,List.set_cons_succ])
    refine wpAnyH_take (i:=9) (oi:=_) (v:=.bool false) rfl (by kernel_rfl) (by kernel_rfl) (by kernel_rfl) (fun _ _ _ h=>h) (Or.inl ⟨by rfl,?_⟩) (by assumption) ?_
    ·intro u' hSu
     (try simp only[List.getElem_toArray,List.getElem_cons_zero,List.getElem_cons_succ])
     go_simp
    (try simp only[List.getElem_toArray,List.getElem_cons_zero,List.getElem_cons_succ])
    (try simp only[Act.put,List.setIfInBounds_toArray,List.set_cons_zero,List.set_cons_succ])
    refine wpAnyH_done (by kernel_rfl) ?_ _
    clear hSe
    have HW5:=hid hl5
    clear hl5 hb5
    go_wp2
    go_roundw
    case rel=>exact⟨i+1,by omega,by go_num,HW5⟩
    case measure=>simp[intOf];omega
  ·obtain rfl:i=L.length:=by omega
   go_wp2
   go_ret
   exact⟨rfl,HW.out⟩
set_option maxRecDepth 100000 in
set_option maxHeartbeats 1000000 in
theorem sameLists_w (a b:Option Addr) (ca cb:Nat) (L:List (List Int)) (w:World) (ha:LsS w a L) (hb:LsS w b L) (hL:L.length≤1000) (hl:∀l∈L,l.length≤1000):
  Calls Tryz.prog 17 #[.slice a L.length ca,.slice b L.length cb] w fun e w'=>e=.returned (.bool true)∧Below w.heap.size w w':=by
 have HA:=hid ha
 have HB:=hid hb
 have HL:=hid hl
 clear ha hb hl
 go_enter Tryz.func17,Tryz.ntmps17
 go_wp2_with fail
 go_loopw [5] (fun iv wr=>∃i:Nat,i≤L.length∧iv=.int .i64 i∧Hid (Below w.heap.size w wr)) (fun iv _=>L.length - (intOf iv).toNat)
 case atStart=>exact⟨0,Nat.zero_le _,rfl,Below.refl _ _⟩
 case round=>
  obtain⟨i,hi,rfl,HW⟩:=hrel
  by_cases hlt:i<L.length
  ·obtain⟨g,o,b1,c1,rfl,hg,k1,h1⟩:=HA.out i hlt
   obtain⟨g2,o2,b2,c2,rfl,hg2,k2,h2⟩:=HB.out i hlt
   have hli:=HL.out _ (List.getElem_mem hlt)
   have HC1:Hid (∀U:World,Below w.heap.size w U→U.cell? ⟨g,o+i,none⟩=some (.slice b1 L[i].length c1)):=fun U hb=>(hb.cell (p:=⟨g,_,none⟩) hg).trans k1
   have HC2:Hid (∀U:World,Below w.heap.size w U→U.cell? ⟨g2,o2+i,none⟩=some (.slice b2 L[i].length c2)):=fun U hb=>(hb.cell (p:=⟨g2,_,none⟩) hg2).trans k2
   have HS:=hid (fun (U:World) (hb:Below w.heap.size w U)=>sameInts_any b1 b2 c1 c2 L[i] U (h1.below hb) (h2.below hb) (by omega))
   clear k1 k2 h1 h2
   generalize L[i].length=li at *
   go_upto_region 6 with fail
   refine wp_region_held_drew (S:=fun U=>U.cell? ⟨g,o+i,none⟩=some (.slice b1 li c1)∧U.cell? ⟨g2,o2+i,none⟩=some (.slice b2 li c2)) (by kernel_rfl) ⟨HC1.out _ HW.out.drew,HC2.out _ HW.out.drew⟩ (fun hSd=>?_)
   refine wpAnyH_take (i:=0) (oi:=_) (v:=.slice (some ⟨g,o,none⟩) L.length ca) rfl (by kernel_rfl) (by kernel_rfl) (by kernel_rfl) (fun _ _ _ h=>h) (Or.inl ⟨by rfl,?_⟩) (by assumption) ?_
   ·intro u' hSu
    (try simp only[List.getElem_toArray,List.getElem_cons_zero])
    go_simp
   (try simp only[List.getElem_toArray,List.getElem_cons_zero])
   (try simp only[Act.put,List.setIfInBounds_toArray,List.set_cons_zero,List.set_cons_succ])
   refine wpAnyH_take (i:=1) (oi:=_) (v:=.int .i64 (i:Nat)) rfl (by kernel_rfl) (by kernel_rfl) (by kernel_rfl) (fun _ _ _ h=>h) (Or.inl ⟨by rfl,?_⟩) (by assumption) ?_
   ·intro u' hSu
    (try simp only[List.getElem_toArray,List.getElem_cons_zero,List.getElem_cons_succ])
    go_simp
   (try simp only[List.getElem_toArray,List.getElem_cons_zero,List.getElem_cons_succ])
   (try simp only[Act.put,List.setIfInBounds_toArray,List.set_cons_zero,List.set_cons_succ])
   refine wpAnyH_take (i:=2) (oi:=_) (v:=.pointer (some ⟨g,o+i,none⟩)) rfl (by kernel_rfl) (by kernel_rfl) (by kernel_rfl) (fun _ _ _ h=>h) (Or.inl ⟨by rfl,?_⟩) (by assumption) ?_
   ·intro u' hSu
    (try simp only[List.getElem_toArray,List.getElem_cons_zero,List.getElem_cons_succ])
    go_simp
   (try simp only[List.getElem_toArray,List.getElem_cons_zero,List.getElem_cons_succ])
   (try simp only[Act.put,List.setIfInBounds_toArray,List.set_cons_zero,List.set_cons_succ])
   refine wpAnyH_take (i:=3) (oi:=_) (v:=.slice b1 li c1) rfl (by kernel_rfl) (by kernel_rfl) (by kernel_rfl) (fun _ _ _ h=>h) (Or.inl ⟨by rfl,?_⟩) (by assumption) ?_
   ·intro u' hSu
    (try simp only[List.getElem_toArray,List.getElem_cons_zero,List.getElem_cons_succ])
    obtain⟨s1,s2⟩:=hSu
    go_simp
   (try simp only[List.getElem_toArray,List.getElem_cons_zero,List.getElem_cons_succ])
   (try simp only[Act.put,List.setIfInBounds_toArray,List.set_cons_zero,List.set_cons_succ])
   refine wpAnyH_take (i:=4) (oi:=_) (v:=.slice (some ⟨g2,o2,none⟩) L.length cb) rfl (by kernel_rfl) (by kernel_rfl) (by kernel_rfl) (fun _ _ _ h=>h) (Or.inl ⟨by rfl,?_⟩) (by assumption) ?_
   ·intro u' hSu
    (try simp only[List.getElem_toArray,List.getElem_cons_zero,List.getElem_cons_succ])
    go_simp
   (try simp only[List.getElem_toArray,List.getElem_cons_zero,List.getElem_cons_succ])
   (try simp only[Act.put,List.setIfInBounds_toArray,List.set_cons_zero,List.set_cons_succ])
   refine wpAnyH_take (i:=5) (oi:=_) (v:=.int .i64 (i:Nat)) rfl (by kernel_rfl) (by kernel_rfl) (by kernel_rfl) (fun _ _ _ h=>h) (Or.inl ⟨by rfl,?_⟩) (by assumption) ?_
   ·intro u' hSu
    (try simp only[List.getElem_toArray,List.getElem_cons_zero,List.getElem_cons_succ])
    go_simp
   (try simp only[List.getElem_toArray,List.getElem_cons_zero,List.getElem_cons_succ])
   (try simp only[Act.put,List.setIfInBounds_toArray,List.set_cons_zero,List.set_cons_succ])
   refine wpAnyH_take (i:=6) (oi:=_) (v:=.pointer (some ⟨g2,o2+i,none⟩)) rfl (by kernel_rfl) (by kernel_rfl) (by kernel_rfl) (fun _ _ _ h=>h) (Or.inl ⟨by rfl,?_⟩) (by assumption) ?_
   ·intro u' hSu
    (try simp only[List.getElem_toArray,List.getElem_cons_zero,List.getElem_cons_succ])
    go_simp
   (try simp only[List.getElem_toArray,List.getElem_cons_zero,List.getElem_cons_succ])
   (try simp only[Act.put,List.setIfInBounds_toArray,List.set_cons_zero,List.set_cons_succ])
   refine wpAnyH_take (i:=7) (oi:=_) (v:=.slice b2 li c2) rfl (by kernel_rfl) (by kernel_rfl) (by kernel_rfl) (fun _ _ _ h=>h) (Or.inl ⟨by rfl,?_⟩) (by assumption) ?_
   ·intro u' hSu
    (try simp only[List.getElem_toArray,List.getElem_cons_zero,List.getElem_cons_succ])
    obtain⟨s1,s2⟩:=hSu
    go_simp
   (try simp only[List.getElem_toArray,List.getElem_cons_zero,List.getElem_cons_succ])
   (try simp only[Act.put,List.setIfInBounds_toArray,List.set_cons_zero,List.set_cons_succ])
   refine wpAnyH_ready (rs:=[8]) (by kernel_rfl) (by simp) (AllReadyH.cons rfl ?_ (AllReadyH.nil))
   ·intro K' hK'
    (try simp only[List.getElem_toArray,List.getElem_cons_zero,List.getElem_cons_succ])
    go_simp
    refine(HS.out _ HW.out.drew).mono ?_
    rintro r w5 ⟨rfl,hb5⟩
    have hl5:Below w.heap.size w w5:=HW.out.drew.trans (hb5.mono HW.out.drew.size)
    refine hK'.out _ _ ⟨HC1.out _ hl5,HC2.out _ hl5⟩ (fun hSe=>?_)
    clear hK' K' hSd
    (try simp only[List.getElem_toArray,List.getElem_cons_zero,List.getElem_cons_succ])
    (try simp only[Act.put,List.setIfInBounds_toArray,List.set_cons_zero,List.set_cons_succ])
    refine wpAnyH_take (i:=9) (oi:=_) (v:=.bool false) rfl (by kernel_rfl) (by kernel_rfl) (by kernel_rfl) (fun _ _ _ h=>h) (Or.inl ⟨by rfl,?_⟩) (by assumption) ?_
    ·intro u' hSu
     (try simp only[List.getElem_toArray,List.getElem_cons_zero,List.getElem_cons_succ])
     go_simp
    (try simp only[List.getElem_toArray,List.getElem_cons_zero,List.getElem_cons_succ])
    (try simp only[Act.put,List.setIfInBounds_toArray,List.set_cons_zero,List.set_cons_succ])
    refine wpAnyH_done (by kernel_rfl) ?_ _
    clear hSe
    have HW5:=hid hl5
    clear hl5 hb5
    go_wp2
    go_roundw
    case rel=>exact⟨i+1,by omega,by go_num,HW5⟩
    case measure=>simp[intOf];omega
  ·obtain rfl:i=L.length:=by omega
   go_wp2
   go_ret
   exact⟨rfl,HW.out⟩
end Go.Proofs.YtmbjmiioggfneaaGreatDoor
