/- Regions that draw their order: the steps of a walk, in few words. -/
import Derived.OrdersHeld
import Derived.Deep.RegionHeld
import Derived.Test.YtgamblainfkiaaaGreatDoorHidDHxUnrA
namespace Go.Proofs.YtgamblainfkiaaaGreatDoor
theorem gE:(∀(α:Type) (xs:List α) (i:Nat) (h:i<xs.toArray.size),xs.toArray[i]=xs[i]'(by simpa using h))∧(∀(α:Type) (a:α) (ys:List α) (h:0<(a::ys).length),(a::ys)[0]=a)∧(∀(α:Type) (a:α) (ys:List α) (i:Nat) (h:i+1<(a::ys).length),(a::ys)[i+1]=ys[i]'(by simpa using h)):=⟨fun _ _ _ _=>rfl,fun _ _ _ _=>rfl,fun _ _ _ _ _=>rfl⟩
theorem aP:(∀(a:Act) (k:Nat) (v:Value),a.put k v= {a with tmps:=a.tmps.setIfInBounds k v})∧(∀(α:Type) (xs:List α) (i:Nat) (a:α),xs.toArray.setIfInBounds i a=(xs.set i a).toArray)∧(∀(α:Type) (x a:α) (ys:List α),(x::ys).set 0 a=a::ys)∧(∀(α:Type) (x a:α) (ys:List α) (i:Nat),(x::ys).set (i+1) a=x::ys.set i a):=⟨fun _ _ _=>rfl,fun _ _ _ _=>by simp,fun _ _ _ _=>rfl,fun _ _ _ _ _=>rfl⟩
section
variable {P:Program} {ops:Array Oper} {Q:Exit→Act→World→Prop} {md:Region.Mode} {S:World→Prop} {n:Nat} {l:Array Bool} {a:Act} {w:World}
theorem tkA (i:Nat) {oi:Oper} (v:Value) (h:∀u,S u→(execOp a.eval oi).run P u=.ok (.value v) u) (k:wpAnyH P md ops Q S n (l.setIfInBounds i true) (a.put oi.dst v) w)
  (hi:ops[i]? =some oi:=by rfl) (hs:Region.noSelect ops=true:=by kernel_rfl) (hf:Region.free md ops l i=true:=by kernel_rfl) (hr:(Region.ready md ops l).contains i=true:=by kernel_rfl)
  (hQ:∀c a w,Q (.panic c) (a.put oi.dst v) w→Q (.panic c) a w:=by first |exact fun _ _ _ h=>h |exact fun _ _ _ h=>by cases h.1) (hw:Region.wanted oi (yielded ops a.tmps)=true:=by rfl) (hS:S w:=by assumption):wpAnyH P md ops Q S (n+1) l a w:=
 wpAnyH_take hi hs hf hr hQ (Or.inl ⟨hw,h⟩) hS k
theorem tkB (i:Nat) {oi:Oper} (v:Value) (k:wpAnyH P md ops Q S n (l.setIfInBounds i true) (a.put oi.dst v) w)
  (hi:ops[i]? =some oi:=by rfl) (h:∀u,S u→(execOp a.eval oi).run P u=.ok (.value v) u:=by intro u' hSu;(try simp only[gE]);(first |obtain⟨s0,s1,s2,s3⟩:=hSu |obtain⟨s0,s1,s2⟩:=hSu |obtain⟨s0,s1⟩:=hSu |skip);go_simp) (hs:Region.noSelect ops=true:=by kernel_rfl) (hf:Region.free md ops l i=true:=by kernel_rfl) (hr:(Region.ready md ops l).contains i=true:=by kernel_rfl)
  (hQ:∀c a w,Q (.panic c) (a.put oi.dst v) w→Q (.panic c) a w:=by first |exact fun _ _ _ h=>h |exact fun _ _ _ h=>by cases h.1) (hw:Region.wanted oi (yielded ops a.tmps)=true:=by rfl) (hS:S w:=by assumption):wpAnyH P md ops Q S (n+1) l a w:=
 wpAnyH_take hi hs hf hr hQ (Or.inl ⟨hw,h⟩) hS k
theorem cA {i:Nat} {o:Oper} {rs:List Nat} (h:∀K':Act→World→Prop,Shut (∀a w,S w→(S w→wpAnyH P md ops Q S n (l.setIfInBounds i true) a w)→K' a w)→if Region.wanted o (yielded ops a.tmps)=true then Oper.wp P o a w K' Q else K' (a.put o.dst undef) w) (hs:AllReadyH P md ops Q S n l a w rs) (ho:ops[i]? =some o:=by rfl):AllReadyH P md ops Q S n l a w (i::rs):=AllReadyH.cons ho h hs
theorem nA:AllReadyH P md ops Q S n l a w []:=AllReadyH.nil
theorem rdA (rs:List Nat) (h:AllReadyH P md ops Q S n l a w rs) (hr:Region.ready md ops l=rs:=by kernel_rfl) (hne:rs≠[]:=by simp):wpAnyH P md ops Q S (n+1) l a w:=wpAnyH_ready hr hne h
end
end Go.Proofs.YtgamblainfkiaaaGreatDoor


/- Check of package hidden, of whatever hidden chain. -/
namespace Go.Proofs.YtgamblainfkiaaaGreatDoor
open Go.RowKit Go.Shelf
theorem rws_all {l:List Fr} {R1 R2:List (List Fr)} (h:RwsB l R1 R2):∀r∈[l]++R1++R2,rowB r=true:=fun r hr=>by
 rcases List.mem_append.1 hr with h1 |h1
 ·rcases List.mem_append.1 h1 with h2 |h2
  ·rw[List.mem_singleton.1 h2];exact h.1
  ·exact h.2.1 r h2
 ·exact h.2.2 r h1
theorem rws_of {l:List Fr} {R1 R2:List (List Fr)} (h:∀r∈[l]++R1++R2,rowB r=true):RwsB l R1 R2:=⟨h l (by simp),fun r hr=>h r (by simp[hr]),fun r hr=>h r (by simp[hr])⟩
def matB (R:List (List Fr)) (n m:Nat):Bool:=decide (R.length=n)&&R.all fun r=>decide (r.length=m)
theorem matB_iff {R:List (List Fr)} {n m:Nat}:matB R n m=true↔R.length=n∧∀r∈R,r.length=m:=by
 rw[matB,Bool.and_eq_true,List.all_eq_true,decide_eq_true_eq]
 exact⟨fun h=>⟨h.1,fun r hr=>of_decide_eq_true (h.2 r hr)⟩,fun h=>⟨h.1,fun r hr=>decide_eq_true (h.2 r hr)⟩⟩
set_option maxRecDepth 100000 in
set_option maxHeartbeats 400000 in
theorem isMat1_gen (b:Option Addr) (n c m B:Nat) (w:World) (hc:w.cell? ⟨B,0,none⟩=some (.int .i64 (m:Nat))) (_hn:n≤100000) (hm:m≤100000):
  Calls Tryz.prog 81 #[.slice b n c,.pointer (some ⟨B,0,none⟩)] w fun e w'=>e=.returned (.bool (decide (n≠m)))∧w'=w:=by
 by_cases h:n=m
 ·subst h
  rw[decide_eq_false (by simp)]
  go_enter Tryz.func81,Tryz.ntmps81
  go_wp2
  go_ret
  exact⟨by simp,rfl⟩
 ·rw[decide_eq_true h]
  have h1:((n:Int) !=(m:Int))=true:=by simp;omega
  have h2:¬(n:Int)=(m:Int):=by omega
  go_enter Tryz.func81,Tryz.ntmps81
  go_wp2
  go_ret
  exact⟨by simp,rfl⟩
set_option maxRecDepth 100000 in
set_option maxHeartbeats 400000 in
theorem idxRows_gen (a:Option Addr) (ca m B:Nat) (R:List (List Fr)) (w:World) (h:FsS w a R) (hB:B<w.heap.size) (hc:w.cell? ⟨B,0,none⟩=some (.int .i64 (m:Nat))) (hm:m≤100000) (hl:∀r∈R,r.length≤1000) (hn:R.length≤140737488355328):
  Calls Tryz.prog 111 #[.slice a R.length ca,.func (.func 81) #[] #[.pointer (some ⟨B,0,none⟩)]] w fun e w'=>(∃k:Int,e=.returned (.int .i64 k)∧((k= -1∧∀r∈R,r.length=m)∨(0≤k∧k≤140737488355328∧∃r∈R,r.length≠m)))∧w'=w:=by
 have HF:=hid h
 have HL:=hid hl
 have eF:=enters_of Tryz.func81 (P:=Tryz.prog) (by kernel_rfl) rfl
 have HC:=hid (fun (b:Option Addr) (n c:Nat) (hn:n≤100000)=>isMat1_gen b n c m B w hc hn hm)
 clear h hl
 go_enter Tryz.func111,Tryz.ntmps111
 go_wp2_with fail
 go_loopw [8] (fun iv wr=>∃i:Nat,i≤R.length∧iv=.int .i64 i∧w=wr∧Hid (∀k (h:k<R.length),k<i→R[k].length=m)) (fun iv _=>R.length - (intOf iv).toNat)
 case atStart=>exact⟨0,Nat.zero_le _,rfl,rfl,fun k _ hk=>absurd hk (Nat.not_lt_zero _)⟩
 case round=>
  obtain⟨i,hi,rfl,rfl,HG⟩:=hrel
  by_cases hlt:i<R.length
  ·obtain⟨g,o,b,c,rfl,hg,h0,hfr,hcl⟩:=HF.out i hlt
   have HMI:Hid (R[i]∈R):=List.getElem_mem hlt
   have HCi:=hid (HC.out b R[i].length c (by have:=HL.out _ HMI.out;omega))
   clear hfr hcl
   obtain⟨n,hnn⟩:∃x,R[i].length=x:=⟨_,rfl⟩
   have HNN:=hid hnn
   rw[hnn] at h0 HCi
   clear hnn
   by_cases e:n=m
   ·rw[decide_eq_false (by simp[e])] at HCi
    have HGN:Hid (∀k (h:k<R.length),k<i+1→R[k].length=m):=fun k h hk=>by
     rcases Nat.lt_or_ge k i with h1 |h1
     ·exact HG.out k h h1
     ·obtain rfl:k=i:=by omega
      rw[HNN.out,e]
    clear e
    go_wp2_with fail
    refine HCi.out.mono ?_
    rintro e w2 ⟨rfl,rfl⟩
    go_wp2
    go_roundw
    case rel=>exact⟨i+1,by omega,by go_num,trivial,HGN⟩
    case measure=>simp[intOf];omega
   ·rw[decide_eq_true e] at HCi
    have HE:=hid e
    clear e
    go_wp2_with fail
    refine HCi.out.mono ?_
    rintro e w2 ⟨rfl,rfl⟩
    go_wp2
    go_ret
    exact⟨⟨(i:Int),rfl,.inr ⟨by omega,by omega,R[i],HMI.out,by rw[HNN.out];exact HE.out⟩⟩,rfl⟩
  ·obtain rfl:i=R.length:=by omega
   go_wp2
   go_ret
   exact⟨⟨-1,rfl,.inl ⟨rfl,fun r hr=>by
    obtain⟨k,hk,rfl⟩:=List.getElem_of_mem hr
    exact HG.out k hk hk⟩⟩,rfl⟩
set_option maxRecDepth 100000 in
set_option maxHeartbeats 400000 in
theorem isMatrix_gen (a:Option Addr) (ca n m:Nat) (R:List (List Fr)) (w:World) (h:FsS w a R) (hn:n≤100000) (hn1:R.length≤140737488355328) (hm:m≤100000) (hl:∀r∈R,r.length≤1000):
  Calls Tryz.prog 38 #[.slice a R.length ca,.int .i64 (n:Nat),.int .i64 (m:Nat)] w fun e w'=>e=.returned (.bool (matB R n m))∧Below w.heap.size w w':=by
 have hA:=(Below.refl w.heap.size w).alloc (Nat.le_refl _) (.cells #[.int .i64 (m:Nat)] 3)
 have hx:=Boxed.new w 3 (.int .i64 (m:Nat))
 have HI:=hid (idxRows_gen a ca m w.heap.size R _ (h.below hA) hx.lt hx.cell hm hl hn1)
 have HCO:Hid (Calls Tryz.prog 80 #[.slice a R.length ca,.func (.func 81) #[] #[.pointer (some ⟨w.heap.size,0,none⟩)]] (w.alloc (.cells #[.int .i64 (m:Nat)] 3)) fun e w'=>(∃z:Bool,e=.returned (.bool z)∧(z=false↔∀r∈R,r.length=m))∧w'=(w.alloc (.cells #[.int .i64 (m:Nat)] 3))):=by
  show Calls _ _ _ _ _
  go_enter Tryz.func80,Tryz.ntmps80
  go_wp2_with fail
  refine HI.out.mono ?_
  rintro e w2 ⟨⟨k,rfl,hk⟩,rfl⟩
  rcases hk with ⟨rfl,hall⟩ |⟨hk0,hk1,r,hr,hne⟩
  ·have HAL:=hid hall
   clear hall
   go_wp2
   go_ret
   exact⟨⟨false,rfl,⟨fun _=>HAL.out,fun _=>rfl⟩⟩,rfl⟩
  ·have HNE:Hid (∃r∈R,r.length≠m):=⟨r,hr,hne⟩
   clear hr hne
   go_wp2
   go_ret
   exact⟨⟨true,by simp,⟨fun e=>(by cases e),fun e=>(by obtain⟨r,h1,h2⟩:=HNE.out;exact absurd (e r h1) h2)⟩⟩,rfl⟩
 have HA:=hid hA
 clear h hA hx hl HI
 by_cases hq:R.length=n
 ·have HMB:Hid (matB R n m=R.all fun r=>decide (r.length=m)):=by show _=_;rw[matB,decide_eq_true hq];rfl
  rw[HMB.out]
  obtain⟨bb,hbb⟩:∃x,(R.all fun r=>decide (r.length=m))=x:=⟨_,rfl⟩
  rw[hbb]
  have HBB:Hid (bb=true↔∀r∈R,r.length=m):=by
   show _↔_
   rw[←hbb,List.all_eq_true]
   exact⟨fun h r hr=>of_decide_eq_true (h r hr),fun h r hr=>decide_eq_true (h r hr)⟩
  subst hq
  clear hbb HMB
  go_enter Tryz.func38,Tryz.ntmps38
  go_wp2_with fail
  refine HCO.out.mono ?_
  rintro e w2 ⟨⟨z,rfl,hz⟩,rfl⟩
  have hzb:z=!bb:=by
   cases bb with
   |true=>exact hz.2 (HBB.out.1 rfl)
   |false=>
    cases z with
    |true=>rfl
    |false=>exact absurd (HBB.out.2 (hz.1 rfl)) (by decide)
  subst hzb
  clear hz
  cases bb with
  |true=>
   go_wp2
   go_ret
   exact⟨rfl,HA.out⟩
  |false=>
   go_wp2
   go_ret
   exact⟨rfl,HA.out⟩
 ·have HMB:Hid (matB R n m=false):=by show _=_;rw[matB,decide_eq_false hq];rfl
  rw[HMB.out]
  have h1:((R.length:Int)==(n:Int))=false:=by simp;omega
  have h2:¬(R.length:Int)=(n:Int):=by omega
  go_enter Tryz.func38,Tryz.ntmps38
  go_wp2
  go_ret
  exact⟨rfl,HA.out⟩
set_option maxRecDepth 100000 in
set_option maxHeartbeats 400000 in
theorem isCount_gen (n:Nat) (w:World) (hn:n≤100000):
  Calls Tryz.prog 37 #[.int .i64 (n:Nat)] w fun e w'=>e=.returned (.bool (decide (1≤n∧n≤4)))∧w'=w:=by
 by_cases h1:1≤n
 ·by_cases h2:n≤4
  ·rw[decide_eq_true ⟨h1,h2⟩]
   exact isCount_yes n w h1 h2
  ·rw[decide_eq_false fun h=>h2 h.2]
   have q1:(1:Int)≤(n:Int):=by omega
   have q2:¬(n:Int)≤4:=by omega
   go_enter Tryz.func37,Tryz.ntmps37
   go_wp2
   go_ret
   exact⟨by first |rfl |(simp;omega),rfl⟩
 ·rw[decide_eq_false fun h=>h1 h.1]
  have q1:¬(1:Int)≤(n:Int):=by omega
  go_enter Tryz.func37,Tryz.ntmps37
  go_wp2
  go_ret
  exact⟨by first |rfl |(simp;omega),rfl⟩
set_option maxRecDepth 100000 in
set_option maxHeartbeats 400000 in
theorem signs_gen (a b c:Option Addr) (n1 n2 ca cb cc:Nat) (R:List (List Fr)) (w:World) (hR:FsS w c R) (h1:0<R.length) (_hn:R.length≤140737488355328) (hl:∀r∈R,r.length≤1000):
  Calls Tryz.prog 39 #[.agg #[.slice a n1 ca,.slice b n2 cb,.slice c R.length cc]] w fun e w'=>e=.returned (.int .i64 ((R.headD []).length:Nat))∧Below w.heap.size w w':=by
 have hA:=(Below.refl w.heap.size w).alloc (Nat.le_refl _) (HC3 (.slice a n1 ca) (.slice b n2 cb) (.slice c R.length cc))
 obtain⟨g,o,b',c',rfl,hg,r0, -⟩:=(hR.below hA).raw' h1
 rw[←head_at h1,Nat.add_zero] at r0
 have hm:=hl (R.headD []) (by rw[head_at h1];exact List.getElem_mem h1)
 obtain⟨e0,e1,e2⟩:=(HBox.new w (.slice a n1 ca) (.slice b n2 cb) (.slice (some ⟨g,o,none⟩) R.length cc)).cells
 have HA:=hid hA
 clear hR hA hl
 obtain⟨m,hm'⟩:∃x,(R.headD []).length=x:=⟨_,rfl⟩
 rw[hm'] at r0 hm⊢
 clear hm'
 obtain⟨k,hk⟩:∃x,R.length=x:=⟨_,rfl⟩
 rw[hk] at h1 HA r0 e0 e1 e2⊢
 clear hk
 go_enter Tryz.func39,Tryz.ntmps39
 go_wp2
 go_ret
 exact⟨rfl,HA.out⟩
theorem FsS.valsI {w:World} {a:Option Addr} {R:List (List Fr)} (h:FsS w a R):∃X:List Value,X.length=R.length∧VaS w a X∧∀k (hk:k<X.length) (hk':k<R.length),∃b c,X[k]=.slice b R[k].length c∧FrS w b R[k]:=by
 let at':Nat→Value:=fun k=>match a with
  |some p=>(w.cell? ⟨p.block,p.off+k,none⟩).getD (.slice none 0 0)
  |none=>.slice none 0 0
 have key:∀k (hk:k<R.length),∃g o b c,a=some ⟨g,o,none⟩∧g<w.heap.size∧w.cell? ⟨g,o+k,none⟩=some (at' k)∧at' k=.slice b R[k].length c∧FrS w b R[k]:=fun k hk=>by
  obtain⟨g,o,b,c,rfl,hg,h3,h4, -⟩:=h k hk
  have e:at' k=.slice b R[k].length c:=by simp only[at',h3,Option.getD_some]
  exact⟨g,o,b,c,rfl,hg,by rw[e];exact h3,e,h4⟩
 refine⟨(List.range R.length).map at',by simp,fun k hk=>?_,fun k hk hk'=>?_⟩
 ·have hk':k<R.length:=by simpa using hk
  obtain⟨g,o,b,c,h1,h2,h3,h4, -⟩:=key k hk'
  have e:((List.range R.length).map at')[k]=at' k:=by simp
  rw[e]
  exact⟨g,o,h1,h2,h3,b,_,c,h4⟩
 ·obtain⟨g,o,b,c,h1,h2,h3,h4,h5⟩:=key k hk'
  simp only[List.getElem_map,List.getElem_range]
  exact⟨b,c,h4,h5⟩
theorem hx_all {w:World} {a:Option Addr} {ca:Nat} {l:List Fr} {R1 R2:List (List Fr)} {X1 X2:List Value} (hl:FrS w a l) (h1:X1.length=R1.length) (i1:∀k (hk:k<X1.length) (hk':k<R1.length),∃b c,X1[k]=.slice b R1[k].length c∧FrS w b R1[k]) (h2:X2.length=R2.length) (i2:∀k (hk:k<X2.length) (hk':k<R2.length),∃b c,X2[k]=.slice b R2[k].length c∧FrS w b R2[k]):∀k (h:k<([.slice a l.length ca]++X1++X2:List Value).length),∃(b':Option Addr) (r:List Fr) (c':Nat),([.slice a l.length ca]++X1++X2:List Value)[k]=.slice b' r.length c'∧FrS w b' r∧([l]++R1++R2)[k]? =some r∧r∈[l]++R1++R2:=fun k h=>by
 have hlen:k<1+X1.length+X2.length:=by simpa [Nat.add_comm,Nat.add_left_comm,Nat.add_assoc] using h
 rcases Nat.lt_or_ge k 1 with hk |hk
 ·obtain rfl:k=0:=by omega
  exact⟨a,l,ca,by simp,hl,by simp,by simp⟩
 ·rcases Nat.lt_or_ge k (1+X1.length) with hk2 |hk2
  ·obtain⟨j,rfl⟩:∃j,k=j+1:=⟨k - 1,by omega⟩
   have hj1:j<X1.length:=by omega
   have hj2:j<R1.length:=by omega
   obtain⟨b,c,e1,e2⟩:=i1 j hj1 hj2
   refine⟨b,R1[j],c,?_,e2,?_,by simp⟩
   ·rw[←e1];simp[hj1]
   ·simp[List.getElem?_append,hj2]
  ·obtain⟨j,rfl⟩:∃j,k=j+1+X1.length:=⟨k - 1 - X1.length,by omega⟩
   have hj1:j<X2.length:=by omega
   have hj2:j<R2.length:=by omega
   obtain⟨b,c,e1,e2⟩:=i2 j hj1 hj2
   refine⟨b,R2[j],c,?_,e2,?_,by simp⟩
   ·rw[←e1]
    rw[List.getElem_append_right (by simp;omega)]
    congr 1
    simp
    omega
   ·rw[List.getElem?_append_right (by simp;omega)]
    have e:j+1+X1.length - ([l]++R1).length=j:=by simp;omega
    rw[e]
    exact List.getElem?_eq_getElem hj2
set_option maxRecDepth 100000 in
set_option maxHeartbeats 4000000 in
theorem hiCheck_gen (a b c:Option Addr) (ca cb cc:Nat) (l:List Fr) (R1 R2:List (List Fr)) (w:World) (h:HidM w a b c l R1 R2) (hs:HidS l R1 R2) (hb0:b=none→cb=0) (hc0:c=none→cc=0):
  Calls Tryz.prog 8 #[.agg #[.slice a l.length ca,.slice b R1.length cb,.slice c R2.length cc]] w fun e w'=>(∃x,e=.returned (.int .i64 x)∧HidE l R1 R2 x)∧Below w.heap.size w w':=by
 obtain⟨X1,hxl1,hx1,hxi1⟩:=h.mv.valsI
 obtain⟨X2,hxl2,hx2,hxi2⟩:=h.sh.valsI
 have HX1:=hid hx1
 have HX2:=hid hx2
 have HXL1:Hid (X1.length=R1.length):=hxl1
 have HXL2:Hid (X2.length=R2.length):=hxl2
 have HXI:Hid (∀k (h:k<([.slice a l.length ca]++X1++X2:List Value).length),∃(b':Option Addr) (r:List Fr) (c':Nat),([.slice a l.length ca]++X1++X2:List Value)[k]=.slice b' r.length c'∧FrS w b' r∧([l]++R1++R2)[k]? =some r∧r∈[l]++R1++R2):=hx_all h.st hxl1 hxi1 hxl2 hxi2
 have HRS:Hid (∀r∈[l]++R1++R2,Go.Proofs.YtgamblainfkiaaaGreatDoor.fw r≤10000∧r.length≤1000):=fun r hr=>by
  rcases List.mem_append.1 hr with h1 |h1
  ·rcases List.mem_append.1 h1 with h2 |h2
   ·rw[List.mem_singleton.1 h2];exact⟨hs.f1,hs.l1⟩
   ·exact⟨hs.f2 r h2,hs.r1 r h2⟩
  ·exact⟨hs.f3 r h1,hs.r2 r h1⟩
 have HNI1:=hid hb0
 have HNI2:=hid hc0
 have hl1:=hs.l1
 have hl2:=hs.l2
 have hl3:=hs.l3
 have HNO:Hid (¬ShpB l R1 R2→HidE l R1 R2 8):=fun hn=>.inr (.inr ⟨rfl,hn⟩)
 have HIC0:=hid (fun V:World=>isCount_gen l.length V (by omega))
 have HIM1:=hid (fun (V:World) (hV:Below w.heap.size w V)=>isMatrix_gen b cb l.length l.length R1 V (h.mv.below hV) (by omega) hl2 (by omega) hs.r1)
 have HSG0:=hid (fun (h0:0<R2.length) (V:World) (hV:Below w.heap.size w V)=>signs_gen a b c l.length R1.length ca cb cc R2 V (h.sh.below hV) h0 hl3 hs.r2)
 have HMB:Hid (0<R2.length→(R2.headD []).length≤1000):=fun h0=>hs.r2 (R2.headD []) (by rw[head_at h0];exact List.getElem_mem h0)
 have HIM20:=hid (fun (h0:0<R2.length) (V:World) (hV:Below w.heap.size w V)=>isMatrix_gen c cc l.length (R2.headD []).length R2 V (h.sh.below hV) (by omega) hl3 (by have:=HMB.out h0;omega) hs.r2)
 clear h hs hb0 hc0 hxl1 hxl2 hx1 hx2 hxi1 hxi2
 obtain⟨n,hn⟩:∃x,l.length=x:=⟨_,rfl⟩
 obtain⟨n2,hn2⟩:∃x,R1.length=x:=⟨_,rfl⟩
 obtain⟨n3,hn3⟩:∃x,R2.length=x:=⟨_,rfl⟩
 have HN:=hid hn
 have HN2:=hid hn2
 have HN3:=hid hn3
 have HXI2:Hid (∀k (h:k<([.slice a n ca]++X1++X2:List Value).length),∃(b':Option Addr) (r:List Fr) (c':Nat),([.slice a n ca]++X1++X2:List Value)[k]=.slice b' r.length c'∧FrS w b' r∧([l]++R1++R2)[k]? =some r∧r∈[l]++R1++R2):=by
  rw[←hn]
  exact HXI.out
 clear HXI
 have HXI:=HXI2
 clear HXI2
 simp only[hn,hn2,hn3] at hl1 hl2 hl3 HXL1 HXL2 HIC0 HIM1 HSG0 HMB HIM20⊢
 clear hn hn2 hn3
 have hA:=(Below.refl w.heap.size w).alloc (Nat.le_refl _) (HC3 (.slice a n ca) (.slice b n2 cb) (.slice c n3 cc))
 have hHB:=HBox.new w (.slice a n ca) (.slice b n2 cb) (.slice c n3 cc)
 obtain⟨e0,e1,e2⟩:=hHB.cells
 by_cases q1:1≤n∧n≤4
 case neg=>
  rw[decide_eq_false q1] at HIC0
  go_enter Tryz.func8,Tryz.ntmps8
  go_wp2_with fail
  generalize (w.alloc (HC3 (.slice a n ca) (.slice b n2 cb) (.slice c n3 cc)))=W at *
  refine(HIC0.out _).mono ?_
  rintro e w1 ⟨rfl,rfl⟩
  have HAE:=hid hA
  go_wp2
  go_ret
  exact⟨⟨8,rfl,HNO.out fun hb=>q1 (by have h1:=hb.1;have h2:=hb.2.1;rw[HN.out] at h1 h2;exact⟨h1,h2⟩)⟩,HAE.out⟩
 rw[decide_eq_true q1] at HIC0
 obtain⟨hn1,hn4⟩:=q1
 cases hq2:matB R1 n n with
 |false=>
  rw[hq2] at HIM1
  go_enter Tryz.func8,Tryz.ntmps8
  go_wp2_with fail
  generalize (w.alloc (HC3 (.slice a n ca) (.slice b n2 cb) (.slice c n3 cc)))=W at *
  refine(HIC0.out _).mono ?_
  rintro e w1 ⟨rfl,rfl⟩
  go_wp2_with fail
  refine(HIM1.out _ hA).mono ?_
  rintro e w2 ⟨rfl,hb2⟩
  have HAE:=hid (hA.trans (hb2.mono hA.size))
  go_wp2
  go_ret
  exact⟨⟨8,rfl,HNO.out fun hb=>by
   have h9:matB R1 n n=true:=matB_iff.2 ⟨by rw[←HN.out];exact hb.2.2.1,by rw[←HN.out];exact hb.2.2.2.2.2.2.1⟩
   rw[hq2] at h9
   cases h9⟩,HAE.out⟩
 |true=>
  rw[hq2] at HIM1
  have HQ2:=hid (matB_iff.1 hq2)
  clear hq2
  have HN2N:Hid (n2=n):=by show _=_;rw[←HN2.out];exact HQ2.out.1
  go_enter Tryz.func8,Tryz.ntmps8
  go_wp2_with fail
  generalize (w.alloc (HC3 (.slice a n ca) (.slice b n2 cb) (.slice c n3 cc)))=W at *
  refine(HIC0.out _).mono ?_
  rintro e w1 ⟨rfl,rfl⟩
  go_wp2_with fail
  refine(HIM1.out _ hA).mono ?_
  rintro e w2 ⟨rfl,hb2⟩
  replace hHB:=hHB.below hb2 hHB.lt
  replace hA:=hA.trans (hb2.mono hA.size)
  clear hb2 e0 e1 e2
  go_upto_region 3 with fail
  have HELD:Hid (∀u,Below w2.heap.size w2 u→u.cell? ⟨w.heap.size,0,none⟩=some (.slice a n ca)∧u.cell? ⟨w.heap.size,1,none⟩=some (.slice b n2 cb)∧u.cell? ⟨w.heap.size,2,none⟩=some (.slice c n3 cc)):=fun u h=>(hHB.below h hHB.lt).cells
  have HB:Hid (Below w2.heap.size w2 w2.drew):=(Below.refl _ w2).drew
  refine wp_region_held_drew (S:=fun u=>u.cell? ⟨w.heap.size,0,none⟩=some (.slice a n ca)∧u.cell? ⟨w.heap.size,1,none⟩=some (.slice b n2 cb)∧u.cell? ⟨w.heap.size,2,none⟩=some (.slice c n3 cc)) (by kernel_rfl) (HELD.out _ HB.out) (fun hSd=>?_)
  generalize w2.drew=u0 at *
  by_cases q3:n3=n
  case neg=>
   have HBAD:Hid (¬ShpB l R1 R2):=fun hb=>q3 (by have h1:=hb.2.2.2.1;rw[HN.out,HN3.out] at h1;exact h1)
   have p3:((n3:Int) !=(n:Int))=true:=by simp;omega
   have p3':¬(n3:Int)=(n:Int):=by omega
   refine tkB 0 (.pointer (some ⟨w.heap.size,2,none⟩)) ?_
   try simp only[gE,aP]
   refine tkB 1 (.slice c n3 cc) ?_
   try simp only[gE,aP]
   refine tkB 2 (.int .i64 (n3:Nat)) ?_
   try simp only[gE,aP]
   refine tkB 3 (.pointer (some ⟨w.heap.size,0,none⟩)) ?_
   try simp only[gE,aP]
   refine tkB 4 (.slice a n ca) ?_
   try simp only[gE,aP]
   refine tkB 5 (.int .i64 (n:Nat)) ?_
   try simp only[gE,aP]
   refine tkB 6 (.bool true) ?_
   try simp only[gE,aP]
   refine tkB 7 (.bool true) ?_
   try simp only[gE,aP]
   refine wpAnyH_take (i:=8) (oi:=_) (v:=undef) rfl (by kernel_rfl) (by kernel_rfl) (by kernel_rfl) (fun _ _ _ h=>h) (Or.inr ⟨by rfl,rfl⟩) (by assumption) ?_
   try simp only[gE,aP]
   refine wpAnyH_take (i:=9) (oi:=_) (v:=undef) rfl (by kernel_rfl) (by kernel_rfl) (by kernel_rfl) (fun _ _ _ h=>h) (Or.inr ⟨by rfl,rfl⟩) (by assumption) ?_
   try simp only[gE,aP]
   refine wpAnyH_take (i:=10) (oi:=_) (v:=undef) rfl (by kernel_rfl) (by kernel_rfl) (by kernel_rfl) (fun _ _ _ h=>h) (Or.inr ⟨by rfl,rfl⟩) (by assumption) ?_
   try simp only[gE,aP]
   refine wpAnyH_take (i:=11) (oi:=_) (v:=undef) rfl (by kernel_rfl) (by kernel_rfl) (by kernel_rfl) (fun _ _ _ h=>h) (Or.inr ⟨by rfl,rfl⟩) (by assumption) ?_
   try simp only[gE,aP]
   refine tkB 12 (.bool true) ?_
   try simp only[gE,aP]
   refine tkB 13 (.bool true) ?_
   try simp only[gE,aP]
   refine wpAnyH_take (i:=14) (oi:=_) (v:=undef) rfl (by kernel_rfl) (by kernel_rfl) (by kernel_rfl) (fun _ _ _ h=>h) (Or.inr ⟨by rfl,rfl⟩) (by assumption) ?_
   try simp only[gE,aP]
   refine wpAnyH_take (i:=15) (oi:=_) (v:=undef) rfl (by kernel_rfl) (by kernel_rfl) (by kernel_rfl) (fun _ _ _ h=>h) (Or.inr ⟨by rfl,rfl⟩) (by assumption) ?_
   try simp only[gE,aP]
   refine wpAnyH_take (i:=16) (oi:=_) (v:=undef) rfl (by kernel_rfl) (by kernel_rfl) (by kernel_rfl) (fun _ _ _ h=>h) (Or.inr ⟨by rfl,rfl⟩) (by assumption) ?_
   try simp only[gE,aP]
   refine wpAnyH_take (i:=17) (oi:=_) (v:=undef) rfl (by kernel_rfl) (by kernel_rfl) (by kernel_rfl) (fun _ _ _ h=>h) (Or.inr ⟨by rfl,rfl⟩) (by assumption) ?_
   try simp only[gE,aP]
   refine wpAnyH_take (i:=18) (oi:=_) (v:=undef) rfl (by kernel_rfl) (by kernel_rfl) (by kernel_rfl) (fun _ _ _ h=>h) (Or.inr ⟨by rfl,rfl⟩) (by assumption) ?_
   try simp only[gE,aP]
   refine wpAnyH_take (i:=19) (oi:=_) (v:=undef) rfl (by kernel_rfl) (by kernel_rfl) (by kernel_rfl) (fun _ _ _ h=>h) (Or.inr ⟨by rfl,rfl⟩) (by assumption) ?_
   try simp only[gE,aP]
   refine wpAnyH_take (i:=20) (oi:=_) (v:=undef) rfl (by kernel_rfl) (by kernel_rfl) (by kernel_rfl) (fun _ _ _ h=>h) (Or.inr ⟨by rfl,rfl⟩) (by assumption) ?_
   try simp only[gE,aP]
   refine wpAnyH_take (i:=21) (oi:=_) (v:=undef) rfl (by kernel_rfl) (by kernel_rfl) (by kernel_rfl) (fun _ _ _ h=>h) (Or.inr ⟨by rfl,rfl⟩) (by assumption) ?_
   try simp only[gE,aP]
   refine wpAnyH_take (i:=22) (oi:=_) (v:=undef) rfl (by kernel_rfl) (by kernel_rfl) (by kernel_rfl) (fun _ _ _ h=>h) (Or.inr ⟨by rfl,rfl⟩) (by assumption) ?_
   try simp only[gE,aP]
   refine tkB 23 (.bool true) ?_
   try simp only[gE,aP]
   refine wpAnyH_done (by kernel_rfl) ?_ _
   clear hSd
   have HBE:=hid (hA.trans (HB.out.mono hA.size))
   go_wp2
   go_ret
   exact⟨⟨8,rfl,HNO.out HBAD.out⟩,HBE.out⟩
  have h0:0<n3:=by omega
  have HN3N:=hid q3
  have p3:((n3:Int) !=(n:Int))=false:=by simp;omega
  clear q3
  have HSG:Hid (∀V:World,Below w2.heap.size w2 V→Calls Tryz.prog 39 #[.agg #[.slice a n ca,.slice b n2 cb,.slice c n3 cc]] V fun e w'=>e=.returned (.int .i64 ((R2.headD []).length:Nat))∧Below V.heap.size V w'):=fun V hV=>HSG0.out h0 V (hA.trans (hV.mono hA.size))
  have HIM2:Hid (∀V:World,Below w2.heap.size w2 V→Calls Tryz.prog 38 #[.slice c n3 cc,.int .i64 (n:Nat),.int .i64 ((R2.headD []).length:Nat)] V fun e w'=>e=.returned (.bool (matB R2 n (R2.headD []).length))∧Below V.heap.size V w'):=fun V hV=>HIM20.out h0 V (hA.trans (hV.mono hA.size))
  have hm1000:=HMB.out h0
  obtain⟨m,hm⟩:∃x,(R2.headD []).length=x:=⟨_,rfl⟩
  have HM:=hid hm
  rw[hm] at HSG HIM2 hm1000
  clear hm HSG0 HIM20 HMB
  by_cases q4:1≤m∧m≤4
  case neg=>
   have HBAD:Hid (¬ShpB l R1 R2):=fun hb=>q4 (by have h1:=hb.2.2.2.2.1;have h2:=hb.2.2.2.2.2.1;rw[HM.out] at h1 h2;exact⟨h1,h2⟩)
   have HIC:Hid (∀V:World,Calls Tryz.prog 37 #[.int .i64 (m:Nat)] V fun e w'=>e=.returned (.bool false)∧Below V.heap.size V w'):=fun V=>by
    have h9:=isCount_gen m V (by omega)
    rw[decide_eq_false q4] at h9
    exact h9.mono (fun e w' ⟨h1,h2⟩=>⟨h1,by rw[h2];exact Below.refl _ _⟩)
   refine tkB 0 (.pointer (some ⟨w.heap.size,2,none⟩)) ?_
   try simp only[gE,aP]
   refine tkB 1 (.slice c n3 cc) ?_
   try simp only[gE,aP]
   refine tkB 2 (.int .i64 (n3:Nat)) ?_
   try simp only[gE,aP]
   refine tkB 3 (.pointer (some ⟨w.heap.size,0,none⟩)) ?_
   try simp only[gE,aP]
   refine tkB 4 (.slice a n ca) ?_
   try simp only[gE,aP]
   refine tkB 5 (.int .i64 (n:Nat)) ?_
   try simp only[gE,aP]
   refine tkB 6 (.bool false) ?_
   try simp only[gE,aP]
   refine tkB 7 (.bool false) ?_
   try simp only[gE,aP]
   refine tkB 8 (.agg #[.slice a n ca,.slice b n2 cb,.slice c n3 cc]) ?_
   try simp only[gE,aP]
   refine rdA [9] (cA ?_ AllReadyH.nil)
   ·intro K' hK'
    go_simp
    refine(HSG.out _ HB.out).mono ?_
    rintro e u1 ⟨rfl,hb⟩
    replace HB:=hid (HB.out.trans (hb.mono HB.out.size))
    refine hK'.out _ _ (HELD.out _ HB.out) (fun hSe=>?_)
    clear hK' K' hSd
    have hSd:=hSe
    clear hSe hb
    try simp only[gE,aP]
    refine rdA [10] (cA ?_ AllReadyH.nil)
    ·intro K' hK'
     go_simp
     refine(HIC.out _).mono ?_
     rintro e u2 ⟨rfl,hb⟩
     replace HB:=hid (HB.out.trans (hb.mono HB.out.size))
     refine hK'.out _ _ (HELD.out _ HB.out) (fun hSe=>?_)
     clear hK' K' hSd
     have hSd:=hSe
     clear hSe hb
     try simp only[gE,aP]
     refine tkB 11 (.bool true) ?_
     try simp only[gE,aP]
     refine tkB 12 (.bool true) ?_
     try simp only[gE,aP]
     refine tkB 13 (.bool true) ?_
     try simp only[gE,aP]
     refine wpAnyH_take (i:=14) (oi:=_) (v:=undef) rfl (by kernel_rfl) (by kernel_rfl) (by kernel_rfl) (fun _ _ _ h=>h) (Or.inr ⟨by rfl,rfl⟩) (by assumption) ?_
     try simp only[gE,aP]
     refine wpAnyH_take (i:=15) (oi:=_) (v:=undef) rfl (by kernel_rfl) (by kernel_rfl) (by kernel_rfl) (fun _ _ _ h=>h) (Or.inr ⟨by rfl,rfl⟩) (by assumption) ?_
     try simp only[gE,aP]
     refine wpAnyH_take (i:=16) (oi:=_) (v:=undef) rfl (by kernel_rfl) (by kernel_rfl) (by kernel_rfl) (fun _ _ _ h=>h) (Or.inr ⟨by rfl,rfl⟩) (by assumption) ?_
     try simp only[gE,aP]
     refine wpAnyH_take (i:=17) (oi:=_) (v:=undef) rfl (by kernel_rfl) (by kernel_rfl) (by kernel_rfl) (fun _ _ _ h=>h) (Or.inr ⟨by rfl,rfl⟩) (by assumption) ?_
     try simp only[gE,aP]
     refine wpAnyH_take (i:=18) (oi:=_) (v:=undef) rfl (by kernel_rfl) (by kernel_rfl) (by kernel_rfl) (fun _ _ _ h=>h) (Or.inr ⟨by rfl,rfl⟩) (by assumption) ?_
     try simp only[gE,aP]
     refine wpAnyH_take (i:=19) (oi:=_) (v:=undef) rfl (by kernel_rfl) (by kernel_rfl) (by kernel_rfl) (fun _ _ _ h=>h) (Or.inr ⟨by rfl,rfl⟩) (by assumption) ?_
     try simp only[gE,aP]
     refine wpAnyH_take (i:=20) (oi:=_) (v:=undef) rfl (by kernel_rfl) (by kernel_rfl) (by kernel_rfl) (fun _ _ _ h=>h) (Or.inr ⟨by rfl,rfl⟩) (by assumption) ?_
     try simp only[gE,aP]
     refine wpAnyH_take (i:=21) (oi:=_) (v:=undef) rfl (by kernel_rfl) (by kernel_rfl) (by kernel_rfl) (fun _ _ _ h=>h) (Or.inr ⟨by rfl,rfl⟩) (by assumption) ?_
     try simp only[gE,aP]
     refine wpAnyH_take (i:=22) (oi:=_) (v:=undef) rfl (by kernel_rfl) (by kernel_rfl) (by kernel_rfl) (fun _ _ _ h=>h) (Or.inr ⟨by rfl,rfl⟩) (by assumption) ?_
     try simp only[gE,aP]
     refine tkB 23 (.bool true) ?_
     try simp only[gE,aP]
     refine wpAnyH_done (by kernel_rfl) ?_ _
     clear hSd
     have HBE:=hid (hA.trans (HB.out.mono hA.size))
     go_wp2
     go_ret
     exact⟨⟨8,rfl,HNO.out HBAD.out⟩,HBE.out⟩
  have HIC:Hid (∀V:World,Calls Tryz.prog 37 #[.int .i64 (m:Nat)] V fun e w'=>e=.returned (.bool true)∧Below V.heap.size V w'):=fun V=>(isCount_yes m V q4.1 q4.2).mono (fun e w' ⟨h1,h2⟩=>⟨h1,by rw[h2];exact Below.refl _ _⟩)
  cases hq5:matB R2 n m with
  |false=>
   rw[hq5] at HIM2
   have HBAD:Hid (¬ShpB l R1 R2):=fun hb=>by
    have h9:matB R2 n m=true:=matB_iff.2 ⟨by rw[←HN.out];exact hb.2.2.2.1,by rw[←HM.out];exact hb.2.2.2.2.2.2.2⟩
    rw[hq5] at h9
    cases h9
   clear hq5
   refine tkB 0 (.pointer (some ⟨w.heap.size,2,none⟩)) ?_
   try simp only[gE,aP]
   refine tkB 1 (.slice c n3 cc) ?_
   try simp only[gE,aP]
   refine tkB 2 (.int .i64 (n3:Nat)) ?_
   try simp only[gE,aP]
   refine tkB 3 (.pointer (some ⟨w.heap.size,0,none⟩)) ?_
   try simp only[gE,aP]
   refine tkB 4 (.slice a n ca) ?_
   try simp only[gE,aP]
   refine tkB 5 (.int .i64 (n:Nat)) ?_
   try simp only[gE,aP]
   refine tkB 6 (.bool false) ?_
   try simp only[gE,aP]
   refine tkB 7 (.bool false) ?_
   try simp only[gE,aP]
   refine tkB 8 (.agg #[.slice a n ca,.slice b n2 cb,.slice c n3 cc]) ?_
   try simp only[gE,aP]
   refine rdA [9] (cA ?_ AllReadyH.nil)
   ·intro K' hK'
    go_simp
    refine(HSG.out _ HB.out).mono ?_
    rintro e u1 ⟨rfl,hb⟩
    replace HB:=hid (HB.out.trans (hb.mono HB.out.size))
    refine hK'.out _ _ (HELD.out _ HB.out) (fun hSe=>?_)
    clear hK' K' hSd
    have hSd:=hSe
    clear hSe hb
    try simp only[gE,aP]
    refine rdA [10] (cA ?_ AllReadyH.nil)
    ·intro K' hK'
     go_simp
     refine(HIC.out _).mono ?_
     rintro e u2 ⟨rfl,hb⟩
     replace HB:=hid (HB.out.trans (hb.mono HB.out.size))
     refine hK'.out _ _ (HELD.out _ HB.out) (fun hSe=>?_)
     clear hK' K' hSd
     have hSd:=hSe
     clear hSe hb
     try simp only[gE,aP]
     refine tkB 11 (.bool false) ?_
     try simp only[gE,aP]
     refine tkB 12 (.bool false) ?_
     try simp only[gE,aP]
     refine tkB 13 (.bool false) ?_
     try simp only[gE,aP]
     refine tkB 14 (.pointer (some ⟨w.heap.size,2,none⟩)) ?_
     try simp only[gE,aP]
     refine tkB 15 (.slice c n3 cc) ?_
     try simp only[gE,aP]
     refine tkB 16 (.pointer (some ⟨w.heap.size,0,none⟩)) ?_
     try simp only[gE,aP]
     refine tkB 17 (.slice a n ca) ?_
     try simp only[gE,aP]
     refine tkB 18 (.int .i64 (n:Nat)) ?_
     try simp only[gE,aP]
     refine tkB 19 (.agg #[.slice a n ca,.slice b n2 cb,.slice c n3 cc]) ?_
     try simp only[gE,aP]
     refine rdA [20] (cA ?_ AllReadyH.nil)
     ·intro K' hK'
      go_simp
      refine(HSG.out _ HB.out).mono ?_
      rintro e u3 ⟨rfl,hb⟩
      replace HB:=hid (HB.out.trans (hb.mono HB.out.size))
      refine hK'.out _ _ (HELD.out _ HB.out) (fun hSe=>?_)
      clear hK' K' hSd
      have hSd:=hSe
      clear hSe hb
      try simp only[gE,aP]
      refine rdA [21] (cA ?_ AllReadyH.nil)
      ·intro K' hK'
       go_simp
       refine(HIM2.out _ HB.out).mono ?_
       rintro e u4 ⟨rfl,hb⟩
       replace HB:=hid (HB.out.trans (hb.mono HB.out.size))
       refine hK'.out _ _ (HELD.out _ HB.out) (fun hSe=>?_)
       clear hK' K' hSd
       have hSd:=hSe
       clear hSe hb
       try simp only[gE,aP]
       refine tkB 22 (.bool true) ?_
       try simp only[gE,aP]
       refine tkB 23 (.bool true) ?_
       try simp only[gE,aP]
       refine wpAnyH_done (by kernel_rfl) ?_ _
       clear hSd
       have HBE:=hid (hA.trans (HB.out.mono hA.size))
       go_wp2
       go_ret
       exact⟨⟨8,rfl,HNO.out HBAD.out⟩,HBE.out⟩
  |true=>
   rw[hq5] at HIM2
   have HQ5:=hid (matB_iff.1 hq5)
   clear hq5
   have HSH:Hid (ShpB l R1 R2):=⟨by rw[HN.out];exact hn1,by rw[HN.out];exact hn4,by rw[HN.out];exact HQ2.out.1,by rw[HN.out];exact HQ5.out.1,by rw[HM.out];exact q4.1,by rw[HM.out];exact q4.2,by rw[HN.out];exact HQ2.out.2,by rw[HM.out];exact HQ5.out.2⟩
   refine tkB 0 (.pointer (some ⟨w.heap.size,2,none⟩)) ?_
   try simp only[gE,aP]
   refine tkB 1 (.slice c n3 cc) ?_
   try simp only[gE,aP]
   refine tkB 2 (.int .i64 (n3:Nat)) ?_
   try simp only[gE,aP]
   refine tkB 3 (.pointer (some ⟨w.heap.size,0,none⟩)) ?_
   try simp only[gE,aP]
   refine tkB 4 (.slice a n ca) ?_
   try simp only[gE,aP]
   refine tkB 5 (.int .i64 (n:Nat)) ?_
   try simp only[gE,aP]
   refine tkB 6 (.bool false) ?_
   try simp only[gE,aP]
   refine tkB 7 (.bool false) ?_
   try simp only[gE,aP]
   refine tkB 8 (.agg #[.slice a n ca,.slice b n2 cb,.slice c n3 cc]) ?_
   try simp only[gE,aP]
   refine rdA [9] (cA ?_ AllReadyH.nil)
   ·intro K' hK'
    go_simp
    refine(HSG.out _ HB.out).mono ?_
    rintro e u1 ⟨rfl,hb⟩
    replace HB:=hid (HB.out.trans (hb.mono HB.out.size))
    refine hK'.out _ _ (HELD.out _ HB.out) (fun hSe=>?_)
    clear hK' K' hSd
    have hSd:=hSe
    clear hSe hb
    try simp only[gE,aP]
    refine rdA [10] (cA ?_ AllReadyH.nil)
    ·intro K' hK'
     go_simp
     refine(HIC.out _).mono ?_
     rintro e u2 ⟨rfl,hb⟩
     replace HB:=hid (HB.out.trans (hb.mono HB.out.size))
     refine hK'.out _ _ (HELD.out _ HB.out) (fun hSe=>?_)
     clear hK' K' hSd
     have hSd:=hSe
     clear hSe hb
     try simp only[gE,aP]
     refine tkB 11 (.bool false) ?_
     try simp only[gE,aP]
     refine tkB 12 (.bool false) ?_
     try simp only[gE,aP]
     refine tkB 13 (.bool false) ?_
     try simp only[gE,aP]
     refine tkB 14 (.pointer (some ⟨w.heap.size,2,none⟩)) ?_
     try simp only[gE,aP]
     refine tkB 15 (.slice c n3 cc) ?_
     try simp only[gE,aP]
     refine tkB 16 (.pointer (some ⟨w.heap.size,0,none⟩)) ?_
     try simp only[gE,aP]
     refine tkB 17 (.slice a n ca) ?_
     try simp only[gE,aP]
     refine tkB 18 (.int .i64 (n:Nat)) ?_
     try simp only[gE,aP]
     refine tkB 19 (.agg #[.slice a n ca,.slice b n2 cb,.slice c n3 cc]) ?_
     try simp only[gE,aP]
     refine rdA [20] (cA ?_ AllReadyH.nil)
     ·intro K' hK'
      go_simp
      refine(HSG.out _ HB.out).mono ?_
      rintro e u3 ⟨rfl,hb⟩
      replace HB:=hid (HB.out.trans (hb.mono HB.out.size))
      refine hK'.out _ _ (HELD.out _ HB.out) (fun hSe=>?_)
      clear hK' K' hSd
      have hSd:=hSe
      clear hSe hb
      try simp only[gE,aP]
      refine rdA [21] (cA ?_ AllReadyH.nil)
      ·intro K' hK'
       go_simp
       refine(HIM2.out _ HB.out).mono ?_
       rintro e u4 ⟨rfl,hb⟩
       replace HB:=hid (HB.out.trans (hb.mono HB.out.size))
       refine hK'.out _ _ (HELD.out _ HB.out) (fun hSe=>?_)
       clear hK' K' hSd
       have hSd:=hSe
       clear hSe hb
       try simp only[gE,aP]
       refine tkB 22 (.bool false) ?_
       try simp only[gE,aP]
       refine tkB 23 (.bool false) ?_
       try simp only[gE,aP]
       refine wpAnyH_done (by kernel_rfl) ?_ _
       clear hSd
       have HBN:=hid (hA.trans (HB.out.mono hA.size))
       obtain⟨e0,e1,e2⟩:=(hHB.below HB.out hHB.lt).cells
       have HAL1:=hid ((Below.refl u4.heap.size u4).alloc (Nat.le_refl _) (.cells #[.slice a n ca] 22))
       have HAL2:=hid (HAL1.out.alloc HAL1.out.size (.cells #[.slice (some ⟨u4.heap.size,0,none⟩) 1 1,.slice b n2 cb,.slice c n3 cc] 23))
       have HCN:Hid (Calls Tryz.prog 40 #[.slice (some ⟨u4.heap.size+1,0,none⟩) 3 3] ((u4.alloc (.cells #[.slice a n ca] 22)).alloc (.cells #[.slice (some ⟨u4.heap.size,0,none⟩) 1 1,.slice b n2 cb,.slice c n3 cc] 23)) fun e w'=>∃v,e=.returned v∧RwX w' ((u4.alloc (.cells #[.slice a n ca] 22)).alloc (.cells #[.slice (some ⟨u4.heap.size,0,none⟩) 1 1,.slice b n2 cb,.slice c n3 cc] 23)).heap.size v ([.slice a n ca]++X1++X2)∧Below ((u4.alloc (.cells #[.slice a n ca] 22)).alloc (.cells #[.slice (some ⟨u4.heap.size,0,none⟩) 1 1,.slice b n2 cb,.slice c n3 cc] 23)).heap.size ((u4.alloc (.cells #[.slice a n ca] 22)).alloc (.cells #[.slice (some ⟨u4.heap.size,0,none⟩) 1 1,.slice b n2 cb,.slice c n3 cc] 23)) w'):=by
        have hrow:((u4.alloc (.cells #[.slice a n ca] 22)).alloc (.cells #[.slice (some ⟨u4.heap.size,0,none⟩) 1 1,.slice b n2 cb,.slice c n3 cc] 23)).heap[u4.heap.size+1]? =some (.cells #[.slice (some ⟨u4.heap.size,0,none⟩) 1 1,.slice b n2 cb,.slice c n3 cc] 23 (0,0)):=by
         have h:=heap_alloc_new (u4.alloc (.cells #[.slice a n ca] 22)) (.cells #[.slice (some ⟨u4.heap.size,0,none⟩) 1 1,.slice b n2 cb,.slice c n3 cc] 23)
         rwa [World.size_alloc] at h
        have hone:(u4.alloc (.cells #[.slice a n ca] 22)).heap[u4.heap.size]? =some (.cells #[.slice a n ca] 22 (0,0)):=heap_alloc_new u4 _
        have hlt1:u4.heap.size<(u4.alloc (.cells #[.slice a n ca] 22)).heap.size:=by simp
        have hone2:=((Below.refl (u4.alloc (.cells #[.slice a n ca] 22)).heap.size _).alloc (Nat.le_refl _) (.cells #[.slice (some ⟨u4.heap.size,0,none⟩) 1 1,.slice b n2 cb,.slice c n3 cc] 23)).block u4.heap.size hlt1 |>.trans hone
        have hX1:=(HX1.out.below HBN.out).below HAL2.out
        have hX2:=(HX2.out.below HBN.out).below HAL2.out
        have h:=slConcatR_any (u4.heap.size+1) (some ⟨u4.heap.size,0,none⟩) b c 1 cb cc [.slice a n ca] X1 X2 _ (by simp) (by rw[cell_of_row _ _ _ _ _ (0,0) hrow];rfl) (by rw[cell_of_row _ _ _ _ _ (0,0) hrow,HXL1.out];rfl) (by rw[cell_of_row _ _ _ _ _ (0,0) hrow,HXL2.out];rfl) (fun k hk=>?_) hX1 hX2 (fun e=>by cases e) HNI1.out HNI2.out (by simp) (by rw[HXL1.out];have h8:=HN2N.out;omega) (by rw[HXL2.out];have h9:=HN3N.out;omega)
        ·exact h
        ·obtain rfl:k=0:=by simp at hk;omega
         refine⟨u4.heap.size,0,rfl,by simp;omega,?_,a,n,ca,rfl⟩
         rw[cell_of_row _ _ _ _ _ (0,0) hone2]
         rfl
       have HBA:=hid (HBN.out.trans (HAL2.out.mono HBN.out.size))
       obtain⟨x0,x1,x2⟩:=((hHB.below HB.out hHB.lt).below HAL1.out (Nat.lt_of_lt_of_le hHB.lt HB.out.size)).cells
       go_wp2_with fail
       generalize ((u4.alloc (.cells #[.slice a n ca] 22)).alloc (.cells #[.slice (some ⟨u4.heap.size,0,none⟩) 1 1,.slice b n2 cb,.slice c n3 cc] 23))=W5 at *
       refine HCN.out.mono ?_
       rintro e w6 ⟨v6,rfl,hv6,hb6⟩
       have HB6:=hid (HBA.out.trans (hb6.mono HBA.out.size))
       have hxl:([.slice a n ca]++X1++X2:List Value).length=1+n2+n3:=by rw[List.length_append,List.length_append,HXL1.out,HXL2.out];rfl
       have hv7:=hv6
       rw[RwX,hxl] at hv7
       obtain⟨a6,c6,rfl, -⟩:=owns_slice hv7
       have HV:=hid hv7
       have HXE:Hid (∀k (h:k<([.slice a n ca]++X1++X2:List Value).length),∃(b':Option Addr) (r:List Fr) (c':Nat),([.slice a n ca]++X1++X2:List Value)[k]=.slice b' r.length c'∧FrS w b' r∧([l]++R1++R2)[k]? =some r∧r∈[l]++R1++R2):=HXI.out
       have HXL:=hid hxl
       clear hv6 hv7 hb6 hxl e0 e1 e2 x0 x1 x2
       generalize ([.slice a n ca]++X1++X2:List Value)=X at *
       obtain⟨N,hN⟩:∃N,N=1+n2+n3:=⟨_,rfl⟩
       have HRN:Hid (([l]++R1++R2).length=N):=by show _=_;rw[List.length_append,List.length_append,HN2.out,HN3.out,hN];rfl
       rw[←hN] at HV HXL
       rw[←hN]
       have hN9:N≤9:=by have h8:=HN2N.out;have h9:=HN3N.out;omega
       clear hN
       go_wp2_with fail
       go_loopw [56] (fun iv wr=>∃i:Nat,i≤N∧iv=.int .i64 i∧Hid (Below w6.heap.size w6 wr)∧Hid (∀k r,k<i→([l]++R1++R2)[k]? =some r→rowB r=true)) (fun iv _=>N - (intOf iv).toNat)
       case atStart=>exact⟨0,Nat.zero_le _,rfl,Below.refl _ _,fun k r hk=>absurd hk (Nat.not_lt_zero _)⟩
       case round=>
        obtain⟨i,hi,rfl,HBr,HGO⟩:=hrel
        by_cases hlt:i<N
        ·have hiX:i<X.length:=by rw[HXL.out];exact hlt
         obtain⟨g6,rfl,hg6,hc6⟩:=owns_cell HV.out hiX
         have hc6':=(HBr.out.cell (p:=⟨g6,_,none⟩) hg6).trans hc6
         obtain⟨b',r,c',h1,h2,h3,h4⟩:=HXE.out i hiX
         rw[h1] at hc6'
         have hbw:=HB6.out.trans (HBr.out.mono HB6.out.size)
         have hrs:=HRS.out r h4
         have HRO:=hid (hiRow_any b' c' r wr (h2.below hbw) hrs.1 (by omega))
         have hrl:=hrs.2
         have HR3:=hid h3
         have HR4:=hid h4
         clear h1 h2 h3 h4 hc6 hbw hrs
         obtain⟨rb,hrb⟩:∃x,rowB r=x:=⟨_,rfl⟩
         rw[hrb] at HRO
         have HRB:=hid hrb
         clear hrb
         generalize r.length=rl at *
         go_wp2_with fail
         refine HRO.out.mono ?_
         rintro e w7 ⟨rfl,hb7⟩
         have HB7:=hid (HBr.out.trans (hb7.mono HBr.out.size))
         clear hb7
         cases rb with
         |true=>
          have HGN:Hid (∀k r,k<i+1→([l]++R1++R2)[k]? =some r→rowB r=true):=fun k r' hk hr=>by
           rcases Nat.lt_or_ge k i with h1 |h1
           ·exact HGO.out k r' h1 hr
           ·obtain rfl:k=i:=by omega
            rw[HR3.out] at hr
            cases hr
            exact HRB.out
          go_wp2
          go_roundw
          case rel=>exact⟨i+1,by omega,by go_num,HB7,HGN⟩
          case measure=>simp[intOf];omega
         |false=>
          have HBE:=hid (HB6.out.trans (HB7.out.mono HB6.out.size))
          go_wp2
          go_ret
          exact⟨⟨9,rfl,.inr (.inl ⟨rfl,HSH.out,fun hr=>by have h9:=rws_all hr r HR4.out;rw[HRB.out] at h9;exact absurd h9 (by decide)⟩)⟩,HBE.out⟩
        ·obtain rfl:N=i:=by omega
         have HBE:=hid (HB6.out.trans (HBr.out.mono HB6.out.size))
         have HRW:Hid (RwsB l R1 R2):=rws_of fun r hr=>by
          obtain⟨k,hk,rfl⟩:=List.getElem_of_mem hr
          exact HGO.out k _ (by rw[HRN.out] at hk;exact hk) (List.getElem?_eq_getElem hk)
         go_wp2
         go_ret
         exact⟨⟨0,rfl,.inl ⟨rfl,HSH.out,HRW.out⟩⟩,HBE.out⟩
end Go.Proofs.YtgamblainfkiaaaGreatDoor
