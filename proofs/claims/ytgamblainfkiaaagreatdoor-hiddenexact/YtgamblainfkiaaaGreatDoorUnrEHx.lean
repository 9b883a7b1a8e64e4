/- The program's lay: one variable more. -/
import Derived.Test.YtgamblainfkiaaaGreatDoorUnrBHxAnyU
namespace Go.Proofs.YtgamblainfkiaaaGreatDoor
open Go.RowKit Go.Shelf Go.Lib
theorem wp_append_str1 {w:World} {o:Oper} {a:Act} {K:Act→World→Prop} {Q:Exit→Act→World→Prop} (s x:Operand)
  (ho:o.op=.call {callee:=.builtin .append,args:= #[s,x],argTypes:= #[82,82]}) (base:Nat) (v:Value) (l:List ByteArray) (f:ByteArray) (hs:a.eval s=v) (hown:RwS w base v l) (g:Nat) (hx:a.eval x=.slice (some ⟨g,0,none⟩) 1 1) (hg:w.cell? ⟨g,0,none⟩=some (.string f)) (hlen:l.length+1≤100000) (hbase:base≤w.heap.size)
  (h:∀v' w',RwS w' base v' (l++[f])→w.grownBy w' v.ownBlock→K (a.put o.dst v') w'):o.wp Tryz.prog a w K Q:=by
 obtain⟨i0,hi0,hz0,hz1,hz2⟩:=info_parts Tryz.infoStr
 refine wp_append_own _ s x 82 ho base 9 i0 (.string ⟨#[]⟩) 1 16 Tryz.underlying82 hi0 hz0 hz1 hz2 rfl (by decide) v l.length _ hs hown ⟨g,0,none⟩ 1 1 [.string f] hx rfl ?_ ?_ (by unfold maxLen;omega) (by omega) hbase ?_
 ·intro j u hj
  match j,hj with
  |0,hj=>cases hj;exact hg
  |j+1,hj=>simp at hj
 ·intro u hu
  simp only[List.mem_cons,List.not_mem_nil,or_false] at hu
  subst hu;rfl
 ·intro v' w' h1 h2 _
  refine h v' w' ?_ h2
  rw[RwS,List.length_append,List.map_append]
  exact h1
theorem wp_append_ls1 {w:World} {o:Oper} {a:Act} {K:Act→World→Prop} {Q:Exit→Act→World→Prop} (s x:Operand)
  (ho:o.op=.call {callee:=.builtin .append,args:= #[s,x],argTypes:= #[42,42]}) (base:Nat) (v:Value) (P:List PL) (q:Value) (hq:SlV q) (hs:a.eval s=v) (hown:w.ownsRow base 26 1 v P.length (P.map (·.1))) (g:Nat) (hx:a.eval x=.slice (some ⟨g,0,none⟩) 1 1) (hg:w.cell? ⟨g,0,none⟩=some q) (hlen:P.length+1≤100000) (hbase:base≤w.heap.size)
  (h:∀v' w',w'.ownsRow base 26 1 v' (P.length+1) (P.map (·.1)++[q])→w.grownBy w' v.ownBlock→K (a.put o.dst v') w'):o.wp Tryz.prog a w K Q:=by
 obtain⟨i0,hi0,hz0,hz1,hz2⟩:=info_parts Tryz.infoInts
 refine wp_append_own _ s x 42 ho base 26 i0 (.slice none 0 0) 1 24 Tryz.underlying42 hi0 hz0 hz1 hz2 rfl (by decide) v P.length _ hs hown ⟨g,0,none⟩ 1 1 [q] hx rfl ?_ ?_ (by unfold maxLen;omega) (by omega) hbase ?_
 ·intro j u hj
  match j,hj with
  |0,hj=>cases hj;exact hg
  |j+1,hj=>simp at hj
 ·intro u hu
  simp only[List.mem_cons,List.not_mem_nil,or_false] at hu
  subst hu
  obtain⟨_,_,_,rfl⟩:=hq
  rfl
 ·intro v' w' h1 h2 _
  exact h v' w' h1 h2
theorem wp_append_rs1 {w:World} {o:Oper} {a:Act} {K:Act→World→Prop} {Q:Exit→Act→World→Prop} (s x:Operand)
  (ho:o.op=.call {callee:=.builtin .append,args:= #[s,x],argTypes:= #[23,23]}) (base:Nat) (v:Value) (P:List PR) (q:Value) (hq:SlV q) (hs:a.eval s=v) (hown:w.ownsRow base 22 1 v P.length (P.map (·.1))) (g:Nat) (hx:a.eval x=.slice (some ⟨g,0,none⟩) 1 1) (hg:w.cell? ⟨g,0,none⟩=some q) (hlen:P.length+1≤100000) (hbase:base≤w.heap.size)
  (h:∀v' w',w'.ownsRow base 22 1 v' (P.length+1) (P.map (·.1)++[q])→w.grownBy w' v.ownBlock→K (a.put o.dst v') w'):o.wp Tryz.prog a w K Q:=by
 obtain⟨i0,hi0,hz0,hz1,hz2⟩:=info_parts Tryz.infoFracs
 refine wp_append_own _ s x 23 ho base 22 i0 (.slice none 0 0) 1 24 Tryz.underlying23 hi0 hz0 hz1 hz2 rfl (by decide) v P.length _ hs hown ⟨g,0,none⟩ 1 1 [q] hx rfl ?_ ?_ (by unfold maxLen;omega) (by omega) hbase ?_
 ·intro j u hj
  match j,hj with
  |0,hj=>cases hj;exact hg
  |j+1,hj=>simp at hj
 ·intro u hu
  simp only[List.mem_cons,List.not_mem_nil,or_false] at hu
  subst hu
  obtain⟨_,_,_,rfl⟩:=hq
  rfl
 ·intro v' w' h1 h2 _
  exact h v' w' h1 h2
structure LyV (w:World) (nm:ByteArray) (sv:Value) (i:Nat) (U:World):Prop where
 bx:U.heap[w.heap.size]? =some (.cells #[.string nm,sv] 85 (0,0))
 vs:RwS U w.heap.size sv (valsN i)
 bel:Below w.heap.size w U
theorem LyV.step {w U U':World} {nm:ByteArray} {sv:Value} {i:Nat} (h:LyV w nm sv i U) (hb:Below U.heap.size U U'):LyV w nm sv i U':=⟨(hb.block _ (Array.getElem?_eq_some_iff.1 h.bx).1).trans h.bx,h.vs.step hb,h.bel.trans (hb.mono h.bel.size)⟩
theorem LyV.cells {w U:World} {nm:ByteArray} {sv:Value} {i:Nat} (h:LyV w nm sv i U):U.cell? ⟨w.heap.size,0,none⟩=some (.string nm)∧U.cell? ⟨w.heap.size,1,none⟩=some sv:=by
 constructor<;>(rw[cell_of_row U w.heap.size _ _ _ (0,0) h.bx];rfl)
theorem LyV.push {w U U':World} {nm:ByteArray} {sv sv':Value} {i:Nat} (h:LyV w nm sv i U) (hg:U.grownBy U' sv.ownBlock) (hr:RwS U' w.heap.size sv' (valsN i++[nmB 118 i])):U'.heap[w.heap.size]? =some (.cells #[.string nm,sv] 85 (0,0))∧LyV w nm sv' (i+1) (U'.setCell ⟨w.heap.size,1,none⟩ sv'):=by
 have k1:U'.heap[w.heap.size]? =some (.cells #[.string nm,sv] 85 (0,0)):=KeepT.grown hg (owns_typed h.vs) (show 85≠9 by decide) _ _ _ h.bx
 refine⟨k1,heap_setCell_row _ _ 1 _ _ _ k1,?_,?_⟩
 ·rw[valsN_succ]
  exact owns_keep hr (KeepT.set k1 (show 9≠85 by decide) 1 sv')
 ·exact(h.bel.grown hg h.bel.size (fun k e=>h.vs.own k e)).setCell (p:=⟨w.heap.size,1,none⟩) (Nat.le_refl _) _
theorem LyV.put {w U:World} {nm:ByteArray} {sv:Value} {i g n c B:Nat} {l:List Fr} (h:LyV w nm sv i U) (hr:RwF U B (.slice (some ⟨g,0,none⟩) n c) l) (hB:w.heap.size≤B) (k:Nat) (f:Fr):LyV w nm sv i (((U.setCell ⟨g,k*3,none⟩ (.bool f.1)).setCell ⟨g,k*3+1,none⟩ (.string f.2.1)).setCell ⟨g,k*3+2,none⟩ (.string f.2.2)):=by
 obtain⟨cs,hc⟩:∃c,U.heap[g]? =some (.cells c 30 (0,0)):=by
  rcases hr.2 with ⟨e,_⟩ |⟨g',cap',cur,e,_,hg,_⟩
  ·cases e
  ·injection e with e1 _ _
   injection e1 with e1
   injection e1 with e1
   exact⟨cur,by rw[e1];exact hg⟩
 have hge:B≤g:=owns_from hr g rfl
 obtain⟨c1,h1⟩:∃c,(U.setCell ⟨g,k*3,none⟩ (.bool f.1)).heap[g]? =some (.cells c 30 (0,0)):=⟨_,heap_setCell_row _ _ _ _ _ _ hc⟩
 obtain⟨c2,h2⟩:∃c,((U.setCell ⟨g,k*3,none⟩ (.bool f.1)).setCell ⟨g,k*3+1,none⟩ (.string f.2.1)).heap[g]? =some (.cells c 30 (0,0)):=⟨_,heap_setCell_row _ _ _ _ _ _ h1⟩
 have ks:∀tt:TypeId,tt≠30→KeepT tt U (((U.setCell ⟨g,k*3,none⟩ (.bool f.1)).setCell ⟨g,k*3+1,none⟩ (.string f.2.1)).setCell ⟨g,k*3+2,none⟩ (.string f.2.2)):=fun tt hne=>((KeepT.set hc hne _ _).trans (KeepT.set h1 hne _ _)).trans (KeepT.set h2 hne _ _)
 refine⟨ks _ (by decide) _ _ _ h.bx,owns_keep h.vs (ks _ (by decide)),?_⟩
 exact((h.bel.setCell (p:=⟨g,k*3,none⟩) (by show _≤g;omega) _).setCell (p:=⟨g,k*3+1,none⟩) (by show _≤g;omega) _).setCell (p:=⟨g,k*3+2,none⟩) (by show _≤g;omega) _
structure LZ (w W:World) (G:Nat) (s e t x y z:Value) (p1:PV) (p2:PL) (p3:PR) (xv:Value) (Vs:List PV) (yv:Value) (Ls:List PL) (zv:Value) (Rs:List PR):Prop where
 hb:HBox W w.heap.size s e t
 res:NBox W (w.heap.size+1) (.slice none 0 0) (.slice none 0 0) (.slice none 0 0)
 box:NBox W G x y z
 vs:OwV W w.heap.size xv Vs
 ls:OwL W w.heap.size yv Ls
 rs:OwR W w.heap.size zv Rs
 q1:RwS W w.heap.size p1.2.1 p1.2.2
 q2:RwI W w.heap.size p2.1 p2.2
 q3:RwF W w.heap.size p3.1 p3.2
 bel:Below w.heap.size w W
 hG:w.heap.size+2≤G
section
variable {w W W':World} {G:Nat} {s e t x y z xv yv zv:Value} {p1:PV} {p2:PL} {p3:PR} {Vs:List PV} {Ls:List PL} {Rs:List PR}
theorem LZ.of (h:US w W G s e t x y z Vs Ls Rs) (q1:RwS W w.heap.size p1.2.1 p1.2.2) (q2:RwI W w.heap.size p2.1 p2.2) (q3:RwF W w.heap.size p3.1 p3.2):LZ w W G s e t x y z p1 p2 p3 x Vs y Ls z Rs:=⟨h.hb,h.res,h.box,h.vs,h.ls,h.rs,q1,q2,q3,h.bel,h.hG⟩
theorem LZ.keep (h:LZ w W G s e t x y z p1 p2 p3 xv Vs yv Ls zv Rs) (hk:∀tt:TypeId,KeepT tt W W') (hb:Below w.heap.size w W'):LZ w W' G s e t x y z p1 p2 p3 xv Vs yv Ls zv Rs:=
 ⟨hk _ _ _ _ h.hb,hk _ _ _ _ h.res,hk _ _ _ _ h.box,h.vs.keep (hk _) (hk _),h.ls.keep (hk _) (hk _),h.rs.keep (hk _) (hk _),owns_keep h.q1 (hk _),owns_keep h.q2 (hk _),owns_keep h.q3 (hk _),hb,h.hG⟩
theorem LZ.step (h:LZ w W G s e t x y z p1 p2 p3 xv Vs yv Ls zv Rs) (hb:Below W.heap.size W W'):LZ w W' G s e t x y z p1 p2 p3 xv Vs yv Ls zv Rs:=h.keep (fun _=>.below hb) (h.bel.trans (hb.mono h.bel.size))
theorem LZ.pushV (h:LZ w W G s e t x y z p1 p2 p3 xv Vs yv Ls zv Rs) {v':Value} (hr:W'.ownsRow w.heap.size 85 2 v' (Vs.length+1) (vC Vs++[.string p1.1,p1.2.1])) (hg:W.grownBy W' xv.ownBlock):LZ w W' G s e t x y z p1 p2 p3 v' (Vs++[p1]) yv Ls zv Rs:=by
 have kk:∀tt:TypeId,tt≠85→KeepT tt W W':=fun tt hne=>KeepT.grown hg (owns_typed h.vs.1) hne
 refine⟨kk _ (by decide) _ _ _ h.hb,kk _ (by decide) _ _ _ h.res,kk _ (by decide) _ _ _ h.box,⟨?_,?_⟩,h.ls.keep (kk _ (by decide)) (kk _ (by decide)),h.rs.keep (kk _ (by decide)) (kk _ (by decide)),owns_keep h.q1 (kk _ (by decide)),owns_keep h.q2 (kk _ (by decide)),owns_keep h.q3 (kk _ (by decide)),lowG h.bel h.vs.1 hg,h.hG⟩
 ·rw[vC_append,List.length_append]
  exact hr
 ·intro p hp
  rcases List.mem_append.1 hp with hp |hp
  ·exact owns_keep (h.vs.2 p hp) (kk _ (by decide))
  ·rw[List.mem_singleton.1 hp]
   exact owns_keep h.q1 (kk _ (by decide))
theorem LZ.pushL (h:LZ w W G s e t x y z p1 p2 p3 xv Vs yv Ls zv Rs) {v':Value} (hr:W'.ownsRow w.heap.size 26 1 v' (Ls.length+1) (Ls.map (·.1)++[p2.1])) (hg:W.grownBy W' yv.ownBlock):LZ w W' G s e t x y z p1 p2 p3 xv Vs v' (Ls++[p2]) zv Rs:=by
 have kk:∀tt:TypeId,tt≠26→KeepT tt W W':=fun tt hne=>KeepT.grown hg (owns_typed h.ls.1) hne
 refine⟨kk _ (by decide) _ _ _ h.hb,kk _ (by decide) _ _ _ h.res,kk _ (by decide) _ _ _ h.box,h.vs.keep (kk _ (by decide)) (kk _ (by decide)),⟨?_,?_⟩,h.rs.keep (kk _ (by decide)) (kk _ (by decide)),owns_keep h.q1 (kk _ (by decide)),owns_keep h.q2 (kk _ (by decide)),owns_keep h.q3 (kk _ (by decide)),lowG h.bel h.ls.1 hg,h.hG⟩
 ·rw[List.map_append,List.length_append]
  exact hr
 ·intro p hp
  rcases List.mem_append.1 hp with hp |hp
  ·exact owns_keep (h.ls.2 p hp) (kk _ (by decide))
  ·rw[List.mem_singleton.1 hp]
   exact owns_keep h.q2 (kk _ (by decide))
theorem LZ.pushR (h:LZ w W G s e t x y z p1 p2 p3 xv Vs yv Ls zv Rs) {v':Value} (hr:W'.ownsRow w.heap.size 22 1 v' (Rs.length+1) (Rs.map (·.1)++[p3.1])) (hg:W.grownBy W' zv.ownBlock):LZ w W' G s e t x y z p1 p2 p3 xv Vs yv Ls v' (Rs++[p3]):=by
 have kk:∀tt:TypeId,tt≠22→KeepT tt W W':=fun tt hne=>KeepT.grown hg (owns_typed h.rs.1) hne
 refine⟨kk _ (by decide) _ _ _ h.hb,kk _ (by decide) _ _ _ h.res,kk _ (by decide) _ _ _ h.box,h.vs.keep (kk _ (by decide)) (kk _ (by decide)),h.ls.keep (kk _ (by decide)) (kk _ (by decide)),⟨?_,?_⟩,owns_keep h.q1 (kk _ (by decide)),owns_keep h.q2 (kk _ (by decide)),owns_keep h.q3 (kk _ (by decide)),lowG h.bel h.rs.1 hg,h.hG⟩
 ·rw[List.map_append,List.length_append]
  exact hr
 ·intro p hp
  rcases List.mem_append.1 hp with hp |hp
  ·exact owns_keep (h.rs.2 p hp) (kk _ (by decide))
  ·rw[List.mem_singleton.1 hp]
   exact owns_keep h.q3 (kk _ (by decide))
theorem LZ.out (h:LZ w W G s e t x y z p1 p2 p3 xv Vs yv Ls zv Rs):NBox (W.setCell ⟨G,0,none⟩ xv) G xv y z∧NBox ((W.setCell ⟨G,0,none⟩ xv).setCell ⟨G,1,none⟩ yv) G xv yv z∧US w (((W.setCell ⟨G,0,none⟩ xv).setCell ⟨G,1,none⟩ yv).setCell ⟨G,2,none⟩ zv) G s e t xv yv zv Vs Ls Rs:=by
 have n0:=h.box.set0 xv
 have n1:=n0.set1 yv
 have n2:=n1.set2 zv
 have ks:∀tt:TypeId,tt≠44→KeepT tt W (((W.setCell ⟨G,0,none⟩ xv).setCell ⟨G,1,none⟩ yv).setCell ⟨G,2,none⟩ zv):=fun tt hne=>((KeepT.set h.box hne 0 xv).trans (KeepT.set n0 hne 1 yv)).trans (KeepT.set n1 hne 2 zv)
 have hG:=h.hG
 have hne:w.heap.size+1≠G:=by omega
 refine⟨n0,n1,ks _ (by decide) _ _ _ h.hb,?_,n2,h.vs.keep (ks _ (by decide)) (ks _ (by decide)),h.ls.keep (ks _ (by decide)) (ks _ (by decide)),h.rs.keep (ks _ (by decide)) (ks _ (by decide)),?_,h.hG⟩
 ·exact(Below.heap_setCell _ ⟨G,2,none⟩ zv (w.heap.size+1) hne).trans ((Below.heap_setCell _ ⟨G,1,none⟩ yv (w.heap.size+1) hne).trans ((Below.heap_setCell W ⟨G,0,none⟩ xv (w.heap.size+1) hne).trans h.res))
 ·exact((h.bel.setCell (p:=⟨G,0,none⟩) (by show _≤G;omega) _).setCell (p:=⟨G,1,none⟩) (by show _≤G;omega) _).setCell (p:=⟨G,2,none⟩) (by show _≤G;omega) _
end
theorem with_wpU {P:Program} {ops:Array Oper} {Q:Exit→Act→World→Prop} {md:Region.Mode} {S:Bool→World→Prop} {k n:Nat} {l:Array Bool} {a:Act} {w:World} (T:(Nat→Array Bool→Act→World→Prop)→Act→Prop) (h1:T (wpU P md ops Q S k) a) (h2:T (wpU P md ops Q S k) a→wpU P md ops Q S k n l a w):wpU P md ops Q S k n l a w:=h2 h1
theorem wpU_cast {P:Program} {ops:Array Oper} {Q:Exit→Act→World→Prop} {md:Region.Mode} {S:Bool→World→Prop} {k n:Nat} {l l':Array Bool} {a a':Act} {w:World} (hl:l=l') (ha:a=a') (h:wpU P md ops Q S k n l' a' w):wpU P md ops Q S k n l a w:=by subst hl ha;exact h
def LayR (w0:World) (G:Nat) (s e0 t:Value) (nm:ByteArray) (m:Nat) (pv:Value) (ps:List Int) (X:List Fr) (Vs:List PV) (Ls:List PL) (Rs:List PR) (e:Ending) (w':World):Prop:=e=.returned (.tuple #[])∧∃(x y z:Value) (p1:PV) (p3:PR),(p1.1,p1.2.2)=(nm,valsN m)∧p3.2=X∧US w0 w' G s e0 t x y z (Vs++[p1]) (Ls++[(pv,ps)]) (Rs++[p3])
set_option maxRecDepth 100000 in
set_option maxHeartbeats 4000000 in
theorem lay_any (w0:World) (G:Nat) (s e0 t x y z:Value) (Vs:List PV) (Ls:List PL) (Rs:List PR) (nm:ByteArray) (pd:Option Addr) (pn pc:Nat) (ps:List Int) (a:Option Addr) (ca nr m:Nat) (R:List (List Fr)) (w:World) (hU:US w0 w G s e0 t x y z Vs Ls Rs) (hp:RwI w w0.heap.size (.slice pd pn pc) ps) (hR:FsS w a R) (hk:Few4 R) (h1:∀r∈R,1≤r.length) (hnr:R.length=nr) (hn1:1≤nr) (hm:(R.headD []).length=m) (hV:Vs.length≤100) (hL:Ls.length≤100) (hRs:Rs.length≤100):
  Calls Tryz.prog 57 #[.pointer (some ⟨G,0,none⟩),.string nm,.slice pd pn pc,.slice a nr ca] w fun e w'=>LayR w0 G s e0 t nm m (.slice pd pn pc) ps (cnR R) Vs Ls Rs e w':=by
 have HU0:=hid hU
 have HP0:=hid hp
 have HNU:=hid (fun (i:Nat) (hi:i<10) (U:World)=>numbered_any 118 i hi U)
 have HCO:Hid (∀U:World,Below w.heap.size w U→Calls Tryz.prog 92 #[.slice a nr ca] U fun e w'=>∃v,e=.returned v∧RwF w' U.heap.size v (ftR R)∧Below U.heap.size U w'):=fun U hU=>by
  have h9:=slConcatFU_any a ca R U (hR.below hU) hk h1
  rw[hnr] at h9
  exact h9
 have HRZ:Hid (∀U:World,Below w.heap.size w U→∃g o b c,a=some ⟨g,o,none⟩∧g<U.heap.size∧U.cell? ⟨g,o,none⟩=some (.slice b m c)):=fun U hU=>by
  obtain⟨g,o,b,c,e1,e2,e3,_⟩:=(hR.below hU).raw' (i:=0) (by omega)
  exact⟨g,o,b,c,e1,e2,by rw[←hm,head_at (by omega)];simpa using e3⟩
 have hm4:m≤4:=by rw[←hm,head_at (by omega)];exact hk.r _ (List.getElem_mem _)
 have HFT:Hid (cnF (ftR R)=cnR R):=cnF_ftR R
 have HSZ:Hid (∀f∈ftR R,f.2.1.size+f.2.2.size≤100000):=fun f hf=>by
  obtain⟨r,hr,hfr⟩:=List.mem_flatten.1 hf
  have h8:=fw_mem hfr
  have h9:=hk.f r hr
  omega
 have hft:(ftR R).length≤16:=by
  have h9:=ftR_len hk.r
  have:=hk.l
  omega
 have hft1:1≤(ftR R).length:=by
  cases R with
  |nil=>rw[←hnr] at hn1;exact absurd hn1 (by decide)
  |cons r R'=>have h9:=h1 r List.mem_cons_self;simp[ftR];omega
 have HLV:Hid (Vs.length+1≤100000):=by show _≤_;omega
 have HLL:Hid (Ls.length+1≤100000):=by show _≤_;omega
 have HLR:Hid (Rs.length+1≤100000):=by show _≤_;omega
 obtain⟨XR,hXR⟩:∃X,cnR R=X:=⟨_,rfl⟩
 obtain⟨FT,hFT⟩:∃X,ftR R=X:=⟨_,rfl⟩
 simp only[hXR,hFT] at HFT HSZ HCO hft hft1⊢
 obtain⟨dx,cx,hxe, -⟩:=owns_slice HU0.out.vs.1
 obtain⟨nx,hnx⟩:∃k,Vs.length=k:=⟨_,rfl⟩
 rw[hnx] at hxe
 subst hxe
 obtain⟨dy,cy,hye, -⟩:=owns_slice HU0.out.ls.1
 obtain⟨ny,hny⟩:∃k,Ls.length=k:=⟨_,rfl⟩
 rw[hny] at hye
 subst hye
 obtain⟨dz,cz,hze, -⟩:=owns_slice HU0.out.rs.1
 obtain⟨nz,hnz⟩:∃k,Rs.length=k:=⟨_,rfl⟩
 rw[hnz] at hze
 subst hze
 clear hU hp hR hk h1 hnr hm hXR hFT hnx hny hnz hV hL hRs
 have HV0:Hid (LyV w nm (.slice none 0 0) 0 (w.alloc (.cells #[.string nm,.slice none 0 0] 85))):=⟨heap_alloc_new w _,RwS.empty _ _,(Below.refl _ w).alloc (Nat.le_refl _) _⟩
 obtain⟨g,o,b,c,rfl,hg,hc0⟩:=HRZ.out _ HV0.out.bel
 clear HRZ
 go_enter Tryz.func57,Tryz.ntmps57
 go_wp2_with fail
 clear hc0 hg
 generalize (w.alloc (.cells #[.string nm,.slice none 0 0] 85))=w1 at *
 go_loopw [19] (fun iv wr=>∃(i:Nat) (dv:Option Addr) (cv:Nat),i≤m∧iv=.int .i64 i∧Hid (LyV w nm (.slice dv i cv) i wr)) (fun iv _=>m - (intOf iv).toNat)
 case atStart=>exact⟨0,none,0,Nat.zero_le _,rfl,HV0⟩
 case round=>
  clear HV0
  obtain⟨i,dv,cv,hi,rfl,HV⟩:=hrel
  by_cases hlt:i<m
  ·go_upto_region 4 with fail
   replace HV:=hid (HV.out.step (Below.refl _ _).drew)
   refine wp_region_until 7 (fun (b':Bool) (u:World)=>b'=false→u.cell? ⟨w.heap.size,1,none⟩=some (.slice dv i cv)) (by kernel_rfl) (fun _=>HV.out.cells.2) (fun hSd=>?_)
   generalize wr.drew=u0 at *
   refine wpU_take (i:=0) (oi:=_) (v:=.pointer (some ⟨w.heap.size,1,none⟩)) (b:=false) rfl (by kernel_rfl) (by kernel_rfl) (by kernel_rfl) (by decide) (fun _ _ _ h=>h) (Or.inl ⟨by rfl,?_⟩) (by kernel_rfl) (by assumption) ?_
   ·intro u' hSu
    (try simp only[List.getElem_toArray,List.getElem_cons_zero])
    go_simp
   (try simp only[List.getElem_toArray,List.getElem_cons_zero])
   (try simp only[Act.put,List.setIfInBounds_toArray,List.set_cons_zero,List.set_cons_succ])
   refine wpU_ahead (i:=1) (oi:=_) (v:=.slice dv i cv) rfl (by kernel_rfl) (by kernel_rfl) (by kernel_rfl) (by decide) rfl (by kernel_rfl) (fun _ _ _ h=>h) (Or.inl ⟨by rfl,?_⟩) (by kernel_rfl) (by assumption) ?_
   ·intro u' hSu
    (try simp only[List.getElem_toArray,List.getElem_cons_zero,List.getElem_cons_succ])
    have s5:=hSu rfl
    go_simp
   (try simp only[List.getElem_toArray,List.getElem_cons_zero,List.getElem_cons_succ])
   (try simp only[Act.put,List.setIfInBounds_toArray,List.set_cons_zero,List.set_cons_succ])
   refine wpU_take (i:=2) (oi:=_) (v:=.int .i64 (i:Nat)) (b:=false) rfl (by kernel_rfl) (by kernel_rfl) (by kernel_rfl) (by decide) (fun _ _ _ h=>h) (Or.inl ⟨by rfl,?_⟩) (by kernel_rfl) (by assumption) ?_
   ·intro u' hSu
    (try simp only[List.getElem_toArray,List.getElem_cons_zero,List.getElem_cons_succ])
    go_simp
   (try simp only[List.getElem_toArray,List.getElem_cons_zero,List.getElem_cons_succ])
   (try simp only[Act.put,List.setIfInBounds_toArray,List.set_cons_zero,List.set_cons_succ])
   refine wpU_ready (rs:=[3]) (by kernel_rfl) (by simp) (AllU.cons (b:=false) rfl (by kernel_rfl) ?_ (AllU.nil))
   ·intro K' hK'
    (try simp only[List.getElem_toArray,List.getElem_cons_zero,List.getElem_cons_succ])
    go_simp
    refine(HNU.out i (by omega) _).mono ?_
    rintro e u1 ⟨rfl,rfl⟩
    refine hK'.out _ _ (fun _=>HV.out.cells.2) (fun hSe=>?_)
    clear hK' K' hSd
    have hSd:=hSe
    clear hSe
    (try simp only[List.getElem_toArray,List.getElem_cons_zero,List.getElem_cons_succ])
    (try simp only[Act.put,List.setIfInBounds_toArray,List.set_cons_zero,List.set_cons_succ])
    refine wpU_ready (rs:=[4]) (by kernel_rfl) (by simp) (AllU.cons (b:=false) rfl (by kernel_rfl) ?_ (AllU.nil))
    ·intro K' hK'
     (try simp only[List.getElem_toArray,List.getElem_cons_zero,List.getElem_cons_succ])
     go_simp
     have hbA:=(Below.refl u1.heap.size u1).alloc (Nat.le_refl _) (.cells #[.string (nmB 118 i)] 9)
     have hY:=one_str u1 (nmB 118 i)
     replace HV:=hid (HV.out.step hbA)
     refine hK'.out _ _ (fun _=>HV.out.cells.2) (fun hSe=>?_)
     clear hK' K' hSd
     have hSd:=hSe
     clear hSe
     obtain⟨gy,hgy⟩:∃x,u1.heap.size=x:=⟨_,rfl⟩
     obtain⟨vy,hvy⟩:∃x,u1.alloc (.cells #[.string (nmB 118 i)] 9)=x:=⟨_,rfl⟩
     rw[hgy,hvy] at hY
     rw[hvy] at HV hSd
     simp only[hvy]
     simp only[hgy]
     have HY:=hid hY
     clear hgy hvy hY hbA
     (try simp only[List.getElem_toArray,List.getElem_cons_zero,List.getElem_cons_succ])
     (try simp only[Act.put,List.setIfInBounds_toArray,List.set_cons_zero,List.set_cons_succ])
     refine wpU_ready (rs:=[5]) (by kernel_rfl) (by simp) (AllU.cons (b:=false) rfl (by kernel_rfl) ?_ (AllU.nil))
     ·intro K' hK'
      rw[if_pos (by rfl)]
      refine wp_append_str1 _ _ rfl w.heap.size (.slice dv i cv) (valsN i) (nmB 118 i) rfl HV.out.vs gy rfl HY.out (by rw[valsN_length];omega) HV.out.bel.size ?_
      intro v9 w9 hr9 hg9
      obtain⟨hbx,hnew⟩:=HV.out.push hg9 hr9
      obtain⟨d9,c9,rfl, -⟩:=owns_slice hr9
      rw[List.length_append,valsN_length] at hnew
      have HBX:=hid hbx
      have HVN:=hid hnew
      have hc9:w9.cell? ⟨w.heap.size,1,none⟩=some (.slice dv i cv):=by rw[cell_of_row w9 w.heap.size _ _ _ (0,0) hbx];rfl
      refine hK'.out _ _ (fun _=>hc9) (fun hSe=>?_)
      clear hK' K' hSd hr9 hg9 hbx hnew HV HY
      rw[List.length_append,valsN_length]
      have hSd:=hSe
      clear hSe
      (try simp only[List.getElem_toArray,List.getElem_cons_zero,List.getElem_cons_succ])
      (try simp only[Act.put,List.setIfInBounds_toArray,List.set_cons_zero,List.set_cons_succ])
      refine wpU_take (i:=6) (oi:=_) (v:=.pointer (some ⟨w.heap.size,1,none⟩)) (b:=false) rfl (by kernel_rfl) (by kernel_rfl) (by kernel_rfl) (by decide) (fun _ _ _ h=>h) (Or.inl ⟨by rfl,?_⟩) (by kernel_rfl) (by assumption) ?_
      ·intro u' hSu
       (try simp only[List.getElem_toArray,List.getElem_cons_zero,List.getElem_cons_succ])
       go_simp
      (try simp only[List.getElem_toArray,List.getElem_cons_zero,List.getElem_cons_succ])
      (try simp only[Act.put,List.setIfInBounds_toArray,List.set_cons_zero,List.set_cons_succ])
      have f9:w9.frozen? ⟨w.heap.size,1,none⟩=false:=frozen_of_row _ _ 1 _ _ HBX.out
      refine wpU_ready (rs:=[7]) (by kernel_rfl) (by simp) (AllU.cons (b:=true) rfl (by kernel_rfl) ?_ (AllU.nil))
      ·intro K' hK'
       (try simp only[List.getElem_toArray,List.getElem_cons_zero,List.getElem_cons_succ])
       go_simp
       refine hK'.out _ _ (fun e=>by cases e) (fun _=>wpU_done (by kernel_rfl) ?_ _)
       clear hK' K' hSd hc9 f9 HBX
       generalize (w9.setCell ⟨w.heap.size,1,none⟩ (.slice d9 (i+[nmB 118 i].length) c9))=w11 at *
       go_wp2
       go_roundw
       case rel=>exact⟨i+1,_,_,by omega,by go_num,HVN⟩
       case measure=>simp[intOf];omega
  ·obtain rfl:m=i:=by omega
   go_wp2_with fail
   refine(HCO.out _ HV.out.bel).mono ?_
   rintro e w2 ⟨v,rfl,hv,hb⟩
   have HV2:=hid (HV.out.step hb)
   have hBV:=HV.out.bel.size
   have HRW:=hid hv
   have HBL:Hid (w.heap.size≤wr.heap.size):=hBV
   obtain⟨gl,lc,hve⟩:∃gl lc,v=.slice (some ⟨gl,0,none⟩) FT.length lc:=by
    rcases hv.2 with ⟨_,h9⟩ |⟨g9,cap9,_,h9,_⟩
    ·exact absurd h9 (by omega)
    ·exact⟨g9,cap9,h9⟩
   subst hve
   obtain⟨K,hK⟩:∃k,FT.length=k:=⟨_,rfl⟩
   have HK:=hid hK
   rw[hK] at hft HRW hft1
   simp only[hK]
   have HR0:Hid (RwF w2 wr.heap.size (.slice (some ⟨gl,0,none⟩) K lc) (cnF (FT.take 0)++FT.drop 0)):=HRW.out
   clear hK hv hb hBV HCO HRW HV
   go_wp2_with fail
   go_loopw [34] (fun jv wq=>∃j:Nat,j≤K∧jv=.int .i64 j∧Hid (RwF wq wr.heap.size (.slice (some ⟨gl,0,none⟩) K lc) (cnF (FT.take j)++FT.drop j))∧Hid (LyV w nm (.slice dv m cv) m wq)) (fun jv _=>K - (intOf jv).toNat)
   case atStart=>exact⟨0,Nat.zero_le _,rfl,HR0,HV2⟩
   case round=>
    clear HR0 HV2
    obtain⟨j,hj,rfl,HR,HV⟩:=hrel
    rename World=>wq
    by_cases hjt:j<K
    ·have hjF:j<FT.length:=by rw[HK.out];exact hjt
     have hjl:j<(cnF (FT.take j)++FT.drop j).length:=by rw[List.length_append,cnF_length,List.length_take,List.length_drop];omega
     have HCE:Hid ((cnF (FT.take j)++FT.drop j)[j]=FT[j]):=by
      show _=_
      rw[List.getElem_append_right (by rw[cnF_length,List.length_take];omega)]
      simp[cnF_length,List.length_take,Nat.min_eq_left (Nat.le_of_lt hjF)]
     have HNX:Hid ((cnF (FT.take j)++FT.drop j).set j (qF (frv FT[j]))=cnF (FT.take (j+1))++FT.drop (j+1)):=by
      show _=_
      have hlen:(cnF (FT.take j)).length=j:=by rw[cnF_length,List.length_take];omega
      rw[List.set_append_right _ _ (by omega),hlen,Nat.sub_self,cnF_more hjF,List.append_assoc,List.drop_eq_getElem_cons hjF]
      rfl
     obtain⟨c0,c1,c2, -, -, -⟩:=row_factsU HR.out hjl
     rw[HCE.out] at c0 c1 c2
     have HSJ:=HSZ.out _ (List.getElem_mem hjF)
     have HCA:Hid (∀U:World,Calls Tryz.prog 93 #[.agg #[.bool FT[j].1,.string FT[j].2.1,.string FT[j].2.2]] U fun e w'=>e=.returned (.agg #[.bool (qF (frv FT[j])).1,.string (qF (frv FT[j])).2.1,.string (qF (frv FT[j])).2.2])∧Below U.heap.size U w'):=fun U=>Canon_q (w:=U) (frv FT[j]) rfl HSJ
     obtain⟨q,hq⟩:∃x,qF (frv FT[j])=x:=⟨_,rfl⟩
     rw[hq] at HNX
     simp only[hq] at HCA
     obtain⟨Y,hY⟩:∃x,cnF (FT.take j)++FT.drop j=x:=⟨_,rfl⟩
     rw[hY] at HNX HR hjl
     have HJL:=hid hjl
     clear hq hY HCE HSJ hjl
     generalize FT[j].1=fn at *
     generalize FT[j].2.1=fx at *
     generalize FT[j].2.2=fy at *
     clear hjF
     have hbA:=(Below.refl wq.heap.size wq).alloc (Nat.le_refl _) (FC fn fx fy)
     obtain⟨k0,k1,k2, -, -, -⟩:=(Box.new wq fn fx fy).facts
     have HR1:=hid (HR.out.below hbA)
     have HV1:=hid (HV.out.step hbA)
     clear hbA HR HV
     go_wp2_with fail
     refine(HCA.out _).mono ?_
     rintro e w4 ⟨rfl,hb4⟩
     have HR4:=hid (HR1.out.below hb4)
     have HV4:=hid (HV1.out.step hb4)
     clear hb4 HR1 HV1
     obtain⟨r0,r1,r2,r3,r4,r5⟩:=row_factsU HR4.out HJL.out
     have HV5:=hid (HV4.out.put HR4.out HBL.out j q)
     have HR5:=HR4.out.putU j q
     rw[HNX.out] at HR5
     have HR6:=hid HR5
     clear HR5
     generalize Y[j].1=yn at *
     generalize Y[j].2.1=yx at *
     generalize Y[j].2.2=yy at *
     clear HNX HCA HJL
     go_wp2
     go_roundw
     case rel=>exact⟨j+1,by omega,by go_num,HR6,HV5⟩
     case measure=>simp[intOf];omega
    ·obtain rfl:K=j:=by omega
     have HLF:Hid (RwF wq wr.heap.size (.slice (some ⟨gl,0,none⟩) K lc) XR):=by
      have h9:=HR.out
      have e9:cnF (FT.take K)++FT.drop K=XR:=by
       rw[←HK.out,List.take_length,List.drop_length,List.append_nil]
       exact HFT.out
      rw[e9] at h9
      exact h9
     clear HR
     have HU:Hid (LZ w0 wq G s e0 t (.slice dx nx cx) (.slice dy ny cy) (.slice dz nz cz) (nm,.slice dv m cv,valsN m) (.slice pd pn pc,ps) (.slice (some ⟨gl,0,none⟩) K lc,XR) (.slice dx nx cx) Vs (.slice dy ny cy) Ls (.slice dz nz cz) Rs):=LZ.of (HU0.out.step HV.out.bel) (owns_lower HV.out.vs HU0.out.bel.size) (HP0.out.below HV.out.bel) (owns_lower HLF.out (Nat.le_trans HU0.out.bel.size HBL.out))
     have HE8:Hid (wq.heap[w.heap.size]? =some (.cells #[.string nm,.slice dv m cv] 85 (0,0))):=HV.out.bx
     have HB8:Hid (∀u:World,u.heap[w.heap.size]? =some (.cells #[.string nm,.slice dv m cv] 85 (0,0))→u.cell? ⟨w.heap.size,0,none⟩=some (.string nm)∧u.cell? ⟨w.heap.size,1,none⟩=some (.slice dv m cv)):=fun u hu=>by
      constructor<;>(rw[cell_of_row u w.heap.size _ _ _ (0,0) hu];rfl)
     have HN8:Hid (some w.heap.size≠(Value.slice dx nx cx).ownBlock):=fun e9=>by
      obtain⟨_,_,h9⟩:=owns_typed HU0.out.vs.1 _ e9.symm
      exact absurd (Array.getElem?_eq_some_iff.1 h9).1 (Nat.lt_irrefl _)
     clear HV HLF HU0 HP0
     go_upto_region 12 with fail
     replace HU:=hid (HU.out.step (Below.refl _ _).drew)
     replace HE8:Hid (wq.drew.heap[w.heap.size]? =some (.cells #[.string nm,.slice dv m cv] 85 (0,0))):=HE8.out
     refine wp_region_until 26 (fun (b':Bool) (u:World)=>(u.cell? ⟨w.heap.size,0,none⟩=some (.string nm)∧u.cell? ⟨w.heap.size,1,none⟩=some (.slice dv m cv))∧(b'=false→u.cell? ⟨G,0,none⟩=some (.slice dx nx cx)∧u.cell? ⟨G,1,none⟩=some (.slice dy ny cy)∧u.cell? ⟨G,2,none⟩=some (.slice dz nz cz))) (by kernel_rfl) ⟨HB8.out _ HE8.out,fun _=>HU.out.box.cells⟩ (fun hSd=>?_)
     generalize wq.drew=y0 at *
     refine wpU_take (i:=0) (oi:=_) (v:=.pointer (some ⟨G,0,none⟩)) (b:=false) rfl (by kernel_rfl) (by kernel_rfl) (by kernel_rfl) (by decide) (fun _ _ _ h=>h) (Or.inl ⟨by rfl,?_⟩) (by kernel_rfl) (by assumption) ?_
     ·intro u' hSu
      (try simp only[List.getElem_toArray,List.getElem_cons_zero])
      go_simp
     (try simp only[List.getElem_toArray,List.getElem_cons_zero])
     (try simp only[Act.put,List.setIfInBounds_toArray,List.set_cons_zero,List.set_cons_succ])
     refine wpU_take (i:=1) (oi:=_) (v:=.pointer (some ⟨G,0,none⟩)) (b:=false) rfl (by kernel_rfl) (by kernel_rfl) (by kernel_rfl) (by decide) (fun _ _ _ h=>h) (Or.inl ⟨by rfl,?_⟩) (by kernel_rfl) (by assumption) ?_
     ·intro u' hSu
      (try simp only[List.getElem_toArray,List.getElem_cons_zero,List.getElem_cons_succ])
      go_simp
     (try simp only[List.getElem_toArray,List.getElem_cons_zero,List.getElem_cons_succ])
     (try simp only[Act.put,List.setIfInBounds_toArray,List.set_cons_zero,List.set_cons_succ])
     refine wpU_take (i:=2) (oi:=_) (v:=.pointer (some ⟨G,0,none⟩)) (b:=false) rfl (by kernel_rfl) (by kernel_rfl) (by kernel_rfl) (by decide) (fun _ _ _ h=>h) (Or.inl ⟨by rfl,?_⟩) (by kernel_rfl) (by assumption) ?_
     ·intro u' hSu
      (try simp only[List.getElem_toArray,List.getElem_cons_zero,List.getElem_cons_succ])
      go_simp
     (try simp only[List.getElem_toArray,List.getElem_cons_zero,List.getElem_cons_succ])
     (try simp only[Act.put,List.setIfInBounds_toArray,List.set_cons_zero,List.set_cons_succ])
     refine wpU_take (i:=3) (oi:=_) (v:=.pointer (some ⟨G,0,none⟩)) (b:=false) rfl (by kernel_rfl) (by kernel_rfl) (by kernel_rfl) (by decide) (fun _ _ _ h=>h) (Or.inl ⟨by rfl,?_⟩) (by kernel_rfl) (by assumption) ?_
     ·intro u' hSu
      (try simp only[List.getElem_toArray,List.getElem_cons_zero,List.getElem_cons_succ])
      go_simp
     (try simp only[List.getElem_toArray,List.getElem_cons_zero,List.getElem_cons_succ])
     (try simp only[Act.put,List.setIfInBounds_toArray,List.set_cons_zero,List.set_cons_succ])
     refine wpU_take (i:=4) (oi:=_) (v:=.pointer (some ⟨G,0,none⟩)) (b:=false) rfl (by kernel_rfl) (by kernel_rfl) (by kernel_rfl) (by decide) (fun _ _ _ h=>h) (Or.inl ⟨by rfl,?_⟩) (by kernel_rfl) (by assumption) ?_
     ·intro u' hSu
      (try simp only[List.getElem_toArray,List.getElem_cons_zero,List.getElem_cons_succ])
      go_simp
     (try simp only[List.getElem_toArray,List.getElem_cons_zero,List.getElem_cons_succ])
     (try simp only[Act.put,List.setIfInBounds_toArray,List.set_cons_zero,List.set_cons_succ])
     refine wpU_take (i:=5) (oi:=_) (v:=.pointer (some ⟨G,0,none⟩)) (b:=false) rfl (by kernel_rfl) (by kernel_rfl) (by kernel_rfl) (by decide) (fun _ _ _ h=>h) (Or.inl ⟨by rfl,?_⟩) (by kernel_rfl) (by assumption) ?_
     ·intro u' hSu
      (try simp only[List.getElem_toArray,List.getElem_cons_zero,List.getElem_cons_succ])
      go_simp
     (try simp only[List.getElem_toArray,List.getElem_cons_zero,List.getElem_cons_succ])
     (try simp only[Act.put,List.setIfInBounds_toArray,List.set_cons_zero,List.set_cons_succ])
     refine wpU_ahead (i:=6) (oi:=_) (v:=.slice dx nx cx) rfl (by kernel_rfl) (by kernel_rfl) (by kernel_rfl) (by decide) rfl (by kernel_rfl) (fun _ _ _ h=>h) (Or.inl ⟨by rfl,?_⟩) (by kernel_rfl) (by assumption) ?_
     ·intro u' hSu
      (try simp only[List.getElem_toArray,List.getElem_cons_zero,List.getElem_cons_succ])
      obtain⟨_,s5⟩:=hSu
      obtain⟨s6,s7,s8⟩:=s5 rfl
      go_simp
     (try simp only[List.getElem_toArray,List.getElem_cons_zero,List.getElem_cons_succ])
     (try simp only[Act.put,List.setIfInBounds_toArray,List.set_cons_zero,List.set_cons_succ])
     refine wpU_take (i:=7) (oi:=_) (v:=.agg #[.string nm,.slice dv m cv]) (b:=false) rfl (by kernel_rfl) (by kernel_rfl) (by kernel_rfl) (by decide) (fun _ _ _ h=>h) (Or.inl ⟨by rfl,?_⟩) (by kernel_rfl) (by assumption) ?_
     ·intro u' hSu
      (try simp only[List.getElem_toArray,List.getElem_cons_zero,List.getElem_cons_succ])
      obtain⟨_,⟨s0,s1⟩,_⟩:=hSu
      go_simp
     (try simp only[List.getElem_toArray,List.getElem_cons_zero,List.getElem_cons_succ])
     (try simp only[Act.put,List.setIfInBounds_toArray,List.set_cons_zero,List.set_cons_succ])
     refine wpU_take (i:=10) (oi:=_) (v:=.pointer (some ⟨G,0,none⟩)) (b:=false) rfl (by kernel_rfl) (by kernel_rfl) (by kernel_rfl) (by decide) (fun _ _ _ h=>h) (Or.inl ⟨by rfl,?_⟩) (by kernel_rfl) (by assumption) ?_
     ·intro u' hSu
      (try simp only[List.getElem_toArray,List.getElem_cons_zero,List.getElem_cons_succ])
      go_simp
     (try simp only[List.getElem_toArray,List.getElem_cons_zero,List.getElem_cons_succ])
     (try simp only[Act.put,List.setIfInBounds_toArray,List.set_cons_zero,List.set_cons_succ])
     refine wpU_take (i:=11) (oi:=_) (v:=.pointer (some ⟨G,0,none⟩)) (b:=false) rfl (by kernel_rfl) (by kernel_rfl) (by kernel_rfl) (by decide) (fun _ _ _ h=>h) (Or.inl ⟨by rfl,?_⟩) (by kernel_rfl) (by assumption) ?_
     ·intro u' hSu
      (try simp only[List.getElem_toArray,List.getElem_cons_zero,List.getElem_cons_succ])
      go_simp
     (try simp only[List.getElem_toArray,List.getElem_cons_zero,List.getElem_cons_succ])
     (try simp only[Act.put,List.setIfInBounds_toArray,List.set_cons_zero,List.set_cons_succ])
     refine wpU_take (i:=12) (oi:=_) (v:=.pointer (some ⟨G,1,none⟩)) (b:=false) rfl (by kernel_rfl) (by kernel_rfl) (by kernel_rfl) (by decide) (fun _ _ _ h=>h) (Or.inl ⟨by rfl,?_⟩) (by kernel_rfl) (by assumption) ?_
     ·intro u' hSu
      (try simp only[List.getElem_toArray,List.getElem_cons_zero,List.getElem_cons_succ])
      go_simp
     (try simp only[List.getElem_toArray,List.getElem_cons_zero,List.getElem_cons_succ])
     (try simp only[Act.put,List.setIfInBounds_toArray,List.set_cons_zero,List.set_cons_succ])
     refine wpU_ahead (i:=13) (oi:=_) (v:=.slice dy ny cy) rfl (by kernel_rfl) (by kernel_rfl) (by kernel_rfl) (by decide) rfl (by kernel_rfl) (fun _ _ _ h=>h) (Or.inl ⟨by rfl,?_⟩) (by kernel_rfl) (by assumption) ?_
     ·intro u' hSu
      (try simp only[List.getElem_toArray,List.getElem_cons_zero,List.getElem_cons_succ])
      obtain⟨_,s5⟩:=hSu
      obtain⟨s6,s7,s8⟩:=s5 rfl
      go_simp
     (try simp only[List.getElem_toArray,List.getElem_cons_zero,List.getElem_cons_succ])
     (try simp only[Act.put,List.setIfInBounds_toArray,List.set_cons_zero,List.set_cons_succ])
     refine wpU_take (i:=14) (oi:=_) (v:=.slice pd pn pc) (b:=false) rfl (by kernel_rfl) (by kernel_rfl) (by kernel_rfl) (by decide) (fun _ _ _ h=>h) (Or.inl ⟨by rfl,?_⟩) (by kernel_rfl) (by assumption) ?_
     ·intro u' hSu
      (try simp only[List.getElem_toArray,List.getElem_cons_zero,List.getElem_cons_succ])
      go_simp
     (try simp only[List.getElem_toArray,List.getElem_cons_zero,List.getElem_cons_succ])
     (try simp only[Act.put,List.setIfInBounds_toArray,List.set_cons_zero,List.set_cons_succ])
     refine wpU_take (i:=17) (oi:=_) (v:=.pointer (some ⟨G,0,none⟩)) (b:=false) rfl (by kernel_rfl) (by kernel_rfl) (by kernel_rfl) (by decide) (fun _ _ _ h=>h) (Or.inl ⟨by rfl,?_⟩) (by kernel_rfl) (by assumption) ?_
     ·intro u' hSu
      (try simp only[List.getElem_toArray,List.getElem_cons_zero,List.getElem_cons_succ])
      go_simp
     (try simp only[List.getElem_toArray,List.getElem_cons_zero,List.getElem_cons_succ])
     (try simp only[Act.put,List.setIfInBounds_toArray,List.set_cons_zero,List.set_cons_succ])
     refine wpU_take (i:=18) (oi:=_) (v:=.pointer (some ⟨G,0,none⟩)) (b:=false) rfl (by kernel_rfl) (by kernel_rfl) (by kernel_rfl) (by decide) (fun _ _ _ h=>h) (Or.inl ⟨by rfl,?_⟩) (by kernel_rfl) (by assumption) ?_
     ·intro u' hSu
      (try simp only[List.getElem_toArray,List.getElem_cons_zero,List.getElem_cons_succ])
      go_simp
     (try simp only[List.getElem_toArray,List.getElem_cons_zero,List.getElem_cons_succ])
     (try simp only[Act.put,List.setIfInBounds_toArray,List.set_cons_zero,List.set_cons_succ])
     refine wpU_take (i:=19) (oi:=_) (v:=.pointer (some ⟨G,2,none⟩)) (b:=false) rfl (by kernel_rfl) (by kernel_rfl) (by kernel_rfl) (by decide) (fun _ _ _ h=>h) (Or.inl ⟨by rfl,?_⟩) (by kernel_rfl) (by assumption) ?_
     ·intro u' hSu
      (try simp only[List.getElem_toArray,List.getElem_cons_zero,List.getElem_cons_succ])
      go_simp
     (try simp only[List.getElem_toArray,List.getElem_cons_zero,List.getElem_cons_succ])
     (try simp only[Act.put,List.setIfInBounds_toArray,List.set_cons_zero,List.set_cons_succ])
     refine wpU_ahead (i:=20) (oi:=_) (v:=.slice dz nz cz) rfl (by kernel_rfl) (by kernel_rfl) (by kernel_rfl) (by decide) rfl (by kernel_rfl) (fun _ _ _ h=>h) (Or.inl ⟨by rfl,?_⟩) (by kernel_rfl) (by assumption) ?_
     ·intro u' hSu
      (try simp only[List.getElem_toArray,List.getElem_cons_zero,List.getElem_cons_succ])
      obtain⟨_,s5⟩:=hSu
      obtain⟨s6,s7,s8⟩:=s5 rfl
      go_simp
     (try simp only[List.getElem_toArray,List.getElem_cons_zero,List.getElem_cons_succ])
     (try simp only[Act.put,List.setIfInBounds_toArray,List.set_cons_zero,List.set_cons_succ])
     refine wpU_take (i:=21) (oi:=_) (v:=.slice (some ⟨gl,0,none⟩) K lc) (b:=false) rfl (by kernel_rfl) (by kernel_rfl) (by kernel_rfl) (by decide) (fun _ _ _ h=>h) (Or.inl ⟨by rfl,?_⟩) (by kernel_rfl) (by assumption) ?_
     ·intro u' hSu
      (try simp only[List.getElem_toArray,List.getElem_cons_zero,List.getElem_cons_succ])
      go_simp
     (try simp only[List.getElem_toArray,List.getElem_cons_zero,List.getElem_cons_succ])
     (try simp only[Act.put,List.setIfInBounds_toArray,List.set_cons_zero,List.set_cons_succ])
     refine with_wpU (fun F A=>∀(U:World) (g1:Nat) (g2:Nat) (g3:Nat) (eX:Option Addr) (cX:Nat) (eY:Option Addr) (cY:Nat) (eZ:Option Addr) (cZ:Nat),LZ w0 U G s e0 t (.slice dx nx cx) (.slice dy ny cy) (.slice dz nz cz) (nm,.slice dv m cv,valsN m) (.slice pd pn pc,ps) (.slice (some ⟨gl,0,none⟩) K lc,XR) (.slice eX (Vs.length+1) cX) (Vs++[(nm,.slice dv m cv,valsN m)]) (.slice eY (Ls.length+1) cY) (Ls++[(.slice pd pn pc,ps)]) (.slice eZ (Rs.length+1) cZ) (Rs++[(.slice (some ⟨gl,0,none⟩) K lc,XR)])→U.heap[w.heap.size]? =some (.cells #[.string nm,.slice dv m cv] 85 (0,0))→F 9 #[true,true,true,true,true,true,true,true,true,true,true,true,true,true,true,true,true,true,true,true,true,true,true,true,false,false,false,false,false,false,false,false,false] ((((((A.put (some 53) (.slice (some ⟨g1,0,none⟩) 1 1)).put (some 60) (.slice (some ⟨g2,0,none⟩) 1 1)).put (some 67) (.slice (some ⟨g3,0,none⟩) 1 1)).put (some 54) (.slice eX (Vs.length+1) cX)).put (some 61) (.slice eY (Ls.length+1) cY)).put (some 68) (.slice eZ (Rs.length+1) cZ)) U) ?_ (fun N3123=>?_)
     ·intro U g1 g2 g3 eX cX eY cY eZ cZ hU hE
      have HU:=hid hU
      have HE8:=hid hE
      clear hU hE
      (try simp only[Act.put,List.setIfInBounds_toArray,List.set_cons_zero,List.set_cons_succ])
      have hSd:(fun (b':Bool) (u:World)=>(u.cell? ⟨w.heap.size,0,none⟩=some (.string nm)∧u.cell? ⟨w.heap.size,1,none⟩=some (.slice dv m cv))∧(b'=false→u.cell? ⟨G,0,none⟩=some (.slice dx nx cx)∧u.cell? ⟨G,1,none⟩=some (.slice dy ny cy)∧u.cell? ⟨G,2,none⟩=some (.slice dz nz cz))) false U:=⟨HB8.out _ HE8.out,fun _=>HU.out.box.cells⟩
      refine wpU_take (i:=24) (oi:=_) (v:=.pointer (some ⟨G,0,none⟩)) (b:=false) rfl (by kernel_rfl) (by kernel_rfl) (by kernel_rfl) (by decide) (fun _ _ _ h=>h) (Or.inl ⟨by rfl,?_⟩) (by kernel_rfl) (by assumption) ?_
      ·intro u' hSu
       (try simp only[List.getElem_toArray,List.getElem_cons_zero,List.getElem_cons_succ])
       go_simp
      (try simp only[List.getElem_toArray,List.getElem_cons_zero,List.getElem_cons_succ])
      (try simp only[Act.put,List.setIfInBounds_toArray,List.set_cons_zero,List.set_cons_succ])
      refine wpU_take (i:=25) (oi:=_) (v:=.pointer (some ⟨G,0,none⟩)) (b:=false) rfl (by kernel_rfl) (by kernel_rfl) (by kernel_rfl) (by decide) (fun _ _ _ h=>h) (Or.inl ⟨by rfl,?_⟩) (by kernel_rfl) (by assumption) ?_
      ·intro u' hSu
       (try simp only[List.getElem_toArray,List.getElem_cons_zero,List.getElem_cons_succ])
       go_simp
      (try simp only[List.getElem_toArray,List.getElem_cons_zero,List.getElem_cons_succ])
      (try simp only[Act.put,List.setIfInBounds_toArray,List.set_cons_zero,List.set_cons_succ])
      obtain⟨hN1,hN2,hUS⟩:=HU.out.out
      have HN1:=hid hN1
      have HN2:=hid hN2
      have HUS:=hid hUS
      have hK1:=hid (KeepT.set HU.out.box (show 85≠44 by decide) 0 (.slice eX (Vs.length+1) cX) _ _ _ HE8.out)
      have hK2:=hid (KeepT.set HN1.out (show 85≠44 by decide) 1 (.slice eY (Ls.length+1) cY) _ _ _ hK1.out)
      have hK3:=hid (KeepT.set HN2.out (show 85≠44 by decide) 2 (.slice eZ (Rs.length+1) cZ) _ _ _ hK2.out)
      have z0:=HU.out.box.cells.1
      have z1:U.frozen? ⟨G,0,none⟩=false:=frozen_of_row _ _ 0 _ _ HU.out.box
      clear hN1 hN2 hUS
      refine wpU_ready (rs:=[26]) (by kernel_rfl) (by simp) (AllU.cons (b:=true) rfl (by kernel_rfl) ?_ (AllU.nil))
      ·intro K' hK'
       (try simp only[List.getElem_toArray,List.getElem_cons_zero,List.getElem_cons_succ])
       go_simp
       refine hK'.out _ _ ⟨HB8.out _ hK1.out,fun e=>by cases e⟩ (fun hSe=>?_)
       clear hK' K' hSd z0 z1
       have hSd:=hSe
       clear hSe
       (try simp only[List.getElem_toArray,List.getElem_cons_zero,List.getElem_cons_succ])
       (try simp only[List.setIfInBounds_toArray,List.set_cons_zero,List.set_cons_succ])
       refine wpU_take (i:=27) (oi:=_) (v:=.pointer (some ⟨G,0,none⟩)) (b:=true) rfl (by kernel_rfl) (by kernel_rfl) (by kernel_rfl) (by decide) (fun _ _ _ h=>h) (Or.inl ⟨by rfl,?_⟩) (by kernel_rfl) (by assumption) ?_
       ·intro u' hSu
        (try simp only[List.getElem_toArray,List.getElem_cons_zero,List.getElem_cons_succ])
        go_simp
       (try simp only[List.getElem_toArray,List.getElem_cons_zero,List.getElem_cons_succ])
       (try simp only[Act.put,List.setIfInBounds_toArray,List.set_cons_zero,List.set_cons_succ])
       refine wpU_take (i:=28) (oi:=_) (v:=.pointer (some ⟨G,1,none⟩)) (b:=true) rfl (by kernel_rfl) (by kernel_rfl) (by kernel_rfl) (by decide) (fun _ _ _ h=>h) (Or.inl ⟨by rfl,?_⟩) (by kernel_rfl) (by assumption) ?_
       ·intro u' hSu
        (try simp only[List.getElem_toArray,List.getElem_cons_zero,List.getElem_cons_succ])
        go_simp
       (try simp only[List.getElem_toArray,List.getElem_cons_zero,List.getElem_cons_succ])
       (try simp only[Act.put,List.setIfInBounds_toArray,List.set_cons_zero,List.set_cons_succ])
       have z0:=HN1.out.cells.2.1
       have z1:(U.setCell ⟨G,0,none⟩ (.slice eX (Vs.length+1) cX)).frozen? ⟨G,1,none⟩=false:=frozen_of_row _ _ 1 _ _ HN1.out
       refine wpU_ready (rs:=[29]) (by kernel_rfl) (by simp) (AllU.cons (b:=true) rfl (by kernel_rfl) ?_ (AllU.nil))
       ·intro K' hK'
        (try simp only[List.getElem_toArray,List.getElem_cons_zero,List.getElem_cons_succ])
        go_simp
        refine hK'.out _ _ ⟨HB8.out _ hK2.out,fun e=>by cases e⟩ (fun hSe=>?_)
        clear hK' K' hSd z0 z1
        have hSd:=hSe
        clear hSe
        (try simp only[List.getElem_toArray,List.getElem_cons_zero,List.getElem_cons_succ])
        (try simp only[List.setIfInBounds_toArray,List.set_cons_zero,List.set_cons_succ])
        refine wpU_take (i:=30) (oi:=_) (v:=.pointer (some ⟨G,0,none⟩)) (b:=true) rfl (by kernel_rfl) (by kernel_rfl) (by kernel_rfl) (by decide) (fun _ _ _ h=>h) (Or.inl ⟨by rfl,?_⟩) (by kernel_rfl) (by assumption) ?_
        ·intro u' hSu
         (try simp only[List.getElem_toArray,List.getElem_cons_zero,List.getElem_cons_succ])
         go_simp
        (try simp only[List.getElem_toArray,List.getElem_cons_zero,List.getElem_cons_succ])
        (try simp only[Act.put,List.setIfInBounds_toArray,List.set_cons_zero,List.set_cons_succ])
        refine wpU_take (i:=31) (oi:=_) (v:=.pointer (some ⟨G,2,none⟩)) (b:=true) rfl (by kernel_rfl) (by kernel_rfl) (by kernel_rfl) (by decide) (fun _ _ _ h=>h) (Or.inl ⟨by rfl,?_⟩) (by kernel_rfl) (by assumption) ?_
        ·intro u' hSu
         (try simp only[List.getElem_toArray,List.getElem_cons_zero,List.getElem_cons_succ])
         go_simp
        (try simp only[List.getElem_toArray,List.getElem_cons_zero,List.getElem_cons_succ])
        (try simp only[Act.put,List.setIfInBounds_toArray,List.set_cons_zero,List.set_cons_succ])
        have z0:=HN2.out.cells.2.2
        have z1:((U.setCell ⟨G,0,none⟩ (.slice eX (Vs.length+1) cX)).setCell ⟨G,1,none⟩ (.slice eY (Ls.length+1) cY)).frozen? ⟨G,2,none⟩=false:=frozen_of_row _ _ 2 _ _ HN2.out
        refine wpU_ready (rs:=[32]) (by kernel_rfl) (by simp) (AllU.cons (b:=true) rfl (by kernel_rfl) ?_ (AllU.nil))
        ·intro K' hK'
         (try simp only[List.getElem_toArray,List.getElem_cons_zero,List.getElem_cons_succ])
         go_simp
         refine hK'.out _ _ ⟨HB8.out _ hK3.out,fun e=>by cases e⟩ (fun _=>wpU_done (by kernel_rfl) ?_ _)
         clear hK' K' hSd z0 z1
         go_wp2
         go_end0
         exact⟨rfl,_,_,_,_,_,rfl,rfl,HUS.out⟩
     refine with_wpU (fun F A=>∀(U:World) (g1:Nat) (g2:Nat) (g3:Nat) (eX:Option Addr) (cX:Nat) (eY:Option Addr) (cY:Nat),LZ w0 U G s e0 t (.slice dx nx cx) (.slice dy ny cy) (.slice dz nz cz) (nm,.slice dv m cv,valsN m) (.slice pd pn pc,ps) (.slice (some ⟨gl,0,none⟩) K lc,XR) (.slice eX (Vs.length+1) cX) (Vs++[(nm,.slice dv m cv,valsN m)]) (.slice eY (Ls.length+1) cY) (Ls++[(.slice pd pn pc,ps)]) (.slice dz nz cz) Rs→U.heap[w.heap.size]? =some (.cells #[.string nm,.slice dv m cv] 85 (0,0))→U.heap[g3]? =some (.cells #[.slice (some ⟨gl,0,none⟩) K lc] 22 (0,0))→F 10 #[true,true,true,true,true,true,true,true,true,true,true,true,true,true,true,true,true,true,true,true,true,true,true,false,false,false,false,false,false,false,false,false,false] (((((A.put (some 53) (.slice (some ⟨g1,0,none⟩) 1 1)).put (some 60) (.slice (some ⟨g2,0,none⟩) 1 1)).put (some 67) (.slice (some ⟨g3,0,none⟩) 1 1)).put (some 54) (.slice eX (Vs.length+1) cX)).put (some 61) (.slice eY (Ls.length+1) cY)) U) ?_ (fun N2123=>?_)
     ·intro U g1 g2 g3 eX cX eY cY hU hE h3
      have HU:=hid hU
      have HE8:=hid hE
      have HX3:=hid h3
      clear hU hE h3
      (try simp only[Act.put,List.setIfInBounds_toArray,List.set_cons_zero,List.set_cons_succ])
      refine wpU_ready (rs:=[23]) (by kernel_rfl) (by simp) (AllU.cons (b:=false) rfl (by kernel_rfl) ?_ (AllU.nil))
      ·intro K' hK'
       rw[if_pos (by rfl)]
       have hc0:U.cell? ⟨g3,0,none⟩=some (.slice (some ⟨gl,0,none⟩) K lc):=by rw[cell_of_row U g3 _ _ _ (0,0) HX3.out];rfl
       refine wp_append_rs1 _ _ rfl w0.heap.size (.slice dz nz cz) Rs (.slice (some ⟨gl,0,none⟩) K lc) ⟨_,_,_,rfl⟩ rfl HU.out.rs.1 g3 rfl hc0 HLR.out HU.out.bel.size ?_
       intro vZ U2 hr9 hg9
       have hty:=owns_typed HU.out.rs.1
       have hE2:=KeepT.grown hg9 hty (show 85≠22 by decide) _ _ _ HE8.out
       have hU2:=HU.out.pushR hr9 hg9
       obtain⟨eZ,cZ,rfl, -⟩:=owns_slice hr9
       refine hK'.out _ _ ⟨HB8.out _ hE2,fun _=>hU2.box.cells⟩ (fun _=>?_)
       (try simp only[List.getElem_toArray,List.getElem_cons_zero,List.getElem_cons_succ])
       (try simp only[List.setIfInBounds_toArray,List.set_cons_zero,List.set_cons_succ])
       refine wpU_cast (by kernel_rfl) (by simp only[Act.put,List.setIfInBounds_toArray,List.set_cons_zero,List.set_cons_succ]) (N3123 U2 g1 g2 g3 eX cX eY cY eZ cZ hU2 hE2)
     refine with_wpU (fun F A=>∀(U:World) (g1:Nat) (g2:Nat) (eX:Option Addr) (cX:Nat) (eY:Option Addr) (cY:Nat),LZ w0 U G s e0 t (.slice dx nx cx) (.slice dy ny cy) (.slice dz nz cz) (nm,.slice dv m cv,valsN m) (.slice pd pn pc,ps) (.slice (some ⟨gl,0,none⟩) K lc,XR) (.slice eX (Vs.length+1) cX) (Vs++[(nm,.slice dv m cv,valsN m)]) (.slice eY (Ls.length+1) cY) (Ls++[(.slice pd pn pc,ps)]) (.slice dz nz cz) Rs→U.heap[w.heap.size]? =some (.cells #[.string nm,.slice dv m cv] 85 (0,0))→F 11 #[true,true,true,true,true,true,true,true,true,true,true,true,true,true,true,true,true,true,true,true,true,true,false,false,false,false,false,false,false,false,false,false,false] ((((A.put (some 53) (.slice (some ⟨g1,0,none⟩) 1 1)).put (some 60) (.slice (some ⟨g2,0,none⟩) 1 1)).put (some 54) (.slice eX (Vs.length+1) cX)).put (some 61) (.slice eY (Ls.length+1) cY)) U) ?_ (fun N212=>?_)
     ·intro U g1 g2 eX cX eY cY hU hE
      have HU:=hid hU
      have HE8:=hid hE
      clear hU hE
      (try simp only[Act.put,List.setIfInBounds_toArray,List.set_cons_zero,List.set_cons_succ])
      refine wpU_ready (rs:=[22]) (by kernel_rfl) (by simp) (AllU.cons (b:=false) rfl (by kernel_rfl) ?_ (AllU.nil))
      ·intro K' hK'
       (try simp only[List.getElem_toArray,List.getElem_cons_zero,List.getElem_cons_succ])
       go_simp
       have hbA:=(Below.refl U.heap.size U).alloc (Nat.le_refl _) (.cells #[.slice (some ⟨gl,0,none⟩) K lc] 22)
       refine hK'.out _ _ ⟨HB8.out _ ((KeepT.below hbA:KeepT 85 _ _) _ _ _ HE8.out),fun _=>(HU.out.step hbA).box.cells⟩ (fun _=>?_)
       (try simp only[List.getElem_toArray,List.getElem_cons_zero,List.getElem_cons_succ])
       (try simp only[List.setIfInBounds_toArray,List.set_cons_zero,List.set_cons_succ])
       refine wpU_cast (by kernel_rfl) (by simp only[Act.put,List.setIfInBounds_toArray,List.set_cons_zero,List.set_cons_succ]) (N2123 _ g1 g2 U.heap.size eX cX eY cY (HU.out.step hbA) ((KeepT.below hbA:KeepT 85 _ _) _ _ _ HE8.out) (heap_alloc_new U (.cells #[.slice (some ⟨gl,0,none⟩) K lc] 22)))
     refine with_wpU (fun F A=>∀(U:World) (g1:Nat) (g2:Nat) (g3:Nat) (eX:Option Addr) (cX:Nat),LZ w0 U G s e0 t (.slice dx nx cx) (.slice dy ny cy) (.slice dz nz cz) (nm,.slice dv m cv,valsN m) (.slice pd pn pc,ps) (.slice (some ⟨gl,0,none⟩) K lc,XR) (.slice eX (Vs.length+1) cX) (Vs++[(nm,.slice dv m cv,valsN m)]) (.slice dy ny cy) Ls (.slice dz nz cz) Rs→U.heap[w.heap.size]? =some (.cells #[.string nm,.slice dv m cv] 85 (0,0))→U.heap[g2]? =some (.cells #[.slice pd pn pc] 26 (0,0))→U.heap[g3]? =some (.cells #[.slice (some ⟨gl,0,none⟩) K lc] 22 (0,0))→F 11 #[true,true,true,true,true,true,true,true,true,true,true,true,true,true,true,true,false,true,true,true,true,true,true,false,false,false,false,false,false,false,false,false,false] ((((A.put (some 53) (.slice (some ⟨g1,0,none⟩) 1 1)).put (some 60) (.slice (some ⟨g2,0,none⟩) 1 1)).put (some 67) (.slice (some ⟨g3,0,none⟩) 1 1)).put (some 54) (.slice eX (Vs.length+1) cX)) U) ?_ (fun N1123=>?_)
     ·intro U g1 g2 g3 eX cX hU hE h2 h3
      have HU:=hid hU
      have HE8:=hid hE
      have HX2:=hid h2
      have HX3:=hid h3
      clear hU hE h2 h3
      (try simp only[Act.put,List.setIfInBounds_toArray,List.set_cons_zero,List.set_cons_succ])
      refine wpU_ready (rs:=[16]) (by kernel_rfl) (by simp) (AllU.cons (b:=false) rfl (by kernel_rfl) ?_ (AllU.nil))
      ·intro K' hK'
       rw[if_pos (by rfl)]
       have hc0:U.cell? ⟨g2,0,none⟩=some (.slice pd pn pc):=by rw[cell_of_row U g2 _ _ _ (0,0) HX2.out];rfl
       refine wp_append_ls1 _ _ rfl w0.heap.size (.slice dy ny cy) Ls (.slice pd pn pc) ⟨_,_,_,rfl⟩ rfl HU.out.ls.1 g2 rfl hc0 HLL.out HU.out.bel.size ?_
       intro vY U2 hr9 hg9
       have hty:=owns_typed HU.out.ls.1
       have hE2:=KeepT.grown hg9 hty (show 85≠26 by decide) _ _ _ HE8.out
       have hU2:=HU.out.pushL hr9 hg9
       obtain⟨eY,cY,rfl, -⟩:=owns_slice hr9
       refine hK'.out _ _ ⟨HB8.out _ hE2,fun _=>hU2.box.cells⟩ (fun _=>?_)
       (try simp only[List.getElem_toArray,List.getElem_cons_zero,List.getElem_cons_succ])
       (try simp only[List.setIfInBounds_toArray,List.set_cons_zero,List.set_cons_succ])
       refine wpU_cast (by kernel_rfl) (by simp only[Act.put,List.setIfInBounds_toArray,List.set_cons_zero,List.set_cons_succ]) (N2123 U2 g1 g2 g3 eX cX eY cY hU2 hE2 (KeepT.grown hg9 hty (show 22≠26 by decide) _ _ _ HX3.out))
     refine with_wpU (fun F A=>∀(U:World) (g1:Nat) (g2:Nat) (eX:Option Addr) (cX:Nat),LZ w0 U G s e0 t (.slice dx nx cx) (.slice dy ny cy) (.slice dz nz cz) (nm,.slice dv m cv,valsN m) (.slice pd pn pc,ps) (.slice (some ⟨gl,0,none⟩) K lc,XR) (.slice eX (Vs.length+1) cX) (Vs++[(nm,.slice dv m cv,valsN m)]) (.slice dy ny cy) Ls (.slice dz nz cz) Rs→U.heap[w.heap.size]? =some (.cells #[.string nm,.slice dv m cv] 85 (0,0))→U.heap[g2]? =some (.cells #[.slice pd pn pc] 26 (0,0))→F 12 #[true,true,true,true,true,true,true,true,true,true,true,true,true,true,true,true,false,true,true,true,true,true,false,false,false,false,false,false,false,false,false,false,false] (((A.put (some 53) (.slice (some ⟨g1,0,none⟩) 1 1)).put (some 60) (.slice (some ⟨g2,0,none⟩) 1 1)).put (some 54) (.slice eX (Vs.length+1) cX)) U) ?_ (fun N112=>?_)
     ·intro U g1 g2 eX cX hU hE h2
      have HU:=hid hU
      have HE8:=hid hE
      have HX2:=hid h2
      clear hU hE h2
      (try simp only[Act.put,List.setIfInBounds_toArray,List.set_cons_zero,List.set_cons_succ])
      refine wpU_ready (rs:=[16,22]) (by kernel_rfl) (by simp) (AllU.cons (b:=false) rfl (by kernel_rfl) ?_ (AllU.cons (b:=false) rfl (by kernel_rfl) ?_ (AllU.nil)))
      ·intro K' hK'
       rw[if_pos (by rfl)]
       have hc0:U.cell? ⟨g2,0,none⟩=some (.slice pd pn pc):=by rw[cell_of_row U g2 _ _ _ (0,0) HX2.out];rfl
       refine wp_append_ls1 _ _ rfl w0.heap.size (.slice dy ny cy) Ls (.slice pd pn pc) ⟨_,_,_,rfl⟩ rfl HU.out.ls.1 g2 rfl hc0 HLL.out HU.out.bel.size ?_
       intro vY U2 hr9 hg9
       have hty:=owns_typed HU.out.ls.1
       have hE2:=KeepT.grown hg9 hty (show 85≠26 by decide) _ _ _ HE8.out
       have hU2:=HU.out.pushL hr9 hg9
       obtain⟨eY,cY,rfl, -⟩:=owns_slice hr9
       refine hK'.out _ _ ⟨HB8.out _ hE2,fun _=>hU2.box.cells⟩ (fun _=>?_)
       (try simp only[List.getElem_toArray,List.getElem_cons_zero,List.getElem_cons_succ])
       (try simp only[List.setIfInBounds_toArray,List.set_cons_zero,List.set_cons_succ])
       refine wpU_cast (by kernel_rfl) (by simp only[Act.put,List.setIfInBounds_toArray,List.set_cons_zero,List.set_cons_succ]) (N212 U2 g1 g2 eX cX eY cY hU2 hE2)
      ·intro K' hK'
       (try simp only[List.getElem_toArray,List.getElem_cons_zero,List.getElem_cons_succ])
       go_simp
       have hbA:=(Below.refl U.heap.size U).alloc (Nat.le_refl _) (.cells #[.slice (some ⟨gl,0,none⟩) K lc] 22)
       refine hK'.out _ _ ⟨HB8.out _ ((KeepT.below hbA:KeepT 85 _ _) _ _ _ HE8.out),fun _=>(HU.out.step hbA).box.cells⟩ (fun _=>?_)
       (try simp only[List.getElem_toArray,List.getElem_cons_zero,List.getElem_cons_succ])
       (try simp only[List.setIfInBounds_toArray,List.set_cons_zero,List.set_cons_succ])
       refine wpU_cast (by kernel_rfl) (by simp only[Act.put,List.setIfInBounds_toArray,List.set_cons_zero,List.set_cons_succ]) (N1123 _ g1 g2 U.heap.size eX cX (HU.out.step hbA) ((KeepT.below hbA:KeepT 85 _ _) _ _ _ HE8.out) ((KeepT.below hbA:KeepT 26 _ _) _ _ _ HX2.out) (heap_alloc_new U (.cells #[.slice (some ⟨gl,0,none⟩) K lc] 22)))
     refine with_wpU (fun F A=>∀(U:World) (g1:Nat) (g3:Nat) (eX:Option Addr) (cX:Nat),LZ w0 U G s e0 t (.slice dx nx cx) (.slice dy ny cy) (.slice dz nz cz) (nm,.slice dv m cv,valsN m) (.slice pd pn pc,ps) (.slice (some ⟨gl,0,none⟩) K lc,XR) (.slice eX (Vs.length+1) cX) (Vs++[(nm,.slice dv m cv,valsN m)]) (.slice dy ny cy) Ls (.slice dz nz cz) Rs→U.heap[w.heap.size]? =some (.cells #[.string nm,.slice dv m cv] 85 (0,0))→U.heap[g3]? =some (.cells #[.slice (some ⟨gl,0,none⟩) K lc] 22 (0,0))→F 12 #[true,true,true,true,true,true,true,true,true,true,true,true,true,true,true,false,false,true,true,true,true,true,true,false,false,false,false,false,false,false,false,false,false] (((A.put (some 53) (.slice (some ⟨g1,0,none⟩) 1 1)).put (some 67) (.slice (some ⟨g3,0,none⟩) 1 1)).put (some 54) (.slice eX (Vs.length+1) cX)) U) ?_ (fun N113=>?_)
     ·intro U g1 g3 eX cX hU hE h3
      have HU:=hid hU
      have HE8:=hid hE
      have HX3:=hid h3
      clear hU hE h3
      (try simp only[Act.put,List.setIfInBounds_toArray,List.set_cons_zero,List.set_cons_succ])
      refine wpU_ready (rs:=[15]) (by kernel_rfl) (by simp) (AllU.cons (b:=false) rfl (by kernel_rfl) ?_ (AllU.nil))
      ·intro K' hK'
       (try simp only[List.getElem_toArray,List.getElem_cons_zero,List.getElem_cons_succ])
       go_simp
       have hbA:=(Below.refl U.heap.size U).alloc (Nat.le_refl _) (.cells #[.slice pd pn pc] 26)
       refine hK'.out _ _ ⟨HB8.out _ ((KeepT.below hbA:KeepT 85 _ _) _ _ _ HE8.out),fun _=>(HU.out.step hbA).box.cells⟩ (fun _=>?_)
       (try simp only[List.getElem_toArray,List.getElem_cons_zero,List.getElem_cons_succ])
       (try simp only[List.setIfInBounds_toArray,List.set_cons_zero,List.set_cons_succ])
       refine wpU_cast (by kernel_rfl) (by simp only[Act.put,List.setIfInBounds_toArray,List.set_cons_zero,List.set_cons_succ]) (N1123 _ g1 U.heap.size g3 eX cX (HU.out.step hbA) ((KeepT.below hbA:KeepT 85 _ _) _ _ _ HE8.out) (heap_alloc_new U (.cells #[.slice pd pn pc] 26)) ((KeepT.below hbA:KeepT 22 _ _) _ _ _ HX3.out))
     refine with_wpU (fun F A=>∀(U:World) (g1:Nat) (eX:Option Addr) (cX:Nat),LZ w0 U G s e0 t (.slice dx nx cx) (.slice dy ny cy) (.slice dz nz cz) (nm,.slice dv m cv,valsN m) (.slice pd pn pc,ps) (.slice (some ⟨gl,0,none⟩) K lc,XR) (.slice eX (Vs.length+1) cX) (Vs++[(nm,.slice dv m cv,valsN m)]) (.slice dy ny cy) Ls (.slice dz nz cz) Rs→U.heap[w.heap.size]? =some (.cells #[.string nm,.slice dv m cv] 85 (0,0))→F 13 #[true,true,true,true,true,true,true,true,true,true,true,true,true,true,true,false,false,true,true,true,true,true,false,false,false,false,false,false,false,false,false,false,false] ((A.put (some 53) (.slice (some ⟨g1,0,none⟩) 1 1)).put (some 54) (.slice eX (Vs.length+1) cX)) U) ?_ (fun N11=>?_)
     ·intro U g1 eX cX hU hE
      have HU:=hid hU
      have HE8:=hid hE
      clear hU hE
      (try simp only[Act.put,List.setIfInBounds_toArray,List.set_cons_zero,List.set_cons_succ])
      refine wpU_ready (rs:=[15,22]) (by kernel_rfl) (by simp) (AllU.cons (b:=false) rfl (by kernel_rfl) ?_ (AllU.cons (b:=false) rfl (by kernel_rfl) ?_ (AllU.nil)))
      ·intro K' hK'
       (try simp only[List.getElem_toArray,List.getElem_cons_zero,List.getElem_cons_succ])
       go_simp
       have hbA:=(Below.refl U.heap.size U).alloc (Nat.le_refl _) (.cells #[.slice pd pn pc] 26)
       refine hK'.out _ _ ⟨HB8.out _ ((KeepT.below hbA:KeepT 85 _ _) _ _ _ HE8.out),fun _=>(HU.out.step hbA).box.cells⟩ (fun _=>?_)
       (try simp only[List.getElem_toArray,List.getElem_cons_zero,List.getElem_cons_succ])
       (try simp only[List.setIfInBounds_toArray,List.set_cons_zero,List.set_cons_succ])
       refine wpU_cast (by kernel_rfl) (by simp only[Act.put,List.setIfInBounds_toArray,List.set_cons_zero,List.set_cons_succ]) (N112 _ g1 U.heap.size eX cX (HU.out.step hbA) ((KeepT.below hbA:KeepT 85 _ _) _ _ _ HE8.out) (heap_alloc_new U (.cells #[.slice pd pn pc] 26)))
      ·intro K' hK'
       (try simp only[List.getElem_toArray,List.getElem_cons_zero,List.getElem_cons_succ])
       go_simp
       have hbA:=(Below.refl U.heap.size U).alloc (Nat.le_refl _) (.cells #[.slice (some ⟨gl,0,none⟩) K lc] 22)
       refine hK'.out _ _ ⟨HB8.out _ ((KeepT.below hbA:KeepT 85 _ _) _ _ _ HE8.out),fun _=>(HU.out.step hbA).box.cells⟩ (fun _=>?_)
       (try simp only[List.getElem_toArray,List.getElem_cons_zero,List.getElem_cons_succ])
       (try simp only[List.setIfInBounds_toArray,List.set_cons_zero,List.set_cons_succ])
       refine wpU_cast (by kernel_rfl) (by simp only[Act.put,List.setIfInBounds_toArray,List.set_cons_zero,List.set_cons_succ]) (N113 _ g1 U.heap.size eX cX (HU.out.step hbA) ((KeepT.below hbA:KeepT 85 _ _) _ _ _ HE8.out) (heap_alloc_new U (.cells #[.slice (some ⟨gl,0,none⟩) K lc] 22)))
     refine with_wpU (fun F A=>∀(U:World) (g1:Nat) (g2:Nat) (g3:Nat),LZ w0 U G s e0 t (.slice dx nx cx) (.slice dy ny cy) (.slice dz nz cz) (nm,.slice dv m cv,valsN m) (.slice pd pn pc,ps) (.slice (some ⟨gl,0,none⟩) K lc,XR) (.slice dx nx cx) Vs (.slice dy ny cy) Ls (.slice dz nz cz) Rs→U.heap[w.heap.size]? =some (.cells #[.string nm,.slice dv m cv] 85 (0,0))→U.heap[g1]? =some (.cells #[.string nm,.slice dv m cv] 85 (0,0))→U.heap[g2]? =some (.cells #[.slice pd pn pc] 26 (0,0))→U.heap[g3]? =some (.cells #[.slice (some ⟨gl,0,none⟩) K lc] 22 (0,0))→F 12 #[true,true,true,true,true,true,true,true,true,false,true,true,true,true,true,true,false,true,true,true,true,true,true,false,false,false,false,false,false,false,false,false,false] (((A.put (some 53) (.slice (some ⟨g1,0,none⟩) 1 1)).put (some 60) (.slice (some ⟨g2,0,none⟩) 1 1)).put (some 67) (.slice (some ⟨g3,0,none⟩) 1 1)) U) ?_ (fun N0123=>?_)
     ·intro U g1 g2 g3 hU hE h1 h2 h3
      have HU:=hid hU
      have HE8:=hid hE
      have HX1:=hid h1
      have HX2:=hid h2
      have HX3:=hid h3
      clear hU hE h1 h2 h3
      (try simp only[Act.put,List.setIfInBounds_toArray,List.set_cons_zero,List.set_cons_succ])
      refine wpU_ready (rs:=[9]) (by kernel_rfl) (by simp) (AllU.cons (b:=false) rfl (by kernel_rfl) ?_ (AllU.nil))
      ·intro K' hK'
       rw[if_pos (by rfl)]
       have hc0:U.cell? ⟨g1,0,none⟩=some (.string nm):=by rw[cell_of_row U g1 _ _ _ (0,0) HX1.out];rfl
       have hc1:U.cell? ⟨g1,1,none⟩=some (.slice dv m cv):=by rw[cell_of_row U g1 _ _ _ (0,0) HX1.out];rfl
       refine wp_append_var _ _ rfl w0.heap.size (.slice dx nx cx) Vs nm (.slice dv m cv) ⟨_,_,_,rfl⟩ rfl HU.out.vs.1 g1 rfl hc0 hc1 HLV.out HU.out.bel.size ?_
       intro vX U2 hr9 hg9
       have hty:=owns_typed HU.out.vs.1
       have hE2:=(hg9.block w.heap.size (Array.getElem?_eq_some_iff.1 HE8.out).1 HN8.out).trans HE8.out
       have hU2:=HU.out.pushV hr9 hg9
       obtain⟨eX,cX,rfl, -⟩:=owns_slice hr9
       refine hK'.out _ _ ⟨HB8.out _ hE2,fun _=>hU2.box.cells⟩ (fun _=>?_)
       (try simp only[List.getElem_toArray,List.getElem_cons_zero,List.getElem_cons_succ])
       (try simp only[List.setIfInBounds_toArray,List.set_cons_zero,List.set_cons_succ])
       refine wpU_cast (by kernel_rfl) (by simp only[Act.put,List.setIfInBounds_toArray,List.set_cons_zero,List.set_cons_succ]) (N1123 U2 g1 g2 g3 eX cX hU2 hE2 (KeepT.grown hg9 hty (show 26≠85 by decide) _ _ _ HX2.out) (KeepT.grown hg9 hty (show 22≠85 by decide) _ _ _ HX3.out))
     refine with_wpU (fun F A=>∀(U:World) (g1:Nat) (g2:Nat),LZ w0 U G s e0 t (.slice dx nx cx) (.slice dy ny cy) (.slice dz nz cz) (nm,.slice dv m cv,valsN m) (.slice pd pn pc,ps) (.slice (some ⟨gl,0,none⟩) K lc,XR) (.slice dx nx cx) Vs (.slice dy ny cy) Ls (.slice dz nz cz) Rs→U.heap[w.heap.size]? =some (.cells #[.string nm,.slice dv m cv] 85 (0,0))→U.heap[g1]? =some (.cells #[.string nm,.slice dv m cv] 85 (0,0))→U.heap[g2]? =some (.cells #[.slice pd pn pc] 26 (0,0))→F 13 #[true,true,true,true,true,true,true,true,true,false,true,true,true,true,true,true,false,true,true,true,true,true,false,false,false,false,false,false,false,false,false,false,false] ((A.put (some 53) (.slice (some ⟨g1,0,none⟩) 1 1)).put (some 60) (.slice (some ⟨g2,0,none⟩) 1 1)) U) ?_ (fun N012=>?_)
     ·intro U g1 g2 hU hE h1 h2
      have HU:=hid hU
      have HE8:=hid hE
      have HX1:=hid h1
      have HX2:=hid h2
      clear hU hE h1 h2
      (try simp only[Act.put,List.setIfInBounds_toArray,List.set_cons_zero,List.set_cons_succ])
      refine wpU_ready (rs:=[9,22]) (by kernel_rfl) (by simp) (AllU.cons (b:=false) rfl (by kernel_rfl) ?_ (AllU.cons (b:=false) rfl (by kernel_rfl) ?_ (AllU.nil)))
      ·intro K' hK'
       rw[if_pos (by rfl)]
       have hc0:U.cell? ⟨g1,0,none⟩=some (.string nm):=by rw[cell_of_row U g1 _ _ _ (0,0) HX1.out];rfl
       have hc1:U.cell? ⟨g1,1,none⟩=some (.slice dv m cv):=by rw[cell_of_row U g1 _ _ _ (0,0) HX1.out];rfl
       refine wp_append_var _ _ rfl w0.heap.size (.slice dx nx cx) Vs nm (.slice dv m cv) ⟨_,_,_,rfl⟩ rfl HU.out.vs.1 g1 rfl hc0 hc1 HLV.out HU.out.bel.size ?_
       intro vX U2 hr9 hg9
       have hty:=owns_typed HU.out.vs.1
       have hE2:=(hg9.block w.heap.size (Array.getElem?_eq_some_iff.1 HE8.out).1 HN8.out).trans HE8.out
       have hU2:=HU.out.pushV hr9 hg9
       obtain⟨eX,cX,rfl, -⟩:=owns_slice hr9
       refine hK'.out _ _ ⟨HB8.out _ hE2,fun _=>hU2.box.cells⟩ (fun _=>?_)
       (try simp only[List.getElem_toArray,List.getElem_cons_zero,List.getElem_cons_succ])
       (try simp only[List.setIfInBounds_toArray,List.set_cons_zero,List.set_cons_succ])
       refine wpU_cast (by kernel_rfl) (by simp only[Act.put,List.setIfInBounds_toArray,List.set_cons_zero,List.set_cons_succ]) (N112 U2 g1 g2 eX cX hU2 hE2 (KeepT.grown hg9 hty (show 26≠85 by decide) _ _ _ HX2.out))
      ·intro K' hK'
       (try simp only[List.getElem_toArray,List.getElem_cons_zero,List.getElem_cons_succ])
       go_simp
       have hbA:=(Below.refl U.heap.size U).alloc (Nat.le_refl _) (.cells #[.slice (some ⟨gl,0,none⟩) K lc] 22)
       refine hK'.out _ _ ⟨HB8.out _ ((KeepT.below hbA:KeepT 85 _ _) _ _ _ HE8.out),fun _=>(HU.out.step hbA).box.cells⟩ (fun _=>?_)
       (try simp only[List.getElem_toArray,List.getElem_cons_zero,List.getElem_cons_succ])
       (try simp only[List.setIfInBounds_toArray,List.set_cons_zero,List.set_cons_succ])
       refine wpU_cast (by kernel_rfl) (by simp only[Act.put,List.setIfInBounds_toArray,List.set_cons_zero,List.set_cons_succ]) (N0123 _ g1 g2 U.heap.size (HU.out.step hbA) ((KeepT.below hbA:KeepT 85 _ _) _ _ _ HE8.out) ((KeepT.below hbA:KeepT 85 _ _) _ _ _ HX1.out) ((KeepT.below hbA:KeepT 26 _ _) _ _ _ HX2.out) (heap_alloc_new U (.cells #[.slice (some ⟨gl,0,none⟩) K lc] 22)))
     refine with_wpU (fun F A=>∀(U:World) (g1:Nat) (g3:Nat),LZ w0 U G s e0 t (.slice dx nx cx) (.slice dy ny cy) (.slice dz nz cz) (nm,.slice dv m cv,valsN m) (.slice pd pn pc,ps) (.slice (some ⟨gl,0,none⟩) K lc,XR) (.slice dx nx cx) Vs (.slice dy ny cy) Ls (.slice dz nz cz) Rs→U.heap[w.heap.size]? =some (.cells #[.string nm,.slice dv m cv] 85 (0,0))→U.heap[g1]? =some (.cells #[.string nm,.slice dv m cv] 85 (0,0))→U.heap[g3]? =some (.cells #[.slice (some ⟨gl,0,none⟩) K lc] 22 (0,0))→F 13 #[true,true,true,true,true,true,true,true,true,false,true,true,true,true,true,false,false,true,true,true,true,true,true,false,false,false,false,false,false,false,false,false,false] ((A.put (some 53) (.slice (some ⟨g1,0,none⟩) 1 1)).put (some 67) (.slice (some ⟨g3,0,none⟩) 1 1)) U) ?_ (fun N013=>?_)
     ·intro U g1 g3 hU hE h1 h3
      have HU:=hid hU
      have HE8:=hid hE
      have HX1:=hid h1
      have HX3:=hid h3
      clear hU hE h1 h3
      (try simp only[Act.put,List.setIfInBounds_toArray,List.set_cons_zero,List.set_cons_succ])
      refine wpU_ready (rs:=[9,15]) (by kernel_rfl) (by simp) (AllU.cons (b:=false) rfl (by kernel_rfl) ?_ (AllU.cons (b:=false) rfl (by kernel_rfl) ?_ (AllU.nil)))
      ·intro K' hK'
       rw[if_pos (by rfl)]
       have hc0:U.cell? ⟨g1,0,none⟩=some (.string nm):=by rw[cell_of_row U g1 _ _ _ (0,0) HX1.out];rfl
       have hc1:U.cell? ⟨g1,1,none⟩=some (.slice dv m cv):=by rw[cell_of_row U g1 _ _ _ (0,0) HX1.out];rfl
       refine wp_append_var _ _ rfl w0.heap.size (.slice dx nx cx) Vs nm (.slice dv m cv) ⟨_,_,_,rfl⟩ rfl HU.out.vs.1 g1 rfl hc0 hc1 HLV.out HU.out.bel.size ?_
       intro vX U2 hr9 hg9
       have hty:=owns_typed HU.out.vs.1
       have hE2:=(hg9.block w.heap.size (Array.getElem?_eq_some_iff.1 HE8.out).1 HN8.out).trans HE8.out
       have hU2:=HU.out.pushV hr9 hg9
       obtain⟨eX,cX,rfl, -⟩:=owns_slice hr9
       refine hK'.out _ _ ⟨HB8.out _ hE2,fun _=>hU2.box.cells⟩ (fun _=>?_)
       (try simp only[List.getElem_toArray,List.getElem_cons_zero,List.getElem_cons_succ])
       (try simp only[List.setIfInBounds_toArray,List.set_cons_zero,List.set_cons_succ])
       refine wpU_cast (by kernel_rfl) (by simp only[Act.put,List.setIfInBounds_toArray,List.set_cons_zero,List.set_cons_succ]) (N113 U2 g1 g3 eX cX hU2 hE2 (KeepT.grown hg9 hty (show 22≠85 by decide) _ _ _ HX3.out))
      ·intro K' hK'
       (try simp only[List.getElem_toArray,List.getElem_cons_zero,List.getElem_cons_succ])
       go_simp
       have hbA:=(Below.refl U.heap.size U).alloc (Nat.le_refl _) (.cells #[.slice pd pn pc] 26)
       refine hK'.out _ _ ⟨HB8.out _ ((KeepT.below hbA:KeepT 85 _ _) _ _ _ HE8.out),fun _=>(HU.out.step hbA).box.cells⟩ (fun _=>?_)
       (try simp only[List.getElem_toArray,List.getElem_cons_zero,List.getElem_cons_succ])
       (try simp only[List.setIfInBounds_toArray,List.set_cons_zero,List.set_cons_succ])
       refine wpU_cast (by kernel_rfl) (by simp only[Act.put,List.setIfInBounds_toArray,List.set_cons_zero,List.set_cons_succ]) (N0123 _ g1 U.heap.size g3 (HU.out.step hbA) ((KeepT.below hbA:KeepT 85 _ _) _ _ _ HE8.out) ((KeepT.below hbA:KeepT 85 _ _) _ _ _ HX1.out) (heap_alloc_new U (.cells #[.slice pd pn pc] 26)) ((KeepT.below hbA:KeepT 22 _ _) _ _ _ HX3.out))
     refine with_wpU (fun F A=>∀(U:World) (g2:Nat) (g3:Nat),LZ w0 U G s e0 t (.slice dx nx cx) (.slice dy ny cy) (.slice dz nz cz) (nm,.slice dv m cv,valsN m) (.slice pd pn pc,ps) (.slice (some ⟨gl,0,none⟩) K lc,XR) (.slice dx nx cx) Vs (.slice dy ny cy) Ls (.slice dz nz cz) Rs→U.heap[w.heap.size]? =some (.cells #[.string nm,.slice dv m cv] 85 (0,0))→U.heap[g2]? =some (.cells #[.slice pd pn pc] 26 (0,0))→U.heap[g3]? =some (.cells #[.slice (some ⟨gl,0,none⟩) K lc] 22 (0,0))→F 13 #[true,true,true,true,true,true,true,true,false,false,true,true,true,true,true,true,false,true,true,true,true,true,true,false,false,false,false,false,false,false,false,false,false] ((A.put (some 60) (.slice (some ⟨g2,0,none⟩) 1 1)).put (some 67) (.slice (some ⟨g3,0,none⟩) 1 1)) U) ?_ (fun N023=>?_)
     ·intro U g2 g3 hU hE h2 h3
      have HU:=hid hU
      have HE8:=hid hE
      have HX2:=hid h2
      have HX3:=hid h3
      clear hU hE h2 h3
      (try simp only[Act.put,List.setIfInBounds_toArray,List.set_cons_zero,List.set_cons_succ])
      refine wpU_ready (rs:=[8]) (by kernel_rfl) (by simp) (AllU.cons (b:=false) rfl (by kernel_rfl) ?_ (AllU.nil))
      ·intro K' hK'
       (try simp only[List.getElem_toArray,List.getElem_cons_zero,List.getElem_cons_succ])
       go_simp
       have hbA:=(Below.refl U.heap.size U).alloc (Nat.le_refl _) (.cells #[.string nm,.slice dv m cv] 85)
       refine hK'.out _ _ ⟨HB8.out _ ((KeepT.below hbA:KeepT 85 _ _) _ _ _ HE8.out),fun _=>(HU.out.step hbA).box.cells⟩ (fun _=>?_)
       (try simp only[List.getElem_toArray,List.getElem_cons_zero,List.getElem_cons_succ])
       (try simp only[List.setIfInBounds_toArray,List.set_cons_zero,List.set_cons_succ])
       refine wpU_cast (by kernel_rfl) (by simp only[Act.put,List.setIfInBounds_toArray,List.set_cons_zero,List.set_cons_succ]) (N0123 _ U.heap.size g2 g3 (HU.out.step hbA) ((KeepT.below hbA:KeepT 85 _ _) _ _ _ HE8.out) (heap_alloc_new U (.cells #[.string nm,.slice dv m cv] 85)) ((KeepT.below hbA:KeepT 26 _ _) _ _ _ HX2.out) ((KeepT.below hbA:KeepT 22 _ _) _ _ _ HX3.out))
     refine with_wpU (fun F A=>∀(U:World) (g1:Nat),LZ w0 U G s e0 t (.slice dx nx cx) (.slice dy ny cy) (.slice dz nz cz) (nm,.slice dv m cv,valsN m) (.slice pd pn pc,ps) (.slice (some ⟨gl,0,none⟩) K lc,XR) (.slice dx nx cx) Vs (.slice dy ny cy) Ls (.slice dz nz cz) Rs→U.heap[w.heap.size]? =some (.cells #[.string nm,.slice dv m cv] 85 (0,0))→U.heap[g1]? =some (.cells #[.string nm,.slice dv m cv] 85 (0,0))→F 14 #[true,true,true,true,true,true,true,true,true,false,true,true,true,true,true,false,false,true,true,true,true,true,false,false,false,false,false,false,false,false,false,false,false] (A.put (some 53) (.slice (some ⟨g1,0,none⟩) 1 1)) U) ?_ (fun N01=>?_)
     ·intro U g1 hU hE h1
      have HU:=hid hU
      have HE8:=hid hE
      have HX1:=hid h1
      clear hU hE h1
      (try simp only[Act.put,List.setIfInBounds_toArray,List.set_cons_zero,List.set_cons_succ])
      refine wpU_ready (rs:=[9,15,22]) (by kernel_rfl) (by simp) (AllU.cons (b:=false) rfl (by kernel_rfl) ?_ (AllU.cons (b:=false) rfl (by kernel_rfl) ?_ (AllU.cons (b:=false) rfl (by kernel_rfl) ?_ (AllU.nil))))
      ·intro K' hK'
       rw[if_pos (by rfl)]
       have hc0:U.cell? ⟨g1,0,none⟩=some (.string nm):=by rw[cell_of_row U g1 _ _ _ (0,0) HX1.out];rfl
       have hc1:U.cell? ⟨g1,1,none⟩=some (.slice dv m cv):=by rw[cell_of_row U g1 _ _ _ (0,0) HX1.out];rfl
       refine wp_append_var _ _ rfl w0.heap.size (.slice dx nx cx) Vs nm (.slice dv m cv) ⟨_,_,_,rfl⟩ rfl HU.out.vs.1 g1 rfl hc0 hc1 HLV.out HU.out.bel.size ?_
       intro vX U2 hr9 hg9
       have hty:=owns_typed HU.out.vs.1
       have hE2:=(hg9.block w.heap.size (Array.getElem?_eq_some_iff.1 HE8.out).1 HN8.out).trans HE8.out
       have hU2:=HU.out.pushV hr9 hg9
       obtain⟨eX,cX,rfl, -⟩:=owns_slice hr9
       refine hK'.out _ _ ⟨HB8.out _ hE2,fun _=>hU2.box.cells⟩ (fun _=>?_)
       (try simp only[List.getElem_toArray,List.getElem_cons_zero,List.getElem_cons_succ])
       (try simp only[List.setIfInBounds_toArray,List.set_cons_zero,List.set_cons_succ])
       refine wpU_cast (by kernel_rfl) (by simp only[Act.put,List.setIfInBounds_toArray,List.set_cons_zero,List.set_cons_succ]) (N11 U2 g1 eX cX hU2 hE2)
      ·intro K' hK'
       (try simp only[List.getElem_toArray,List.getElem_cons_zero,List.getElem_cons_succ])
       go_simp
       have hbA:=(Below.refl U.heap.size U).alloc (Nat.le_refl _) (.cells #[.slice pd pn pc] 26)
       refine hK'.out _ _ ⟨HB8.out _ ((KeepT.below hbA:KeepT 85 _ _) _ _ _ HE8.out),fun _=>(HU.out.step hbA).box.cells⟩ (fun _=>?_)
       (try simp only[List.getElem_toArray,List.getElem_cons_zero,List.getElem_cons_succ])
       (try simp only[List.setIfInBounds_toArray,List.set_cons_zero,List.set_cons_succ])
       refine wpU_cast (by kernel_rfl) (by simp only[Act.put,List.setIfInBounds_toArray,List.set_cons_zero,List.set_cons_succ]) (N012 _ g1 U.heap.size (HU.out.step hbA) ((KeepT.below hbA:KeepT 85 _ _) _ _ _ HE8.out) ((KeepT.below hbA:KeepT 85 _ _) _ _ _ HX1.out) (heap_alloc_new U (.cells #[.slice pd pn pc] 26)))
      ·intro K' hK'
       (try simp only[List.getElem_toArray,List.getElem_cons_zero,List.getElem_cons_succ])
       go_simp
       have hbA:=(Below.refl U.heap.size U).alloc (Nat.le_refl _) (.cells #[.slice (some ⟨gl,0,none⟩) K lc] 22)
       refine hK'.out _ _ ⟨HB8.out _ ((KeepT.below hbA:KeepT 85 _ _) _ _ _ HE8.out),fun _=>(HU.out.step hbA).box.cells⟩ (fun _=>?_)
       (try simp only[List.getElem_toArray,List.getElem_cons_zero,List.getElem_cons_succ])
       (try simp only[List.setIfInBounds_toArray,List.set_cons_zero,List.set_cons_succ])
       refine wpU_cast (by kernel_rfl) (by simp only[Act.put,List.setIfInBounds_toArray,List.set_cons_zero,List.set_cons_succ]) (N013 _ g1 U.heap.size (HU.out.step hbA) ((KeepT.below hbA:KeepT 85 _ _) _ _ _ HE8.out) ((KeepT.below hbA:KeepT 85 _ _) _ _ _ HX1.out) (heap_alloc_new U (.cells #[.slice (some ⟨gl,0,none⟩) K lc] 22)))
     refine with_wpU (fun F A=>∀(U:World) (g2:Nat),LZ w0 U G s e0 t (.slice dx nx cx) (.slice dy ny cy) (.slice dz nz cz) (nm,.slice dv m cv,valsN m) (.slice pd pn pc,ps) (.slice (some ⟨gl,0,none⟩) K lc,XR) (.slice dx nx cx) Vs (.slice dy ny cy) Ls (.slice dz nz cz) Rs→U.heap[w.heap.size]? =some (.cells #[.string nm,.slice dv m cv] 85 (0,0))→U.heap[g2]? =some (.cells #[.slice pd pn pc] 26 (0,0))→F 14 #[true,true,true,true,true,true,true,true,false,false,true,true,true,true,true,true,false,true,true,true,true,true,false,false,false,false,false,false,false,false,false,false,false] (A.put (some 60) (.slice (some ⟨g2,0,none⟩) 1 1)) U) ?_ (fun N02=>?_)
     ·intro U g2 hU hE h2
      have HU:=hid hU
      have HE8:=hid hE
      have HX2:=hid h2
      clear hU hE h2
      (try simp only[Act.put,List.setIfInBounds_toArray,List.set_cons_zero,List.set_cons_succ])
      refine wpU_ready (rs:=[8,22]) (by kernel_rfl) (by simp) (AllU.cons (b:=false) rfl (by kernel_rfl) ?_ (AllU.cons (b:=false) rfl (by kernel_rfl) ?_ (AllU.nil)))
      ·intro K' hK'
       (try simp only[List.getElem_toArray,List.getElem_cons_zero,List.getElem_cons_succ])
       go_simp
       have hbA:=(Below.refl U.heap.size U).alloc (Nat.le_refl _) (.cells #[.string nm,.slice dv m cv] 85)
       refine hK'.out _ _ ⟨HB8.out _ ((KeepT.below hbA:KeepT 85 _ _) _ _ _ HE8.out),fun _=>(HU.out.step hbA).box.cells⟩ (fun _=>?_)
       (try simp only[List.getElem_toArray,List.getElem_cons_zero,List.getElem_cons_succ])
       (try simp only[List.setIfInBounds_toArray,List.set_cons_zero,List.set_cons_succ])
       refine wpU_cast (by kernel_rfl) (by simp only[Act.put,List.setIfInBounds_toArray,List.set_cons_zero,List.set_cons_succ]) (N012 _ U.heap.size g2 (HU.out.step hbA) ((KeepT.below hbA:KeepT 85 _ _) _ _ _ HE8.out) (heap_alloc_new U (.cells #[.string nm,.slice dv m cv] 85)) ((KeepT.below hbA:KeepT 26 _ _) _ _ _ HX2.out))
      ·intro K' hK'
       (try simp only[List.getElem_toArray,List.getElem_cons_zero,List.getElem_cons_succ])
       go_simp
       have hbA:=(Below.refl U.heap.size U).alloc (Nat.le_refl _) (.cells #[.slice (some ⟨gl,0,none⟩) K lc] 22)
       refine hK'.out _ _ ⟨HB8.out _ ((KeepT.below hbA:KeepT 85 _ _) _ _ _ HE8.out),fun _=>(HU.out.step hbA).box.cells⟩ (fun _=>?_)
       (try simp only[List.getElem_toArray,List.getElem_cons_zero,List.getElem_cons_succ])
       (try simp only[List.setIfInBounds_toArray,List.set_cons_zero,List.set_cons_succ])
       refine wpU_cast (by kernel_rfl) (by simp only[Act.put,List.setIfInBounds_toArray,List.set_cons_zero,List.set_cons_succ]) (N023 _ g2 U.heap.size (HU.out.step hbA) ((KeepT.below hbA:KeepT 85 _ _) _ _ _ HE8.out) ((KeepT.below hbA:KeepT 26 _ _) _ _ _ HX2.out) (heap_alloc_new U (.cells #[.slice (some ⟨gl,0,none⟩) K lc] 22)))
     refine with_wpU (fun F A=>∀(U:World) (g3:Nat),LZ w0 U G s e0 t (.slice dx nx cx) (.slice dy ny cy) (.slice dz nz cz) (nm,.slice dv m cv,valsN m) (.slice pd pn pc,ps) (.slice (some ⟨gl,0,none⟩) K lc,XR) (.slice dx nx cx) Vs (.slice dy ny cy) Ls (.slice dz nz cz) Rs→U.heap[w.heap.size]? =some (.cells #[.string nm,.slice dv m cv] 85 (0,0))→U.heap[g3]? =some (.cells #[.slice (some ⟨gl,0,none⟩) K lc] 22 (0,0))→F 14 #[true,true,true,true,true,true,true,true,false,false,true,true,true,true,true,false,false,true,true,true,true,true,true,false,false,false,false,false,false,false,false,false,false] (A.put (some 67) (.slice (some ⟨g3,0,none⟩) 1 1)) U) ?_ (fun N03=>?_)
     ·intro U g3 hU hE h3
      have HU:=hid hU
      have HE8:=hid hE
      have HX3:=hid h3
      clear hU hE h3
      (try simp only[Act.put,List.setIfInBounds_toArray,List.set_cons_zero,List.set_cons_succ])
      refine wpU_ready (rs:=[8,15]) (by kernel_rfl) (by simp) (AllU.cons (b:=false) rfl (by kernel_rfl) ?_ (AllU.cons (b:=false) rfl (by kernel_rfl) ?_ (AllU.nil)))
      ·intro K' hK'
       (try simp only[List.getElem_toArray,List.getElem_cons_zero,List.getElem_cons_succ])
       go_simp
       have hbA:=(Below.refl U.heap.size U).alloc (Nat.le_refl _) (.cells #[.string nm,.slice dv m cv] 85)
       refine hK'.out _ _ ⟨HB8.out _ ((KeepT.below hbA:KeepT 85 _ _) _ _ _ HE8.out),fun _=>(HU.out.step hbA).box.cells⟩ (fun _=>?_)
       (try simp only[List.getElem_toArray,List.getElem_cons_zero,List.getElem_cons_succ])
       (try simp only[List.setIfInBounds_toArray,List.set_cons_zero,List.set_cons_succ])
       refine wpU_cast (by kernel_rfl) (by simp only[Act.put,List.setIfInBounds_toArray,List.set_cons_zero,List.set_cons_succ]) (N013 _ U.heap.size g3 (HU.out.step hbA) ((KeepT.below hbA:KeepT 85 _ _) _ _ _ HE8.out) (heap_alloc_new U (.cells #[.string nm,.slice dv m cv] 85)) ((KeepT.below hbA:KeepT 22 _ _) _ _ _ HX3.out))
      ·intro K' hK'
       (try simp only[List.getElem_toArray,List.getElem_cons_zero,List.getElem_cons_succ])
       go_simp
       have hbA:=(Below.refl U.heap.size U).alloc (Nat.le_refl _) (.cells #[.slice pd pn pc] 26)
       refine hK'.out _ _ ⟨HB8.out _ ((KeepT.below hbA:KeepT 85 _ _) _ _ _ HE8.out),fun _=>(HU.out.step hbA).box.cells⟩ (fun _=>?_)
       (try simp only[List.getElem_toArray,List.getElem_cons_zero,List.getElem_cons_succ])
       (try simp only[List.setIfInBounds_toArray,List.set_cons_zero,List.set_cons_succ])
       refine wpU_cast (by kernel_rfl) (by simp only[Act.put,List.setIfInBounds_toArray,List.set_cons_zero,List.set_cons_succ]) (N023 _ U.heap.size g3 (HU.out.step hbA) ((KeepT.below hbA:KeepT 85 _ _) _ _ _ HE8.out) (heap_alloc_new U (.cells #[.slice pd pn pc] 26)) ((KeepT.below hbA:KeepT 22 _ _) _ _ _ HX3.out))
     refine with_wpU (fun F A=>∀(U:World),LZ w0 U G s e0 t (.slice dx nx cx) (.slice dy ny cy) (.slice dz nz cz) (nm,.slice dv m cv,valsN m) (.slice pd pn pc,ps) (.slice (some ⟨gl,0,none⟩) K lc,XR) (.slice dx nx cx) Vs (.slice dy ny cy) Ls (.slice dz nz cz) Rs→U.heap[w.heap.size]? =some (.cells #[.string nm,.slice dv m cv] 85 (0,0))→F 15 #[true,true,true,true,true,true,true,true,false,false,true,true,true,true,true,false,false,true,true,true,true,true,false,false,false,false,false,false,false,false,false,false,false] A U) ?_ (fun N0=>?_)
     ·intro U hU hE
      have HU:=hid hU
      have HE8:=hid hE
      clear hU hE
      simp only[]
      refine wpU_ready (rs:=[8,15,22]) (by kernel_rfl) (by simp) (AllU.cons (b:=false) rfl (by kernel_rfl) ?_ (AllU.cons (b:=false) rfl (by kernel_rfl) ?_ (AllU.cons (b:=false) rfl (by kernel_rfl) ?_ (AllU.nil))))
      ·intro K' hK'
       (try simp only[List.getElem_toArray,List.getElem_cons_zero,List.getElem_cons_succ])
       go_simp
       have hbA:=(Below.refl U.heap.size U).alloc (Nat.le_refl _) (.cells #[.string nm,.slice dv m cv] 85)
       refine hK'.out _ _ ⟨HB8.out _ ((KeepT.below hbA:KeepT 85 _ _) _ _ _ HE8.out),fun _=>(HU.out.step hbA).box.cells⟩ (fun _=>?_)
       (try simp only[List.getElem_toArray,List.getElem_cons_zero,List.getElem_cons_succ])
       (try simp only[List.setIfInBounds_toArray,List.set_cons_zero,List.set_cons_succ])
       refine wpU_cast (by kernel_rfl) (by simp only[Act.put,List.setIfInBounds_toArray,List.set_cons_zero,List.set_cons_succ]) (N01 _ U.heap.size (HU.out.step hbA) ((KeepT.below hbA:KeepT 85 _ _) _ _ _ HE8.out) (heap_alloc_new U (.cells #[.string nm,.slice dv m cv] 85)))
      ·intro K' hK'
       (try simp only[List.getElem_toArray,List.getElem_cons_zero,List.getElem_cons_succ])
       go_simp
       have hbA:=(Below.refl U.heap.size U).alloc (Nat.le_refl _) (.cells #[.slice pd pn pc] 26)
       refine hK'.out _ _ ⟨HB8.out _ ((KeepT.below hbA:KeepT 85 _ _) _ _ _ HE8.out),fun _=>(HU.out.step hbA).box.cells⟩ (fun _=>?_)
       (try simp only[List.getElem_toArray,List.getElem_cons_zero,List.getElem_cons_succ])
       (try simp only[List.setIfInBounds_toArray,List.set_cons_zero,List.set_cons_succ])
       refine wpU_cast (by kernel_rfl) (by simp only[Act.put,List.setIfInBounds_toArray,List.set_cons_zero,List.set_cons_succ]) (N02 _ U.heap.size (HU.out.step hbA) ((KeepT.below hbA:KeepT 85 _ _) _ _ _ HE8.out) (heap_alloc_new U (.cells #[.slice pd pn pc] 26)))
      ·intro K' hK'
       (try simp only[List.getElem_toArray,List.getElem_cons_zero,List.getElem_cons_succ])
       go_simp
       have hbA:=(Below.refl U.heap.size U).alloc (Nat.le_refl _) (.cells #[.slice (some ⟨gl,0,none⟩) K lc] 22)
       refine hK'.out _ _ ⟨HB8.out _ ((KeepT.below hbA:KeepT 85 _ _) _ _ _ HE8.out),fun _=>(HU.out.step hbA).box.cells⟩ (fun _=>?_)
       (try simp only[List.getElem_toArray,List.getElem_cons_zero,List.getElem_cons_succ])
       (try simp only[List.setIfInBounds_toArray,List.set_cons_zero,List.set_cons_succ])
       refine wpU_cast (by kernel_rfl) (by simp only[Act.put,List.setIfInBounds_toArray,List.set_cons_zero,List.set_cons_succ]) (N03 _ U.heap.size (HU.out.step hbA) ((KeepT.below hbA:KeepT 85 _ _) _ _ _ HE8.out) (heap_alloc_new U (.cells #[.slice (some ⟨gl,0,none⟩) K lc] 22)))
     exact N0 _ HU.out HE8.out
end Go.Proofs.YtgamblainfkiaaaGreatDoor
