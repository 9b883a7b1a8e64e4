/- What Likely, Forward, Backward, Smooth and Path answer where there is an error: both sides. -/
import Derived.Test.YtgamblainfkiaaaGreatDoorHexMHxHexC
import Derived.Test.YtgamblainfkiaaaGreatDoorHidHHx
import Derived.Test.YtgamblainfkiaaaGreatDoorFillBHxHidQ
import Derived.Test.YtgamblainfkiaaaGreatDoorMostAHxRefA
import Derived.Test.YtgamblainfkiaaaGreatDoorMadBHxCofI
namespace Go.Proofs.YtgamblainfkiaaaGreatDoor
open Go.RowKit Go.Shelf
set_option maxRecDepth 100000 in
set_option maxHeartbeats 1000000 in
theorem hiLikely_err (a b c d:Option Addr) (ca cb cc cd n1 n2 n3 L:Nat) (l:List Fr) (R1 R2:List (List Fr)) (Q:List Int) (z:Int) (w:World) (h:HidM w a b c l R1 R2) (hs:HidS l R1 R2) (hb0:b=none→cb=0) (hc0:c=none→cc=0) (hQ:IntS w d Q) (hQ8:Q.length≤1000) (hn1:l.length=n1) (hn2:R1.length=n2) (hn3:R2.length=n3) (hn4:Q.length=L) (he:SeeE l R1 R2 Q z) (hz:z≠0):
  Calls Tryz.prog 6 #[.agg #[.slice a n1 ca,.slice b n2 cb,.slice c n3 cc],.slice d L cd] w fun e w'=>e=.returned (.tuple #[.agg #[.bool false,.string ⟨#[]⟩,.string ⟨#[]⟩],.int .i64 z])∧Below w.heap.size w w':=by
 have HCK:Hid (∀U:World,Below w.heap.size w U→Calls Tryz.prog 28 #[.agg #[.slice a n1 ca,.slice b n2 cb,.slice c n3 cc],.slice d L cd] U fun e w'=>e=.returned (.int .i64 z)∧Below U.heap.size U w'):=fun U hU=>by
  have h9:=hiCheck2_gen a b c d ca cb cc cd l R1 R2 Q U (h.below hU) hs hb0 hc0 (hQ.below hU) hQ8
  rw[hn1,hn2,hn3,hn4] at h9
  refine h9.mono ?_
  rintro e w' ⟨⟨x,rfl,hx⟩,hb⟩
  rw[hx.uniq he]
  exact⟨rfl,hb⟩
 have hA0:=(Below.refl w.heap.size w).alloc (Nat.le_refl _) (HC3 (.slice a n1 ca) (.slice b n2 cb) (.slice c n3 cc))
 have hHB0:=HBox.new w (.slice a n1 ca) (.slice b n2 cb) (.slice c n3 cc)
 have hA:=hA0.alloc hA0.size (FC false ⟨#[]⟩ ⟨#[]⟩)
 have hst:=(Below.refl (w.alloc (HC3 (.slice a n1 ca) (.slice b n2 cb) (.slice c n3 cc))).heap.size (w.alloc (HC3 (.slice a n1 ca) (.slice b n2 cb) (.slice c n3 cc)))).alloc (Nat.le_refl _) (FC false ⟨#[]⟩ ⟨#[]⟩)
 have hHB:=hHB0.below hst hHB0.lt
 have hX:Box ((w.alloc (HC3 (.slice a n1 ca) (.slice b n2 cb) (.slice c n3 cc))).alloc (FC false ⟨#[]⟩ ⟨#[]⟩)) (w.heap.size+1) false ⟨#[]⟩ ⟨#[]⟩:=by
  have h9:=Box.new (w.alloc (HC3 (.slice a n1 ca) (.slice b n2 cb) (.slice c n3 cc))) false ⟨#[]⟩ ⟨#[]⟩
  rwa [World.size_alloc] at h9
 clear hA0 hHB0 hst
 obtain⟨e0,e1,e2⟩:=hHB.cells
 clear h hs hQ hQ8 he hn1 hn2 hn3 hn4 hb0 hc0
 go_enter Tryz.func6,Tryz.ntmps6
 go_wp2_with fail
 generalize ((w.alloc (HC3 (.slice a n1 ca) (.slice b n2 cb) (.slice c n3 cc))).alloc (FC false ⟨#[]⟩ ⟨#[]⟩))=W at *
 refine(HCK.out _ hA).mono ?_
 rintro e w1 ⟨rfl,hb⟩
 have HA1:=hid (hA.trans (hb.mono hA.size))
 have hX1:=hX.below hb hX.lt
 clear hX
 clear hA hHB hb e0 e1 e2
 obtain⟨k0,k1,k2,f0,f1,f2⟩:=hX1.facts
 go_wp2
 refine bodyPost_ret ((hX1.put _ _ _).result2 rfl _ rfl) rfl ?_
 exact⟨rfl,below_put HA1.out (by omega) _ _ _⟩
set_option maxRecDepth 100000 in
set_option maxHeartbeats 1000000 in
theorem hiForward_err (a b c d:Option Addr) (ca cb cc cd n1 n2 n3 L:Nat) (l:List Fr) (R1 R2:List (List Fr)) (Q:List Int) (z:Int) (w:World) (h:HidM w a b c l R1 R2) (hs:HidS l R1 R2) (hb0:b=none→cb=0) (hc0:c=none→cc=0) (hQ:IntS w d Q) (hQ8:Q.length≤1000) (hn1:l.length=n1) (hn2:R1.length=n2) (hn3:R2.length=n3) (hn4:Q.length=L) (he:SeeE l R1 R2 Q z) (hz:z≠0):
  Calls Tryz.prog 11 #[.agg #[.slice a n1 ca,.slice b n2 cb,.slice c n3 cc],.slice d L cd] w fun e w'=>e=.returned (.tuple #[.slice none 0 0,.int .i64 z])∧Below w.heap.size w w':=by
 have HCK:Hid (∀U:World,Below w.heap.size w U→Calls Tryz.prog 28 #[.agg #[.slice a n1 ca,.slice b n2 cb,.slice c n3 cc],.slice d L cd] U fun e w'=>e=.returned (.int .i64 z)∧Below U.heap.size U w'):=fun U hU=>by
  have h9:=hiCheck2_gen a b c d ca cb cc cd l R1 R2 Q U (h.below hU) hs hb0 hc0 (hQ.below hU) hQ8
  rw[hn1,hn2,hn3,hn4] at h9
  refine h9.mono ?_
  rintro e w' ⟨⟨x,rfl,hx⟩,hb⟩
  rw[hx.uniq he]
  exact⟨rfl,hb⟩
 have hA0:=(Below.refl w.heap.size w).alloc (Nat.le_refl _) (HC3 (.slice a n1 ca) (.slice b n2 cb) (.slice c n3 cc))
 have hHB0:=HBox.new w (.slice a n1 ca) (.slice b n2 cb) (.slice c n3 cc)
 have hA:=hA0
 have hHB:=hHB0
 clear hA0 hHB0
 obtain⟨e0,e1,e2⟩:=hHB.cells
 clear h hs hQ hQ8 he hn1 hn2 hn3 hn4 hb0 hc0
 go_enter Tryz.func11,Tryz.ntmps11
 go_wp2_with fail
 generalize (w.alloc (HC3 (.slice a n1 ca) (.slice b n2 cb) (.slice c n3 cc)))=W at *
 refine(HCK.out _ hA).mono ?_
 rintro e w1 ⟨rfl,hb⟩
 have HA1:=hid (hA.trans (hb.mono hA.size))
 clear hA hHB hb e0 e1 e2
 go_wp2
 go_ret2
 exact⟨rfl,HA1.out⟩
set_option maxRecDepth 100000 in
set_option maxHeartbeats 1000000 in
theorem hiBackward_err (a b c d:Option Addr) (ca cb cc cd n1 n2 n3 L:Nat) (l:List Fr) (R1 R2:List (List Fr)) (Q:List Int) (z:Int) (w:World) (h:HidM w a b c l R1 R2) (hs:HidS l R1 R2) (hb0:b=none→cb=0) (hc0:c=none→cc=0) (hQ:IntS w d Q) (hQ8:Q.length≤1000) (hn1:l.length=n1) (hn2:R1.length=n2) (hn3:R2.length=n3) (hn4:Q.length=L) (he:SeeE l R1 R2 Q z) (hz:z≠0):
  Calls Tryz.prog 14 #[.agg #[.slice a n1 ca,.slice b n2 cb,.slice c n3 cc],.slice d L cd] w fun e w'=>e=.returned (.tuple #[.slice none 0 0,.int .i64 z])∧Below w.heap.size w w':=by
 have HCK:Hid (∀U:World,Below w.heap.size w U→Calls Tryz.prog 28 #[.agg #[.slice a n1 ca,.slice b n2 cb,.slice c n3 cc],.slice d L cd] U fun e w'=>e=.returned (.int .i64 z)∧Below U.heap.size U w'):=fun U hU=>by
  have h9:=hiCheck2_gen a b c d ca cb cc cd l R1 R2 Q U (h.below hU) hs hb0 hc0 (hQ.below hU) hQ8
  rw[hn1,hn2,hn3,hn4] at h9
  refine h9.mono ?_
  rintro e w' ⟨⟨x,rfl,hx⟩,hb⟩
  rw[hx.uniq he]
  exact⟨rfl,hb⟩
 have hA0:=(Below.refl w.heap.size w).alloc (Nat.le_refl _) (HC3 (.slice a n1 ca) (.slice b n2 cb) (.slice c n3 cc))
 have hHB0:=HBox.new w (.slice a n1 ca) (.slice b n2 cb) (.slice c n3 cc)
 have hA:=hA0
 have hHB:=hHB0
 clear hA0 hHB0
 obtain⟨e0,e1,e2⟩:=hHB.cells
 clear h hs hQ hQ8 he hn1 hn2 hn3 hn4 hb0 hc0
 go_enter Tryz.func14,Tryz.ntmps14
 go_wp2_with fail
 generalize (w.alloc (HC3 (.slice a n1 ca) (.slice b n2 cb) (.slice c n3 cc)))=W at *
 refine(HCK.out _ hA).mono ?_
 rintro e w1 ⟨rfl,hb⟩
 have HA1:=hid (hA.trans (hb.mono hA.size))
 clear hA hHB hb e0 e1 e2
 go_wp2
 go_ret2
 exact⟨rfl,HA1.out⟩
set_option maxRecDepth 100000 in
set_option maxHeartbeats 1000000 in
theorem hiSmooth_err (a b c d:Option Addr) (ca cb cc cd n1 n2 n3 L:Nat) (l:List Fr) (R1 R2:List (List Fr)) (Q:List Int) (z:Int) (w:World) (h:HidM w a b c l R1 R2) (hs:HidS l R1 R2) (hb0:b=none→cb=0) (hc0:c=none→cc=0) (hQ:IntS w d Q) (hQ8:Q.length≤1000) (hn1:l.length=n1) (hn2:R1.length=n2) (hn3:R2.length=n3) (hn4:Q.length=L) (he:SeeE l R1 R2 Q z) (hz:z≠0):
  Calls Tryz.prog 16 #[.agg #[.slice a n1 ca,.slice b n2 cb,.slice c n3 cc],.slice d L cd] w fun e w'=>e=.returned (.tuple #[.slice none 0 0,.int .i64 z])∧Below w.heap.size w w':=by
 have HCK:Hid (∀U:World,Below w.heap.size w U→Calls Tryz.prog 6 #[.agg #[.slice a n1 ca,.slice b n2 cb,.slice c n3 cc],.slice d L cd] U fun e w'=>e=.returned (.tuple #[.agg #[.bool false,.string ⟨#[]⟩,.string ⟨#[]⟩],.int .i64 z])∧Below U.heap.size U w'):=fun U hU=>hiLikely_err a b c d ca cb cc cd n1 n2 n3 L l R1 R2 Q z U (h.below hU) hs hb0 hc0 (hQ.below hU) hQ8 hn1 hn2 hn3 hn4 he hz
 have hA0:=(Below.refl w.heap.size w).alloc (Nat.le_refl _) (HC3 (.slice a n1 ca) (.slice b n2 cb) (.slice c n3 cc))
 have hHB0:=HBox.new w (.slice a n1 ca) (.slice b n2 cb) (.slice c n3 cc)
 have hA:=hA0
 have hHB:=hHB0
 clear hA0 hHB0
 obtain⟨e0,e1,e2⟩:=hHB.cells
 clear h hs hQ hQ8 he hn1 hn2 hn3 hn4 hb0 hc0
 go_enter Tryz.func16,Tryz.ntmps16
 go_wp2_with fail
 generalize (w.alloc (HC3 (.slice a n1 ca) (.slice b n2 cb) (.slice c n3 cc)))=W at *
 refine(HCK.out _ hA).mono ?_
 rintro e w1 ⟨rfl,hb⟩
 have HA1:=hid (hA.trans (hb.mono hA.size))
 clear hA hHB hb e0 e1 e2
 have hbn:=(Below.refl w1.heap.size w1).alloc (Nat.le_refl _) (FC false ⟨#[]⟩ ⟨#[]⟩)
 have HA2:=hid (HA1.out.trans (hbn.mono HA1.out.size))
 obtain⟨q0,q1,q2,q3,q4,q5⟩:=(Box.new w1 false ⟨#[]⟩ ⟨#[]⟩).facts
 go_wp2
 go_ret2
 exact⟨rfl,HA2.out⟩
set_option maxRecDepth 100000 in
set_option maxHeartbeats 1000000 in
theorem hiPath_err (a b c d:Option Addr) (ca cb cc cd n1 n2 n3 L:Nat) (l:List Fr) (R1 R2:List (List Fr)) (Q:List Int) (z:Int) (w:World) (h:HidM w a b c l R1 R2) (hs:HidS l R1 R2) (hb0:b=none→cb=0) (hc0:c=none→cc=0) (hQ:IntS w d Q) (hQ8:Q.length≤1000) (hn1:l.length=n1) (hn2:R1.length=n2) (hn3:R2.length=n3) (hn4:Q.length=L) (he:SeeE l R1 R2 Q z) (hz:z≠0):
  Calls Tryz.prog 18 #[.agg #[.slice a n1 ca,.slice b n2 cb,.slice c n3 cc],.slice d L cd] w fun e w'=>e=.returned (.tuple #[.slice none 0 0,.agg #[.bool false,.string ⟨#[]⟩,.string ⟨#[]⟩],.int .i64 z])∧Below w.heap.size w w':=by
 have HCK:Hid (∀U:World,Below w.heap.size w U→Calls Tryz.prog 28 #[.agg #[.slice a n1 ca,.slice b n2 cb,.slice c n3 cc],.slice d L cd] U fun e w'=>e=.returned (.int .i64 z)∧Below U.heap.size U w'):=fun U hU=>by
  have h9:=hiCheck2_gen a b c d ca cb cc cd l R1 R2 Q U (h.below hU) hs hb0 hc0 (hQ.below hU) hQ8
  rw[hn1,hn2,hn3,hn4] at h9
  refine h9.mono ?_
  rintro e w' ⟨⟨x,rfl,hx⟩,hb⟩
  rw[hx.uniq he]
  exact⟨rfl,hb⟩
 have hA0:=(Below.refl w.heap.size w).alloc (Nat.le_refl _) (HC3 (.slice a n1 ca) (.slice b n2 cb) (.slice c n3 cc))
 have hHB0:=HBox.new w (.slice a n1 ca) (.slice b n2 cb) (.slice c n3 cc)
 have hA:=hA0.alloc hA0.size (FC false ⟨#[]⟩ ⟨#[]⟩)
 have hst:=(Below.refl (w.alloc (HC3 (.slice a n1 ca) (.slice b n2 cb) (.slice c n3 cc))).heap.size (w.alloc (HC3 (.slice a n1 ca) (.slice b n2 cb) (.slice c n3 cc)))).alloc (Nat.le_refl _) (FC false ⟨#[]⟩ ⟨#[]⟩)
 have hHB:=hHB0.below hst hHB0.lt
 have hX:Box ((w.alloc (HC3 (.slice a n1 ca) (.slice b n2 cb) (.slice c n3 cc))).alloc (FC false ⟨#[]⟩ ⟨#[]⟩)) (w.heap.size+1) false ⟨#[]⟩ ⟨#[]⟩:=by
  have h9:=Box.new (w.alloc (HC3 (.slice a n1 ca) (.slice b n2 cb) (.slice c n3 cc))) false ⟨#[]⟩ ⟨#[]⟩
  rwa [World.size_alloc] at h9
 clear hA0 hHB0 hst
 obtain⟨e0,e1,e2⟩:=hHB.cells
 clear h hs hQ hQ8 he hn1 hn2 hn3 hn4 hb0 hc0
 go_enter Tryz.func18,Tryz.ntmps18
 go_wp2_with fail
 generalize ((w.alloc (HC3 (.slice a n1 ca) (.slice b n2 cb) (.slice c n3 cc))).alloc (FC false ⟨#[]⟩ ⟨#[]⟩))=W at *
 refine(HCK.out _ hA).mono ?_
 rintro e w1 ⟨rfl,hb⟩
 have HA1:=hid (hA.trans (hb.mono hA.size))
 have hX1:=hX.below hb hX.lt
 clear hX
 clear hA hHB hb e0 e1 e2
 obtain⟨k0,k1,k2,f0,f1,f2⟩:=hX1.facts
 go_wp2
 refine bodyPost_ret (results_tmp_cell_tmp (hX1.put false ⟨#[]⟩ ⟨#[]⟩) rfl _ rfl) rfl ?_
 exact⟨rfl,below_put HA1.out (by omega) _ _ _⟩
set_option maxRecDepth 100000 in
set_option maxHeartbeats 1000000 in
theorem rLikely_err (a b c d:Option Addr) (ca cb cc cd n1 n2 n3 L:Nat) (l:List Fr) (R1 R2:List (List Fr)) (Q:List Int) (z:Int) (w:World) (h:HidM w a b c l R1 R2) (hs:HidS l R1 R2) (hQ:IntS w d Q) (hQ8:Q.length≤1000) (hn1:l.length=n1) (hn2:R1.length=n2) (hn3:R2.length=n3) (hn4:Q.length=L) (he:SeeE l R1 R2 Q z) (hz:z≠0):
  Calls Tryz.prog 7 #[.agg #[.slice a n1 ca,.slice b n2 cb,.slice c n3 cc],.slice d L cd] w fun e w'=>e=.returned (.tuple #[.agg #[.bool false,.string ⟨#[]⟩,.string ⟨#[]⟩],.int .i64 z])∧Below w.heap.size w w':=by
 have HCK:Hid (∀U:World,Below w.heap.size w U→Calls Tryz.prog 32 #[.agg #[.slice a n1 ca,.slice b n2 cb,.slice c n3 cc],.slice d L cd] U fun e w'=>e=.returned (.int .i64 z)∧Below U.heap.size U w'):=fun U hU=>by
  have h9:=rSeen_any a b c d ca cb cc cd l R1 R2 Q U (h.below hU) hs (hQ.below hU) hQ8
  rw[hn1,hn2,hn3,hn4] at h9
  refine h9.mono ?_
  rintro e w' ⟨⟨x,rfl,hx⟩,hb⟩
  rw[hx.uniq he]
  exact⟨rfl,hb⟩
 have hA0:=(Below.refl w.heap.size w).alloc (Nat.le_refl _) (HC3 (.slice a n1 ca) (.slice b n2 cb) (.slice c n3 cc))
 have hHB0:=HBox.new w (.slice a n1 ca) (.slice b n2 cb) (.slice c n3 cc)
 have hA:=hA0.alloc hA0.size (FC false ⟨#[]⟩ ⟨#[]⟩)
 have hst:=(Below.refl (w.alloc (HC3 (.slice a n1 ca) (.slice b n2 cb) (.slice c n3 cc))).heap.size (w.alloc (HC3 (.slice a n1 ca) (.slice b n2 cb) (.slice c n3 cc)))).alloc (Nat.le_refl _) (FC false ⟨#[]⟩ ⟨#[]⟩)
 have hHB:=hHB0.below hst hHB0.lt
 have hX:Box ((w.alloc (HC3 (.slice a n1 ca) (.slice b n2 cb) (.slice c n3 cc))).alloc (FC false ⟨#[]⟩ ⟨#[]⟩)) (w.heap.size+1) false ⟨#[]⟩ ⟨#[]⟩:=by
  have h9:=Box.new (w.alloc (HC3 (.slice a n1 ca) (.slice b n2 cb) (.slice c n3 cc))) false ⟨#[]⟩ ⟨#[]⟩
  rwa [World.size_alloc] at h9
 clear hA0 hHB0 hst
 obtain⟨e0,e1,e2⟩:=hHB.cells
 clear h hs hQ hQ8 he hn1 hn2 hn3 hn4
 go_enter Tryz.func7,Tryz.ntmps7
 go_wp2_with fail
 generalize ((w.alloc (HC3 (.slice a n1 ca) (.slice b n2 cb) (.slice c n3 cc))).alloc (FC false ⟨#[]⟩ ⟨#[]⟩))=W at *
 refine(HCK.out _ hA).mono ?_
 rintro e w1 ⟨rfl,hb⟩
 have HA1:=hid (hA.trans (hb.mono hA.size))
 have hX1:=hX.below hb hX.lt
 clear hX
 clear hA hHB hb e0 e1 e2
 obtain⟨k0,k1,k2,f0,f1,f2⟩:=hX1.facts
 go_wp2
 refine bodyPost_ret ((hX1.put _ _ _).result2 rfl _ rfl) rfl ?_
 exact⟨rfl,below_put HA1.out (by omega) _ _ _⟩
set_option maxRecDepth 100000 in
set_option maxHeartbeats 1000000 in
theorem rForward_err (a b c d:Option Addr) (ca cb cc cd n1 n2 n3 L:Nat) (l:List Fr) (R1 R2:List (List Fr)) (Q:List Int) (z:Int) (w:World) (h:HidM w a b c l R1 R2) (hs:HidS l R1 R2) (hQ:IntS w d Q) (hQ8:Q.length≤1000) (hn1:l.length=n1) (hn2:R1.length=n2) (hn3:R2.length=n3) (hn4:Q.length=L) (he:SeeE l R1 R2 Q z) (hz:z≠0):
  Calls Tryz.prog 12 #[.agg #[.slice a n1 ca,.slice b n2 cb,.slice c n3 cc],.slice d L cd] w fun e w'=>e=.returned (.tuple #[.slice none 0 0,.int .i64 z])∧Below w.heap.size w w':=by
 have HCK:Hid (∀U:World,Below w.heap.size w U→Calls Tryz.prog 32 #[.agg #[.slice a n1 ca,.slice b n2 cb,.slice c n3 cc],.slice d L cd] U fun e w'=>e=.returned (.int .i64 z)∧Below U.heap.size U w'):=fun U hU=>by
  have h9:=rSeen_any a b c d ca cb cc cd l R1 R2 Q U (h.below hU) hs (hQ.below hU) hQ8
  rw[hn1,hn2,hn3,hn4] at h9
  refine h9.mono ?_
  rintro e w' ⟨⟨x,rfl,hx⟩,hb⟩
  rw[hx.uniq he]
  exact⟨rfl,hb⟩
 have hA0:=(Below.refl w.heap.size w).alloc (Nat.le_refl _) (HC3 (.slice a n1 ca) (.slice b n2 cb) (.slice c n3 cc))
 have hHB0:=HBox.new w (.slice a n1 ca) (.slice b n2 cb) (.slice c n3 cc)
 have hA:=hA0
 have hHB:=hHB0
 clear hA0 hHB0
 obtain⟨e0,e1,e2⟩:=hHB.cells
 clear h hs hQ hQ8 he hn1 hn2 hn3 hn4
 go_enter Tryz.func12,Tryz.ntmps12
 go_wp2_with fail
 generalize (w.alloc (HC3 (.slice a n1 ca) (.slice b n2 cb) (.slice c n3 cc)))=W at *
 refine(HCK.out _ hA).mono ?_
 rintro e w1 ⟨rfl,hb⟩
 have HA1:=hid (hA.trans (hb.mono hA.size))
 clear hA hHB hb e0 e1 e2
 go_wp2
 go_ret2
 exact⟨rfl,HA1.out⟩
set_option maxRecDepth 100000 in
set_option maxHeartbeats 1000000 in
theorem rBackward_err (a b c d:Option Addr) (ca cb cc cd n1 n2 n3 L:Nat) (l:List Fr) (R1 R2:List (List Fr)) (Q:List Int) (z:Int) (w:World) (h:HidM w a b c l R1 R2) (hs:HidS l R1 R2) (hQ:IntS w d Q) (hQ8:Q.length≤1000) (hn1:l.length=n1) (hn2:R1.length=n2) (hn3:R2.length=n3) (hn4:Q.length=L) (he:SeeE l R1 R2 Q z) (hz:z≠0):
  Calls Tryz.prog 15 #[.agg #[.slice a n1 ca,.slice b n2 cb,.slice c n3 cc],.slice d L cd] w fun e w'=>e=.returned (.tuple #[.slice none 0 0,.int .i64 z])∧Below w.heap.size w w':=by
 have HCK:Hid (∀U:World,Below w.heap.size w U→Calls Tryz.prog 32 #[.agg #[.slice a n1 ca,.slice b n2 cb,.slice c n3 cc],.slice d L cd] U fun e w'=>e=.returned (.int .i64 z)∧Below U.heap.size U w'):=fun U hU=>by
  have h9:=rSeen_any a b c d ca cb cc cd l R1 R2 Q U (h.below hU) hs (hQ.below hU) hQ8
  rw[hn1,hn2,hn3,hn4] at h9
  refine h9.mono ?_
  rintro e w' ⟨⟨x,rfl,hx⟩,hb⟩
  rw[hx.uniq he]
  exact⟨rfl,hb⟩
 have hA0:=(Below.refl w.heap.size w).alloc (Nat.le_refl _) (HC3 (.slice a n1 ca) (.slice b n2 cb) (.slice c n3 cc))
 have hHB0:=HBox.new w (.slice a n1 ca) (.slice b n2 cb) (.slice c n3 cc)
 have hA:=hA0
 have hHB:=hHB0
 clear hA0 hHB0
 obtain⟨e0,e1,e2⟩:=hHB.cells
 clear h hs hQ hQ8 he hn1 hn2 hn3 hn4
 go_enter Tryz.func15,Tryz.ntmps15
 go_wp2_with fail
 generalize (w.alloc (HC3 (.slice a n1 ca) (.slice b n2 cb) (.slice c n3 cc)))=W at *
 refine(HCK.out _ hA).mono ?_
 rintro e w1 ⟨rfl,hb⟩
 have HA1:=hid (hA.trans (hb.mono hA.size))
 clear hA hHB hb e0 e1 e2
 go_wp2
 go_ret2
 exact⟨rfl,HA1.out⟩
set_option maxRecDepth 100000 in
set_option maxHeartbeats 1000000 in
theorem rSmooth_err (a b c d:Option Addr) (ca cb cc cd n1 n2 n3 L:Nat) (l:List Fr) (R1 R2:List (List Fr)) (Q:List Int) (z:Int) (w:World) (h:HidM w a b c l R1 R2) (hs:HidS l R1 R2) (hQ:IntS w d Q) (hQ8:Q.length≤1000) (hn1:l.length=n1) (hn2:R1.length=n2) (hn3:R2.length=n3) (hn4:Q.length=L) (he:SeeE l R1 R2 Q z) (hz:z≠0):
  Calls Tryz.prog 17 #[.agg #[.slice a n1 ca,.slice b n2 cb,.slice c n3 cc],.slice d L cd] w fun e w'=>e=.returned (.tuple #[.slice none 0 0,.int .i64 z])∧Below w.heap.size w w':=by
 have HCK:Hid (∀U:World,Below w.heap.size w U→Calls Tryz.prog 7 #[.agg #[.slice a n1 ca,.slice b n2 cb,.slice c n3 cc],.slice d L cd] U fun e w'=>e=.returned (.tuple #[.agg #[.bool false,.string ⟨#[]⟩,.string ⟨#[]⟩],.int .i64 z])∧Below U.heap.size U w'):=fun U hU=>rLikely_err a b c d ca cb cc cd n1 n2 n3 L l R1 R2 Q z U (h.below hU) hs (hQ.below hU) hQ8 hn1 hn2 hn3 hn4 he hz
 have hA0:=(Below.refl w.heap.size w).alloc (Nat.le_refl _) (HC3 (.slice a n1 ca) (.slice b n2 cb) (.slice c n3 cc))
 have hHB0:=HBox.new w (.slice a n1 ca) (.slice b n2 cb) (.slice c n3 cc)
 have hA:=hA0
 have hHB:=hHB0
 clear hA0 hHB0
 obtain⟨e0,e1,e2⟩:=hHB.cells
 clear h hs hQ hQ8 he hn1 hn2 hn3 hn4
 go_enter Tryz.func17,Tryz.ntmps17
 go_wp2_with fail
 generalize (w.alloc (HC3 (.slice a n1 ca) (.slice b n2 cb) (.slice c n3 cc)))=W at *
 refine(HCK.out _ hA).mono ?_
 rintro e w1 ⟨rfl,hb⟩
 have HA1:=hid (hA.trans (hb.mono hA.size))
 clear hA hHB hb e0 e1 e2
 have hbn:=(Below.refl w1.heap.size w1).alloc (Nat.le_refl _) (FC false ⟨#[]⟩ ⟨#[]⟩)
 have HA2:=hid (HA1.out.trans (hbn.mono HA1.out.size))
 obtain⟨q0,q1,q2,q3,q4,q5⟩:=(Box.new w1 false ⟨#[]⟩ ⟨#[]⟩).facts
 go_wp2
 go_ret2
 exact⟨rfl,HA2.out⟩
set_option maxRecDepth 100000 in
set_option maxHeartbeats 1000000 in
theorem rPath_err (a b c d:Option Addr) (ca cb cc cd n1 n2 n3 L:Nat) (l:List Fr) (R1 R2:List (List Fr)) (Q:List Int) (z:Int) (w:World) (h:HidM w a b c l R1 R2) (hs:HidS l R1 R2) (hQ:IntS w d Q) (hQ8:Q.length≤1000) (hn1:l.length=n1) (hn2:R1.length=n2) (hn3:R2.length=n3) (hn4:Q.length=L) (he:SeeE l R1 R2 Q z) (hz:z≠0):
  Calls Tryz.prog 19 #[.agg #[.slice a n1 ca,.slice b n2 cb,.slice c n3 cc],.slice d L cd] w fun e w'=>e=.returned (.tuple #[.slice none 0 0,.agg #[.bool false,.string ⟨#[]⟩,.string ⟨#[]⟩],.int .i64 z])∧Below w.heap.size w w':=by
 have HCK:Hid (∀U:World,Below w.heap.size w U→Calls Tryz.prog 7 #[.agg #[.slice a n1 ca,.slice b n2 cb,.slice c n3 cc],.slice d L cd] U fun e w'=>e=.returned (.tuple #[.agg #[.bool false,.string ⟨#[]⟩,.string ⟨#[]⟩],.int .i64 z])∧Below U.heap.size U w'):=fun U hU=>rLikely_err a b c d ca cb cc cd n1 n2 n3 L l R1 R2 Q z U (h.below hU) hs (hQ.below hU) hQ8 hn1 hn2 hn3 hn4 he hz
 have hA0:=(Below.refl w.heap.size w).alloc (Nat.le_refl _) (HC3 (.slice a n1 ca) (.slice b n2 cb) (.slice c n3 cc))
 have hHB0:=HBox.new w (.slice a n1 ca) (.slice b n2 cb) (.slice c n3 cc)
 have hA:=hA0.alloc hA0.size (FC false ⟨#[]⟩ ⟨#[]⟩)
 have hst:=(Below.refl (w.alloc (HC3 (.slice a n1 ca) (.slice b n2 cb) (.slice c n3 cc))).heap.size (w.alloc (HC3 (.slice a n1 ca) (.slice b n2 cb) (.slice c n3 cc)))).alloc (Nat.le_refl _) (FC false ⟨#[]⟩ ⟨#[]⟩)
 have hHB:=hHB0.below hst hHB0.lt
 have hX:Box ((w.alloc (HC3 (.slice a n1 ca) (.slice b n2 cb) (.slice c n3 cc))).alloc (FC false ⟨#[]⟩ ⟨#[]⟩)) (w.heap.size+1) false ⟨#[]⟩ ⟨#[]⟩:=by
  have h9:=Box.new (w.alloc (HC3 (.slice a n1 ca) (.slice b n2 cb) (.slice c n3 cc))) false ⟨#[]⟩ ⟨#[]⟩
  rwa [World.size_alloc] at h9
 clear hA0 hHB0 hst
 obtain⟨e0,e1,e2⟩:=hHB.cells
 clear h hs hQ hQ8 he hn1 hn2 hn3 hn4
 go_enter Tryz.func19,Tryz.ntmps19
 go_wp2_with fail
 generalize ((w.alloc (HC3 (.slice a n1 ca) (.slice b n2 cb) (.slice c n3 cc))).alloc (FC false ⟨#[]⟩ ⟨#[]⟩))=W at *
 refine(HCK.out _ hA).mono ?_
 rintro e w1 ⟨rfl,hb⟩
 have HA1:=hid (hA.trans (hb.mono hA.size))
 have hX1:=hX.below hb hX.lt
 clear hX
 clear hA hHB hb e0 e1 e2
 have hbn:=(Below.refl w1.heap.size w1).alloc (Nat.le_refl _) (FC false ⟨#[]⟩ ⟨#[]⟩)
 have HA2:=hid (HA1.out.trans (hbn.mono HA1.out.size))
 obtain⟨q0,q1,q2,q3,q4,q5⟩:=(Box.new w1 false ⟨#[]⟩ ⟨#[]⟩).facts
 have hX2:=hX1.below hbn hX1.lt
 obtain⟨k0,k1,k2,f0,f1,f2⟩:=hX2.facts
 clear hX1
 go_wp2
 refine bodyPost_ret (results_tmp_cell_tmp (hX2.put false ⟨#[]⟩ ⟨#[]⟩) rfl _ rfl) rfl ?_
 exact⟨rfl,below_put HA2.out (by omega) _ _ _⟩
end Go.Proofs.YtgamblainfkiaaaGreatDoor

/- A hidden chain that may be, and is not heavy: its numbers have one denominator of so many bytes. -/
namespace Go.Proofs.YtgamblainfkiaaaGreatDoor
open Go.RowKit Go.Shelf Go.Lib
def dnF (f:Fr):Nat:=if N f.2.2=0 then 1 else N f.2.2
def dnP:List Fr→Nat
 |[]=>1
 |f::l=>dnF f*dnP l
theorem dnF_pos (f:Fr):0<dnF f:=by
 unfold dnF
 split<;>omega
theorem dnP_pos:∀l,0<dnP l
 |[]=>by decide
 |f::l=>Nat.mul_pos (dnF_pos f) (dnP_pos l)
theorem dnP_dvd:∀ {l:List Fr} {f:Fr},f∈l→dnF f∣dnP l
 |g::l,f,h=>by
  rcases List.mem_cons.1 h with rfl |h
  ·exact Nat.dvd_mul_right _ _
  ·exact Nat.dvd_trans (dnP_dvd h) (Nat.dvd_mul_left _ _)
theorem dnP_size:∀l,(B (dnP l)).size≤sw l+1
 |[]=>by
  show (B 1).size≤1
  rw[B_size]
  exact bn_fits 1 1 (by decide)
 |f::l=>by
  have key:∀l,dnP l≤256^sw l:=fun l=>by
   induction l with
   |nil=>decide
   |cons f l ih=>
    show dnF f*dnP l≤256^(f.2.1.size+f.2.2.size+sw l)
    rw[Nat.pow_add]
    refine Nat.mul_le_mul ?_ ih
    have h1:256^f.2.2.size≤256^(f.2.1.size+f.2.2.size):=Nat.pow_le_pow_right (by decide) (by omega)
    have h2:0<256^f.2.2.size:=Nat.pow_pos (by decide)
    have h3:=N_lt f.2.2
    unfold dnF
    split<;>omega
  rw[B_size]
  refine bn_fits _ _ ?_
  have h1:=key (f::l)
  have h2:0<256^sw (f::l):=Nat.pow_pos (by decide)
  rw[Nat.pow_succ]
  omega
theorem whole_of {f:Fr} {D:Nat} (hd:dnF f∣D) (h0:0≤frQ f):∃a:Nat,frQ f*((D^1:Nat):Rat)=(a:Rat):=by
 rw[Nat.pow_one]
 by_cases h:N f.2.2=0
 ·refine⟨0,?_⟩
  rw[show frQ f=0 from val_den0 h,Rat.zero_mul]
  rfl
 ·rw[dnF,if_neg h] at hd
  obtain⟨c,rfl⟩:=hd
  have hne:((N f.2.2:Nat):Rat)≠0:=fun e=>h (by exact_mod_cast e)
  have e1:frQ f*((N f.2.2:Nat):Rat)=((sg f.1 (N f.2.1):Int):Rat):=by
   show mkRat _ _*_=_
   rw[Rat.mkRat_eq_div,Rat.div_def,Rat.mul_assoc]
   show _*((((N f.2.2:Nat):Rat))⁻¹*_)=_
   rw[Rat.inv_mul_cancel _ hne,Rat.mul_one]
  have e2:frQ f*((N f.2.2*c:Nat):Rat)=((sg f.1 (N f.2.1)*(c:Int):Int):Rat):=by
   rw[Rat.natCast_mul,←Rat.mul_assoc,e1,Rat.intCast_mul]
   rfl
  have h1:(0:Rat)≤((sg f.1 (N f.2.1)*(c:Int):Int):Rat):=by
   rw[←e2]
   exact Rat.mul_nonneg h0 Rat.natCast_nonneg
  have h2:0≤sg f.1 (N f.2.1)*(c:Int):=by exact_mod_cast h1
  refine⟨(sg f.1 (N f.2.1)*(c:Int)).toNat,?_⟩
  rw[e2]
  have e3:(((sg f.1 (N f.2.1)*(c:Int)).toNat:Int))=sg f.1 (N f.2.1)*(c:Int):=Int.toNat_of_nonneg h2
  rw[←e3]
  rfl
def hcO (n:Nat) (l:List Fr) (R1 R2:List (List Fr)) (Q:List Nat):HC where
 s:=n
 L:=Q.length
 st:=fun i=>frQ (celF l i)
 mv:=fun i j=>frQ (celF (R1[i]?.getD []) j)
 sh:=fun t i=>frQ (celF (R2[i]?.getD []) (Q[t]?.getD 0))
def allF (l:List Fr) (R1 R2:List (List Fr)):List Fr:=l++(R1.flatten++R2.flatten)
theorem sw_app (a b:List Fr):sw (a++b)=sw a+sw b:=by
 induction a with
 |nil=>simp[sw]
 |cons f a ih=>simp only[List.cons_append,sw,ih];omega
theorem sw_mem:∀ {l:List Fr} {f:Fr},f∈l→f.2.1.size+f.2.2.size≤sw l
 |g::l,f,h=>by
  rcases List.mem_cons.1 h with rfl |h
  ·simp only[sw];omega
  ·have:=sw_mem h
   simp only[sw];omega
theorem row_num {r:List Fr} (h:rowB r=true) {i:Nat} (hi:i<r.length):0≤frQ r[i]∧frQ r[i]≤1:=by
 unfold rowB at h
 simp only[Bool.and_eq_true,List.all_eq_true,decide_eq_true_eq] at h
 have h0:∀j (hj:j<r.length),0≤frQ r[j]:=fun j hj=>Rat.not_lt.1 (h.1 _ (List.getElem_mem hj))
 refine⟨h0 i hi,?_⟩
 have h1:=fsum_isF (f:=fun j=>frQ (celF r j)) r r.length rfl fun j hj=>by rw[celF_eq hj]
 rw[h.2] at h1
 have h2:=sumR_part (f:=fun j=>frQ (celF r j)) (n:=r.length) (fun j hj=>by rw[celF_eq hj];exact h0 j hj) i hi
 rw[←h1,celF_eq hi] at h2
 exact h2
theorem row_sm {r A:List Fr} (h:rowB r=true) (hA:∀f∈r,f∈A) {i:Nat} (hi:i<r.length):Sm (dnP A) 1 (frQ r[i]):=by
 obtain⟨h0,h1⟩:=row_num h hi
 exact⟨h0,Rat.le_trans h1 (by decide),whole_of (dnP_dvd (hA _ (List.getElem_mem hi))) h0⟩
theorem hidV_gen {n m:Nat} {l:List Fr} {R1 R2:List (List Fr)} {Q:List Nat} (hS:HidS l R1 R2) (hn:l.length=n) (hm:(R2.headD []).length=m) (he:HidE l R1 R2 0) (hQ6:Q.length≤6) (hq:∀x∈Q,x<m) (hw:sw (allF l R1 R2)≤700):
  HidV (dnP (allF l R1 R2)) (hcO n l R1 R2 Q) m l R1 R2 Q:=by
 obtain⟨⟨p1,p2,p3,p4,p5,p6,p7,p8⟩,r1,r2,r3⟩:ShpB l R1 R2∧RwsB l R1 R2:=by
  rcases he with ⟨_,h1,h2⟩ |⟨h9,_⟩ |⟨h9,_⟩
  ·exact⟨h1,h2⟩
  ·exact absurd h9 (by decide)
  ·exact absurd h9 (by decide)
 rw[hn] at p1 p2 p3 p4 p7
 rw[hm] at p5 p6 p8
 have e1:∀i (hi:i<R1.length),R1[i]?.getD []=R1[i]:=fun i hi=>by rw[List.getElem?_eq_getElem hi];rfl
 have e2:∀i (hi:i<R2.length),R2[i]?.getD []=R2[i]:=fun i hi=>by rw[List.getElem?_eq_getElem hi];rfl
 have eq:∀t (ht:t<Q.length),Q[t]?.getD 0=Q[t]:=fun t ht=>by rw[List.getElem?_eq_getElem ht];rfl
 have a0:∀f∈l,f∈allF l R1 R2:=fun f hf=>List.mem_append.2 (.inl hf)
 have a1:∀r∈R1,∀f∈r,f∈allF l R1 R2:=fun r hr f hf=>List.mem_append.2 (.inr (List.mem_append.2 (.inl (List.mem_flatten.2 ⟨r,hr,hf⟩))))
 have a2:∀r∈R2,∀f∈r,f∈allF l R1 R2:=fun r hr f hf=>List.mem_append.2 (.inr (List.mem_append.2 (.inr (List.mem_flatten.2 ⟨r,hr,hf⟩))))
 have sz:∀f∈allF l R1 R2,f.2.1.size+f.2.2.size≤30010:=fun f hf=>by have:=sw_mem hf;omega
 have g1:∀i (hi:i<R1.length),R1[i]∈R1:=fun i hi=>List.getElem_mem hi
 have g2:∀i (hi:i<R2.length),R2[i]∈R2:=fun i hi=>List.getElem_mem hi
 refine⟨⟨p1,p2,p5,p6,hn,hS.f1,r1,⟨p3,fun i hi=>p7 _ (g1 i hi),fun i hi=>hS.f2 _ (g1 i hi),fun i hi=>r2 _ (g1 i hi)⟩,⟨p4,fun i hi=>p8 _ (g2 i hi),fun i hi=>hS.f3 _ (g2 i hi),fun i hi=>r3 _ (g2 i hi)⟩⟩,rfl,hq,⟨hn,fun j hj=>?_,fun j hj=>sz _ (a0 _ (List.getElem_mem hj))⟩,fun i hi=>⟨p7 _ (g1 i hi),fun j hj=>?_,fun j hj=>sz _ (a1 _ (g1 i hi) _ (List.getElem_mem hj))⟩,fun t ht i hi=>?_,⟨p2,Nat.le_trans hQ6 (by decide),dnP_pos _,?_,fun i hi=>?_,fun i hi j hj=>?_,fun t ht i hi=>?_⟩⟩
 ·show _=frQ (celF l j)
  rw[celF_eq hj]
 ·show _=frQ (celF (R1[i]?.getD []) j)
  rw[e1 i hi,celF_eq hj]
 ·have hx:Q[t]<R2[i].length:=by rw[p8 _ (g2 i hi)];exact hq _ (List.getElem_mem ht)
  refine⟨hx,?_,sz _ (a2 _ (g2 i hi) _ (List.getElem_mem hx))⟩
  show _=frQ (celF (R2[i]?.getD []) (Q[t]?.getD 0))
  rw[e2 i hi,eq t ht,celF_eq hx]
 ·have h1:=dnP_size (allF l R1 R2)
  have h2:((B (dnP (allF l R1 R2))).size+1)*(3*Q.length+1)≤702*19:=Nat.mul_le_mul (by omega) (by omega)
  exact Nat.le_trans h2 (by decide)
 ·have hi':i<l.length:=by rw[hn];exact hi
  show Sm _ 1 (frQ (celF l i))
  rw[celF_eq hi']
  exact row_sm r1 a0 hi'
 ·have hi':i<R1.length:=by rw[p3];exact hi
  have hj':j<R1[i].length:=by rw[p7 _ (g1 i hi')];exact hj
  show Sm _ 1 (frQ (celF (R1[i]?.getD []) j))
  rw[e1 i hi',celF_eq hj']
  exact row_sm (r2 _ (g1 i hi')) (a1 _ (g1 i hi')) hj'
 ·have hi':i<R2.length:=by rw[p4];exact hi
  have ht':t<Q.length:=ht
  have hx:Q[t]<R2[i].length:=by rw[p8 _ (g2 i hi')];exact hq _ (List.getElem_mem ht')
  show Sm _ 1 (frQ (celF (R2[i]?.getD []) (Q[t]?.getD 0)))
  rw[e2 i hi',eq t ht',celF_eq hx]
  exact row_sm (r3 _ (g2 i hi')) (a2 _ (g2 i hi')) hx
end Go.Proofs.YtgamblainfkiaaaGreatDoor

/- Hidden chains, way by way, plainly. -/
namespace Go.Proofs.YtgamblainfkiaaaGreatDoor
theorem sumR_block (f:Nat→Rat) (s:Nat):∀m,sumR f (m*s)=sumR (fun q=>sumR (fun r=>f (q*s+r)) s) m
 |0=>by rw[Nat.zero_mul];rfl
 |m+1=>by
  show _=sumR _ m+_
  rw[←sumR_block f s m,Nat.add_mul,Nat.one_mul]
  have key:∀k,sumR f (m*s+k)=sumR f (m*s)+sumR (fun r=>f (m*s+r)) k:=fun k=>by
   induction k with
   |zero=>show _=_+0;rw[Rat.add_zero,Nat.add_zero]
   |succ k ih=>
    show sumR f (m*s+k)+f (m*s+k)=sumR f (m*s)+(sumR (fun r=>f (m*s+r)) k+f (m*s+k))
    rw[ih,Rat.add_assoc]
  exact key s
theorem sumR_pick {x:Nat→Rat} {a:Nat}:∀ {n:Nat},a<n→sumR (fun i=>if a=i then x i else 0) n=x a
 |0,h=>by omega
 |n+1,h=>by
  show sumR (fun i=>if a=i then x i else 0) n+(if a=n then x n else 0)=x a
  by_cases e:a=n
  ·subst e
   rw[sumR_zero fun r hr=>by rw[if_neg (by omega)],if_pos rfl]
   grind
  ·rw[sumR_pick (n:=n) (by omega),if_neg e]
   grind
def wyL (s:Nat):Nat→Nat→List Nat
 |0,_=>[]
 |t+1,i=>wyL s t (i/s)++[i % s]
theorem wyL_length (s:Nat):∀t i,(wyL s t i).length=t
 |0,_=>rfl
 |t+1,i=>by rw[wyL,List.length_append,wyL_length s t];rfl
def wyF (s t i k:Nat):Nat:=(wyL s t i).getD k 0
theorem wyL_at {s q r:Nat} (hr:r<s) (t:Nat):wyL s (t+1) (q*s+r)=wyL s t q++[r]:=by
 have e1:(q*s+r)/s=q:=by rw[Nat.mul_comm,Nat.mul_add_div (by omega),Nat.div_eq_of_lt hr,Nat.add_zero]
 have e2:(q*s+r) % s=r:=by rw[Nat.mul_comm,Nat.mul_add_mod,Nat.mod_eq_of_lt hr]
 rw[wyL,e1,e2]
theorem wyF_old {s q r t k:Nat} (hr:r<s) (hk:k<t):wyF s (t+1) (q*s+r) k=wyF s t q k:=by
 rw[wyF,wyF,wyL_at hr,List.getD_eq_getElem?_getD,List.getD_eq_getElem?_getD,List.getElem?_append_left (by rw[wyL_length];exact hk)]
theorem wyF_new {s q r t:Nat} (hr:r<s):wyF s (t+1) (q*s+r) t=r:=by
 rw[wyF,wyL_at hr,List.getD_eq_getElem?_getD,List.getElem?_append_right (by rw[wyL_length];exact Nat.le_refl _),wyL_length,Nat.sub_self]
 rfl
theorem wyF_lt {s:Nat} (h1:1≤s):∀t i k,wyF s t i k<s
 |0,i,k=>by show List.getD [] k 0<s;simp;omega
 |t+1,i,k=>by
  have hr:i % s<s:=Nat.mod_lt _ (by omega)
  have hi:i=i/s*s+i % s:=by rw[Nat.mul_comm];exact(Nat.div_add_mod i s).symm
  rcases Nat.lt_trichotomy k t with h |h |h
  ·rw[hi,wyF_old hr h];exact wyF_lt h1 t _ k
  ·subst h;rw[hi,wyF_new hr];exact hr
  ·rw[wyF,List.getD_eq_getElem?_getD,List.getElem?_eq_none (by rw[wyL_length];omega)]
   exact h1
theorem HC.row_like (h:HC) {v v':Nat→Nat} {t:Nat} (e:∀k,k<t→v k=v' k) (i:Nat):h.row v t i=h.row v' t i:=by
 cases t with
 |zero=>rfl
 |succ t=>rw[HC.row,HC.row,e t (by omega)]
theorem HC.lik_like (h:HC) {v v':Nat→Nat}:∀ {t:Nat},(∀k,k<t→v k=v' k)→h.lik v t=h.lik v' t
 |0,_=>rfl
 |t+1,e=>by
  rw[HC.lik,HC.lik,h.lik_like (t:=t) fun k hk=>e k (by omega),h.row_like (t:=t) (v:=v) (v':=v') (fun k hk=>e k (by omega)),e t (by omega)]
theorem HC.ext (h:HC) (h1:1≤h.s):∀k t q,t+1+k=h.L→sumR (fun r=>h.lik (wyF h.s (t+1+k) (q*h.s^k+r)) (t+1+k)) (h.s^k)=h.lik (wyF h.s (t+1) q) (t+1)*h.bet k (wyF h.s (t+1) q t)
 |0,t,q,_=>by
  rw[Nat.pow_zero,Nat.mul_one,HC.bet,Rat.mul_one]
  show 0+_=_
  rw[Rat.zero_add]
  rfl
 |k+1,t,q,e=>by
  have e0:t+1+(k+1)=t+1+1+k:=by omega
  rw[Nat.pow_succ,Nat.mul_comm (h.s^k) h.s,sumR_block]
  have ih:=fun x=>h.ext h1 k (t+1) (q*h.s+x) (by omega)
  have e1:sumR (fun x=>sumR (fun r=>h.lik (wyF h.s (t+1+(k+1)) (q*(h.s*h.s^k)+(x*h.s^k+r))) (t+1+(k+1))) (h.s^k)) h.s=sumR (fun x=>h.lik (wyF h.s (t+1+1) (q*h.s+x)) (t+1+1)*h.bet k (wyF h.s (t+1+1) (q*h.s+x) (t+1))) h.s:=sumR_congr fun x _=>by
   rw[←ih x]
   refine sumR_congr fun r _=>?_
   rw[e0,show q*(h.s*h.s^k)+(x*h.s^k+r)=(q*h.s+x)*h.s^k+r by rw[Nat.add_mul,Nat.mul_assoc,Nat.add_assoc]]
  rw[e1,HC.bet,←sumR_mul]
  refine sumR_congr fun x hx=>?_
  have e2:h.lik (wyF h.s (t+1+1) (q*h.s+x)) (t+1)=h.lik (wyF h.s (t+1) q) (t+1):=h.lik_like fun j hj=>wyF_old hx hj
  rw[HC.lik,e2,wyF_new hx,HC.row,wyF_old hx (show t<t+1 by omega),show h.L - 1 - k=t+1 by omega]
  grind
theorem HC.ends (h:HC):∀t j,j<h.s→sumR (fun i=>if wyF h.s (t+1) i t=j then h.lik (wyF h.s (t+1) i) (t+1) else 0) (h.s^(t+1))=h.alp t j:=fun t=>by
 have key:∀t j,j<h.s→sumR (fun i=>if wyF h.s (t+1) i t=j then h.lik (wyF h.s (t+1) i) (t+1) else 0) (h.s^(t+1))=sumR (fun q=>h.lik (wyF h.s t q) t*(h.row (wyF h.s t q) t j*h.sh t j)) (h.s^t):=fun t j hj=>by
  rw[Nat.pow_succ,sumR_block]
  refine sumR_congr fun q _=>?_
  have e1:∀r,r<h.s→(if wyF h.s (t+1) (q*h.s+r) t=j then h.lik (wyF h.s (t+1) (q*h.s+r)) (t+1) else 0)=(if j=r then 1 else 0)*(h.lik (wyF h.s t q) t*(h.row (wyF h.s t q) t r*h.sh t r)):=fun r hr=>by
   have e2:h.lik (wyF h.s (t+1) (q*h.s+r)) t=h.lik (wyF h.s t q) t:=h.lik_like fun k hk=>wyF_old hr hk
   have e3:h.row (wyF h.s (t+1) (q*h.s+r)) t r=h.row (wyF h.s t q) t r:=h.row_like (fun k hk=>wyF_old hr hk) r
   rw[HC.lik,wyF_new hr,e2,e3]
   by_cases e:r=j
   ·rw[if_pos e,if_pos e.symm,Rat.one_mul]
   ·rw[if_neg e,if_neg (Ne.symm e),Rat.zero_mul]
  rw[sumR_congr e1]
  have e4:sumR (fun r=>(if j=r then 1 else 0)*(h.lik (wyF h.s t q) t*(h.row (wyF h.s t q) t r*h.sh t r))) h.s=h.lik (wyF h.s t q) t*(h.row (wyF h.s t q) t j*h.sh t j):=by
   rw[←sumR_pick (x:=fun r=>h.lik (wyF h.s t q) t*(h.row (wyF h.s t q) t r*h.sh t r)) hj]
   refine sumR_congr fun r _=>?_
   by_cases e:j=r
   ·rw[if_pos e,if_pos e,Rat.one_mul]
   ·rw[if_neg e,if_neg e,Rat.zero_mul]
  exact e4
 induction t with
 |zero=>
  intro j hj
  rw[key 0 j hj,Nat.pow_zero]
  show 0+1*(h.st j*h.sh 0 j)=_
  rw[HC.alp]
  grind
 |succ t ih=>
  intro j hj
  rw[key (t+1) j hj,HC.alp]
  have e1:∀q,h.lik (wyF h.s (t+1) q) (t+1)*(h.row (wyF h.s (t+1) q) (t+1) j*h.sh (t+1) j)=sumR (fun i=>(if wyF h.s (t+1) q t=i then h.lik (wyF h.s (t+1) q) (t+1) else 0)*h.mv i j*h.sh (t+1) j) h.s:=fun q=>by
   have h2:=sumR_pick (x:=fun i=>h.lik (wyF h.s (t+1) q) (t+1)*h.mv i j*h.sh (t+1) j) (a:=wyF h.s (t+1) q t) (n:=h.s) (wyF_lt (by omega) _ _ _)
   rw[sumR_congr (g:=fun i=>if wyF h.s (t+1) q t=i then h.lik (wyF h.s (t+1) q) (t+1)*h.mv i j*h.sh (t+1) j else 0) fun i _=>by
    by_cases e:wyF h.s (t+1) q t=i
    ·rw[if_pos e,if_pos e]
    ·rw[if_neg e,if_neg e,Rat.zero_mul,Rat.zero_mul],h2,HC.row]
   grind
  rw[sumR_congr fun q _=>e1 q,sumR_swap,←sumR_mulR]
  refine sumR_congr fun i hi=>?_
  rw[sumR_mulR,sumR_mulR,ih i hi]
theorem HC.through (h:HC) (h1:1≤h.s) {t j:Nat} (ht:t<h.L) (hj:j<h.s):sumR (fun i=>if wyF h.s h.L i t=j then h.lik (wyF h.s h.L i) h.L else 0) (h.s^h.L)=h.alp t j*h.bet (h.L - 1 - t) j:=by
 obtain⟨k,hk⟩:∃k,t+1+k=h.L:=⟨h.L - (t+1),by omega⟩
 have hpre:∀k q r,r<h.s^k→wyF h.s (t+1+k) (q*h.s^k+r) t=wyF h.s (t+1) q t:=fun k=>by
  induction k with
  |zero=>intro q r hr;rw[Nat.pow_zero] at hr⊢;rw[Nat.mul_one,show r=0 by omega];rfl
  |succ k ih=>
   intro q r hr
   have hs:r % h.s<h.s:=Nat.mod_lt _ (by omega)
   have e:q*h.s^(k+1)+r=(q*h.s^k+r/h.s)*h.s+r % h.s:=by
    have:=Nat.div_add_mod r h.s
    rw[Nat.add_mul,Nat.pow_succ,←Nat.mul_assoc,Nat.mul_comm (r/h.s)]
    omega
   rw[show t+1+(k+1)=(t+1+k)+1 by omega,e,wyF_old hs (by omega)]
   exact ih q (r/h.s) (Nat.div_lt_of_lt_mul (by rw[Nat.mul_comm];rw[Nat.pow_succ] at hr;exact hr))
 rw[show h.L - 1 - t=k by omega,←h.ends t j hj,←sumR_mulR]
 have e0:h.s^h.L=h.s^(t+1)*h.s^k:=by rw[←hk,Nat.pow_add]
 rw[e0,sumR_block]
 refine sumR_congr fun q _=>?_
 have h2:=h.ext h1 k t q hk
 by_cases e:wyF h.s (t+1) q t=j
 ·rw[if_pos e,←e,←h2]
  refine sumR_congr fun r hr=>?_
  rw[←hk,hpre k q r hr,if_pos rfl]
 ·rw[if_neg e,Rat.zero_mul]
  refine sumR_zero fun r hr=>?_
  rw[←hk,hpre k q r hr,if_neg e]
theorem HC.ways (h:HC) (h1:1≤h.s) (hL:1≤h.L):sumR (fun i=>h.lik (wyF h.s h.L i) h.L) (h.s^h.L)=h.all:=by
 have e1:∀i,h.lik (wyF h.s h.L i) h.L=sumR (fun j=>if wyF h.s h.L i (h.L - 1)=j then h.lik (wyF h.s h.L i) h.L else 0) h.s:=fun i=>by
  exact(sumR_pick (x:=fun _=>h.lik (wyF h.s h.L i) h.L) (wyF_lt h1 _ _ _)).symm
 rw[sumR_congr fun i _=>e1 i,sumR_swap,HC.all]
 refine sumR_congr fun j hj=>?_
 rw[h.through h1 (t:=h.L - 1) (by omega) hj,Nat.sub_self,HC.bet,Rat.mul_one]
def HC.from (h:HC) (t i:Nat):HC:=⟨h.s,h.L - 1 - t,h.mv i,h.mv,fun u=>h.sh (t+1+u)⟩
theorem HC.from_bet (h:HC) {t i:Nat} (ht:t<h.L):∀k j,k<h.L - 1 - t→(h.from t i).bet k j=h.bet k j
 |0,_,_=>rfl
 |k+1,j,hk=>by
  rw[HC.bet,HC.bet]
  refine sumR_congr fun x _=>?_
  rw[h.from_bet ht k x (by omega)]
  show h.mv j x*h.sh (t+1+(h.L - 1 - t - 1 - k)) x*_=_
  rw[show t+1+(h.L - 1 - t - 1 - k)=h.L - 1 - k by omega]
theorem HC.ahead (h:HC) (h1:1≤h.s) {t i:Nat} (ht:t<h.L):sumR (fun q=>(h.from t i).lik (wyF h.s (h.L - 1 - t) q) (h.L - 1 - t)) (h.s^(h.L - 1 - t))=h.bet (h.L - 1 - t) i:=by
 by_cases e:h.L - 1 - t=0
 ·rw[e,Nat.pow_zero]
  show 0+1=_
  rw[HC.bet]
  grind
 ·have h2:=(h.from t i).ways h1 (show 1≤h.L - 1 - t by omega)
  have h3:(h.from t i).all=h.bet (h.L - 1 - t) i:=by
   rw[(h.from t i).all_eq (show 1≤h.L - 1 - t by omega)]
   obtain⟨k,hk⟩:∃k,h.L - 1 - t=k+1:=⟨h.L - 1 - t - 1,by omega⟩
   rw[hk,HC.bet]
   refine sumR_congr fun j _=>?_
   show h.mv i j*h.sh (t+1+0) j*(h.from t i).bet (h.L - 1 - t - 1) j=_
   rw[h.from_bet ht (h.L - 1 - t - 1) j (by omega),show h.L - 1 - t - 1=k by omega,show h.L - 1 - k=t+1+0 by omega]
  exact h2.trans h3
theorem bstR_first (f:Nat→Rat):∀k j,j<bstR f k→f j<f (bstR f k)
 |0,j,h=>absurd h (Nat.not_lt_zero _)
 |k+1,j,h=>by
  rw[bstR] at h⊢
  by_cases h1:f (bstR f k)<f (k+1)
  ·rw[if_pos h1] at h⊢
   have h2:=bstR_most f k j (by omega)
   grind
  ·rw[if_neg h1] at h⊢
   exact bstR_first f k j h
theorem bstR_is {f:Nat→Rat} {k m:Nat} (hm:m≤k) (h1:∀j,j≤k→f j≤f m) (h2:∀j,j<m→f j<f m):bstR f k=m:=by
 rcases Nat.lt_trichotomy (bstR f k) m with h |h |h
 ·have a:=h2 _ h
  have b:=bstR_most f k m hm
  grind
 ·exact h
 ·have a:=bstR_first f k m h
  have b:=h1 _ (bstR_le f k)
  grind
def ixW (s:Nat) (v:Nat→Nat):Nat→Nat
 |0=>0
 |t+1=>ixW s v t*s+v t
theorem ixW_lt {s:Nat} {v:Nat→Nat} (h:∀k,v k<s):∀t,ixW s v t<s^t
 |0=>by rw[Nat.pow_zero];exact Nat.one_pos
 |t+1=>by
  have ih:=ixW_lt h t
  have h1:=h t
  have h2:(ixW s v t+1)*s≤s^t*s:=Nat.mul_le_mul_right _ ih
  rw[Nat.add_mul,Nat.one_mul] at h2
  rw[ixW,Nat.pow_succ]
  omega
theorem ixW_is {s:Nat} {v:Nat→Nat} (h:∀k,v k<s):∀t k,k<t→wyF s t (ixW s v t) k=v k
 |0,k,hk=>absurd hk (Nat.not_lt_zero _)
 |t+1,k,hk=>by
  rw[ixW]
  rcases Nat.lt_or_ge k t with h1 |h1
  ·rw[wyF_old (h t) h1];exact ixW_is h t k h1
  ·obtain rfl:k=t:=by omega
   exact wyF_new (h k)
theorem wy_less {s:Nat} (h1:1≤s):∀L i j,i<j→j<s^L→∃t,t<L∧(∀k,k<t→wyF s L i k=wyF s L j k)∧wyF s L i t<wyF s L j t
 |0,i,j,h,hj=>by rw[Nat.pow_zero] at hj;omega
 |L+1,i,j,h,hj=>by
  have ei:i=i/s*s+i % s:=by rw[Nat.mul_comm];exact(Nat.div_add_mod i s).symm
  have ej:j=j/s*s+j % s:=by rw[Nat.mul_comm];exact(Nat.div_add_mod j s).symm
  have hi':i % s<s:=Nat.mod_lt _ (by omega)
  have hj':j % s<s:=Nat.mod_lt _ (by omega)
  have hjq:j/s<s^L:=Nat.div_lt_of_lt_mul (by rw[Nat.mul_comm,←Nat.pow_succ];exact hj)
  generalize i/s=qi at *
  generalize j/s=qj at *
  generalize i % s=ri at *
  generalize j % s=rj at *
  subst ei ej
  rcases Nat.lt_trichotomy qi qj with hq |hq |hq
  ·obtain⟨t,ht,e1,e2⟩:=wy_less h1 L qi qj hq hjq
   refine⟨t,by omega,fun k hk=>?_,?_⟩
   ·rw[wyF_old hi' (by omega),wyF_old hj' (by omega)];exact e1 k hk
   ·rw[wyF_old hi' ht,wyF_old hj' ht];exact e2
  ·subst hq
   refine⟨L,by omega,fun k hk=>?_,?_⟩
   ·rw[wyF_old hi' hk,wyF_old hj' hk]
   ·rw[wyF_new hi',wyF_new hj'];omega
  ·exfalso
   have:(qj+1)*s≤qi*s:=Nat.mul_le_mul_right _ hq
   rw[Nat.add_mul,Nat.one_mul] at this
   omega
theorem HC.Ok.any_step {h:HC} (o:h.Ok) {v:Nat→Nat} (hv:∀t,v t<h.s) {t:Nat} (ht:t+1<h.L):h.lik v (t+1)*(h.row v (t+1) (v (t+1))*h.sh (t+1) (v (t+1))*h.gam (h.L - 1 - (t+1)) (v (t+1)))≤h.lik v t*(h.row v t (v t)*h.sh t (v t)*h.gam (h.L - 1 - t) (v t)):=by
 have e:h.L - 1 - t=(h.L - 1 - (t+1))+1:=by omega
 have h1:=h.gam_most (h.L - 1 - (t+1)) (v t) (v (t+1)) (hv (t+1))
 rw[show h.L - 1 - (h.L - 1 - (t+1))=t+1 by omega,←e] at h1
 rw[HC.lik,HC.row,Rat.mul_assoc (h.lik v t)]
 exact Rat.mul_le_mul_of_nonneg_left (Rat.mul_le_mul_of_nonneg_left h1 (Rat.mul_nonneg (o.row_low hv t _ (hv t)) (o.sh t (by omega) _ (hv t)))) (o.lik_low hv t (by omega))
theorem HC.Ok.any_from {h:HC} (o:h.Ok) {v:Nat→Nat} (hv:∀t,v t<h.s) {t:Nat}:∀k,t+k<h.L→h.lik v (t+k)*(h.row v (t+k) (v (t+k))*h.sh (t+k) (v (t+k))*h.gam (h.L - 1 - (t+k)) (v (t+k)))≤h.lik v t*(h.row v t (v t)*h.sh t (v t)*h.gam (h.L - 1 - t) (v t))
 |0,_=>Rat.le_refl
 |k+1,hk=>Rat.le_trans (o.any_step hv (t:=t+k) hk) (o.any_from hv k (by omega))
theorem HC.Ok.lik_from {h:HC} (o:h.Ok) {v:Nat→Nat} (hv:∀t,v t<h.s) {t:Nat} (ht:t<h.L):h.lik v h.L≤h.lik v t*(h.row v t (v t)*h.sh t (v t)*h.gam (h.L - 1 - t) (v t)):=by
 have h1:=o.any_from hv (t:=t) (h.L - 1 - t) (by omega)
 rw[show t+(h.L - 1 - t)=h.L - 1 by omega,Nat.sub_self,HC.gam,Rat.mul_one] at h1
 rw[show h.L=h.L - 1+1 by omega,HC.lik]
 rw[show h.L - 1+1 - 1=h.L - 1 by omega] at *
 exact h1
theorem HC.Ok.path {h:HC} (o:h.Ok) (hL:1≤h.L) (hp:h.all≠0):bstR (fun i=>h.lik (wyF h.s h.L i) h.L) (h.s^h.L - 1)=ixW h.s h.way h.L:=by
 have hw:=o.way_lt
 have hlt:=ixW_lt hw h.L
 have h0:h.lik (wyF h.s h.L (ixW h.s h.way h.L)) h.L=h.top:=by
  rw[←h.way_lik hL]
  exact h.lik_like fun k hk=>ixW_is hw h.L k hk
 have hpos:0<h.top:=by
  have a:=o.top_low hL
  have b:h.top≠0:=fun e=>hp ((o.top_none hL).1 e)
  grind
 have hv:=fun i t=>wyF_lt o.some h.L i t
 refine bstR_is (by omega) (fun j hj=>?_) fun j hj=>?_
 ·show h.lik (wyF h.s h.L j) h.L≤h.lik (wyF h.s h.L (ixW h.s h.way h.L)) h.L
  rw[h0]
  exact o.any_lik hL (hv j)
 ·show h.lik (wyF h.s h.L j) h.L<h.lik (wyF h.s h.L (ixW h.s h.way h.L)) h.L
  rw[h0]
  obtain⟨t,ht,e1,e2⟩:=wy_less o.some h.L j _ hj hlt
  rw[ixW_is hw h.L t ht] at e2
  have e3:∀k,k<t→wyF h.s h.L j k=h.way k:=fun k hk=>by rw[e1 k hk];exact ixW_is hw h.L k (by omega)
  have h1:=o.lik_from (hv j) ht
  rw[h.lik_like (t:=t) e3,h.row_like (t:=t) e3] at h1
  have h2:=h.way_top t ht
  have h3:h.row h.way t (wyF h.s h.L j t)*h.sh t (wyF h.s h.L j t)*h.gam (h.L - 1 - t) (wyF h.s h.L j t)<h.row h.way t (h.way t)*h.sh t (h.way t)*h.gam (h.L - 1 - t) (h.way t):=by
   have h4:=bstR_first (fun j=>h.row h.way t j*h.sh t j*h.gam (h.L - 1 - t) j) (h.s - 1) (wyF h.s h.L j t) (by rw[←h.way_eq];exact e2)
   rw[←h.way_eq] at h4
   exact h4
  have h5:=o.lik_low hw t (by omega)
  have h6:0<h.lik h.way t:=by
   have:h.lik h.way t≠0:=fun e=>by rw[e,Rat.zero_mul] at h2;rw[←h2] at hpos;exact absurd hpos (by decide)
   grind
  have h7:=Rat.mul_lt_mul_of_pos_left h3 h6
  rw[h2] at h7
  grind
end Go.Proofs.YtgamblainfkiaaaGreatDoor

/- The answer's ways: all ways of so many steps. -/
namespace Go.Proofs.YtgamblainfkiaaaGreatDoor
open Go.RowKit Go.Shelf
theorem Tryz.infoIntsW:(Tryz.prog.info? 26).map (fun i=>(i.zero,i.size,i.bytes))=some (some (.slice none 0 0),1,24):=by kernel_rfl
theorem wpList_append_wy {w:World} {ops:Array Oper} {rest:List Oper} {o:Oper} {a:Act} {Q:Exit→Act→World→Prop} (hgd:o.guard=none) (s x:Operand)
  (ho:o.op=.call {callee:=.builtin .append,args:= #[s,x],argTypes:= #[42,42]}) (base:Nat) (v:Value) (P:List PL) (q:Value) (hq:SlV q) (hs:a.eval s=v) (hown:w.ownsRow base 26 1 v P.length (P.map (·.1))) (g:Nat) (hx:a.eval x=.slice (some ⟨g,0,none⟩) 1 1) (hg:w.cell? ⟨g,0,none⟩=some q) (hlen:P.length+1≤100000) (hbase:base≤w.heap.size)
  (h:∀v' w',w'.ownsRow base 26 1 v' (P.length+1) (P.map (·.1)++[q])→w.grownBy w' v.ownBlock→wpList Tryz.prog ops Q rest (a.put o.dst v') w'):wpList Tryz.prog ops Q (o::rest) a w:=by
 obtain⟨i0,hi0,hz0,hz1,hz2⟩:=info_parts Tryz.infoIntsW
 refine wpList_append_own _ hgd s x 42 ho base 26 i0 (.slice none 0 0) 1 24 Tryz.underlying42 hi0 hz0 hz1 hz2 rfl (by decide) v P.length _ hs hown ⟨g,0,none⟩ 1 1 [q] hx rfl ?_ ?_ (by unfold maxLen;omega) (by omega) hbase ?_
 ·intro j u hj
  match j,hj with
  |0,hj=>cases hj;exact hg
  |j+1,hj=>simp at hj
 ·intro u hu
  simp only[List.mem_cons,List.not_mem_nil,or_false] at hu
  subst hu
  obtain⟨_,_,_,rfl⟩:=hq
  rfl
 ·intro v' w' h1 h2 _
  exact h v' w' h1 h2
theorem OwL.push {U U':World} {B:Nat} {x v' q:Value} {Q:List PL} {r:List Int} (h:OwL U B x Q) (hr:U'.ownsRow B 26 1 v' (Q.length+1) (Q.map (·.1)++[q])) (hg:U.grownBy U' x.ownBlock) (hq:RwI U B q r):OwL U' B v' (Q++[(q,r)]):=by
 have hk:KeepT 3 U U':=KeepT.grown hg (owns_typed h.1) (by decide)
 refine⟨by rw[List.length_append,List.map_append];exact hr,fun p hp=>?_⟩
 rcases List.mem_append.1 hp with hp |hp
 ·exact owns_keep (h.2 p hp) hk
 ·rw[List.mem_singleton.1 hp]
  exact owns_keep hq hk
theorem OwL.below {U U':World} {B:Nat} {x:Value} {Q:List PL} (h:OwL U B x Q) (hb:Below U.heap.size U U'):OwL U' B x Q:=h.keep (KeepT.below hb) (KeepT.below hb)
theorem OwL.lower {U:World} {B B':Nat} {x:Value} {Q:List PL} (h:OwL U B x Q) (hb:B'≤B):OwL U B' x Q:=⟨owns_lower h.1 hb,fun p hp=>owns_lower (h.2 p hp) hb⟩
theorem RwI.intsZ {w:World} {B:Nat} {v:Value} {l:List Int} (h:RwI w B v l):∃d cd,v=.slice d l.length cd∧IntS w d l∧(d=none→cd=0):=by
 obtain⟨d,cd,e,hi⟩:=RwI.ints h
 refine⟨d,cd,e,hi,fun hd=>?_⟩
 rcases h.2 with ⟨h1,_⟩ |⟨g,cap,cur,h1,_⟩
 ·rw[e] at h1
  injection h1 with _ _ h3
 ·rw[e] at h1
  injection h1 with h4 _ _
  rw[hd] at h4
  cases h4
theorem OwL.at {U:World} {B:Nat} {x:Value} {Q:List PL} (h:OwL U B x Q) {i:Nat} (hi:i<Q.length):∃gx cx d cd,x=.slice (some ⟨gx,0,none⟩) Q.length cx∧gx<U.heap.size∧U.cell? ⟨gx,i,none⟩=some (.slice d Q[i].2.length cd)∧IntS U d Q[i].2∧(d=none→cd=0):=by
 obtain⟨d,cd,e,h1,h2⟩:=(h.2 Q[i] (List.getElem_mem hi)).intsZ
 rcases h.1.2 with ⟨e8,e9⟩ |⟨g8,cap8,cur8,e8,_,e10,_⟩
 ·omega
 ·refine⟨g8,cap8,d,cd,e8,(Array.getElem?_eq_some_iff.1 e10).1,?_,h1,h2⟩
  have h8:=h.1
  rw[e8] at h8
  rw[World.ownsRow.cellAt h8 i (by omega)]
  simp[hi,e]
theorem one_intW (w:World) (x:Int):IntS (w.alloc (.cells #[.int .i64 x] 3)) (some ⟨w.heap.size,0,none⟩) [x]:=fun k hk=>by
 obtain rfl:k=0:=by simp at hk;omega
 refine⟨w.heap.size,0,rfl,by simp,?_⟩
 rw[cell_of_row _ _ _ _ _ (0,0) (heap_alloc_new w _)]
 rfl
def wyI (s t k:Nat):List (List Int):=(List.range k).map fun i=>iL (wyL s t i)
theorem wyI_length (s t k:Nat):(wyI s t k).length=k:=by simp[wyI]
theorem wyI_snoc {s t i x:Nat} (hx:x<s):wyI s (t+1) (i*s+x)++[iL (wyL s t i)++[((x:Nat):Int)]]=wyI s (t+1) (i*s+(x+1)):=by
 rw[←Nat.add_assoc,wyI,wyI,List.range_succ,List.map_append]
 congr 1
 simp[wyL_at hx,iL]
set_option maxRecDepth 100000 in
set_option maxHeartbeats 4000000 in
theorem ways_any (s T:Nat) (w:World) (h1:1≤s) (h4:s≤4) (hT:T≤8) (hN:s^T≤300):
  Calls Tryz.prog 34 #[.int .i64 (s:Nat),.int .i64 (T:Nat)] w fun e w'=>∃x Q,e=.returned x∧OwL w' w.heap.size x Q∧Q.map (·.2)=wyI s T (s^T)∧Below w.heap.size w w':=by
 have HPOW:Hid (∀t,t≤T→s^t≤300):=fun t ht=>Nat.le_trans (Nat.pow_le_pow_right h1 ht) hN
 clear hN
 have HA0:Hid (OwL (w.alloc (.cells #[.slice none 0 0] 26)) w.heap.size (.slice (some ⟨w.heap.size,0,none⟩) 1 1) [(.slice none 0 0,[])]):=by
  refine⟨⟨rfl,.inr ⟨w.heap.size,1, #[.slice none 0 0],rfl,Nat.le_refl _,heap_alloc_new w _,Nat.le_refl _,by unfold maxLen;omega,rfl,rfl⟩⟩,fun p hp=>?_⟩
  rw[List.mem_singleton.1 hp]
  exact RwI.emptyB _ _
 have HB0:=hid ((Below.refl w.heap.size w).alloc (Nat.le_refl _) (.cells #[.slice none 0 0] 26))
 go_enter Tryz.func34,Tryz.ntmps34
 go_wp2_with fail
 generalize (w.alloc (.cells #[.slice none 0 0] 26))=W0 at *
 go_loopw [5,6] (fun ov tv wr=>∃(t:Nat) (Q:List PL),t≤T∧tv=.int .i64 t∧Hid (OwL wr w.heap.size ov Q)∧Hid (Q.map (·.2)=wyI s t (s^t))∧Hid (Below w.heap.size w wr)) (fun _ tv _=>T - (intOf tv).toNat)
 case atStart=>exact⟨0,_,Nat.zero_le _,rfl,HA0,rfl,HB0⟩
 case round=>
  obtain⟨t,Q,ht,rfl,HO,HV,HB⟩:=hrel
  clear HA0 HB0
  have HQL:Hid (Q.length=s^t):=by
   have h9:=congrArg List.length HV.out
   rw[wyI_length,List.length_map] at h9
   exact h9
  have hP:=HPOW.out t ht
  obtain⟨N,hNe⟩:∃N,s^t=N:=⟨_,rfl⟩
  have HN:=hid hNe
  rw[hNe] at HQL HV hP
  clear hNe
  by_cases hlt:t<T
  ·have h0Q:0<Q.length:=by rw[HQL.out,←HN.out];exact Nat.pow_pos h1
   obtain⟨gx,cx,d0,cd0,rfl,hgx, -, -, -⟩:=HO.out.at h0Q
   have HPN:Hid (N*s≤300):=by have h9:=HPOW.out (t+1) hlt;rw[Nat.pow_succ,HN.out] at h9;exact h9
   obtain⟨W,hW⟩:∃x,x=wr:=⟨_,rfl⟩
   rw[←hW] at HO HB hgx
   have HBW:Hid (Below W.heap.size W wr):=by rw[hW];exact Below.refl _ _
   clear hW
   obtain⟨ql,hql⟩:∃x,Q.length=x:=⟨_,rfl⟩
   rw[hql] at h0Q HQL
   simp only[hql]
   have HQE:=hid hql
   have HQN:=HQL
   clear hql HQL
   have hqlN:ql≤300:=by rw[HQN.out];exact hP
   go_wp2_with fail
   go_loopw [7,8] (fun lv iv wr=>∃(i:Nat) (Q':List PL),i≤ql∧iv=.int .i64 i∧Hid (OwL wr W.heap.size lv Q')∧Hid (Q'.map (·.2)=wyI s (t+1) (i*s))∧Hid (Below W.heap.size W wr)) (fun _ iv _=>ql - (intOf iv).toNat)
   case atStart=>exact⟨0,[],Nat.zero_le _,rfl,OwL.nil _ _,by show _=_;rw[Nat.zero_mul];rfl,HBW⟩
   case round=>
    obtain⟨i,Q1,hi,rfl,HO1,HV1,HB1⟩:=hrel
    clear HBW
    by_cases hlti:i<ql
    ·have hiQ:i<Q.length:=by rw[HQE.out];exact hlti
     obtain⟨gx',cx',d,cd,he,hgx',c0,hid_,hd0⟩:=HO.out.at hiQ
     cases he
     have HQI:Hid (Q[i].2=iL (wyL s t i)):=by
      have h9:(Q.map (·.2))[i]? =(wyI s t N)[i]?:=by rw[HV.out]
      rw[List.getElem?_map,List.getElem?_eq_getElem hiQ] at h9
      have h8:i<N:=by rw[←HQN.out];exact hlti
      simp[wyI,h8] at h9
      exact h9
     rw[HQI.out] at c0 hid_
     have HLT:Hid ((iL (wyL s t i)).length=t):=by show _=_;rw[iL_length,wyL_length]
     rw[HLT.out] at c0
     have HC0:Hid (∀u,Below W.heap.size W u→u.cell? ⟨gx,i,none⟩=some (.slice d t cd)∧IntS u d (iL (wyL s t i))):=fun u h=>⟨(h.cell (p:=⟨gx,_,none⟩) hgx).trans c0,hid_.below h⟩
     have HD0:=hid hd0
     have HSN:=hid (fun x (hx:x<s)=>wyI_snoc (t:=t) (i:=i) hx)
     generalize iL (wyL s t i)=WS at *
     have HISL:Hid (i*s≤300):=Nat.le_trans (Nat.mul_le_mul_right s (show i≤N by rw[←HQN.out];omega)) HPN.out
     clear c0 hid_ hd0 HQI
     go_wp2_with fail
     go_loopw [7,9] (fun lv xv wr=>∃(x:Nat) (Q':List PL),x≤s∧xv=.int .i64 x∧Hid (OwL wr W.heap.size lv Q')∧Hid (Q'.map (·.2)=wyI s (t+1) (i*s+x))∧Hid (Below W.heap.size W wr)) (fun _ xv _=>s - (intOf xv).toNat)
     case atStart=>exact⟨0,Q1,Nat.zero_le _,rfl,HO1,HV1,HB1⟩
     case round=>
      obtain⟨x,Q2,hx,rfl,HO2,HV2,HB2⟩:=hrel
      clear HO1 HV1 HB1
      by_cases hltx:x<s
      ·have HQ2L:Hid (Q2.length=i*s+x):=by
        have h9:=congrArg List.length HV2.out
        rw[wyI_length,List.length_map] at h9
        exact h9
       have HQ2:Hid (Q2.length+1≤100000):=by show _≤_;rw[HQ2L.out];have:=HISL.out;omega
       have HVN:Hid ((Q2.map (·.2))++[WS++[((x:Nat):Int)]]=wyI s (t+1) (i*s+(x+1))):=by show _=_;rw[HV2.out];exact HSN.out x hltx
       obtain⟨X,hX⟩:∃y,y=wr:=⟨_,rfl⟩
       have hbe:Below X.heap.size X (X.alloc (.cells #[] 3)):=(Below.refl _ X).alloc (Nat.le_refl _) _
       have hRe:RwI (X.alloc (.cells #[] 3)) X.heap.size (.slice (some ⟨X.heap.size,0,none⟩) 0 0) []:=⟨rfl,.inr ⟨X.heap.size,0, #[],rfl,Nat.le_refl _,heap_alloc_new _ _,Nat.le_refl _,Nat.zero_le _,rfl,rfl⟩⟩
       rw[←hX] at HO2 HB2
       have HCE:=hid (HC0.out _ (HB2.out.trans (hbe.mono HB2.out.size)))
       have c1:=HCE.out.1
       have HIe:=hid HCE.out.2
       have HRe:=hid hRe
       have HBE:=hid hbe
       have hse:=hbe.size
       rw[←hX]
       clear hbe hRe HCE hX HV2 HQ2L
       go_wp2_with (first
        |(at_builtin;refine wpList_append_wy rfl _ _ rfl W.heap.size _ Q2 (.slice d8 (t+1) cd8) ⟨_,_,_,rfl⟩ rfl HO9.out.1 w8.heap.size rfl HC9.out HQ2.out HB9.out.size ?_;intro v10 w10 hr10 hg10;have HO10:=hid (HO9.out.push hr10 hg10 HR9.out);have HB10:=hid (HB9.out.grown hg10 HB9.out.size (fun k e=>owns_from HO9.out.1 k e));clear hr10 hg10)
        |(at_builtin;refine wpList_append_ints rfl _ _ rfl X.heap.size _ WS [((x:Nat):Int)] rfl HR7.out (some ⟨w6.heap.size,0,none⟩) 1 rfl HO7.out (fun e=>by cases e) (by rw[HLT.out];simp;omega) HB7.out.size ?_;intro v8 w8 hr8 hg8;obtain⟨d8,cd8,rfl, -⟩:=hr8.ints;have hb8:=HB7.out.grown hg8 HB7.out.size (fun k e=>owns_from HR7.out k e);rw[show (WS++[((x:Nat):Int)]).length=t+1 by rw[List.length_append,HLT.out];rfl];rw[show (WS++[((x:Nat):Int)]).length=t+1 by rw[List.length_append,HLT.out];rfl] at hr8;have hbA9:=(Below.refl w8.heap.size w8).alloc (Nat.le_refl _) (.cells #[.slice d8 (t+1) cd8] 26);have HC9:Hid ((w8.alloc (.cells #[.slice d8 (t+1) cd8] 26)).cell? ⟨w8.heap.size,0,none⟩=some (.slice d8 (t+1) cd8)):=(by show _=_;rw[cell_of_row _ _ _ _ _ (0,0) (heap_alloc_new w8 _)];rfl);have hb9:=hb8.trans (hbA9.mono hb8.size);have HO9:=hid (HO2.out.below hb9);have HB9:=hid (HB2.out.trans (hb9.mono HB2.out.size));have HR9:Hid (RwI (w8.alloc (.cells #[.slice d8 (t+1) cd8] 26)) W.heap.size (.slice d8 (t+1) cd8) (WS++[((x:Nat):Int)])):=(RwI.below hr8 hbA9).lower HB2.out.size;clear hr8 hg8 hb8 hbA9 hb9)
        |(at_builtin;refine wpList_append_ints rfl _ _ rfl X.heap.size _ [] WS rfl HRe.out d cd (by rw[HLT.out];rfl) HIe.out HD0.out (by rw[HLT.out];simp;omega) hse ?_;intro v6 w6 hr6 hg6;rw[List.nil_append] at hr6;obtain⟨d6,cd6,rfl, -⟩:=hr6.ints;have hb6:Below X.heap.size X w6:=HBE.out.trans ((Below.refl _ _).grown hg6 hse (fun k e=>by cases e;exact Nat.le_refl _));have hbA:=(Below.refl w6.heap.size w6).alloc (Nat.le_refl _) (.cells #[.int .i64 (x:Nat)] 3);have HR7:=hid (RwI.below hr6 hbA);have HB7:=hid (hb6.trans (hbA.mono hb6.size));have HO7:=hid (one_intW w6 (x:Nat));clear hr6 hg6 hb6 hbA))
       go_roundw
       case rel=>exact⟨x+1,_,by omega,by go_num,HO10,by show _=_;rw[List.map_append];exact HVN.out,HB10⟩
       case measure=>simp[intOf];omega
      ·obtain rfl:s=x:=by omega
       have HV3:Hid (Q2.map (·.2)=wyI s (t+1) ((i+1)*s)):=by show _=_;rw[HV2.out,Nat.add_mul,Nat.one_mul]
       go_wp2
       go_roundw
       case rel=>exact⟨i+1,Q2,by omega,by go_num,HO2,HV3,HB2⟩
       case measure=>simp[intOf];omega
    ·obtain rfl:ql=i:=by omega
     have HV4:Hid (Q1.map (·.2)=wyI s (t+1) (s^(t+1))):=by show _=_;rw[HV1.out,HQN.out,Nat.pow_succ,HN.out]
     have HO4:=hid (HO1.out.lower HB.out.size)
     have HB4:=hid (HB.out.trans (HB1.out.mono HB.out.size))
     go_wp2
     go_roundw
     case rel=>exact⟨t+1,Q1,by omega,by go_num,HO4,HV4,HB4⟩
     case measure=>simp[intOf];omega
  ·obtain rfl:T=t:=by omega
   rw[←HN.out] at HV
   go_wp2
   go_ret
   exact⟨_,Q,rfl,HO.out,HV.out,HB.out⟩
end Go.Proofs.YtgamblainfkiaaaGreatDoor
