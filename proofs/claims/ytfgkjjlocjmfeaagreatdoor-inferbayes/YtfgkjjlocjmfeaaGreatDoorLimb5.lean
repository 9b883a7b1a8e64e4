/- Part5: part 5. -/
import Derived.Test.YtfgkjjlocjmfeaaGreatDoorLimb4
set_option maxRecDepth 100000
set_option maxHeartbeats 400000000
set_option linter.unusedSimpArgs false
set_option linter.unusedVariables false
namespace Go.Proofs.YtfgkjjlocjmfeaaGreatDoor
open Go.RowKit Go.Shelf
variable {Q:List (Value×Value)} {l:List Int} {P:List Tb} {fv kP tv lj u1 u2 x:Value} {V':World}
structure kr (W:World) (b:Nat) (x fv tv kP lj:Value) (l:List Int) (Q:List (Value×Value)) (P:List Tb) (V:World):Prop where
 box:bC V b x fv tv
 fo:bA V W.heap.size kP l
 own:ku V W.heap.size lj Q P
 far:∀R,R<=b ->∀k (h:k<P.length) (h':k<Q.length),eR R P[k] Q[k]
 farF:∀R,kP.ownBlock=some R ->∀k (h:k<P.length) (h':k<Q.length),eR R P[k] Q[k]
 ne:∀R,kP.ownBlock=some R ->lj.ownBlock≠some R
 fr:W.grownBy V (some b)
theorem kr.start {W:World} {b:Nat} (h:bC W b x (.slice none 0 0) (.slice none 0 0)):kr W b x (.slice none 0 0) (.slice none 0 0) (.slice none 0 0) (.slice none 0 0) [] [] [] W:=
 ⟨h,⟨rfl,.inl ⟨rfl,rfl⟩⟩,ku.nil _ _,(fun R _ k h=>absurd h (by simp)),(fun R e=>by cases e),(fun R e=>by cases e),QT _ _⟩
theorem kr.under {W V:World} {b:Nat} (h:kr W b x fv tv kP lj l Q P V) (hb:Below V.heap.size V V'):kr W b x fv tv kP lj l Q P V':=
 ⟨h.box.aa hb h.box.lt,Dw h.fo (yH.aa hb),h.own.under hb,h.far,h.farF,h.ne,QU h.fr hb⟩
theorem kr.pushF {W V:World} {b:Nat} {Aj:Value} {l':List Int} (h:kr W b x fv tv kP lj l Q P V) (hb:b<W.heap.size) (ho:bA V' W.heap.size Aj l') (hg:V.grownBy V' kP.ownBlock) (hn:Aj.ownBlock=kP.ownBlock∨∀k,Aj.ownBlock=some k ->V.heap.size<=k):kr W b x fv tv Aj lj l' Q P V':=by
 have hR:∀k,kP.ownBlock=some k ->W.heap.size<=k:=fun k e=>(pj h.fo k e).1;refine⟨(hg.block b h.box.lt (fun e=>by have:=hR b e.symm;omega)).trans h.box,ho,⟨h.own.len,Km h.own.own hg (fun R e e2=>h.ne R e2 e),fun k h1 h2=>(h.own.val k h1 h2).keepR (fun r hr=>h.farF r hr k h1 h2) hg,h.own.far⟩,h.far,fun R e k h1 h2=>?_,fun R e e2=>?_,Hu h.fr hg hR⟩
 ·rcases hn with hn |hn
  ·exact h.farF R (by rw[<- hn];exact e) k h1 h2
  ·exact(h.own.val k h1 h2).lt (hn R e)
 ·rcases hn with hn |hn
  ·exact h.ne R (by rw[<- hn];exact e) e2
  ·have h1:=hn R e;have h2:=(h.own.lt R e2).2;omega
theorem kr.pushT {W V:World} {b:Nat} {zA:Value} {t:Tb} (h:kr W b x fv tv kP lj l Q P V) (hb:b<W.heap.size) (ht:dw V u1 u2 t) (hf:∀R,lj.ownBlock=some R ->eR R t (u1,u2)) (hfF:∀R,kP.ownBlock=some R ->eR R t (u1,u2)) (hfb:∀R,R<=b ->eR R t (u1,u2)) (ho:V'.ownsRow W.heap.size 39 2 zA (P.length+1) (dM Q++[u1,u2])) (hg:V.grownBy V' lj.ownBlock) (hn:zA.ownBlock=lj.ownBlock∨∀k,zA.ownBlock=some k ->V.heap.size<=k):kr W b x fv tv kP zA l (Q++[(u1,u2)]) (P++[t]) V':=by
 have hR:∀k,lj.ownBlock=some k ->W.heap.size<=k:=fun k e=>(h.own.lt k e).1
 have hall:∀R,(∀k (h1:k<P.length) (h2:k<Q.length),eR R P[k] Q[k]) ->eR R t (u1,u2) ->∀k (h1:k<(P++[t]).length) (h2:k<(Q++[(u1,u2)]).length),eR R (P++[t])[k] (Q++[(u1,u2)])[k]:=fun R hP hT k h1 h2=>by
  by_cases dX:k<P.length
  ·have fk:k<Q.length:=by rw[h.own.len];exact dX
   rw[nX fk,nX dX];exact hP k dX fk
  ·have fk:¬k<Q.length:=by rw[h.own.len];exact dX
   rw[ru (by omega),ru (by omega)];simp only[Jt];exact hT
 refine⟨(hg.block b h.box.lt (fun e=>by have:=hR b e.symm;omega)).trans h.box,Km h.fo hg (fun R e e2=>h.ne R e e2),h.own.push ht hf ho hg hn,(fun R hR=>hall R (h.far R hR) (hfb R hR)),fun R e=>hall R (h.farF R e) (hfF R e),fun R e e2=>?_,Hu h.fr hg hR⟩;rcases hn with hn |hn
 ·rw[hn] at e2;exact h.ne R e e2
 ·have h1:=hn R e2;have h2:=(pj h.fo R e).2;omega
theorem kr.set1 {W V:World} {b:Nat} (h:kr W b x fv tv kP lj l Q P V) (hb:b<W.heap.size) (u:Value):kr W b x u tv kP lj l Q P (V.setCell ⟨b,1,none⟩ u):=
 ⟨h.box.set1 u,Jg h.fo (fun e=>by have:=(pj h.fo b e).1;omega) u,h.own.off u (h.far b (aq b)) (fun e=>by have:=(h.own.lt b e).1;omega),h.far,h.farF,h.ne,Lm h.fr _ _⟩
theorem kr.set2 {W V:World} {b:Nat} (h:kr W b x fv tv kP lj l Q P V) (hb:b<W.heap.size) (u:Value):kr W b x fv u kP lj l Q P (V.setCell ⟨b,2,none⟩ u):=
 ⟨h.box.set2 u,Jg h.fo (fun e=>by have:=(pj h.fo b e).1;omega) u,h.own.off u (h.far b (aq b)) (fun e=>by have:=(h.own.lt b e).1;omega),h.far,h.farF,h.ne,Lm h.fr _ _⟩
theorem af9 (a:Option Addr) (ca:Nat) (L:List (List Int)) (w:World) (h:fC w a L) (hl:∀l∈L,l.length<=140737488355328) (hg:bQ L=0):
  Calls Tryz.prog 93 #[.slice a L.length ca] w fun e w'=>∃G,e=.returned (.tuple #[.slice (some ⟨G,0,none⟩) L.length L.length,.int .i64 0])/\fC w' (some ⟨G,0,none⟩) (lr L)/\Below w.heap.size w w':=
 (ail a ca L w h hl).af fun e w' hh=>by
  rcases hh with ⟨⟨h1,_⟩ |⟨_,G,h2,h3⟩,hb⟩
  ·exact absurd hg h1
  ·exact⟨G,h2,h3,hb⟩
theorem aiW (a:Option Addr) (ca:Nat) (L:List (List Int)) (w:World) (h:fC w a (lr L)) (hg:gB L=true) (h1:1<=L.length) (h8:L.length<=8):
  Calls Tryz.prog 94 #[.slice a L.length ca] w fun e w'=>∃d cd G,e=.returned (.tuple #[.slice d L.length cd,.slice (some ⟨G,0,none⟩) L.length L.length,.int .i64 0])/\aC w' d (iL (gJ L))/\Below w.heap.size w w':=by
 have:=ain a ca (lr L) w h (fun l hl=>by
  obtain⟨s,_,rfl⟩:=aW.1 hl;rw[fj,bs,eo];exact aL (lT ..) (by simp))
 rw[xZ] at this;refine this.af fun e w' hh=>?_;rcases hh with ⟨⟨_,d,cd,G,h2,h3,_⟩ |⟨h2,_⟩,hb⟩
 ·rw[xZ] at h2;exact⟨d,cd,G,h2,h3,hb⟩
 ·rw[aga hg h1 h8] at h2;cases h2
theorem aif (a b c:Option Addr) (ca cb cc v:Nat) (V:List Vr) (L:List (List Int)) (R:List (List Fr)) (w:World) (h:jA w a b c V L R) (hN:tC w b L) (hs:vh V L R) (hw:∀l∈R,fw l<=4200) (h0:bj V L R=0) (hv:v<V.length) (tr:∀U:World,jA U a b c V L R ->Calls Tryz.prog 75 #[.agg #[.slice a V.length ca,.slice b L.length cb,.slice c R.length cc]] U fun e w'=>e=.returned (.int .i64 (bj V L R))/\Below U.heap.size U w'):
  Calls Tryz.prog 95 #[.agg #[.slice a V.length ca,.slice b L.length cb,.slice c R.length cc],.int .i64 (v:Nat)] w fun e w'=>Au w.heap.size (gU L v,gL V L R v) e w'/\Below w.heap.size w w':=
 (afQ a b c ca cb cc v V L R w h hN hs hw h0 hv tr).af fun _ _ hh=>⟨rZ.tb (t:=(gU L v,gL V L R v)) hh.1,hh.2⟩
variable {w:World}
theorem MW {o:Oper} {a:Act} {K:Act ->World ->Prop} {Q:Exit ->Act ->World ->Prop} (s x:Operand)
  (ho:o.op=.call {callee:=.builtin .append,args:= #[s,x],argTypes:= #[27,27]}) (base:Nat) (v:Value) (l:List Int) (f:Int) (hs:a.eval s=v) (hown:bA w base v l) (g:Nat) (hx:a.eval x=.slice (some ⟨g,0,none⟩) 1 1) (hg:w.cell? ⟨g,0,none⟩=some (.int .i64 f)) (hlen:l.length+1<=100000) (hbase:base<=w.heap.size)
  (h:∀v' w',bA w' base v' (l++[f]) ->w.grownBy w' v.ownBlock ->(v'.ownBlock=v.ownBlock∨∀k,v'.ownBlock=some k ->w.heap.size<=k) ->K (a.put o.dst v') w'):o.wp Tryz.prog a w K Q:=by
 obtain⟨i0,bY,hz0,hz1,hz2⟩:=dH Tryz.infoInt
 have hnews:∀j u,[Value.int .i64 f][j]? =some u ->w.cell? ((⟨g,0,none⟩:Addr).add j)=some u:=fun j u hj=>by
  match j,hj with
  |0,hj=>cases hj;exact hg
  |j+1,hj=>simp at hj
 have wE:∀u∈[Value.int .i64 f],u.oneCell'=true:=fun u hu=>by
  simp only[dG,kC,sF] at hu;subst hu;rfl
 have hmax:l.length+1<=maxLen:=by unfold maxLen;omega
 obtain⟨v',w',hr,h2,h3, -⟩:=run_append_own (P:=Tryz.prog) w base 27 o.type 3 i0 (.int .i64 0) 1 8 Tryz.underlying27 bY hz0 hz1 hz2 rfl (by decide) v l.length _ hown ⟨g,0,none⟩ 1 1 [.int .i64 f] rfl hnews wE hmax (by omega) hbase
 have hnew:v'.ownBlock=v.ownBlock∨∀k,v'.ownBlock=some k ->w.heap.size<=k:=by
  rcases hown.2 with ⟨h4,h5⟩ |⟨g',cap,cur,h4,hbg,iO,zR,hcm,hcs,Xz⟩
  ·right
   have e:=run_append_nil (P:=Tryz.prog) w 27 o.type 3 i0 (.int .i64 0) Tryz.underlying27 bY hz0 ⟨g,0,none⟩ 1 1 [.int .i64 f] (by rw[hz1];rfl) hnews (by decide) (by decide) (by rw[hz2];decide);rw[h4] at hr;rw[hr] at e;cases e;intro k hk;cases hk;exact aq _
  ·rw[h4] at hr;by_cases hroom:l.length+1<=cap
   ·left
    have e:=run_append_room (P:=Tryz.prog) w 27 o.type 3 i0 Tryz.underlying27 bY g' l.length cap cur iO ⟨g,0,none⟩ 1 1 [.int .i64 f] (by rw[hz1];rfl) hnews wE hroom (by rw[hz1,hcs];simp;omega);rw[hr] at e;cases e;rw[h4];rfl
   ·right
    have hown':=hown;rw[h4] at hown';have e:=run_append_grow (P:=Tryz.prog) w 27 o.type 3 i0 (.int .i64 0) Tryz.underlying27 bY hz0 ⟨g',0,none⟩ l.length cap (l.map (Value.int .i64)) (by rw[hz1];simp) (World.ownsRow.cells hown' rfl) ⟨g,0,none⟩ 1 1 [.int .i64 f] (by rw[hz1];rfl) hnews (by omega) (by omega) (Jh (by omega) (by rw[hz2];omega));rw[hr] at e;cases e;intro k hk;cases hk;exact aq _
 unfold Oper.wp execOp;simp only[ho,resolve,invoke,builtin,Fc,AX,xD,Fq,fQ,k7,hs,hx,hr];refine h v' w' ?_ h3 hnew;rw[bA,cK,dL];exact h2
theorem MV {o:Oper} {a:Act} {K:Act ->World ->Prop} {Q:Exit ->Act ->World ->Prop} (s x:Operand)
  (ho:o.op=.call {callee:=.builtin .append,args:= #[s,x],argTypes:= #[85,85]}) (base:Nat) (v:Value) (n:Nat) (xs:List Value) (u1 u2:Value) (hs:a.eval s=v) (hown:w.ownsRow base 39 2 v n xs) (g:Nat) (hx:a.eval x=.slice (some ⟨g,0,none⟩) 1 1) (h0:w.cell? ⟨g,0,none⟩=some u1) (h1:w.cell? ⟨g,1,none⟩=some u2) (hu1:dh u1) (hu2:dh u2) (hlen:n+1<=100000) (hbase:base<=w.heap.size)
  (h:∀v' w',w'.ownsRow base 39 2 v' (n+1) (xs++[u1,u2]) ->w.grownBy w' v.ownBlock ->(v'.ownBlock=v.ownBlock∨∀k,v'.ownBlock=some k ->w.heap.size<=k) ->K (a.put o.dst v') w'):o.wp Tryz.prog a w K Q:=by
 obtain⟨i0,bY,hz0,hz1,hz2⟩:=dH Tryz.infoTable
 obtain⟨v',w',hr,r1,r2,r3⟩:=UL (P:=Tryz.prog) w base 85 o.type 39 i0 (.agg #[.slice none 0 0,.slice none 0 0]) 2 48 Tryz.underlying85 bY hz0 hz1 hz2 rfl (by decide) v n xs hown ⟨g,0,none⟩ 1 1 [u1,u2] rfl (fun j u hj=>by
  match j,hj with
  |0,hj=>cases hj;exact h0
  |1,hj=>cases hj;exact h1
  |j+2,hj=>simp at hj) (fun u hu=>by
  simp only[dG,kC,sF] at hu;rcases hu with rfl |rfl
  ·obtain⟨_,_,_,rfl⟩:=hu1;rfl
  ·obtain⟨_,_,_,rfl⟩:=hu2;rfl) (by unfold maxLen;omega) (by omega) hbase (by decide)
 unfold Oper.wp execOp;simp only[ho,resolve,invoke,builtin,Fc,AX,xD,Fq,fQ,k7,hs,hx,hr];exact h v' w' r1 r2 r3
variable {rs:List Nat} {i n:Nat} {oi:Oper}
section
variable {P : Program} {ops : Array Oper} {Q : Exit -> Act -> World -> Prop} {md : Region.Mode} {S : Bool -> World -> Prop} {k : Nat}
def rC (P:Program) (md:Region.Mode) (ops:Array Oper) (Q:Exit ->Act ->World ->Prop) (S:Bool ->World ->Prop) (k:Nat):Nat ->Array Bool ->Act ->World ->Prop
 |0,l,a,w=>Region.ready md ops l=[]/\Q .normal a w
 |n+1,l,a,w=>(Region.ready md ops l=[] ->Q .normal a w)/\∀i∈Region.ready md ops l,wpOp P ops Q i (fun a' w'=>S ((l.setIfInBounds i true).getD k true) w'/\rC P md ops Q S k n (l.setIfInBounds i true) a' w') a w
theorem Tl:∀(n:Nat) (l:Array Bool) (a:Act) (w:World),rC P md ops Q S k n l a w ->wpAny P md ops Q n l a w
 |0,_,_,_,h=>h
 |n+1,_,_,_,h=>⟨h.1,fun i hi=>wpOp_mono (fun a' w' h'=>Tl n _ a' w' h'.2) (h.2 i hi)⟩
theorem UR {l:Array Bool} (h:i∈Region.ready md ops l):l.getD i true=false:=(mem_ready.1 h).1
theorem Tk {v:Value} (W:Bool ->Prop) (hi:ops[i]? =some oi) (XN:∀(j:Nat) (o:Oper) cs b,ops[j]? =some o ->o.op≠.select cs b)
  (hQ:∀c a w,Q (.panic c) (a.put oi.dst v) w ->Q (.panic c) a w)
  (hW:∀(l:Array Bool) (j:Nat),i∈Region.ready md ops l ->j∈Region.ready md ops l ->j≠i ->W (l.getD k true) ->W ((l.setIfInBounds j true).getD k true)) (hk:k≠i):
  ∀(n:Nat) (l:Array Bool) (a:Act) (w:World),
   (∀j oj,ops[j]? =some oj ->j≠i ->l.getD j true=false ->(∀e∈oj.after,Region.binds md e=true ->e.on≠i) ->oi.apart ops oj=true) ->
   i∈Region.ready md ops l ->YieldsIf P ops (fun u=>∃b,W b/\S b u) oi v a ->W (l.getD k true) ->S (l.getD k true) w ->
   rC P md ops Q S k n (l.setIfInBounds i true) (a.put oi.dst v) w ->rC P md ops Q S k (n+1) l a w:=by
 have YD:∀l:Array Bool,(l.setIfInBounds i true).getD k true=l.getD k true:=fun l=>getD_set_ne true (Ne.symm hk);intro n;induction n with
 |zero=>
  intro l a w _ hr hy hw hS H;refine⟨fun h=>(by rw[h] at hr;cases hr),fun j hj=>?_⟩;by_cases pH:j=i
  ·subst pH;exact hy.wpOp hi ⟨_,hw,hS⟩ ⟨by rw[YD];exact hS,H⟩
  ·have:=ready_mono hj pH;rw[H.1] at this;cases this
 |succ n ih=>
  intro l a w uz hr hy hw hS H;refine⟨fun h=>(by rw[h] at hr;cases hr),fun j hj=>?_⟩;by_cases pH:j=i
  ·subst pH;exact hy.wpOp hi ⟨_,hw,hS⟩ ⟨by rw[YD];exact hS,H⟩
  ·have h1:=H.2 j (ready_mono hj pH);obtain⟨Ys,oj,D8,hall⟩:=mem_ready.1 hj
   have ahn:∀e∈oj.after,Region.binds md e=true ->e.on≠i:=fun e he hb heq=>by
    have h1:=hall e he hb;have h0:=UR hr;rw[heq] at h1;rcases cT i l.size with h' |h'
    ·simp[h'] at h0 h1;rw[h0] at h1;cases h1
    ·simp[Array.getElem?_eq_none h'] at h1
   have h2:=wpOp_putIf D8 (uz j oj D8 pH Ys ahn) (fun cs b=>XN i oi cs b hi) (fun cs b=>XN j oj cs b D8) hQ hy h1
   have ahK:∀x ox,ops[x]? =some ox ->x≠i ->(l.setIfInBounds j true).getD x true=false ->(∀e∈ox.after,Region.binds md e=true ->e.on≠i) ->oi.apart ops ox=true:=fun x ox hx hxi KM hno=>by
    refine uz x ox hx hxi ?_ hno;by_cases Yr:j=x
    ·subst Yr;exact Ys
    ·rw[getD_set_ne true Yr] at KM;exact KM
   have hw':=hW l j hr hj pH hw;have aam:(l.setIfInBounds i true).setIfInBounds j true=(l.setIfInBounds j true).setIfInBounds i true:=Array.setIfInBounds_comm _ _ (Ne.symm pH);refine wpOp_mono (fun a' w' h3=>?_) h2
   have Zn:S ((l.setIfInBounds j true).getD k true) w':=by
    have:=h3.2.1;rwa [aam,getD_set_ne true (Ne.symm hk)] at this
   refine⟨Zn,ih (l.setIfInBounds j true) a' w' ahK (ready_mono hr (Ne.symm pH)) h3.1 hw' Zn ?_⟩;rw[<- aam];exact h3.2.2
theorem vN {v:Value} {l:Array Bool} {a:Act} (hi:ops[i]? =some oi)
  (hs:Region.noSelect ops=true) (hf:Region.free md ops l i=true) (hr:(Region.ready md ops l).contains i=true) (hk:k≠i)
  (hQ:∀c a w,Q (.panic c) (a.put oi.dst v) w ->Q (.panic c) a w) (hy:YieldsIf P ops (fun u=>∃b,S b u) oi v a) {b:Bool} (hb:l.getD k true=b) (hS:S b w)
  (h:rC P md ops Q S k n (l.setIfInBounds i true) (a.put oi.dst v) w):rC P md ops Q S k (n+1) l a w:=
 Tk (fun _=>True) hi (Region.noSelect_spec hs) hQ (fun _ _ _ _ _ h=>h) hk n l a w (Region.free_spec hi hf) (by simpa using hr) (hy.imp (fun ⟨h1,h2⟩=>⟨h1,fun u ⟨b,_,hu⟩=>h2 u ⟨b,hu⟩⟩) id) trivial (by rw[hb];exact hS) h
theorem Tm {ok:Oper} {v:Value} {l:Array Bool} {a:Act} (hi:ops[i]? =some oi)
  (hs:Region.noSelect ops=true) (hf:Region.free md ops l i=true) (hr:(Region.ready md ops l).contains i=true) (hk:k≠i)
  (aZ:ops[k]? =some ok) (hw:(ok.after.any fun e=>Region.binds md e&&e.on==i)=true)
  (hQ:∀c a w,Q (.panic c) (a.put oi.dst v) w ->Q (.panic c) a w) (hy:YieldsIf P ops (S false) oi v a) (hb:l.getD k true=false) (hS:S false w)
  (h:rC P md ops Q S k n (l.setIfInBounds i true) (a.put oi.dst v) w):rC P md ops Q S k (n+1) l a w:=by
 refine Tk (fun b=>b=false) hi (Region.noSelect_spec hs) hQ (fun l j hri hj pH e=>?_) hk n l a w (Region.free_spec hi hf) (by simpa using hr) (hy.imp (fun ⟨h1,h2⟩=>⟨h1,fun u ⟨b,hb,hu⟩=>h2 u (by subst hb;exact hu)⟩) id) hb (by rw[hb];exact hS) h;by_cases hjk:j=k
 ·subst hjk;exfalso
  obtain⟨_,oj,D8,hall⟩:=mem_ready.1 hj;rw[aZ] at D8;cases D8;obtain⟨e,he,h2⟩:=Array.any_eq_true'.1 hw;obtain⟨h3,h4⟩:=Bool.and_eq_true_iff.1 h2;have h5:=hall e he h3;have h0:=UR hri;rw[eq_of_beq h4] at h5;rcases cT i l.size with h' |h'
  ·simp[h'] at h0 h5;rw[h0] at h5;cases h5
  ·simp[Array.getElem?_eq_none h'] at h5
 ·rw[getD_set_ne true hjk];exact e
def ed (P:Program) (md:Region.Mode) (ops:Array Oper) (Q:Exit ->Act ->World ->Prop) (S:Bool ->World ->Prop) (k n:Nat) (l:Array Bool) (a:Act) (w:World) (rs:List Nat):Prop:=
 ∀i∈rs,wpOp P ops Q i (fun a' w'=>S ((l.setIfInBounds i true).getD k true) w'/\rC P md ops Q S k n (l.setIfInBounds i true) a' w') a w
theorem ed.nil {l:Array Bool} {a:Act}:ed P md ops Q S k n l a w []:=fun _ h=>by cases h
theorem ed.cons {l:Array Bool} {a:Act} {o:Oper} {b:Bool} (ho:ops[i]? =some o) (hb:(l.setIfInBounds i true).getD k true=b)
  (h:∀K':Act ->World ->Prop,Go.Shut (∀a w,S b w ->(S b w ->rC P md ops Q S k n (l.setIfInBounds i true) a w) ->K' a w) ->if Region.wanted o (yielded ops a.tmps)=true then Oper.wp P o a w K' Q else K' (a.put o.dst undef) w)
  (hs:ed P md ops Q S k n l a w rs):ed P md ops Q S k n l a w (i::rs):=fun j hj=>by
 rcases dG.1 hj with rfl |hj
 ·exact wpOp_step ho (fun K' hK=>h K' (fun a w hS hU=>hK a w ⟨by rw[hb];exact hS,hU hS⟩))
 ·exact hs j hj
theorem oZ {l:Array Bool} {a:Act} (hr:Region.ready md ops l=rs) (hne:rs≠[]) (h:ed P md ops Q S k n l a w rs):rC P md ops Q S k (n+1) l a w:=
 ⟨fun h0=>absurd (hr▸h0) hne,hr▸h⟩
theorem MX {l:Array Bool} {a:Act} (hr:Region.ready md ops l=[]) (h:Q .normal a w):∀n,rC P md ops Q S k n l a w
 |0=>⟨hr,h⟩
 |_+1=>⟨fun _=>h,by rw[hr];simp⟩
theorem abD {id:Nat} {a:Act} (k:Nat) (S:Bool ->World ->Prop) (hm:P.follows .mixedOrders=true) (hS:S false w.drew) (h:S false w.drew ->rC P .any ops Q S k ops.size (Array.replicate ops.size false) a w.drew):(Code.region id ops true).wp P Q a w:=
 wp_region_any hm (Tl _ _ _ _ (h hS))
end
variable {U U':World}
structure lJ (U:World) (B:Nat) (u1 u2 fv tv:Value):Prop where
 tb:bw U B u1 u2
 nf:fv.ownBlock≠some B
 nt:tv.ownBlock≠some B
theorem lJ.under {B:Nat} (h:lJ U B u1 u2 fv tv) (hb:Below U.heap.size U U'):lJ U' B u1 u2 fv tv:=⟨h.tb.aa hb h.tb.lt,h.nf,h.nt⟩
theorem lJ.pushF {B:Nat} {Aj:Value} (h:lJ U B u1 u2 fv tv) (hg:U.grownBy U' fv.ownBlock) (hn:Aj.ownBlock=fv.ownBlock∨∀k,Aj.ownBlock=some k ->U.heap.size<=k):lJ U' B u1 u2 Aj tv:=
 ⟨(hg.block B h.tb.lt (fun e=>h.nf e.symm)).trans h.tb,fun e=>by
  rcases hn with hn |hn
  ·exact h.nf (hn▸e)
  ·have:=hn B e;have:=h.tb.lt;omega,h.nt⟩
theorem lJ.pushT {B:Nat} {zA:Value} (h:lJ U B u1 u2 fv tv) (hg:U.grownBy U' tv.ownBlock) (hn:zA.ownBlock=tv.ownBlock∨∀k,zA.ownBlock=some k ->U.heap.size<=k):lJ U' B u1 u2 fv zA:=
 ⟨(hg.block B h.tb.lt (fun e=>h.nt e.symm)).trans h.tb,h.nf,fun e=>by
  rcases hn with hn |hn
  ·exact h.nt (hn▸e)
  ·have:=hn B e;have:=h.tb.lt;omega⟩
theorem lJ.off {B:Nat} (h:lJ U B u1 u2 fv tv) (b j:Nat) (u:Value) (hne:B≠b):lJ (U.setCell ⟨b,j,none⟩ u) B u1 u2 fv tv:=⟨(jq U ⟨b,j,none⟩ u B hne).trans h.tb,h.nf,h.nt⟩
theorem lJ.new {W V:World} {b:Nat} (h:kr W b x fv tv kP lj l Q P V) (u1 u2:Value):lJ (V.alloc (TC u1 u2)) V.heap.size u1 u2 kP lj:=
 ⟨bw.at rfl u1 u2,fun e=>by have:=(pj h.fo _ e).2;omega,fun e=>by have:=(h.own.lt _ e).2;omega⟩
def jU (b B:Nat) (fv tv u1 u2:Value) (c:Bool) (U:World):Prop:=(U.cell? ⟨B,0,none⟩=some u1/\U.cell? ⟨B,1,none⟩=some u2)/\(c=false ->U.cell? ⟨b,1,none⟩=some fv/\U.cell? ⟨b,2,none⟩=some tv)
theorem jU.of {W:World} {b B:Nat} (h:kr W b x fv tv kP lj l Q P U) (o:lJ U B u1 u2 kP lj) (c:Bool):jU b B fv tv u1 u2 c U:=⟨⟨o.tb.c0,o.tb.c1⟩,fun _=>h.box.cells.2⟩
theorem jU.late {b B:Nat} (o:lJ U B u1 u2 kP lj):jU b B fv tv u1 u2 true U:=⟨⟨o.tb.c0,o.tb.c1⟩,fun e=>by cases e⟩
theorem aeo (a b c q:Option Addr) (ca cb cc cq:Nat) (V:List Vr) (L:List (List Int)) (R:List (List Fr)) (vars:List Int) (w:World) (h:jA w a b c V L R) (hN:tC w b L) (hs:vh V L R) (hw:∀l∈R,fw l<=4200) (h0:bj V L R=0) (je:bQ L=0) (h1:1<=L.length) (c4:∀l∈L,l.length<=140737488355328) (hq:aC w q vars) (dC:vars.length<=1000) (tr:∀U:World,jA U a b c V L R ->Calls Tryz.prog 75 #[.agg #[.slice a V.length ca,.slice b L.length cb,.slice c R.length cc]] U fun e w'=>e=.returned (.int .i64 (bj V L R))/\Below U.heap.size U w'):
  Calls Tryz.prog 46 #[.agg #[.slice a V.length ca,.slice b L.length cb,.slice c R.length cc],.slice q vars.length cq] w fun e w'=>∃g d cd t' dY,e=.returned (.agg #[.slice (some ⟨g,0,none⟩) V.length V.length,.slice d ((gJ L).filter fun v:Nat=>vars.contains (v:Int)).length cd,.slice t' ((gJ L).filter fun v:Nat=>vars.contains (v:Int)).length dY])/\aC w' (some ⟨g,0,none⟩) (iL (ar V))/\aC w' d (iL ((gJ L).filter fun v:Nat=>vars.contains (v:Int)))/\fY w' t' (((gJ L).filter fun v:Nat=>vars.contains (v:Int)).map fun v=>(gU L v,gL V L R v))/\Below w.heap.size w w'/\fM w.heap.size t' dY:=by
 have aZ:=iz h0;have h8:L.length<=8:=by rw[aZ.len];exact aZ.n8
 have HMO:=hid (fun (U:World) (hU:Below w.heap.size w U)=>af9 b cb L U (h.aa hU).pars c4 je);have cC:=hid (fun (x:Option Addr) (cx:Nat) (U:World) (hx:fC U x (lr L))=>aiW x cx L U hx (tz je) h1 h8);have fN:=hid (fun (U:World) (hU:Below w.heap.size w U)=>Ge a b c ca cb cc L.length R.length V U (h.aa hU).vars hs.vars.1);have SE:=hid (fun (v:Nat) (hv:v<V.length) (U:World) (hU:Below w.heap.size w U)=>aif a b c ca cb cc v V L R U (h.aa hU) (hN.aa h.pars hU) hs hw h0 hv tr);have p5:Hid (∀(x:Int) (U:World),Below w.heap.size w U ->Calls Tryz.prog 49 #[.slice q vars.length cq,.int .i64 x] U fun e w'=>e=.returned (.bool (vars.contains x))/\Below U.heap.size U w'):=fun x U hU=>FX q cq vars x U (hq.aa hU) (by omega);have rU:=(au w.heap.size w).alloc (aq _) (NC (.slice a V.length ca) (.slice b L.length cb) (.slice c R.length cc));have Ah:=rU.alloc rU.size (.cells #[.slice none 0 0,.slice none 0 0,.slice none 0 0] 87);have Qx:=cR.at (w:=w) rfl (.slice a V.length ca) (.slice b L.length cb) (.slice c R.length cc);have La:=Qx.aa ((au _ _).alloc (aq _) (.cells #[.slice none 0 0,.slice none 0 0,.slice none 0 0] 87)) Qx.lt;have jf:bC ((w.alloc (NC (.slice a V.length ca) (.slice b L.length cb) (.slice c R.length cc))).alloc (.cells #[.slice none 0 0,.slice none 0 0,.slice none 0 0] 87)) (w.heap.size+1) (.slice none 0 0) (.slice none 0 0) (.slice none 0 0):=bC.at (w:=w.alloc (NC (.slice a V.length ca) (.slice b L.length cb) (.slice c R.length cc))) (by simp) _ _ _;have n1:=La.cells.2.1
 obtain⟨FL,Ad⟩:∃FL:Nat ->List Nat,∀k,((gJ L).take k).filter (fun v:Nat=>vars.contains (v:Int))=FL k:=⟨fun k=>((gJ L).take k).filter (fun v:Nat=>vars.contains (v:Int)),fun _=>rfl⟩;obtain⟨TL,pO⟩:∃TL:Nat ->List Tb,∀k,(FL k).map (fun v=>(gU L v,gL V L R v))=TL k:=⟨fun k=>(FL k).map (fun v=>(gU L v,gL V L R v)),fun _=>rfl⟩;have BX:(gJ L).length=L.length:=by rw[Kr];simp
 have q7:Hid (∀i,i<L.length ->∃v:Nat,v<V.length/\(∀(d1:Option Addr) (U:World),aC U d1 (iL (gJ L)) ->∃g o,d1=some ⟨g,o,none⟩/\g<U.heap.size/\U.cell? ⟨g,o+i,none⟩=some (.int .i64 (v:Nat)))/\(vars.contains (v:Int)=true ->FL (i+1)=FL i++[v])/\(vars.contains (v:Int)=false ->FL (i+1)=FL i)):=fun i hi=>by
  have K2:i<(gJ L).length:=by omega
  have GQ:i<(iL (gJ L)).length:=by rw[bs];exact K2
  refine⟨(gJ L)[i],?_,fun d1 U hU=>?_,fun h=>?_,fun h=>?_⟩
  ·rw[<- aZ.len];exact Oi (tz je) h1 h8 (bM K2)
  ·obtain⟨g,o,e,hg,hc⟩:=hU i GQ;refine⟨g,o,e,hg,?_⟩;rw[hc];simp[iL]
  ·rw[<- Ad, <- Ad,fP K2,xI,zq (p:=fun v:Nat=>vars.contains (v:Int)) h];rfl
  ·rw[<- Ad, <- Ad,fP K2,xI,zr (p:=fun v:Nat=>vars.contains (v:Int)) (by rw[h];decide)];simp
 have HF0:Hid (FL 0=[]/\TL 0=[]):=by show _/\_;rw[<- pO, <- Ad];exact⟨rfl,rfl⟩
 have ij:Hid (∀k,(FL k).length<=8):=fun k=>by rw[<- Ad];exact aL (lT ..) (by rw[dP];omega)
 have RT:Hid (∀k,(TL k).length<=8):=fun k=>by rw[<- pO,cX];exact ij.o k
 have AA:Hid (∀(k v:Nat),FL (k+1)=FL k++[v] ->iL (FL (k+1))=iL (FL k)++[(v:Int)]/\TL (k+1)=TL k++[(gU L v,gL V L R v)]):=fun k v h=>by rw[<- pO, <- pO,h,dL,iL,dL];exact⟨rfl,rfl⟩
 have IA:Hid (∀k,FL (k+1)=FL k ->TL (k+1)=TL k):=fun k h=>by rw[<- pO, <- pO,h]
 have CT:Hid (FL L.length=(gJ L).filter (fun v:Nat=>vars.contains (v:Int))):=by show _=_;rw[<- Ad, <- BX,gX]
 have tG:Hid (TL L.length=((gJ L).filter (fun v:Nat=>vars.contains (v:Int))).map fun v=>(gU L v,gL V L R v)):=by show _=_;rw[<- pO,CT.o]
 have Zh:(TL L.length).length=(FL L.length).length:=by rw[<- pO,cX]
 rw[<- CT.o] at tG⊢;rw[<- tG.o];clear Ad pO CT tG BX;clear h hN hs hw hq tr rU Qx;go_enter Tryz.func46,Tryz.ntmps46;go_wp2_with fail
 generalize ((w.alloc (NC (.slice a V.length ca) (.slice b L.length cb) (.slice c R.length cc))).alloc (.cells #[.slice none 0 0,.slice none 0 0,.slice none 0 0] 87))=W0 at *;refine(HMO.o W0 Ah).af ?_;rintro e w1 ⟨G1,rfl,kL,hb1⟩;have hB1:=Ah.trans (hb1.af Ah.size);have wK:=La.aa hb1 La.lt;have hR1:=jf.aa hb1 jf.lt;have Mt:=hid (cC.o _ L.length w1 kL);clear n1 La jf Ah hb1 kL;go_wp2_with fail
 refine Mt.o.af ?_;rintro e w2 ⟨d1,cd1,G2,rfl,rN,hb2⟩;have hB2:=hB1.trans (hb2.af hB1.size);have Cj:=wK.aa hb2 wK.lt;have hR2:=hR1.aa hb2 hR1.lt;obtain⟨n0,n1,n2⟩:=Cj.cells;have mL:=hid (fN.o w2 hB2);clear hB1 wK hR1 hb2 Mt;go_wp2_with fail
 refine mL.o.af ?_;rintro e w3 ⟨G,rfl,hG,hsz,hb3⟩;have bL:=hB2.trans (hb3.af hB2.size);have Qw:=Cj.aa hb3 Cj.lt;have km:=hR2.aa hb3 hR2.lt;have Ho:=rN.aa hb3;have hl0:=hR2.lt;have hs3:=hb3.size;have kO:=(au w3.heap.size w3).alloc (aq _) (.cells #[.slice (some ⟨G,0,none⟩) V.length V.length,.slice none 0 0,.slice none 0 0] 87);have jN:(w3.alloc (.cells #[.slice (some ⟨G,0,none⟩) V.length V.length,.slice none 0 0,.slice none 0 0] 87)).heap.size=w3.heap.size+1:=by simp
 have eY:=hid (bL.trans (kO.af bL.size));have sj:=hid (Qw.aa kO Qw.lt);have jD:=hid (km.alloc (.cells #[.slice (some ⟨G,0,none⟩) V.length V.length,.slice none 0 0,.slice none 0 0] 87));have I4:=hid (Ho.aa kO);have HIS:=hid (hsz.ints.aa kO);have Le:=hsz.lt;have yY:Hid (kr (w3.alloc (.cells #[.slice (some ⟨G,0,none⟩) V.length V.length,.slice none 0 0,.slice none 0 0] 87)) w3.heap.size (.slice (some ⟨G,0,none⟩) V.length V.length) (.slice none 0 0) (.slice none 0 0) (.slice none 0 0) (.slice none 0 0) (iL []) [] [] (w3.alloc (.cells #[.slice (some ⟨G,0,none⟩) V.length V.length,.slice none 0 0,.slice none 0 0] 87))):=kr.start (bC.at (w:=w3) rfl (.slice (some ⟨G,0,none⟩) V.length V.length) (.slice none 0 0) (.slice none 0 0));have HBC:=hid kO
 have HIW:Hid (∀U:World,(w3.alloc (.cells #[.slice (some ⟨G,0,none⟩) V.length V.length,.slice none 0 0,.slice none 0 0] 87)).grownBy U (some w3.heap.size) ->aC U d1 (iL (gJ L))):=fun U hU=>Gj I4.o (fun g o e hne e2=>by
  obtain⟨g',o',e',iO,_⟩:=Ho 0 (by cases hl:iL (gJ L) with |nil=>exact absurd hl hne |cons x l=>simp);rw[e] at e';cases e';cases e2;omega) hU
 have HIG:Hid (∀U:World,(w3.alloc (.cells #[.slice (some ⟨G,0,none⟩) V.length V.length,.slice none 0 0,.slice none 0 0] 87)).grownBy U (some w3.heap.size) ->aC U (some ⟨G,0,none⟩) (iL (ar V))):=fun U hU=>Gj HIS.o (fun g o e hne e2=>by
  cases e;cases e2;omega) hU
 clear hB2 bL Cj Qw hR2 km Ho rN kO hsz hb3 n0 n1 n2 mL fN HMO cC;clear h0 je aZ c4;go_wp2_with fail
 generalize (w3.alloc (.cells #[.slice (some ⟨G,0,none⟩) V.length V.length,.slice none 0 0,.slice none 0 0] 87))=W4 at *;have hb5:w3.heap.size<W4.heap.size:=by omega
 go_loopw [32] (fun iv wr=>∃(i:Nat) (fv tv:Value) (Q:List (Value×Value)),i<=L.length/\iv=.int .i64 i/\Hid (kr W4 w3.heap.size (.slice (some ⟨G,0,none⟩) V.length V.length) fv tv fv tv (iL (FL i)) Q (TL i) wr)) (fun iv _=>L.length - (intOf iv).toNat)
 case atStart=>exact⟨0,_,_,_,aU _,rfl,by rw[HF0.o.1,HF0.o.2];exact yY⟩
 case round=>
  obtain⟨i,fv,tv,Q,hi,rfl,HM⟩:=hrel;have GX:=HM.o.fr.size;have HB:Hid (Below w.heap.size w wr):=Ht eY.o HM.o.fr (by omega) (by omega);have y7:Hid (Below w3.heap.size w3 wr):=Ht HBC.o HM.o.fr (by omega) (by omega);have EP:Hid (cR wr w.heap.size (.slice a V.length ca) (.slice b L.length cb) (.slice c R.length cc)):=(HM.o.fr.block _ sj.o.lt (fun e=>by have:=mS e;omega)).trans sj.o;have oP:Hid (bC wr (w.heap.size+1) (.slice none 0 0) (.slice none 0 0) (.slice none 0 0)):=(HM.o.fr.block _ jD.o.lt (fun e=>by have:=mS e;omega)).trans jD.o;by_cases hlt2:i<L.length
  ·obtain⟨v,hv,hcl,hS1,Qu⟩:=q7.o i hlt2;obtain⟨g,o,rfl,hg,hc⟩:=hcl d1 wr (HIW.o wr HM.o.fr);have HX:=hid (p5.o (v:Int) wr HB.o);have HGX:=hid (SE.o v hv);have lK:=hid (fun h=>AA.o i v (hS1 h));have vo:=hid Qu;clear hcl hS1 Qu jD sj oP;generalize vars.contains (v:Int)=bv at *;go_wp2_with fail
   refine HX.o.af ?_;rintro e w5 ⟨rfl,G9⟩;have vw:=hid (HM.o.under G9);have CM:=hid (EP.o.aa G9 EP.o.lt);have eT:=hid (HB.o.trans (G9.af HB.o.size));have hs5:=G9.size;have mz:Hid (∀Z,fv.ownBlock=some Z ->Z<wr.heap.size):=fun Z hZ=>(pj HM.o.fo Z hZ).2;have AB:Hid (∀Z,tv.ownBlock=some Z ->Z<wr.heap.size):=fun Z hZ=>(HM.o.own.lt Z hZ).2;clear hc HX HM EP HB G9 y7;cases bv with
   |false=>
    replace vo:=hid (vo.o rfl);replace IA:=hid (IA.o i vo.o);go_wp2;go_roundw
    case rel=>exact⟨i+1,fv,tv,Q,by omega,by go_num,by rw[vo.o,IA.o];exact vw⟩
    case measure=>simp[intOf];omega
   |true=>
    obtain⟨n0,n1,n2⟩:=CM.o.cells;have vA:=hid (HGX.o w5 eT.o);replace lK:=hid (lK.o rfl);clear HGX vo eT SE p5 IA AA;go_wp2_with fail
    refine vA.o.af ?_;rintro e w6 ⟨⟨u1,u2,rfl,wm,wG⟩,eA⟩;have yO:=hid wm.slices;have hs6:=eA.size;have mN:Hid (∀Z,Z<wr.heap.size ->eR Z (gU L v,gL V L R v) (u1,u2)):=fun Z hZ=>wG Z (by omega);have CN:=hid (vw.o.under eA);have HV6:=hid wm;obtain⟨x1,js,ju,rfl⟩:=wm.slices.1;obtain⟨x2,jr,jt,rfl⟩:=wm.slices.2;clear wm wG vA n0 n1 n2 CM vw;go_upto_region 9 with (fail)
    have wL:=(au w6.heap.size w6).alloc (aq _) (TC (.slice x1 js ju) (.slice x2 jr jt));have HO:=hid (lJ.new CN.o (.slice x1 js ju) (.slice x2 jr jt));have HM:=hid (CN.o.under wL);have HV:=hid (HV6.o.aa wL);(have hne:w6.heap.size≠w3.heap.size:=by omega);clear wL CN HV6 eA;generalize ah3:w6.heap.size=C0 at *;obtain⟨W8,Qq⟩:∃W8,w6.alloc (TC (.slice x1 js ju) (.slice x2 jr jt))=W8:=⟨_,rfl⟩;have Zd:w6.alloc (.cells #[.slice x1 js ju,.slice x2 jr jt] 39)=W8:=Qq;rw[Qq] at HO HM HV;simp only[Zd];clear Qq Zd ah3;have uL:Below W8.heap.size W8 W8.drew:=(au W8.heap.size W8).drew;replace HO:=hid (HO.o.under uL);replace HM:=hid (HM.o.under uL);replace HV:=hid (HV.o.aa uL);clear uL;obtain⟨D5,yz⟩:∃D5,W8.drew=D5:=⟨_,rfl⟩;rw[yz] at HO HM HV;refine abD 11 (jU w3.heap.size C0 fv tv (.slice x1 js ju) (.slice x2 jr jt)) (by kernel_rfl) (by rw[yz];exact jU.of HM.o HO.o false) (fun ak=>?_);rw[yz] at ak⊢;clear yz;(try simp only[gE,aP]);refine vN (i:=0) (oi:=_) (v:=.pointer (some ⟨w3.heap.size,1,none⟩)) (b:=false) rfl (by kernel_rfl) (by kernel_rfl) (by kernel_rfl) (by decide) (fun _ _ _ h=>h) (Or.inl ⟨by rfl,?_⟩) (by kernel_rfl) (by assumption) ?_
    ·intro u' aN;go_simp
    (try simp only[gE,aP]);refine Tm (i:=1) (oi:=_) (v:=fv) rfl (by kernel_rfl) (by kernel_rfl) (by kernel_rfl) (by decide) rfl (by kernel_rfl) (fun _ _ _ h=>h) (Or.inl ⟨by rfl,?_⟩) (by kernel_rfl) (by assumption) ?_
    ·intro u' aN;(try simp only[gE]);obtain⟨⟨_,_⟩,K9⟩:=aN;obtain⟨K8,K7⟩:=K9 rfl;go_simp
    (try simp only[gE,aP]);refine vN (i:=2) (oi:=_) (v:=.int .i64 (v:Nat)) (b:=false) rfl (by kernel_rfl) (by kernel_rfl) (by kernel_rfl) (by decide) (fun _ _ _ h=>h) (Or.inl ⟨by rfl,?_⟩) (by kernel_rfl) (by assumption) ?_
    ·intro u' aN;go_simp
    (try simp only[gE,aP]);refine vN (i:=5) (oi:=_) (v:=.pointer (some ⟨w3.heap.size,2,none⟩)) (b:=false) rfl (by kernel_rfl) (by kernel_rfl) (by kernel_rfl) (by decide) (fun _ _ _ h=>h) (Or.inl ⟨by rfl,?_⟩) (by kernel_rfl) (by assumption) ?_
    ·intro u' aN;go_simp
    (try simp only[gE,aP]);refine Tm (i:=6) (oi:=_) (v:=tv) rfl (by kernel_rfl) (by kernel_rfl) (by kernel_rfl) (by decide) rfl (by kernel_rfl) (fun _ _ _ h=>h) (Or.inl ⟨by rfl,?_⟩) (by kernel_rfl) (by assumption) ?_
    ·intro u' aN;(try simp only[gE]);obtain⟨⟨_,_⟩,K9⟩:=aN;obtain⟨K8,K7⟩:=K9 rfl;go_simp
    (try simp only[gE,aP]);refine vN (i:=7) (oi:=_) (v:=.agg #[.slice x1 js ju,.slice x2 jr jt]) (b:=false) rfl (by kernel_rfl) (by kernel_rfl) (by kernel_rfl) (by decide) (fun _ _ _ h=>h) (Or.inl ⟨by rfl,?_⟩) (by kernel_rfl) (by assumption) ?_
    ·intro u' aN;(try simp only[gE]);obtain⟨_,⟨Qu,hS1⟩,_⟩:=aN;go_simp
    (try simp only[gE,aP]);refine oZ (rs:=[3,8]) (by kernel_rfl) (by simp) (ed.cons (b:=false) rfl (by kernel_rfl) ?_ (ed.cons (b:=false) rfl (by kernel_rfl) ?_ (ed.nil)))
    ·intro K' hK';go_simp;have bc:=(au D5.heap.size D5).alloc (aq _) (.cells #[.int .i64 (v:Nat)] 3);have lL:=hid (aY D5 3 (.int .i64 (v:Nat))).cell;replace HM:=hid (HM.o.under bc);replace HO:=hid (HO.o.under bc);replace HV:=hid (HV.o.aa bc);refine hK'.o _ _ (jU.of HM.o HO.o false) (fun ah=>?_);clear bc;clear hK' K' ak;have ak:=ah;clear ah;obtain⟨ga,wI⟩:∃ga,D5.heap.size=ga:=⟨_,rfl⟩;obtain⟨ua,kK⟩:∃ua,D5.alloc (.cells #[.int .i64 (v:Nat)] 3)=ua:=⟨_,rfl⟩;rw[wI,kK] at lL;rw[kK] at HM HO HV;simp only[kK] at ak⊢;simp only[wI];clear kK wI;(try simp only[gE,aP]);refine oZ (rs:=[4,8]) (by kernel_rfl) (by simp) (ed.cons (b:=false) rfl (by kernel_rfl) ?_ (ed.cons (b:=false) rfl (by kernel_rfl) ?_ (ed.nil)))
     ·intro K' hK';rw[aA (by rfl)];refine MW _ _ rfl W4.heap.size fv (iL (FL i)) (v:Int) rfl HM.o.fo ga rfl lL.o (by rw[bs];have:=ij.o i;omega) HM.o.fr.size ?_;intro Ak w9 pC gN lx
      have AG:Hid (∀Z,Ak.ownBlock=some Z ->eR Z (gU L v,gL V L R v) (.slice x1 js ju,.slice x2 jr jt)):=fun Z hR=>by
       rcases lx with hn |hn
       ·exact mN.o Z (mz.o Z (by rw[<- hn];exact hR))
       ·exact HV.o.lt (hn Z hR)
      replace HV:=hid (HV.o.keepR (fun r hr=>mN.o r (mz.o r hr)) gN);replace HO:=hid (HO.o.pushF gN lx);replace HM:=hid (HM.o.pushF hb5 pC gN lx)
      obtain⟨nf,fa,fc,rfl⟩:∃nf fa fc,Ak=Value.slice fa nf fc:=by
       obtain⟨fa,fc,e⟩:=sQ pC;exact⟨_,fa,fc,e⟩
      refine hK'.o _ _ (jU.of HM.o HO.o false) (fun ah=>?_);clear pC gN lx lL;clear hK' K' ak;have ak:=ah;clear ah;(try simp only[gE,aP]);refine vN (i:=10) (oi:=_) (v:=.pointer (some ⟨w3.heap.size,1,none⟩)) (b:=false) rfl (by kernel_rfl) (by kernel_rfl) (by kernel_rfl) (by decide) (fun _ _ _ h=>h) (Or.inl ⟨by rfl,?_⟩) (by kernel_rfl) (by assumption) ?_
      ·intro u' aN;go_simp
      (try simp only[gE,aP]);refine oZ (rs:=[8]) (by kernel_rfl) (by simp) (ed.cons (b:=false) rfl (by kernel_rfl) ?_ (ed.nil))
      ·intro K' hK';go_simp;have bc:=(au w9.heap.size w9).alloc (aq _) (TC (.slice x1 js ju) (.slice x2 jr jt));have kW:=hid (lJ.new HM.o (.slice x1 js ju) (.slice x2 jr jt));replace HM:=hid (HM.o.under bc);replace HO:=hid (HO.o.under bc);replace HV:=hid (HV.o.aa bc);refine hK'.o _ _ (jU.of HM.o HO.o false) (fun ah=>?_);clear bc;clear hK' K' ak;have ak:=ah;clear ah;obtain⟨gt,tj⟩:∃gt,w9.heap.size=gt:=⟨_,rfl⟩;obtain⟨ut,mg⟩:∃ut,w9.alloc (TC (.slice x1 js ju) (.slice x2 jr jt))=ut:=⟨_,rfl⟩;have zM:w9.alloc (.cells #[.slice x1 js ju,.slice x2 jr jt] 39)=ut:=mg;rw[tj,mg] at kW;rw[mg] at HM HO HV;simp only[zM] at ak⊢;simp only[tj];clear mg zM tj;(try simp only[gE,aP]);refine oZ (rs:=[9]) (by kernel_rfl) (by simp) (ed.cons (b:=false) rfl (by kernel_rfl) ?_ (ed.nil))
       ·intro K' hK';rw[aA (by rfl)];refine MV _ _ rfl W4.heap.size tv (TL i).length (dM Q) (.slice x1 js ju) (.slice x2 jr jt) rfl HM.o.own.own gt rfl kW.o.tb.c0 kW.o.tb.c1 yO.o.1 yO.o.2 (by have:=RT.o i;omega) HM.o.fr.size ?_;intro dr bV eP ew fV;replace HO:=hid (HO.o.pushT ew fV);replace HM:=hid (HM.o.pushT hb5 HV.o (fun Z hZ=>mN.o Z (AB.o Z hZ)) AG.o (fun Z hZ=>mN.o Z (by omega)) eP ew fV);obtain⟨ta,tc,rfl⟩:=sQ eP;refine hK'.o _ _ (jU.of HM.o HO.o false) (fun ah=>?_);clear eP ew fV kW HV AG;clear hK' K' ak;have ak:=ah;clear ah;have c1:=HM.o.box.cells.2.1;have f1:=HM.o.box.fz 1;refine oZ (rs:=[11]) (by kernel_rfl) (by simp) (ed.cons (b:=true) rfl (by kernel_rfl) ?_ (ed.nil))
        ·intro K' hK';go_simp;replace HM:=hid (HM.o.set1 hb5 (.slice fa nf fc));replace HO:=hid (HO.o.off w3.heap.size 1 (.slice fa nf fc) hne);refine hK'.o _ _ (jU.late HO.o) (fun ah=>?_);clear c1 f1;clear hK' K' ak;have ak:=ah;clear ah;(try simp only[gE,aP]);refine vN (i:=12) (oi:=_) (v:=.pointer (some ⟨w3.heap.size,2,none⟩)) (b:=true) rfl (by kernel_rfl) (by kernel_rfl) (by kernel_rfl) (by decide) (fun _ _ _ h=>h) (Or.inl ⟨by rfl,?_⟩) (by kernel_rfl) (by assumption) ?_
         ·intro u' aN;go_simp
         have c2:=HM.o.box.cells.2.2;have f2:=HM.o.box.fz 2;refine oZ (rs:=[13]) (by kernel_rfl) (by simp) (ed.cons (b:=true) rfl (by kernel_rfl) ?_ (ed.nil))
         ·intro K' hK';go_simp;replace HM:=hid (HM.o.set2 hb5 (.slice ta ((TL i).length+1) tc));replace HO:=hid (HO.o.off w3.heap.size 2 (.slice ta ((TL i).length+1) tc) hne);refine hK'.o _ _ (jU.late HO.o) (fun ah=>?_);clear c2 f2;clear hK' K' ak;have ak:=ah;clear ah;(try simp only[gE,aP]);refine MX (by kernel_rfl) ?_ _;clear ak HO;generalize (((bV.setCell ⟨w3.heap.size,1,none⟩ (.slice fa nf fc))).setCell ⟨w3.heap.size,2,none⟩ (.slice ta ((TL i).length+1) tc))=sM at *;go_wp2;go_roundw
          case rel=>exact⟨i+1,_,_,_,by omega,by go_num,by rw[lK.o.1,lK.o.2];exact HM⟩
          case measure=>simp[intOf];omega
     ·intro K' hK';go_simp;have bc:=(au ua.heap.size ua).alloc (aq _) (TC (.slice x1 js ju) (.slice x2 jr jt));have kW:=hid (lJ.new HM.o (.slice x1 js ju) (.slice x2 jr jt));replace HM:=hid (HM.o.under bc);replace HO:=hid (HO.o.under bc);replace HV:=hid (HV.o.aa bc);replace lL:=hid (((bc.cell (p:=⟨ga,0,none⟩) (World.block_lt_of_cell? _ _ lL.o))).trans lL.o);refine hK'.o _ _ (jU.of HM.o HO.o false) (fun ah=>?_);clear bc;clear hK' K' ak;have ak:=ah;clear ah;obtain⟨gt,tj⟩:∃gt,ua.heap.size=gt:=⟨_,rfl⟩;obtain⟨ut,mg⟩:∃ut,ua.alloc (TC (.slice x1 js ju) (.slice x2 jr jt))=ut:=⟨_,rfl⟩;have zM:ua.alloc (.cells #[.slice x1 js ju,.slice x2 jr jt] 39)=ut:=mg;rw[tj,mg] at kW;rw[mg] at HM HO HV lL;simp only[zM] at ak⊢;simp only[tj];clear mg zM tj;(try simp only[gE,aP]);refine oZ (rs:=[4]) (by kernel_rfl) (by simp) (ed.cons (b:=false) rfl (by kernel_rfl) ?_ (ed.nil))
      ·intro K' hK';rw[aA (by rfl)];refine MW _ _ rfl W4.heap.size fv (iL (FL i)) (v:Int) rfl HM.o.fo ga rfl lL.o (by rw[bs];have:=ij.o i;omega) HM.o.fr.size ?_;intro Ak w9 pC gN lx
       have AG:Hid (∀Z,Ak.ownBlock=some Z ->eR Z (gU L v,gL V L R v) (.slice x1 js ju,.slice x2 jr jt)):=fun Z hR=>by
        rcases lx with hn |hn
        ·exact mN.o Z (mz.o Z (by rw[<- hn];exact hR))
        ·exact HV.o.lt (hn Z hR)
       replace HV:=hid (HV.o.keepR (fun r hr=>mN.o r (mz.o r hr)) gN);replace kW:=hid (kW.o.pushF gN lx);replace HO:=hid (HO.o.pushF gN lx);replace HM:=hid (HM.o.pushF hb5 pC gN lx)
       obtain⟨nf,fa,fc,rfl⟩:∃nf fa fc,Ak=Value.slice fa nf fc:=by
        obtain⟨fa,fc,e⟩:=sQ pC;exact⟨_,fa,fc,e⟩
       refine hK'.o _ _ (jU.of HM.o HO.o false) (fun ah=>?_);clear pC gN lx lL;clear hK' K' ak;have ak:=ah;clear ah;(try simp only[gE,aP]);refine vN (i:=10) (oi:=_) (v:=.pointer (some ⟨w3.heap.size,1,none⟩)) (b:=false) rfl (by kernel_rfl) (by kernel_rfl) (by kernel_rfl) (by decide) (fun _ _ _ h=>h) (Or.inl ⟨by rfl,?_⟩) (by kernel_rfl) (by assumption) ?_
       ·intro u' aN;go_simp
       (try simp only[gE,aP]);refine oZ (rs:=[9]) (by kernel_rfl) (by simp) (ed.cons (b:=false) rfl (by kernel_rfl) ?_ (ed.nil))
       ·intro K' hK';rw[aA (by rfl)];refine MV _ _ rfl W4.heap.size tv (TL i).length (dM Q) (.slice x1 js ju) (.slice x2 jr jt) rfl HM.o.own.own gt rfl kW.o.tb.c0 kW.o.tb.c1 yO.o.1 yO.o.2 (by have:=RT.o i;omega) HM.o.fr.size ?_;intro dr bV eP ew fV;replace HO:=hid (HO.o.pushT ew fV);replace HM:=hid (HM.o.pushT hb5 HV.o (fun Z hZ=>mN.o Z (AB.o Z hZ)) AG.o (fun Z hZ=>mN.o Z (by omega)) eP ew fV);obtain⟨ta,tc,rfl⟩:=sQ eP;refine hK'.o _ _ (jU.of HM.o HO.o false) (fun ah=>?_);clear eP ew fV kW HV AG;clear hK' K' ak;have ak:=ah;clear ah;have c1:=HM.o.box.cells.2.1;have f1:=HM.o.box.fz 1;refine oZ (rs:=[11]) (by kernel_rfl) (by simp) (ed.cons (b:=true) rfl (by kernel_rfl) ?_ (ed.nil))
        ·intro K' hK';go_simp;replace HM:=hid (HM.o.set1 hb5 (.slice fa nf fc));replace HO:=hid (HO.o.off w3.heap.size 1 (.slice fa nf fc) hne);refine hK'.o _ _ (jU.late HO.o) (fun ah=>?_);clear c1 f1;clear hK' K' ak;have ak:=ah;clear ah;(try simp only[gE,aP]);refine vN (i:=12) (oi:=_) (v:=.pointer (some ⟨w3.heap.size,2,none⟩)) (b:=true) rfl (by kernel_rfl) (by kernel_rfl) (by kernel_rfl) (by decide) (fun _ _ _ h=>h) (Or.inl ⟨by rfl,?_⟩) (by kernel_rfl) (by assumption) ?_
         ·intro u' aN;go_simp
         have c2:=HM.o.box.cells.2.2;have f2:=HM.o.box.fz 2;refine oZ (rs:=[13]) (by kernel_rfl) (by simp) (ed.cons (b:=true) rfl (by kernel_rfl) ?_ (ed.nil))
         ·intro K' hK';go_simp;replace HM:=hid (HM.o.set2 hb5 (.slice ta ((TL i).length+1) tc));replace HO:=hid (HO.o.off w3.heap.size 2 (.slice ta ((TL i).length+1) tc) hne);refine hK'.o _ _ (jU.late HO.o) (fun ah=>?_);clear c2 f2;clear hK' K' ak;have ak:=ah;clear ah;(try simp only[gE,aP]);refine MX (by kernel_rfl) ?_ _;clear ak HO;generalize (((bV.setCell ⟨w3.heap.size,1,none⟩ (.slice fa nf fc))).setCell ⟨w3.heap.size,2,none⟩ (.slice ta ((TL i).length+1) tc))=sM at *;go_wp2;go_roundw
          case rel=>exact⟨i+1,_,_,_,by omega,by go_num,by rw[lK.o.1,lK.o.2];exact HM⟩
          case measure=>simp[intOf];omega
    ·intro K' hK';go_simp;have bc:=(au D5.heap.size D5).alloc (aq _) (TC (.slice x1 js ju) (.slice x2 jr jt));have kW:=hid (lJ.new HM.o (.slice x1 js ju) (.slice x2 jr jt));replace HM:=hid (HM.o.under bc);replace HO:=hid (HO.o.under bc);replace HV:=hid (HV.o.aa bc);refine hK'.o _ _ (jU.of HM.o HO.o false) (fun ah=>?_);clear bc;clear hK' K' ak;have ak:=ah;clear ah;obtain⟨gt,tj⟩:∃gt,D5.heap.size=gt:=⟨_,rfl⟩;obtain⟨ut,mg⟩:∃ut,D5.alloc (TC (.slice x1 js ju) (.slice x2 jr jt))=ut:=⟨_,rfl⟩;have zM:D5.alloc (.cells #[.slice x1 js ju,.slice x2 jr jt] 39)=ut:=mg;rw[tj,mg] at kW;rw[mg] at HM HO HV;simp only[zM] at ak⊢;simp only[tj];clear mg zM tj;(try simp only[gE,aP]);refine oZ (rs:=[3]) (by kernel_rfl) (by simp) (ed.cons (b:=false) rfl (by kernel_rfl) ?_ (ed.nil))
     ·intro K' hK';go_simp;have bc:=(au ut.heap.size ut).alloc (aq _) (.cells #[.int .i64 (v:Nat)] 3);have lL:=hid (aY ut 3 (.int .i64 (v:Nat))).cell;replace HM:=hid (HM.o.under bc);replace HO:=hid (HO.o.under bc);replace kW:=hid (kW.o.under bc);replace HV:=hid (HV.o.aa bc);refine hK'.o _ _ (jU.of HM.o HO.o false) (fun ah=>?_);clear bc;clear hK' K' ak;have ak:=ah;clear ah;obtain⟨ga,wI⟩:∃ga,ut.heap.size=ga:=⟨_,rfl⟩;obtain⟨ua,kK⟩:∃ua,ut.alloc (.cells #[.int .i64 (v:Nat)] 3)=ua:=⟨_,rfl⟩;rw[wI,kK] at lL;rw[kK] at HM HO HV kW;simp only[kK] at ak⊢;simp only[wI];clear kK wI;(try simp only[gE,aP]);refine oZ (rs:=[4]) (by kernel_rfl) (by simp) (ed.cons (b:=false) rfl (by kernel_rfl) ?_ (ed.nil))
      ·intro K' hK';rw[aA (by rfl)];refine MW _ _ rfl W4.heap.size fv (iL (FL i)) (v:Int) rfl HM.o.fo ga rfl lL.o (by rw[bs];have:=ij.o i;omega) HM.o.fr.size ?_;intro Ak w9 pC gN lx
       have AG:Hid (∀Z,Ak.ownBlock=some Z ->eR Z (gU L v,gL V L R v) (.slice x1 js ju,.slice x2 jr jt)):=fun Z hR=>by
        rcases lx with hn |hn
        ·exact mN.o Z (mz.o Z (by rw[<- hn];exact hR))
        ·exact HV.o.lt (hn Z hR)
       replace HV:=hid (HV.o.keepR (fun r hr=>mN.o r (mz.o r hr)) gN);replace kW:=hid (kW.o.pushF gN lx);replace HO:=hid (HO.o.pushF gN lx);replace HM:=hid (HM.o.pushF hb5 pC gN lx)
       obtain⟨nf,fa,fc,rfl⟩:∃nf fa fc,Ak=Value.slice fa nf fc:=by
        obtain⟨fa,fc,e⟩:=sQ pC;exact⟨_,fa,fc,e⟩
       refine hK'.o _ _ (jU.of HM.o HO.o false) (fun ah=>?_);clear pC gN lx lL;clear hK' K' ak;have ak:=ah;clear ah;(try simp only[gE,aP]);refine vN (i:=10) (oi:=_) (v:=.pointer (some ⟨w3.heap.size,1,none⟩)) (b:=false) rfl (by kernel_rfl) (by kernel_rfl) (by kernel_rfl) (by decide) (fun _ _ _ h=>h) (Or.inl ⟨by rfl,?_⟩) (by kernel_rfl) (by assumption) ?_
       ·intro u' aN;go_simp
       (try simp only[gE,aP]);refine oZ (rs:=[9]) (by kernel_rfl) (by simp) (ed.cons (b:=false) rfl (by kernel_rfl) ?_ (ed.nil))
       ·intro K' hK';rw[aA (by rfl)];refine MV _ _ rfl W4.heap.size tv (TL i).length (dM Q) (.slice x1 js ju) (.slice x2 jr jt) rfl HM.o.own.own gt rfl kW.o.tb.c0 kW.o.tb.c1 yO.o.1 yO.o.2 (by have:=RT.o i;omega) HM.o.fr.size ?_;intro dr bV eP ew fV;replace HO:=hid (HO.o.pushT ew fV);replace HM:=hid (HM.o.pushT hb5 HV.o (fun Z hZ=>mN.o Z (AB.o Z hZ)) AG.o (fun Z hZ=>mN.o Z (by omega)) eP ew fV);obtain⟨ta,tc,rfl⟩:=sQ eP;refine hK'.o _ _ (jU.of HM.o HO.o false) (fun ah=>?_);clear eP ew fV kW HV AG;clear hK' K' ak;have ak:=ah;clear ah;have c1:=HM.o.box.cells.2.1;have f1:=HM.o.box.fz 1;refine oZ (rs:=[11]) (by kernel_rfl) (by simp) (ed.cons (b:=true) rfl (by kernel_rfl) ?_ (ed.nil))
        ·intro K' hK';go_simp;replace HM:=hid (HM.o.set1 hb5 (.slice fa nf fc));replace HO:=hid (HO.o.off w3.heap.size 1 (.slice fa nf fc) hne);refine hK'.o _ _ (jU.late HO.o) (fun ah=>?_);clear c1 f1;clear hK' K' ak;have ak:=ah;clear ah;(try simp only[gE,aP]);refine vN (i:=12) (oi:=_) (v:=.pointer (some ⟨w3.heap.size,2,none⟩)) (b:=true) rfl (by kernel_rfl) (by kernel_rfl) (by kernel_rfl) (by decide) (fun _ _ _ h=>h) (Or.inl ⟨by rfl,?_⟩) (by kernel_rfl) (by assumption) ?_
         ·intro u' aN;go_simp
         have c2:=HM.o.box.cells.2.2;have f2:=HM.o.box.fz 2;refine oZ (rs:=[13]) (by kernel_rfl) (by simp) (ed.cons (b:=true) rfl (by kernel_rfl) ?_ (ed.nil))
         ·intro K' hK';go_simp;replace HM:=hid (HM.o.set2 hb5 (.slice ta ((TL i).length+1) tc));replace HO:=hid (HO.o.off w3.heap.size 2 (.slice ta ((TL i).length+1) tc) hne);refine hK'.o _ _ (jU.late HO.o) (fun ah=>?_);clear c2 f2;clear hK' K' ak;have ak:=ah;clear ah;(try simp only[gE,aP]);refine MX (by kernel_rfl) ?_ _;clear ak HO;generalize (((bV.setCell ⟨w3.heap.size,1,none⟩ (.slice fa nf fc))).setCell ⟨w3.heap.size,2,none⟩ (.slice ta ((TL i).length+1) tc))=sM at *;go_wp2;go_roundw
          case rel=>exact⟨i+1,_,_,_,by omega,by go_num,by rw[lK.o.1,lK.o.2];exact HM⟩
          case measure=>simp[intOf];omega
  ·obtain rfl:i=L.length:=by omega
   obtain⟨d,cd,rfl,Yw⟩:=HM.o.fo.ints;obtain⟨ta,tc,rfl,zP⟩:=HM.o.own.row;obtain⟨x0,x1,x2⟩:=HM.o.box.cells;obtain⟨r0,r1,r2⟩:=oP.o.cells;have J5:=oP.o.fz 0;have J4:=oP.o.fz 1;have JZ:=oP.o.fz 2;have e1:(iL (FL L.length)).length=(FL L.length).length:=bs _;rw[e1] at HM x1;rw[Zh] at HM x2;have yQ:=hid (oP.o.put (.slice (some ⟨G,0,none⟩) V.length V.length) (.slice d (FL L.length).length cd) (.slice ta (FL L.length).length tc));have rh:=hid (cQ HB.o (show w.heap.size<=w.heap.size+1 by omega) (.slice (some ⟨G,0,none⟩) V.length V.length) (.slice d (FL L.length).length cd) (.slice ta (FL L.length).length tc))
   have gG:Value.ownBlock (.slice ta (FL L.length).length tc)≠some (w.heap.size+1):=fun e=>by
    have:=(HM.o.own.lt _ e).1;omega
   have Aa:=((HM.o.own.off (g:=w.heap.size+1) (j:=0) (.slice (some ⟨G,0,none⟩) V.length V.length) (HM.o.far _ (by omega)) gG).off (g:=w.heap.size+1) (j:=1) (.slice d (FL L.length).length cd) (HM.o.far _ (by omega)) gG).off (g:=w.heap.size+1) (j:=2) (.slice ta (FL L.length).length tc) (HM.o.far _ (by omega)) gG;obtain⟨TZ,TV,e2,zO⟩:=Aa.row;rw[Zh] at e2;injection e2 with e3 e4 e5;subst e3 e5;clear e4;have IB:=hid zO
   have pY:∀g o,d=some ⟨g,o,none⟩ ->iL (FL L.length)≠[] ->g≠w.heap.size+1:=fun g o e _ e2=>by
    subst e;have:=(pj HM.o.fo g rfl).1;omega
   have xm:=hid (((Yw.off (g:=w.heap.size+1) (j:=0) (y:=.slice (some ⟨G,0,none⟩) V.length V.length) pY).off (g:=w.heap.size+1) (j:=1) (y:=.slice d (FL L.length).length cd) pY).off (g:=w.heap.size+1) (j:=2) (y:=.slice ta (FL L.length).length tc) pY)
   have yX:∀g o,(some ⟨G,0,none⟩:Option Addr)=some ⟨g,o,none⟩ ->iL (ar V)≠[] ->g≠w.heap.size+1:=fun g o e _ e2=>by
    cases e;omega
   have HGR:=hid ((((HIG.o wr HM.o.fr).off (g:=w.heap.size+1) (j:=0) (y:=.slice (some ⟨G,0,none⟩) V.length V.length) yX).off (g:=w.heap.size+1) (j:=1) (y:=.slice d (FL L.length).length cd) yX).off (g:=w.heap.size+1) (j:=2) (y:=.slice ta (FL L.length).length tc) yX);have IX:=hid ((N8 HM.o.own.own).up (show w.heap.size<=W4.heap.size by omega));clear Aa zO zP Yw yX pY gG HM HB y7 EP oP HIW q7 SE p5 AA IA;go_wp2;refine bS (yQ.o.result1 rfl _ rfl) rfl ?_;exact⟨G,d,cd,ta,tc,rfl,HGR.o,xm.o,IB.o,rh.o,IX.o⟩
theorem aep (a b c q:Option Addr) (ca cb cc cq:Nat) (V:List Vr) (L:List (List Int)) (R:List (List Fr)) (vars:List Int) (w:World) (h:jA w a b c V L R) (hN:tC w b L) (hs:vh V L R) (hw:∀l∈R,fw l<=4200) (h0:bj V L R=0) (je:bQ L=0) (h1:1<=L.length) (c4:∀l∈L,l.length<=140737488355328) (hq:aC w q vars) (dC:vars.length<=1000) (tr:∀U:World,jA U a b c V L R ->Calls Tryz.prog 75 #[.agg #[.slice a V.length ca,.slice b L.length cb,.slice c R.length cc]] U fun e w'=>e=.returned (.int .i64 (bj V L R))/\Below U.heap.size U w'):
  Calls Tryz.prog 46 #[.agg #[.slice a V.length ca,.slice b L.length cb,.slice c R.length cc],.slice q vars.length cq] w fun e w'=>∃g d cd t' dY,e=.returned (.agg #[.slice (some ⟨g,0,none⟩) V.length V.length,.slice d ((gJ L).filter fun v:Nat=>vars.contains (v:Int)).length cd,.slice t' ((gJ L).filter fun v:Nat=>vars.contains (v:Int)).length dY])/\aC w' (some ⟨g,0,none⟩) (iL (ar V))/\aC w' d (iL ((gJ L).filter fun v:Nat=>vars.contains (v:Int)))/\fY w' t' (((gJ L).filter fun v:Nat=>vars.contains (v:Int)).map fun v=>(gU L v,gL V L R v))/\Below w.heap.size w w':=
 (aeo a b c q ca cb cc cq V L R vars w h hN hs hw h0 je h1 c4 hq dC tr).af fun _ _ ⟨g,d,cd,t',dY,e,k1,k2,k3,k4,_⟩=>⟨g,d,cd,t',dY,e,k1,k2,k3,k4⟩
open Go.Sort Go.Lib
theorem ac4 {B:Nat} (d:Option Addr) (n cd:Nat) (l:List Int) (w:World) (h:bA w B (.slice d n cd) l) (hB:B<=w.heap.size) (hn:l.length<=100000):
  Calls Tryz.prog 77 #[.slice d n cd] w fun e w'=>e=.returned (.tuple #[])/\n=l.length/\aC w' d (l.mergeSort fun x y=>decide (x<=y))/\Below B w w':=by
 rcases h.cases with ⟨e,rfl⟩ |⟨g,cap,e,hg0,hg,hc1,hc2,hh⟩
 ·cases e;refine(Tryz.slices_Sort_int_none none 0 w).af ?_;rintro e w2 ⟨rfl,rfl⟩;exact⟨rfl,rfl,fun k hk=>absurd hk (by simp),au _ _⟩
 ·cases e;refine(Tryz.slices_Sort_int g 0 cd l w hh hg (by omega)).af ?_;have hlen:(l.mergeSort fun x y=>decide (x<=y)).length=l.length:=Js _;generalize (l.mergeSort fun x y=>decide (x<=y))=zs at *;rintro e w2 ⟨rfl,q,os,rfl⟩;have hsz:zs.toArray.size=l.toArray.size:=by simp;exact hlen
  have Ac:Holds (Value.int .i64) (grow (putRow (Value.int .i64) (Sort.ahead w q) g 0 zs.toArray) os) g 0 zs.toArray:=fun j hj=>by
   obtain⟨h1,h2⟩:=holds_putRow (Value.int .i64) (Sort.ahead w q) g 0 _ zs.toArray hh hsz j hj;(have gA:g<(putRow (Value.int .i64) (Sort.ahead w q) g 0 zs.toArray).heap.size:=by rw[size_putRow];exact hg);refine⟨(cell?_grow _ _ _ gA).trans h1,?_⟩;rw[frozen?_grow _ _ _ gA];exact h2
  have GR:g<(grow (putRow (Value.int .i64) (Sort.ahead w q) g 0 zs.toArray) os).heap.size:=aO hg (Ji (w:=w) (g:=g) (n:=q) (os:=os) zs.toArray).size;exact⟨rfl,rfl,D7 Ac GR (fun j hj=>⟨by simpa using hj,by simp⟩),Rn zs.toArray (au _ _) hB hg0⟩
theorem ac3 (hl:∀x∈l,0<=x/\x<n) (jO:l.Nodup):Up (l.mergeSort fun x y=>decide (x<=y)) n:=by
 have hs:(l.mergeSort fun x y=>decide (x<=y)).Pairwise (fun x y=>decide (x<=y)=true):=List.pairwise_mergeSort (fun a b c=>by simp;omega) (fun a b=>by simp;omega) _;have hp:=MO l fun x y=>decide (x<=y);have hn:(l.mergeSort fun x y=>decide (x<=y)).Nodup:=hp.nodup_iff.2 jO;refine gj.2 ⟨fun x hx=>hl x (hp.mem_iff.1 hx),(hs.and hn).imp fun {a b} h=>?_⟩;have h3:=rk h.1;have h4:=h.2;omega
variable {R:List (List Fr)} {L:List (List Int)} {S ws:List Nat} {V:List Vr}
def rW (q:List Int) (l:List (Nat×Nat)):List Int:=q++(zF l).map (·.1)
def uU (q:List Int) (l:List (Nat×Nat)):List Int:=(rW q l).mergeSort fun x y=>decide (x<=y)
theorem aaR {q:List Int} {l:List (Nat×Nat)} (v:Nat):v∈ag (uU q l)↔v∈ag q∨v∈l.map (·.1):=by
 have hp:=MO (rW q l) fun x y=>decide (x<=y)
 have hm:v∈ag (uU q l)↔∃x∈rW q l,x.toNat=v:=by
  rw[uU,ag,aW];exact⟨fun ⟨x,h,e⟩=>⟨x,hp.mem_iff.1 h,e⟩,fun ⟨x,h,e⟩=>⟨x,hp.mem_iff.2 h,e⟩⟩
 rw[hm];constructor
 ·rintro⟨x,hx,rfl⟩;rcases cI.1 hx with hx |hx
  ·exact .inl (aW.2 ⟨x,hx,rfl⟩)
  ·obtain⟨p,hp',rfl⟩:=aW.1 hx;obtain⟨r,hr,rfl⟩:=aW.1 hp';exact .inr (aW.2 ⟨r,hr,by simp⟩)
 ·rintro(h |h)
  ·obtain⟨x,hx,e⟩:=aW.1 h;exact⟨x,cI.2 (.inl hx),e⟩
  ·obtain⟨r,hr,rfl⟩:=aW.1 h;exact⟨(r.1:Int),cI.2 (.inr (aW.2 ⟨_,aW.2 ⟨r,hr,rfl⟩,rfl⟩)),by simp⟩
theorem akm {q:List Int} {l:List (Nat×Nat)} (hq:Up q n) (hl:gW S n l) (hd:∀v∈ag q,¬v∈l.map (·.1)):Up (uU q l) n:=by
 refine ac3 (fun x hx=>?_) ?_
 ·rcases cI.1 hx with hx |hx
  ·exact Bd hq x hx
  ·obtain⟨p,hp',rfl⟩:=aW.1 hx;obtain⟨r,hr,rfl⟩:=aW.1 hp';have:=hl.lt r hr;show 0<=(r.1:Int)/\(r.1:Int)<n;omega
 ·refine A4.2 ⟨?_,?_,fun x hx y hy e=>?_⟩
  ·exact(gj.1 hq).2.imp fun h=>by omega
  ·rw[zF,tX];refine(C9.2 ?_);exact(C9.1 hl.nd).imp fun {a b} h e=>h (by have e':(a.1:Int)=(b.1:Int):=e;omega)
  ·subst e;obtain⟨p,hp',rfl⟩:=aW.1 hy;obtain⟨r,hr,rfl⟩:=aW.1 hp';exact hd r.1 (aW.2 ⟨_,hx,by simp⟩) (aW.2 ⟨r,hr,rfl⟩)
theorem gW.len {l:List (Nat×Nat)} (h:gW S n l):l.length<=n:=by
 have h1:=(Gd h.nd (n:=n) fun v hv=>by
  obtain⟨p,hp,rfl⟩:=aW.1 hv;exact h.lt p hp).length_eq
 have h2:((List.range n).filter fun v=>(l.map (·.1)).contains v).length<=n:=aL (lT ..) (by simp);rw[cX] at h1;omega
theorem akA (b d:Option Addr) (cb cd:Nat) (L:List (List Int)) (A:List Int) (w:World) (h:fC w b L) (hl:∀l∈L,l.length<=140737488355328) (hA:aC w d A) (hg:bQ L=0) (hu:Up A L.length) (Lj:A.length<=1000):
  Calls Tryz.prog 78 #[.slice b L.length cb,.slice d A.length cd] w fun e w'=>∃d cd,e=.returned (.tuple #[.slice d (fj (fK (aI L) (ag A) L.length)).length cd,.int .i64 0])/\aC w' d (fj (fK (aI L) (ag A) L.length))/\Below w.heap.size w w':=
 (air b d cb cd L A w h hl hA (by omega)).af fun e w' hh=>by
  rcases hh with ⟨⟨h1,_⟩ |⟨_,h2,_⟩ |⟨_,_,d,cd,h3,h4⟩,hb⟩
  ·exact absurd hg h1
  ·rw[FD hu] at h2;cases h2
  ·exact⟨d,cd,h3,h4,hb⟩
theorem Z4 (S:List Nat) (p:Nat×Nat):∀(l:List (Nat×Nat)) (P:List Tb),mj S (l++[p]) P=(mj S l P).map (jS S p.1 p.2)
 |[],_=>rfl
 |x::l,P=>by rw[eE,mj,mj,Z4 S p l]
theorem WZ (p:Nat×Nat):∀(l:List (Nat×Nat)) (fr:List Nat),jM fr (l++[p])=(jM fr l).filter fun u=>!(u==p.1)
 |[],_=>rfl
 |x::l,fr=>by rw[eE,jM,jM,WZ p l]
theorem agG (fr:List Nat) (v:Nat):bJ (iL fr) (v:Int)=iL (fr.filter fun u=>!(u==v)):=by
 rw[bJ,iL,Jv];congr 1
 refine List.filter_congr fun x _=>?_;show (!((x:Int)==(v:Int)))=!(x==v);congr 1
 rw[tZ,p8,p8];omega
def mh (ws:List Nat) (l:List (Nat×Nat)) (i:Nat):List Int:=iL (jM ws (l.take i))
def lB (V:List Vr) (L:List (List Int)) (R:List (List Fr)) (ws:List Nat) (l:List (Nat×Nat)) (i:Nat):List Tb:=mj (ar V) (l.take i) (gT V L R ws)
theorem aiu {l:List (Nat×Nat)} (h:i<l.length):mh ws l (i+1)=bJ (mh ws l i) (l[i].1:Int):=by
 rw[mh,mh,fP h,WZ,agG]
theorem ais {l:List (Nat×Nat)} (h:i<l.length):lB V L R ws l (i+1)=(lB V L R ws l i).map (jS (ar V) l[i].1 l[i].2):=by
 rw[lB,lB,fP h,Z4]
theorem ZR (h0:bj V L R=0) (hlt:∀v∈ws,v<V.length) (hc:rj L (·∈ws)) {l:List (Nat×Nat)} (hl:gW (ar V) V.length l) (i:Nat):eH (ar V) V.length (lB V L R ws l i) (fA R ws) 1:=
 eH.fixes (uf h0) (aik h0 hlt hc) fun p hp=>hl.val p (List.mem_of_mem_take hp)
theorem ait (V:List Vr) (L:List (List Int)) (R:List (List Fr)) (ws:List Nat) (l:List (Nat×Nat)) (i:Nat):(lB V L R ws l i).length=ws.length:=by rw[lB,Q3,gT,cX]
theorem aiv (ws:List Nat) (l:List (Nat×Nat)) (i:Nat):(mh ws l i).length<=ws.length:=by rw[mh,bs];exact(WY _ _).length_le
theorem Oq (hn:ws.Nodup) (hlt:∀v∈ws,v<n):ws.length<=n:=by
 have h1:=(Gd hn hlt).length_eq;have h2:((List.range n).filter fun v=>ws.contains v).length<=n:=aL (lT ..) (by simp);omega
theorem aiQ (h0:bj V L R=0) (hD:p6 V R) (hn:ws.Nodup) (hlt:∀v∈ws,v<V.length) (hc:rj L (·∈ws)) {l:List (Nat×Nat)} (hl:gW (ar V) V.length l) (hi:i<l.length) (s b t:Option Addr) (cs cb ct:Nat) (w:World) (hs:aC w s (iL (ar V))) (hb:aC w b (mh ws l i)) (hP:fY w t (lB V L R ws l i)):
  Calls Tryz.prog 48 #[.agg #[.slice s V.length cs,.slice b (mh ws l i).length cb,.slice t (lB V L R ws l i).length ct],.agg #[.int .i64 (l[i].1:Nat),.int .i64 (l[i].2:Nat)]] w fun e w'=>∃d cd t' dY,e=.returned (.agg #[.slice s V.length cs,.slice d (mh ws l (i+1)).length cd,.slice t' (lB V L R ws l (i+1)).length dY])/\aC w' d (mh ws l (i+1))/\fY w' t' (lB V L R ws l (i+1))/\fM w.heap.size t' dY/\Below w.heap.size w w':=by
 have aZ:=iz h0;have cZ:(ar V).length=V.length:=kI V;have hwl:=Oq hn hlt;have h8:=aZ.n8;have h1:=aiv ws l i;have h2:=ait V L R ws l i;have qm:=ZR h0 hlt hc hl i;have hm:=hD.pool h0 hn hlt (vs:=[]) List.nodup_nil (fun v hv=>by cases hv);have:=aeC s b t cs cb ct (ar V) (mh ws l i) (lB V L R ws l i) (fA R ws) 1 l[i].1 l[i].2 w aZ.fine hs hb hP (by rw[cZ];exact qm) (by omega) (by omega) hm (by rw[cZ];exact hl.lt _ (bM hi)) (hl.val _ (bM hi));rw[cZ] at this;rw[aiu hi,ais hi,cX];exact this
theorem aff (h0:bj V L R=0) (hD:p6 V R) (hn:ws.Nodup) (hlt:∀v∈ws,v<V.length) (hc:rj L (·∈ws)) {l:List (Nat×Nat)} (hl:gW (ar V) V.length l) (Gy:∀p∈l,p.1∈ws) {Q:List Int} (hq:Up Q V.length) (BV:∀v∈ag Q,v∈ws/\¬v∈l.map (·.1)) (s b t q:Option Addr) (cs cb ct cq:Nat) (w:World) (hs:aC w s (iL (ar V))) (hb:aC w b (mh ws l l.length)) (hP:fY w t (lB V L R ws l l.length)) (hQ:aC w q Q):
  Calls Tryz.prog 51 #[.agg #[.slice s V.length cs,.slice b (mh ws l l.length).length cb,.slice t (lB V L R ws l l.length).length ct],.slice q Q.length cq,.bool false] w fun e w'=>∃x y,e=.returned (.agg #[x,y])/\dw w' x y (cM V L R Q l)/\Below w.heap.size w w':=by
 have aZ:=iz h0;have hp:=uf h0;have cZ:(ar V).length=V.length:=kI V;have hwl:=Oq hn hlt;have h8:=aZ.n8;have GG:=OI (l:=l) hn;have BZ:∀v∈jM ws l,v<V.length:=fun v hv=>hlt v (KF.1 hv).1;have kM:mh ws l l.length=iL (jM ws l):=by rw[mh,gX]
 have Gu:lB V L R ws l l.length=mj (ar V) l (gT V L R ws):=by rw[lB,gX]
 have qm:=ZR h0 hlt hc hl l.length;rw[Gu] at qm hP⊢;rw[kM] at hb⊢;have c4:=Oq GG BZ;have hpl:(mj (ar V) l (gT V L R ws)).length=ws.length:=by rw[Q3,gT,cX]
 have:=aeA s b t q cs cb ct cq (ar V) (jM ws l) Q (mj (ar V) l (gT V L R ws)) _ (fA R ws) 1 false w aZ.fine hs hb hP hQ (by have:=hq.length;omega) GG (by rw[cZ];exact BZ) (by rw[cZ];exact(PI.net h0 hlt hc).fixes hp hl.nd hl.val) (NN.fixes hp hl.val (PI.net h0 hlt hc).ok (NN.net h0 hlt)) (by rw[cZ];exact qm) (by omega) (hD.pool h0 hn hlt GG BZ);rw[cZ,acg h0 hp hn hlt hc hl Gy hq BV] at this;rw[bs];exact this
theorem Xm (a b c q f:Option Addr) (ca cb cc cq cf:Nat) (V:List Vr) (L:List (List Int)) (R:List (List Fr)) (Q:List Int) (l:List (Nat×Nat)) (w:World) (h:jA w a b c V L R) (hN:tC w b L) (hs:vh V L R) (hw:∀l∈R,fw l<=4200) (h0:bj V L R=0) (hD:p6 V R) (hq:aC w q Q) (KT:Up Q V.length) (hF:ky w f (zF l)) (hl:gW (ar V) V.length l) (hd:∀v∈ag Q,¬v∈l.map (·.1)) (tr:∀U:World,jA U a b c V L R ->Calls Tryz.prog 75 #[.agg #[.slice a V.length ca,.slice b L.length cb,.slice c R.length cc]] U fun e w'=>e=.returned (.int .i64 (bj V L R))/\Below U.heap.size U w'):
  Calls Tryz.prog 33 #[.agg #[.slice a V.length ca,.slice b L.length cb,.slice c R.length cc],.slice q Q.length cq,.slice f l.length cf] w fun e w'=>∃x y,e=.returned (.agg #[x,y])/\dw w' x y (cM V L R Q l)/\Below w.heap.size w w':=by
 have aZ:=iz h0;have h8:=aZ.n8;have je:=Wp h0;have hgb:=tz je
 have yv:1<=L.length:=by
  have:=aZ.fine.one;rw[bs,kI] at this;rw[aZ.len];exact this
 have Hj:L.length<=8:=by rw[aZ.len];exact h8
 have c4:∀x∈L,x.length<=140737488355328:=fun x hx=>by
  obtain⟨i,hi,rfl⟩:=iZ hx;have:=(aZ.up i hi).length;omega
 have dC:=KT.length;have jP:=hl.len;have Qi:=akm KT hl hd;have Lj:(uU Q l).length=(rW Q l).length:=Js _;have hAn:(rW Q l).length=Q.length+l.length:=by rw[rW,cK,cX,od]
 have hA:∀v∈ag (uU Q l),v<L.length:=fun v hv=>by rw[aZ.len];exact Qi.aa v hv
 obtain⟨ws,pz⟩:∃ws,vM L (ag (uU Q l))=ws:=⟨_,rfl⟩;have O2:ws.Nodup:=by rw[<- pz];exact abA hgb yv Hj _
 have hwt:∀v∈ws,v<V.length:=fun v hv=>by rw[<- aZ.len];rw[<- pz] at hv;exact abB hgb yv Hj hv
 have hwc:rj L (·∈ws):=by rw[<- pz];exact abC je yv Hj hA
 have hwl:∀p∈l,p.1∈ws:=fun p hp=>by
  rw[<- pz];exact Ti je yv Hj hA ((aaR _).2 (.inr (aW.2 ⟨p,hp,rfl⟩)))
 have O1:∀v∈ag Q,v∈ws/\¬v∈l.map (·.1):=fun v hv=>⟨by
  rw[<- pz];exact Ti je yv Hj hA ((aaR _).2 (.inl hv)),hd v hv⟩
 have xu:=hid (fun (U:World) (hU:Below w.heap.size w U)=>JT q cq Q U (hq.aa hU) (by omega));have HST:Hid (∀(d:Option Addr) (n cd B:Nat) (U:World),bA U B (.slice d n cd) (rW Q l) ->B<=U.heap.size ->Calls Tryz.prog 77 #[.slice d n cd] U fun e w'=>e=.returned (.tuple #[])/\n=(rW Q l).length/\aC w' d (uU Q l)/\Below B U w'):=fun d n cd B U h1 h2=>ac4 d n cd (rW Q l) U h1 h2 (by omega);obtain⟨vars,KI⟩:∃vars,fj (fK (aI L) (ag (uU Q l)) L.length)=vars:=⟨_,rfl⟩;have ie:vars.length<=8:=by rw[<- KI,fj,bs,eo];exact aL (lT ..) (by simp)
 have y9:Hid (∀(d:Option Addr) (cd:Nat) (U:World),Below w.heap.size w U ->aC U d (uU Q l) ->Calls Tryz.prog 78 #[.slice b L.length cb,.slice d (rW Q l).length cd] U fun e w'=>∃d cd,e=.returned (.tuple #[.slice d vars.length cd,.int .i64 0])/\aC w' d vars/\Below U.heap.size U w'):=fun d cd U hU hi=>by
  have:=akA b d cb cd L (uU Q l) U (h.aa hU).pars c4 hi je (by rw[aZ.len];exact Qi) (by omega);rwa [KI,Lj] at this
 have sf:Hid (∀(d:Option Addr) (cd:Nat) (U:World),Below w.heap.size w U ->aC U d vars ->Calls Tryz.prog 46 #[.agg #[.slice a V.length ca,.slice b L.length cb,.slice c R.length cc],.slice d vars.length cd] U fun e w'=>∃g d cd t' dY,e=.returned (.agg #[.slice (some ⟨g,0,none⟩) V.length V.length,.slice d (mh ws l 0).length cd,.slice t' (lB V L R ws l 0).length dY])/\aC w' (some ⟨g,0,none⟩) (iL (ar V))/\aC w' d (mh ws l 0)/\fY w' t' (lB V L R ws l 0)/\Below U.heap.size U w'):=fun d cd U hU hi=>by
  have:=aep a b c d ca cb cc cd V L R vars U (h.aa hU) (hN.aa h.pars hU) hs hw h0 je yv c4 hi (by omega) tr;have e:(gJ L).filter (fun v:Nat=>vars.contains (v:Int))=ws:=by rw[<- pz,vM,KI]
  rw[e] at this;have e1:mh ws l 0=iL ws:=rfl;have e2:lB V L R ws l 0=ws.map fun v=>(gU L v,gL V L R v):=rfl;rw[e1,e2,bs,cX];exact this
 have xp:=hid (fun (i:Nat) (hi:i<l.length) (s b t:Option Addr) (cs cb ct:Nat) (U:World)=>aiQ (L:=L) h0 hD O2 hwt hwc hl hi s b t cs cb ct U);have HON:=hid (fun (s b t:Option Addr) (cs cb ct:Nat) (U:World) (hU:Below w.heap.size w U) h1 h2 h3=>aff h0 hD O2 hwt hwc hl hwl KT O1 s b t q cs cb ct cq U h1 h2 h3 (hq.aa hU))
 have HF:Hid (∀i (hi:i<l.length) (U:World),Below w.heap.size w U ->∃g o,f=some ⟨g,o,none⟩/\g<U.heap.size/\U.cell? ⟨g,o+i*2,none⟩=some (.int .i64 (l[i].1:Nat))/\U.cell? ⟨g,o+i*2+1,none⟩=some (.int .i64 (l[i].2:Nat))):=fun i hi U hU=>by
  have hz:i<(zF l).length:=by rw[od];exact hi
  obtain⟨g,o,e,hg,h0,h1⟩:=(hF.aa hU) i hz;have e1:(zF l)[i]=((l[i].1:Int),(l[i].2:Int)):=by simp[zF]
  rw[e1] at h0 h1;exact⟨g,o,e,hg,h0,h1⟩
 obtain⟨AK,El⟩:∃AK:Nat ->List Int,∀k,Q++(l.take k).map (fun p=>(p.1:Int))=AK k:=⟨fun k=>Q++(l.take k).map (fun p=>(p.1:Int)),fun _=>rfl⟩;have MC:Hid (AK 0=Q):=by show _=_;rw[<- El];simp
 have HAS:Hid (∀k (hk:k<l.length),AK (k+1)=AK k++[((l[k].1:Nat):Int)]):=fun k hk=>by rw[<- El, <- El,fP hk,dL,nZ];rfl
 have S5:Hid (AK l.length=rW Q l):=by show _=_;rw[<- El,gX,rW,zF,tX];rfl
 have HAL:Hid (∀k,(AK k).length<=16):=fun k=>by
  rw[<- El,cK,cX,dP];omega
 have pZ:=hid (cR.at (w:=w) rfl (.slice a V.length ca) (.slice b L.length cb) (.slice c R.length cc));clear El h hN hs hw h0 hD hq KT hF hl hd tr aZ je hgb c4 Qi Lj hAn hA pz O2 hwt hwc hwl O1 KI yv;generalize mh ws l=FW at *;generalize lB V L R ws l=PS at *;generalize cM V L R Q l=TT at *
 have HA:Hid (Below w.heap.size w ((w.alloc (NC (.slice a V.length ca) (.slice b L.length cb) (.slice c R.length cc))).alloc (TC (.slice none 0 0) (.slice none 0 0)))):=by
  have h1:=(au w.heap.size w).alloc (aq _) (NC (.slice a V.length ca) (.slice b L.length cb) (.slice c R.length cc));exact h1.alloc h1.size _
 have vv:Hid (cR ((w.alloc (NC (.slice a V.length ca) (.slice b L.length cb) (.slice c R.length cc))).alloc (TC (.slice none 0 0) (.slice none 0 0))) w.heap.size (.slice a V.length ca) (.slice b L.length cb) (.slice c R.length cc)):=pZ.o.aa ((au _ _).alloc (aq _) (TC (.slice none 0 0) (.slice none 0 0))) pZ.o.lt;have qY:Hid (bw ((w.alloc (NC (.slice a V.length ca) (.slice b L.length cb) (.slice c R.length cc))).alloc (TC (.slice none 0 0) (.slice none 0 0))) (w.heap.size+1) (.slice none 0 0) (.slice none 0 0)):=bw.at (w:=w.alloc (NC (.slice a V.length ca) (.slice b L.length cb) (.slice c R.length cc))) (by simp) _ _;clear pZ;go_enter Tryz.func33,Tryz.ntmps33;go_wp2_with fail
 generalize ((w.alloc (NC (.slice a V.length ca) (.slice b L.length cb) (.slice c R.length cc))).alloc (TC (.slice none 0 0) (.slice none 0 0)))=W0 at *;refine(xu.o W0 HA.o).af ?_;rintro e w1 ⟨av,rfl,hr1,hb1⟩;have hs0:=qY.o.lt;have abh:=hid hr1;have eU:=hid hb1;clear hr1 hb1 xu;go_wp2_with fail
 go_loopw [7,19] (fun av iv wr=>∃i:Nat,i<=l.length/\iv=.int .i64 i/\Hid (bA wr W0.heap.size av (AK i))/\Hid (Below W0.heap.size W0 wr)) (fun _ iv _=>l.length - (intOf iv).toNat)
 case atStart=>exact⟨0,aU _,rfl,by rw[MC.o];exact abh,eU⟩
 case round=>
  obtain⟨i,hi,rfl,EH,nU⟩:=hrel;clear abh eU;have HB:=hid (HA.o.trans (nU.o.af HA.o.size));obtain⟨d,cd,rfl⟩:=sQ EH.o;by_cases hlt:i<l.length
  ·obtain⟨g,o,rfl,hg,k0,k1⟩:=HF.o i hlt wr HB.o;have alk:=hid (HAS.o i hlt);generalize l[i].1=v at *;generalize l[i].2=z at *;have uF:=(au wr.heap.size wr).alloc (aq _) (.cells #[.int .i64 (v:Nat),.int .i64 (z:Nat)] 90);(have LB:(wr.alloc (.cells #[.int .i64 (v:Nat),.int .i64 (z:Nat)] 90)).cell? ⟨wr.heap.size,0,none⟩=some (.int .i64 (v:Nat)):=by rw[bX _ _ 0 _ _ (0,0) (im wr _)];rfl);(have XP:(wr.alloc (.cells #[.int .i64 (v:Nat),.int .i64 (z:Nat)] 90)).heap.size=wr.heap.size+1:=by simp);have YZ:=(au _ (wr.alloc (.cells #[.int .i64 (v:Nat),.int .i64 (z:Nat)] 90))).alloc (aq _) (.cells #[.int .i64 (v:Nat)] 3)
   have HC8:Hid (((wr.alloc (.cells #[.int .i64 (v:Nat),.int .i64 (z:Nat)] 90)).alloc (.cells #[.int .i64 (v:Nat)] 3)).cell? ⟨wr.heap.size+1,0,none⟩=some (.int .i64 (v:Nat))):=by
    have:=(aY (wr.alloc (.cells #[.int .i64 (v:Nat),.int .i64 (z:Nat)] 90)) 3 (.int .i64 (v:Nat))).cell;rwa [XP] at this
   have fp:=uF.trans (YZ.af uF.size);have abg:=hid (Dw EH.o (yH.aa fp));have E5:=hid (nU.o.trans (fp.af nU.o.size));have hAL:=HAL.o i;have wX:Hid (W0.heap.size<=((wr.alloc (.cells #[.int .i64 (v:Nat),.int .i64 (z:Nat)] 90)).alloc (.cells #[.int .i64 (v:Nat)] 3)).heap.size):=E5.o.size;clear uF YZ fp XP EH nU HB;go_wp2_with (at_builtin;refine abM rfl _ _ rfl W0.heap.size (.slice d (AK i).length cd) (AK i) (v:Int) rfl abg.o (wr.heap.size+1) rfl HC8.o (by omega) wX.o ?_;intro av' w9 pC gN lx;have ak7:=hid pC;have sB:=hid (E5.o.grown gN wX.o (fun k e=>(pj abg.o k e).1));obtain⟨n9,d9,c9,rfl⟩:∃n d c,av'=Value.slice d n c:=(sQ pC).elim fun d h=>h.elim fun c e=>⟨_,d,c,e⟩;clear pC gN lx)
   go_roundw
   case rel=>exact⟨i+1,by omega,by go_num,by rw[alk.o];exact ak7,sB⟩
   case measure=>simp[intOf];omega
  ·obtain rfl:i=l.length:=by omega
   rw[S5.o] at EH;(have e1:(AK l.length).length=(rW Q l).length:=by rw[S5.o]);rw[e1];clear e1 S5 HAS HAL MC;have lK:=hid (HST.o d _ cd W0.heap.size wr EH.o nU.o.size);clear EH HB HST;go_wp2_with fail
   refine lK.o.af ?_;rintro e w2 ⟨rfl, -,rN,hb2⟩;have Li:=nU.o.trans hb2;have bB:=hid (HA.o.trans (Li.af HA.o.size));have nQ:=hid (vv.o.aa Li vv.o.lt);have eJ:=hid (qY.o.aa Li qY.o.lt);have bR:=hid (y9.o d cd w2 bB.o rN);have n1:=nQ.o.cells.2.1;clear rN hb2 Li nU lK y9 vv qY HA;go_wp2_with fail
   refine bR.o.af ?_;rintro e w3 ⟨d3,cd3,rfl,zV,hb3⟩;have eZ:=hid (bB.o.trans (hb3.af bB.o.size));have ES:=hid (nQ.o.aa hb3 nQ.o.lt);have kV:=hid (eJ.o.aa hb3 eJ.o.lt);have pU:=hid (sf.o d3 cd3 w3 eZ.o zV);clear n1;obtain⟨n0,n1,n2⟩:=ES.o.cells;clear zV hb3 bR sf nQ eJ bB;go_wp2_with fail
   refine pU.o.af ?_;rintro e w4 ⟨G,d4,uQ,t4,Ia,rfl,ZE,PJ,uk,hb4⟩;have kO:=hb4.alloc hb4.size (.cells #[.slice (some ⟨G,0,none⟩) V.length V.length,.slice d4 (FW 0).length uQ,.slice t4 (PS 0).length Ia] 87);have Ag:=(au w4.heap.size w4).alloc (aq _) (.cells #[.slice (some ⟨G,0,none⟩) V.length V.length,.slice d4 (FW 0).length uQ,.slice t4 (PS 0).length Ia] 87);have eT:=hid (eZ.o.trans (kO.af eZ.o.size));have tJ:=hid (kV.o.aa kO kV.o.lt);have EM:Hid (bC (w4.alloc (.cells #[.slice (some ⟨G,0,none⟩) V.length V.length,.slice d4 (FW 0).length uQ,.slice t4 (PS 0).length Ia] 87)) w4.heap.size (.slice (some ⟨G,0,none⟩) V.length V.length) (.slice d4 (FW 0).length uQ) (.slice t4 (PS 0).length Ia)):=bC.at (w:=w4) rfl _ _ _;have vA:=hid (ZE.aa Ag);have tP:=hid (PJ.aa Ag);have EC:=hid (uk.aa Ag);have hlo:w.heap.size+1<w4.heap.size:=(kV.o.aa hb4 kV.o.lt).lt;clear ZE PJ uk hb4 kO Ag pU eZ ES kV n0 n1 n2;go_wp2_with fail
   generalize (w4.alloc (.cells #[.slice (some ⟨G,0,none⟩) V.length V.length,.slice d4 (FW 0).length uQ,.slice t4 (PS 0).length Ia] 87))=W5 at *;go_loopw [43] (fun iv wr=>∃(i:Nat) (b' t':Option Addr) (eX dY:Nat),i<=l.length/\iv=.int .i64 i/\Hid (bC wr w4.heap.size (.slice (some ⟨G,0,none⟩) V.length V.length) (.slice b' (FW i).length eX) (.slice t' (PS i).length dY))/\Hid (aC wr (some ⟨G,0,none⟩) (iL (ar V)))/\Hid (aC wr b' (FW i))/\Hid (fY wr t' (PS i))/\Hid (bw wr (w.heap.size+1) (.slice none 0 0) (.slice none 0 0))/\Hid (Below w.heap.size w wr)) (fun iv _=>l.length - (intOf iv).toNat)
   case atStart=>exact⟨0,_,_,_,_,aU _,rfl,EM,vA,tP,EC,tJ,eT⟩
   case round=>
    obtain⟨i,b',t',eX,dY,hi,rfl,my,HG,HI,HT,HR,HB⟩:=hrel;clear EM vA tP EC tJ eT;rename World=>W6
    obtain⟨p0,p1,p2⟩:=my.o.cells;by_cases hlt2:i<l.length
    ·obtain⟨g,o,rfl,hg,k0,k1⟩:=HF.o i hlt2 W6 HB.o;have HFi:=hid (xp.o i hlt2);generalize l[i].1=v at *;generalize l[i].2=z at *;have uF:=(au W6.heap.size W6).alloc (aq _) (.cells #[.int .i64 (v:Nat),.int .i64 (z:Nat)] 90);(have LB:(W6.alloc (.cells #[.int .i64 (v:Nat),.int .i64 (z:Nat)] 90)).cell? ⟨W6.heap.size,0,none⟩=some (.int .i64 (v:Nat)):=by rw[bX _ _ 0 _ _ (0,0) (im W6 _)];rfl);(have Q6:(W6.alloc (.cells #[.int .i64 (v:Nat),.int .i64 (z:Nat)] 90)).cell? ⟨W6.heap.size,1,none⟩=some (.int .i64 (z:Nat)):=by rw[bX _ _ 1 _ _ (0,0) (im W6 _)];rfl);have Mf:=hid (my.o.aa uF my.o.lt);have Ms:=hid (HG.o.aa uF);have qX:=hid (HR.o.aa uF HR.o.lt);have eU:=hid (HB.o.trans (uF.af HB.o.size));have HX:=hid (HFi.o (some ⟨G,0,none⟩) b' t' V.length eX dY _ Ms.o (HI.o.aa uF) (HT.o.aa uF));clear p0 p1 p2 my HG HI HT HR HB HFi uF;obtain⟨p0,p1,p2⟩:=Mf.o.cells;go_wp2_with fail
     refine HX.o.af ?_;rintro e w7 ⟨d7,yF,t7,Es,rfl,zU,rI,X9,c5⟩;have yr:=Mf.o.aa c5 Mf.o.lt;have rP:=qX.o.aa c5 qX.o.lt;have uM:=eU.o.trans (c5.af eU.o.size);have ZC:=Ms.o.aa c5;have hl7:=Mf.o.lt;clear p0 p1 p2 LB Q6 k0 k1;obtain⟨p0,p1,p2⟩:=yr.cells;have Kg:=yr.fz 0;have Kf:=yr.fz 1;have Ke:=yr.fz 2;have Sh:=hid (yr.put (.slice (some ⟨G,0,none⟩) V.length V.length) (.slice d7 (FW (i+1)).length yF) (.slice t7 (PS (i+1)).length Es));have HG8:=hid (ZC.putP yr (slv _ _ _) (slv _ _ _) (slv _ _ _) (.slice (some ⟨G,0,none⟩) V.length V.length) (.slice d7 (FW (i+1)).length yF) (.slice t7 (PS (i+1)).length Es));have HI8:=hid (zU.putP yr (slv _ _ _) (slv _ _ _) (slv _ _ _) (.slice (some ⟨G,0,none⟩) V.length V.length) (.slice d7 (FW (i+1)).length yF) (.slice t7 (PS (i+1)).length Es));have HT8:=hid (rI.putP yr (slv _ _ _) (slv _ _ _) (slv _ _ _) (fun g' o' e=>by have:=X9.2 g' o' e;omega) (slv (some ⟨G,0,none⟩) V.length V.length) (slv d7 (FW (i+1)).length yF) (.slice t7 (PS (i+1)).length Es));have HR8:=hid (((rP.off w4.heap.size 0 (.slice (some ⟨G,0,none⟩) V.length V.length) (by omega)).off w4.heap.size 1 (.slice d7 (FW (i+1)).length yF) (by omega)).off w4.heap.size 2 (.slice t7 (PS (i+1)).length Es) (by omega));have E5:=hid (cQ uM (show w.heap.size<=w4.heap.size by omega) (.slice (some ⟨G,0,none⟩) V.length V.length) (.slice d7 (FW (i+1)).length yF) (.slice t7 (PS (i+1)).length Es));clear zU rI X9 c5 yr rP uM ZC HX;go_wp2;go_roundw
     case rel=>exact⟨i+1,_,_,_,_,by omega,by go_num,Sh,HG8,HI8,HT8,HR8,E5⟩
     case measure=>simp[intOf];omega
    ·obtain rfl:i=l.length:=by omega
     have Si:=hid (HON.o (some ⟨G,0,none⟩) b' t' V.length eX dY W6 HB.o HG.o HI.o HT.o);go_wp2_with fail
     refine Si.o.af ?_;rintro e w7 ⟨x,y,rfl,KJ,c5⟩;obtain⟨xs,xn,xc,rfl⟩:=KJ.slices.1;obtain⟨ys,yn,yc,rfl⟩:=KJ.slices.2;have rP:=HR.o.aa c5 HR.o.lt;have uM:=HB.o.trans (c5.af HB.o.size);obtain⟨t0,t1,f0,f1⟩:=rP.facts;have yR:=hid (rP.put (.slice xs xn xc) (.slice ys yn yc));have RR:=hid (KJ.putT rP (slv _ _ _) (slv _ _ _) (slv xs xn xc) (.slice ys yn yc));have sB:=hid (mK (g:=w.heap.size+1) uM (by omega) (.slice xs xn xc) (.slice ys yn yc));clear KJ c5 rP uM p0 p1 p2;go_wp2;refine bS (yR.o.result1 rfl _ rfl) rfl ?_;exact⟨_,_,rfl,RR.o,sB.o⟩
variable {F:List (Int×Int)} {a:Option Addr} {w':World}
structure Cu (w:World) (a b c:Option Addr) (V:List Vr) (L:List (List Int)) (R:List (List Fr)):Prop where
 net:jA w a b c V L R
 ls:tC w b L
 sm:vh V L R
 wt:∀l∈R,fw l<=4200
 lt:p6 V R
 few:bj V L R=0 ->cnt (ar V) (List.range V.length)<=800
theorem Cu.aa {b c:Option Addr} (h:Cu w a b c V L R) (hb:Below w.heap.size w w'):Cu w' a b c V L R:=⟨h.net.aa hb,h.ls.aa h.net.pars hb,h.sm,h.wt,h.lt,h.few⟩
def nF (F:List (Int×Int)):List (Nat×Nat):=F.map fun p=>(p.1.toNat,p.2.toNat)
theorem BB (l:List (Nat×Nat)):nF (zF l)=l:=by
 rw[nF,zF,tX];refine(qd fun p _=>?_).trans (List.map_id l);show (((p.1:Int).toNat),((p.2:Int).toNat))=p;simp
theorem aaf (h:iE V L R F=0):bj V L R=0/\F=zF (nF F)/\gW (ar V) V.length (nF F):=by
 obtain⟨h0,l,rfl,hl⟩:=ai1 h;rw[BB];exact⟨h0,rfl,hl⟩
def xS (V:List Vr) (L:List (List Int)) (R:List (List Fr)) (F:List (Int×Int)):Fr:=if iE V L R F=0 then qF (aX V L R (nF F)) else(false,⟨#[]⟩,⟨#[]⟩)
theorem acj (V:List Vr) (L:List (List Int)) (R:List (List Fr)) (l:List (Nat×Nat)):cM V L R [] l=([],[qF (aX V L R l)]):=rfl
theorem agX (a b c f:Option Addr) (ca cb cc cf:Nat) (V:List Vr) (L:List (List Int)) (R:List (List Fr)) (F:List (Int×Int)) (w:World) (h:Cu w a b c V L R) (hF:ky w f F) (hn:F.length<=1000) (G7:F.length<=cf):
  Calls Tryz.prog 8 #[.agg #[.slice a V.length ca,.slice b L.length cb,.slice c R.length cc],.slice f F.length cf] w fun e w'=>e=.returned (.tuple #[gF (xS V L R F),.int .i64 (iE V L R F)])/\Below w.heap.size w w':=by
 have I5:=hid (fun (U:World) (hU:Below w.heap.size w U)=>Xc a b c f ca cb cc cf V L R F U (h.net.aa hU) h.sm (hF.aa hU) hn G7)
 have vr:Hid (iE V L R F=0 ->∀U:World,Below w.heap.size w U ->Calls Tryz.prog 33 #[.agg #[.slice a V.length ca,.slice b L.length cb,.slice c R.length cc],.slice none 0 0,.slice f F.length cf] U fun e w'=>∃(x:Value) (g o cg:Nat),e=.returned (.agg #[x,.slice (some ⟨g,o,none⟩) 1 cg])/\w'.cell? ⟨g,o,none⟩=some (.bool (xS V L R F).1)/\w'.cell? ⟨g,o+1,none⟩=some (.string (xS V L R F).2.1)/\w'.cell? ⟨g,o+2,none⟩=some (.string (xS V L R F).2.2)/\dh x/\Below U.heap.size U w'):=fun e U hU=>by
  obtain⟨h0,hz,hl⟩:=aaf e;have h1:=hF.aa hU;rw[hz] at h1;have Hc:=h.aa hU;have:=Xm a b c none f ca cb cc 0 cf V L R [] (nF F) U Hc.net Hc.ls h.sm h.wt h0 h.lt (fun k hk=>absurd hk (by simp)) ⟨fun i hi=>absurd hi (by simp),fun i j hj=>absurd hj (by simp)⟩ h1 hl (fun v hv=>by cases hv) (fun U' Eg=>Rg a b c ca cb cc V L R U' Eg h.sm);rw[<- od, <- hz,acj] at this;refine this.af fun e' w' hh=>?_;obtain⟨x,y,h2,⟨b',c',eX,oI,h3,h4,_,h5,_⟩,h6⟩:=hh;obtain⟨g,o,h7,_,h8,h9,h10⟩:=h5 0 (by simp);rw[xS,aA e];refine⟨x,g,o,oI,by rw[h2,h4,h7];rfl,?_,?_,?_,⟨_,_,_,h3⟩,h6⟩
  ·rw[mC,fO] at h8;exact h8
  ·rw[mC,fO] at h9;exact h9
  ·rw[mC,fO] at h10;exact h10
 have q9:Hid (iE V L R F≠0 ->xS V L R F=(false,⟨#[]⟩,⟨#[]⟩)):=fun e=>aD e;generalize xS V L R F=pf at *;generalize iE V L R F=fe at *;clear h hF G7;have jk:=hid (LK.new w (.slice a V.length ca) (.slice b L.length cb) (.slice c R.length cc));obtain⟨c0,c1,c2⟩:=jk.o.1.1.cells;go_enter Tryz.func8,Tryz.ntmps8;go_wp2_with fail
 generalize ((w.alloc (NC (.slice a V.length ca) (.slice b L.length cb) (.slice c R.length cc))).alloc (FC false ⟨#[]⟩ ⟨#[]⟩))=w1 at *;refine(I5.o _ jk.o.1.2).af ?_;rintro e w2 ⟨rfl,hb⟩;have hK:=jk.o.step hb;clear hb jk c0 c1 c2 I5;by_cases ly:fe=0
 ·subst ly;have HP:=hid (vr.o rfl);have HK:=hid hK;obtain⟨c0,c1,c2⟩:=hK.1.1.cells;clear q9 vr hK;obtain⟨pn,px,py⟩:=pf;go_wp2_with fail
  refine(HP.o _ HK.o.1.2).af ?_;rintro e w6 ⟨x,g,o,cg,rfl,q0,q1,q2,⟨xa,xn,xc,rfl⟩,hb⟩;have Qz:=HK.o.step hb;obtain⟨k0,k1,k2,f0,f1,f2⟩:=Qz.2.facts;have jz:=Qz.2.put pn px py;have G8:=cQ Qz.1.2 (show w.heap.size<=w.heap.size+1 by omega) (.bool pn) (.string px) (.string py);have hfd:∀U:World,(Instr.field 39 (.agg #[.slice xa xn xc,.slice (some ⟨g,o,none⟩) 1 cg]) 1).run Tryz.prog U=.ok (.slice (some ⟨g,o,none⟩) 1 cg) U:=fun _=>by kernel_rfl
  clear hb c0 c1 c2;go_wp2;refine bS (jz.result2 rfl _ rfl) rfl ?_;exact⟨rfl,G8⟩
 ·have HQ:=hid (q9.o ly);have rL:(fe==0)=false:=by simpa using ly
  obtain⟨k0,k1,k2,f0,f1,f2⟩:=hK.2.facts;have jz:=hK.2.put false ⟨#[]⟩ ⟨#[]⟩;have G8:=cQ hK.1.2 (show w.heap.size<=w.heap.size+1 by omega) (.bool false) (.string ⟨#[]⟩) (.string ⟨#[]⟩);clear ly vr q9;go_wp2;refine bS (jz.result2 rfl _ rfl) rfl ?_;exact⟨by rw[HQ.o];rfl,G8⟩
theorem Nl:∀l:List Fr,l.length+sw l<=fw l
 |[]=>aq _
 |f::l=>by
  have:=Nl l;rw[dI,sw,fw];omega
theorem Tr (h:∀l∈R,fw l<=400):∀us:List Nat,wR R us<=400*us.length
 |[]=>aq _
 |v::vs=>by
  have h1:=Tr h vs
  have h2:(R.getD v []).length+sw (R.getD v [])<=400:=by
   by_cases hv:v<R.length
   ·rw[bU,a8 hv];exact aL (Nl _) (h _ (bM hv))
   ·rw[bU,iJ (by omega)];exact aL (Nl _) (by decide)
  rw[wR,dI];omega
theorem NM.lite (h:NM V L R):p6 V R:=by
 have h1:=aan R (List.range V.length);have h2:=Tr h.light (List.range V.length);have h3:=h.six;rw[A6] at h2;show (B (fA R (List.range V.length))).size<=4000;omega
theorem NM.ni4 (h:NM V L R) {b c:Option Addr} (hn:jA w a b c V L R) (hl:tC w b L):Cu w a b c V L R:=
 ⟨hn,hl,h.small,fun l kg=>by have:=h.light l kg;omega,h.lite,fun _=>by have:=ajH h;omega⟩
theorem NZ (h0:bj V L R=0) {l:List (Nat×Nat)} (hl:gW (ar V) V.length l):iE V L R (zF l)=0/\xS V L R (zF l)=qF (aX V L R l):=by
 have e:iE V L R (zF l)=0:=by
  rw[iE,aA h0];refine yC fun j hj=>?_;have hj':j<l.length:=by rw[od] at hj;exact hj
  have hm:=bM hj';have e1:(zF l)[j]=((l[j].1:Int),(l[j].2:Int)):=by simp[zF]
  have h1:=hl.lt _ hm;have h2:=hl.val _ hm;refine aae hj (by rw[e1];exact⟨Jz _,by show ((l[j].1:Nat):Int)<_;omega⟩) (by rw[e1];exact⟨Jz _,by show ((l[j].2:Nat):Int)<((sz (ar V) ((l[j].1:Nat):Int).toNat:Nat):Int);rw[mE];omega⟩) ?_;rw[Jw];intro p hp;obtain⟨i,hi,rfl⟩:=iZ hp;rw[dP,od] at hi;have wH:i<l.length:=by omega
  have e2:((zF l).take j)[i]'(by rw[dP,od];omega)=((l[i].1:Int),(l[i].2:Int)):=by rw[zm];simp[zF]
  rw[e1,e2];have jO:=vK.1 hl.nd i j (by simpa using wH) (by simpa using hj') (by omega);simp only[lV] at jO;intro he;have he':((l[i].1:Nat):Int)=((l[j].1:Nat):Int):=by simpa using he
  exact jO (by omega)
 refine⟨e,?_⟩;rw[xS,aA e,BB]
variable {neg:Bool} {den num:ByteArray} {ca cb cc g:Nat} {W':World}
structure TS (w W:World) (B:Nat) (a b c:Option Addr) (ca cb cc:Nat) (V:List Vr) (L:List (List Int)) (R:List (List Fr)):Prop where
 box:cR W B (.slice a V.length ca) (.slice b L.length cb) (.slice c R.length cc)
 net:Cu W a b c V L R
 fr:Below w.heap.size w W
theorem TS.step {W:World} {B:Nat} {b c:Option Addr} (h:TS w W B a b c ca cb cc V L R) (hb:Below W.heap.size W W'):TS w W' B a b c ca cb cc V L R:=
 ⟨h.box.aa hb h.box.lt,h.net.aa hb,h.fr.trans (hb.af h.fr.size)⟩
theorem zz {M:List Int} (h:Up l n):Up (ic l M) n:=
 gj.2 ⟨fun x hx=>(gj.1 h).1 x (dE.1 hx).1,(gj.1 h).2.filter _⟩
theorem M8 (h:Up l n) (hn:n<=6):l.length<=6:=by have:=h.length;omega
theorem aks {x y z:List Int} (hx:Up x n) (hy:Up y n) (hz:Up z n):LR n [x,ic y x,ic (ic z x) (ic y x)]=true:=by
 have hr:nO [x,ic y x,ic (ic z x) (ic y x)] n=true:=by
  rw[nO,fE];intro l hl;simp only[dG,kC,sF] at hl;rcases hl with rfl |rfl |rfl
  ·exact FD hx
  ·exact FD (zz hy)
  ·exact FD (zz (zz hz))
 have hmem:∀ {l M:List Int} {v:Int},v∈ic l M ->v∈l/\¬v∈M:=fun {l M v} h=>by
  obtain⟨h1,h2⟩:=dE.1 h;refine⟨h1,fun hm=>?_⟩;rw[Xk.2 hm] at h2;cases h2
 rw[LR,hr,Df,eh];simp only[List.flatten_cons,List.flatten_nil,xJ,A4,cI];refine⟨Na hx,⟨Na (zz hy),Na (zz (zz hz)),fun u hu v hv e=>?_⟩,fun u hu v hv e=>?_⟩
 ·subst e;exact(hmem hv).2 hu
 ·subst e;rcases hv with hv |hv
  ·exact(hmem hv).2 hu
  ·exact(hmem (hmem hv).1).2 hu
theorem aiN {l:List (Nat×Nat)} {u:List Nat} (e:l.map (·.1)=u) (hn:u.Nodup) (hlt:∀v∈u,v<V.length) (hv:∀p∈l,p.2<sz (ar V) p.1):gW (ar V) V.length l:=
 ⟨by rw[e];exact hn,fun p hp=>hlt p.1 (by rw[<- e];exact aW.2 ⟨p,hp,rfl⟩),hv⟩
theorem gW.sub {l m:List (Nat×Nat)} (h:gW S n l) (hs:m.Sublist l):gW S n m:=⟨h.nd.sublist (hs.map _),fun p hp=>h.lt p (hs.subset hp),fun p hp=>h.val p (hs.subset hp)⟩
theorem aiM {x y z:List Int} (hap:LR V.length [x,y,z]=true) {fx fy fz:List (Nat×Nat)} (ex:fx.map (·.1)=ag x) (ey:fy.map (·.1)=ag y) (ez:fz.map (·.1)=ag z) (vx:∀p∈fx,p.2<sz (ar V) p.1) (vy:∀p∈fy,p.2<sz (ar V) p.1) (vz:∀p∈fz,p.2<sz (ar V) p.1):
  gW (ar V) V.length (fx++fy++fz)/\gW (ar V) V.length (fx++fz)/\gW (ar V) V.length (fy++fz)/\gW (ar V) V.length fz:=by
 rw[LR,iK,eh] at hap;obtain⟨hr,hn⟩:=hap;have aT:∀l∈[x,y,z],Up l V.length:=fun l hl=>xQ (fE.1 hr l hl);have e:(fx++fy++fz).map (·.1)=ag (x++(y++z)):=by rw[dL,dL,ex,ey,ez,TU,TU,nZ]
 have hn':(x++(y++z)).Nodup:=by simpa using hn
 have hmem:∀v∈x++(y++z),0<=v/\v<V.length:=fun v hv=>by
  rcases cI.1 hv with hv |hv
  ·exact Nb (aT x (by simp)) hv
  ·rcases cI.1 hv with hv |hv
   ·exact Nb (aT y (by simp)) hv
   ·exact Nb (aT z (by simp)) hv
 have h1:gW (ar V) V.length (fx++fy++fz):=by
  refine aiN e ?_ (fun v hv=>?_) (fun p hp=>?_)
  ·rw[ag];refine C9.2 (hn'.imp_of_mem fun {a b} ha hb hab=>?_);have:=hmem a ha;have:=hmem b hb;omega
  ·obtain⟨u,hu,rfl⟩:=aW.1 hv;have:=hmem u hu;omega
  ·rcases cI.1 hp with hp |hp
   ·rcases cI.1 hp with hp |hp
    ·exact vx p hp
    ·exact vy p hp
   ·exact vz p hp
 refine⟨h1,h1.sub ?_,h1.sub ?_,h1.sub ?_⟩
 ·exact List.Sublist.append_right (List.sublist_append_left _ _) _
 ·exact List.Sublist.append_right (List.sublist_append_right _ _) _
 ·exact List.sublist_append_right _ _
theorem aF.three (h:aF w g neg num den):w.cell? ⟨g,0,none⟩=some (.bool neg)/\w.cell? ⟨g,1,none⟩=some (.string num)/\w.cell? ⟨g,2,none⟩=some (.string den):=⟨h.c0,h.c1,h.c2⟩
theorem abz (l m:List (Nat×Nat)):zF (l++m)=zF l++zF m:=dL
theorem ajC {q:List Nat} (hp:Pos (ar V)) (hq:q.Nodup) (hlt:∀v∈q,v<V.length):cnt (ar V) q<=cnt (ar V) (List.range V.length):=by
 rw[<- JQ, <- JQ]
 have h1:iu (ar V) q=iu (ar V) ((List.range V.length).filter fun v=>q.contains v):=by
  have hperm:=Gd hq hlt;generalize ((List.range V.length).filter fun v=>q.contains v)=b at hperm;clear hq hlt;induction hperm with
  |nil=>rfl
  |cons x _ ih=>rw[iu,iu,ih]
  |swap x y l=>simp only[iu];rw[<- gg, <- gg,cV (sz _ _) (sz _ _)]
  |trans _ _ h1 h2=>rw[h1,h2]
 rw[h1];exact acI hp Fv
def rX (V:List Vr) (L:List (List Int)) (R:List (List Fr)) (Q:List Int) (F:List (Int×Int)):Int:=
 if iE V L R F=0 then(if (iF (iL (ar V)) Q).2=0 then(if (F.any fun p=>jc p.1 Q)=true then 7 else 0) else(iF (iL (ar V)) Q).2) else iE V L R F
def mF (V:List Vr) (L:List (List Int)) (R:List (List Fr)) (Q:List Int) (F:List (Int×Int)):Int:=
 if rX V L R Q F=0 then(if bH (cM V L R Q (nF F)).2=0 then 3 else 0) else rX V L R Q F
def fG (V:List Vr) (L:List (List Int)) (R:List (List Fr)) (Q:List Int) (F:List (Int×Int)):Tb:=
 if mF V L R Q F=0 then(Q,jy (cM V L R Q (nF F)).2) else([],[])
theorem akt (Q:List Int) (F:List (Int×Int)):(F.any fun p=>jc p.1 Q)=Q.any fun v=>F.any fun p=>p.1==v:=by
 rw[tZ,sJ,sJ];constructor
 ·rintro⟨p,hp,h⟩;obtain⟨x,hx,e⟩:=sJ.1 h;exact⟨x,hx,sJ.2 ⟨p,hp,by rw[p8] at e⊢;exact e.symm⟩⟩
 ·rintro⟨v,hv,h⟩;obtain⟨p,hp,e⟩:=sJ.1 h;exact⟨p,hp,sJ.2 ⟨v,hv,by rw[p8] at e⊢;exact e.symm⟩⟩
theorem ajz {Q:List Int} (h:(iF (iL (ar V)) Q).2=0):Up Q V.length:=by
 cases hb:countB (iL (ar V)) Q with
 |false=>rw[Cq hb] at h;exact absurd h (by decide)
 |true=>
  rw[countB,iK] at hb;have:=xQ hb.2;rwa [bs,kI] at this
theorem akq {Q:List Int} {l:List (Nat×Nat)} (hq:Up Q n) (h:((zF l).any fun p=>jc p.1 Q)=false):∀v∈ag Q,¬v∈l.map (·.1):=fun v hv hm=>by
 obtain⟨p,hp,rfl⟩:=aW.1 hm;refine Jw.1 h ((p.1:Int),(p.2:Int)) (aW.2 ⟨p,hp,rfl⟩) ?_;obtain⟨x,hx,e⟩:=aW.1 hv;have:=(Bd hq x hx).1;refine sJ.2 ⟨x,hx,p8.2 ?_⟩;have e':x.toNat=p.1:=e;show x=(p.1:Int);omega
theorem En (g:Nat ->Rat):∀n,bH ((List.range n).map fun K=>qF (g K))=ba g n
 |0=>rfl
 |n+1=>by
  rw[oY,dL,List.map_singleton,Lq,En g n];show ba g n+a7 (qF (g n))=_;rw[mi];rfl
theorem alr (h:n<=4294967296):(B n).size<=5:=by
 have h1:=i6 h;have h2:(B 4294967296).size<=5:=by rw[kA];exact nM 5 4294967296 (by decide)
 omega
theorem TR (h0:bj V L R=0) (hD:p6 V R) (Q:List Int) (l:List (Nat×Nat)):∀k (h:k<(cM V L R Q l).2.length),(cM V L R Q l).2[k].2.1.size+(cM V L R Q l).2[k].2.2.size<=40000:=fun k h=>by
 have e:(cM V L R Q l).2[k]=qF (aX V L R (qV (ar V) (ag Q) k++l)):=by simp[cM]
 rw[e,NV,DK];have:=KA h0 (uf h0) hD (qV (ar V) (ag Q) k++l) (aq _);omega
theorem TP (h0:bj V L R=0) (hD:p6 V R) {Q:List Int} (hq:Up Q V.length) (l:List (Nat×Nat)):∀k,k<=(cM V L R Q l).2.length ->qw (bH ((cM V L R Q l).2.take k))<=8005:=fun k hk=>by
 have hlen:(cM V L R Q l).2.length=cnt (ar V) (ag Q):=by simp[cM]
 have e:(cM V L R Q l).2.take k=(List.range k).map fun K=>qF (aX V L R (qV (ar V) (ag Q) K++l)):=by
  rw[cM, <- Jp,List.take_range,p9 (by omega)]
 rw[e,En];have hp:=uf h0;have hz:fA R (List.range V.length)≠0:=(PD.net (V:=V) (L:=L) h0 (fun v hv=>cH.1 hv)).nz.1
 have h1:dS (fA R (List.range V.length)) (ba (fun K=>aX V L R (qV (ar V) (ag Q) K++l)) k):=dS.sum fun K _=>by
  rw[DK];exact dS.sum fun x hx=>(RF h0 hp _ hx).1
 have h2:jW (k*(cnt (ar V) (List.range V.length)*1)) (ba (fun K=>aX V L R (qV (ar V) (ag Q) K++l)) k):=jW.sum fun K _=>by
  rw[DK];exact jW.sum fun x hx=>(RF h0 hp _ hx).2
 have h3:=h1.size hz h2;have h4:=aaZ h0;have h5:=Re (iz h0).fine hq.nodup (by rw[kI];exact hq.aa);have h6:k*(cnt (ar V) (List.range V.length)*1)<=65536*65536:=jm (by omega) (by omega);have h7:=alr (n:=k*(cnt (ar V) (List.range V.length)*1)) (by omega);have h8:(B (fA R (List.range V.length))).size<=4000:=hD;omega
theorem TQ (h0:bj V L R=0) (hD:p6 V R) {Q:List Int} (hq:Up Q V.length) (l:List (Nat×Nat)):∀k,k<=(cM V L R Q l).2.length ->qw (bH ((cM V L R Q l).2.take k))<=40000:=fun k hk=>aL (TP h0 hD hq l k hk) (by decide)
theorem aci (h0:bj V L R=0) {Q:List Int} (hq:Up Q V.length) (l:List (Nat×Nat)):jh (iL (ar V)) Q (cM V L R Q l).2.length=0:=
 Rh (Co (iz h0).fine (by rw[bs,kI];exact hq)) (by rw[fF];simp[cM])
theorem ach (h0:bj V L R=0) {Q:List Int} (hq:Up Q V.length) (l:List (Nat×Nat)) (hc:cnt (ar V) (List.range V.length)<=800):(cM V L R Q l).2.length<=800/\1<=(cM V L R Q l).2.length:=by
 have e:(cM V L R Q l).2.length=cnt (ar V) (ag Q):=by simp[cM]
 have h1:=ajC (uf h0) hq.nodup hq.aa;have h2:=Ic (uf h0) (ag Q);omega
theorem agU:∀ {m:List (Nat×Nat)} (f:Nat ->Nat),(∀p∈m,f p.1=p.2) ->pw S (m.map (·.1)) (m.map (·.2)) m.length=pos S f (m.map (·.1)):=fun {m} f hf=>by
 have key:∀n,n<=m.length ->pw S (m.map (·.1)) (m.map (·.2)) n=pos S f ((m.map (·.1)).take n):=fun n=>by
  induction n with
  |zero=>intro _;rw[Fo];rfl
  |succ n ih=>
   intro hn;(have hl:n<(m.map (·.1)).length:=by rw[cX];omega);rw[OU,ih (by omega),Vj S f hl];(have e1:(m.map (·.1)).getD n 0=(m.map (·.1))[n]:=by rw[bU,a8 hl];rfl);(have e2:(m.map (·.2)).getD n 0=m[n].2:=by rw[bU,a8 (by rw[cX];omega)];simp);rw[e1,e2];(have e3:f (m.map (·.1))[n]=m[n].2:=by rw[lV];exact hf _ (bM _));rw[e3]
 have:=key m.length (aq _);rwa [jn (by simp)] at this
theorem aaV (h0:bj V L R=0) {Q:List Int} (hq:Up Q V.length) {l:List (Nat×Nat)} (hl:gW (ar V) V.length l) (hd:∀v∈ag Q,¬v∈l.map (·.1)):rX V L R Q (zF l)=0:=by
 have hc:(iF (iL (ar V)) Q).2=0:=by
  have cZ:(iL (ar V)).length=V.length:=by rw[bs,kI]
  have h1:=Co (iz h0).fine (by rw[cZ];exact hq);rw[iF,aA h1]
 have ha:¬((zF l).any fun p=>jc p.1 Q)=true:=fun h=>by
  obtain⟨p,hp,hin⟩:=sJ.1 h;obtain⟨r,hr,rfl⟩:=aW.1 hp;have h1:=Xk.1 hin;refine hd r.1 ?_ (aW.2 ⟨r,hr,rfl⟩);exact aW.2 ⟨_,h1,mE r.1⟩
 rw[rX,aA (NZ h0 hl).1,aA hc,aD ha]
theorem TN (h0:bj V L R=0) {Q:List Int} (hq:Up Q V.length) (l:List (Nat×Nat)):bH (cM V L R Q l).2=aX V L R l:=by
 rw[cM];show bH ((List.range (cnt (ar V) (ag Q))).map fun K=>qF (aX V L R (qV (ar V) (ag Q) K++l)))=_;rw[En (fun K=>aX V L R (qV (ar V) (ag Q) K++l)),WU h0 (hq.nodup)]
theorem Q1 (c:Rat) (g:Nat ->Rat):∀n,ba (fun K=>g K*c) n=ba g n*c
 |0=>by rw[ba,ba,Rat.zero_mul]
 |n+1=>by rw[ba,ba,Q1 c g n,Rat.add_mul]
theorem bay (h0:bj V L R=0) {Q:List Int} (hq:Up Q V.length) {l m:List (Nat×Nat)} (hl:gW (ar V) V.length l) (hm:gW (ar V) V.length m) (em:m.map (·.1)=ag Q) (hd:∀v∈ag Q,¬v∈l.map (·.1)):
  (aX V L R l=0 ->mF V L R Q (zF l)=3)/\(aX V L R l≠0 ->mF V L R Q (zF l)=0/\(fG V L R Q (zF l)).1=Q/\∃K:Nat,rH (iL (ar V)) Q (iL (m.map (·.2)))=((K:Int),0)/\∃h:K<(fG V L R Q (zF l)).2.length,(fG V L R Q (zF l)).2[K]=qF (aX V L R (m++l)*(1/aX V L R l))/\bH (fG V L R Q (zF l)).2=1):=by
 have hp:=uf h0;have has:=aaV h0 hq hl hd;have BP:=TN h0 hq l;refine⟨fun e=>?_,fun e=>?_⟩
 ·rw[mF,aA has,BB,BP,aA e]
 ·have qm:mF V L R Q (zF l)=0:=by rw[mF,aA has,BB,BP,aD e]
  have hT:fG V L R Q (zF l)=(Q,jy (cM V L R Q l).2):=by rw[fG,aA qm,BB]
  have hf:Fit (ar V) (eG m fun _=>0):=fun u=>by
   by_cases hu:u∈m.map (·.1)
   ·obtain⟨p,wC,rfl⟩:=aW.1 hu;rw[J9 hm.nd wC];exact hm.val p wC
   ·rw[J8 hu];exact kF hp u
  have YC:∀p∈m,(eG m fun _=>0) p.1=p.2:=fun p wC=>J9 hm.nd wC _;have XT:=hq.nodup;have Zy:=o7 (eG m fun _=>0) hf (ag Q)
  have hqV:qV (ar V) (ag Q) (pos (ar V) (eG m fun _=>0) (ag Q))=m:=by
   rw[qV];(have e1:∀v∈ag Q,(v,aV (ar V) (ag Q) (pos (ar V) (eG m fun _=>0) (ag Q)) v)=(v,(eG m fun _=>0) v):=fun v hv=>by rw[Aq hp hf XT v hv]);rw[qd e1, <- em,tX];refine(qd fun p wC=>?_).trans (List.map_id m);show (p.1,(eG m fun _=>0) p.1)=p;rw[YC p wC]
  have cZ:(iL (ar V)).length=V.length:=by rw[bs,kI]
  have Zr:Q.length=m.length:=by
   have:=cU List.length em;rw[cX,cY] at this;omega
  have hix:rH (iL (ar V)) Q (iL (m.map (·.2)))=(((pos (ar V) (eG m fun _=>0) (ag Q):Nat):Int),0):=by
   rw[Xj (Co (iz h0).fine (by rw[cZ];exact hq)) (by rw[bs,cX,Zr])]
   ·rw[fF,fF,Zr, <- em,agU _ YC]
   ·rw[fE];intro i hi;(have hi':i<m.length:=by have:=cH.1 hi;omega);have hv:=hm.val _ (bM hi');(have e1:(iL (m.map (·.2))).getD i 0=((m[i].2:Nat):Int):=by rw[iL,bU,kD,kD,a8 hi'];rfl);(have e2:(ag Q).getD i 0=m[i].1:=by rw[<- em,bU,kD,a8 hi'];rfl);rw[o0,eh,fF,e1,e2];omega
  have hlen:(jy (cM V L R Q l).2).length=cnt (ar V) (ag Q):=by rw[Ks];simp[cM]
  refine⟨qm,by rw[hT],_,hix,?_⟩;rw[hT];refine⟨by rw[hlen];exact Zy,?_,?_⟩
  ·rw[Wj,BP];(have e1:(cM V L R Q l).2[pos (ar V) (eG m fun _=>0) (ag Q)]'(by simp[cM];exact Zy)=qF (aX V L R (m++l)):=by simp only[cM,lV,Dc,hqV]);rw[e1,mi]
  ·have e1:jy (cM V L R Q l).2=(List.range (cnt (ar V) (ag Q))).map fun K=>qF (aX V L R (qV (ar V) (ag Q) K++l)*(1/aX V L R l)):=by
    rw[jy,BP];show List.map _ ((List.range (cnt (ar V) (ag Q))).map _)=_;rw[tX];refine qd fun K _=>?_;show qF (a7 (qF _)*_)=_;rw[mi]
   rw[e1,En (fun K=>aX V L R (qV (ar V) (ag Q) K++l)*(1/aX V L R l)),Q1,WU h0 XT,Fg,rp,vH,Rat.inv_mul_cancel _ e]
theorem aef (h0:bj V L R=0) (hD:p6 V R) {Q:List Int} (hq:Up Q V.length) {l:List (Nat×Nat)} (hl:gW (ar V) V.length l) (hd:∀v∈ag Q,¬v∈l.map (·.1)) (e:aX V L R l≠0):
  (∀k (h:k<(fG V L R Q (zF l)).2.length),(fG V L R Q (zF l)).2[k].2.1.size+(fG V L R Q (zF l)).2[k].2.2.size<=40000)/\(∀k,k<=(fG V L R Q (zF l)).2.length ->qw (bH ((fG V L R Q (zF l)).2.take k))<=40000)/\(fG V L R Q (zF l)).2.length=cnt (ar V) (ag Q):=by
 have has:=aaV h0 hq hl hd;have BP:=TN h0 hq l;have qm:mF V L R Q (zF l)=0:=by rw[mF,aA has,BB,BP,aD e]
 have hT:fG V L R Q (zF l)=(Q,jy (cM V L R Q l).2):=by rw[fG,aA qm,BB]
 have hlen:(jy (cM V L R Q l).2).length=cnt (ar V) (ag Q):=by rw[Ks];simp[cM]
 have wB:=KA h0 (uf h0) hD l (aq _);rw[<- DK] at wB;have hinv:=NT e
 have hcell:∀K,qw (aX V L R (qV (ar V) (ag Q) K++l))<=8003:=fun K=>by
  rw[DK];exact KA h0 (uf h0) hD _ (aq _)
 have e1:jy (cM V L R Q l).2=(List.range (cnt (ar V) (ag Q))).map fun K=>qF (aX V L R (qV (ar V) (ag Q) K++l)*(1/aX V L R l)):=by
  rw[jy,BP];show List.map _ ((List.range (cnt (ar V) (ag Q))).map _)=_;rw[tX];refine qd fun K _=>?_;show qF (a7 (qF _)*_)=_;rw[mi]
 rw[hT];refine⟨fun k h=>?_,fun k hk=>?_,?_⟩
 ·have e2:(jy (cM V L R Q l).2)[k]=qF (aX V L R (qV (ar V) (ag Q) k++l)*(1/aX V L R l)):=by simp[e1]
  show ((jy (cM V L R Q l).2)[k]).2.1.size+((jy (cM V L R Q l).2)[k]).2.2.size<=40000;rw[e2,NV];have:=NS (aX V L R (qV (ar V) (ag Q) k++l)) (1/aX V L R l);have:=hcell k;omega
 ·have eV:k<=cnt (ar V) (ag Q):=by rw[<- hlen];exact hk
  have e2:(jy (cM V L R Q l).2).take k=(List.range k).map fun K=>qF (aX V L R (qV (ar V) (ag Q) K++l)*(1/aX V L R l)):=by
   rw[e1, <- Jp,List.take_range,p9 eV]
  have e3:(cM V L R Q l).2.take k=(List.range k).map fun K=>qF (aX V L R (qV (ar V) (ag Q) K++l)):=by
   rw[cM, <- Jp,List.take_range,p9 eV]
  have h8:=TP h0 hD hq l k (by simp[cM];exact eV);rw[e3,En (fun K=>aX V L R (qV (ar V) (ag Q) K++l))] at h8;show qw (bH ((jy (cM V L R Q l).2).take k))<=40000;rw[e2,En (fun K=>aX V L R (qV (ar V) (ag Q) K++l)*(1/aX V L R l)),Q1];have:=NS (ba (fun K=>aX V L R (qV (ar V) (ag Q) K++l)) k) (1/aX V L R l);omega
 ·exact hlen
theorem ab7 (a:Option Addr) (ca:Nat) (l:List (Nat×Nat)) (w:World) (h:ky w a (zF l)) (hn:l.length<=1000):
  Calls Tryz.prog 23 #[.slice a (zF l).length ca] w fun e w'=>∃d cd,e=.returned (.slice d (iL (l.map (·.2))).length cd)/\aC w' d (iL (l.map (·.2)))/\Below w.heap.size w w':=by
 obtain⟨i0,bY,hz0,hz1,hz2⟩:=dH Tryz.infoInt;have HF:=hid h
 have HT:Hid (∀i (h:i<l.length),iL ((l.take (i+1)).map (·.2))=iL ((l.take i).map (·.2))++[((l[i].2:Nat):Int)]):=fun i h=>by
  rw[fP h,dL,iL,iL,dL];rfl
 have q8:Hid (∀i,(iL ((l.take i).map (·.2))).length<=1000):=fun i=>by
  rw[bs,cX,dP];omega
 have hall:iL ((l.take l.length).map (·.2))=iL (l.map (·.2)):=by rw[gX]
 have hnil:iL ((l.take 0).map (·.2))=[]:=by rw[Fo];rfl
 have hZ:∀i (h:i<l.length),(zF l)[i]'(by rw[od];exact h)=((l[i].1:Int),(l[i].2:Int)):=fun i h=>by simp[zF]
 have HZ:=hid hZ;rw[od, <- hall];clear h hall hZ;generalize hg:(fun i=>iL ((l.take i).map (·.2)))=F at *;have hF:∀i,iL ((l.take i).map (·.2))=F i:=fun i=>by rw[<- hg]
 simp only[hF] at HT q8 hnil⊢;clear hg hF;go_enter Tryz.func23,Tryz.ntmps23;go_wp2_with fail
 go_loopw [3,4] (fun xv iv wr=>∃i:Nat,i<=l.length/\iv=.int .i64 i/\Hid (bA wr w.heap.size xv (F i))/\Hid (Below w.heap.size w wr)) (fun _ iv _=>l.length - (intOf iv).toNat)
 case atStart=>exact⟨0,aU _,rfl,by rw[hnil];exact⟨rfl,.inl ⟨rfl,rfl⟩⟩,au _ _⟩
 case round=>
  obtain⟨i,hi,rfl,HR,HB⟩:=hrel;by_cases hlt:i<l.length
  ·obtain⟨g,o,rfl,hg,c0,c1⟩:=(HF.o.aa HB.o) i (by rw[od];exact hlt);rw[HZ.o i hlt] at c0 c1;have vk:=hid (HT.o i hlt);have hle:=q8.o i;generalize l[i].2=u at *;have nP:=hid HR.o.own;have mM:Hid (bA (wr.alloc (.cells #[.int .i64 (u:Nat)] 3)) w.heap.size _ (F i)):=E9 HR.o _;have bW:=hid (HB.o.alloc HB.o.size (.cells #[.int .i64 (u:Nat)] 3));have kY:=hid (Ou wr (u:Nat));go_wp2_with (at_builtin;refine vO rfl _ _ rfl w.heap.size _ (F i) [((u:Nat):Int)] rfl mM.o (some ⟨wr.heap.size,0,none⟩) 1 rfl kY.o (fun e=>by cases e) (by simp;omega) bW.o.size ?_;intro v' w2 hr2 hg2)
   have eJ:=hid hr2;have bB:=hid (bW.o.grown hg2 bW.o.size nP.o);clear hr2 hg2;go_roundw
   case rel=>exact⟨i+1,by omega,by go_num,by rw[vk.o];exact eJ,bB⟩
   case measure=>simp[intOf];omega
  ·obtain rfl:i=l.length:=by omega
   go_wp2;go_ret;obtain⟨d,cd,rfl,hi'⟩:=HR.o.ints;exact⟨d,cd,rfl,hi',HB.o⟩
theorem adN (a:Option Addr) (cap:Nat) (l:List Fr) (w:World) (h:dA w a l) (hl:∀k (h:k<l.length),l[k].2.1.size+l[k].2.2.size<=40000) (hq:∀k,k<=l.length ->qw (bH (l.take k))<=40000) (hn:l.length<=10000):
  Calls Tryz.prog 27 #[.slice a l.length cap] w fun e w'=>e=.returned (C (bH l))/\Below w.heap.size w w':=by
 have HF:=aB h;clear h;have I6:Hid (bH (l.take l.length)=bH l):=by show _=_;rw[gX]
 have HO:=aB (fun V=>J7 0 V (by omega) (by omega));rw[Fe] at HO;go_enter Tryz.func27,Tryz.ntmps27;have hbr:=aF.at (w:=w) rfl false ⟨#[]⟩ ⟨#[]⟩;have hB0:Below w.heap.size w (w.alloc (FC false ⟨#[]⟩ ⟨#[]⟩)):=(au _ w).alloc (aq _) _;go_wp2_with fail
 refine(HO.o _).af ?_;rintro e w1 ⟨rfl,hb1⟩;have hr1:=hbr.aa hb1 hbr.lt;have hB1:Below w.heap.size w w1:=hB0.trans (hb1.af hB0.size);clear hbr hB0 hb1;rw[kz];go_wp2_with fail
 have Yf:=hr1.lt;go_loopw [4] (fun iv wr=>∃k:Nat,k<=l.length/\iv=.int .i64 k/\Hid (aF wr w1.heap.size (aM (bH (l.take k))) (nu (bH (l.take k))) (de (bH (l.take k))))/\Hid (aF wr w.heap.size false ⟨#[]⟩ ⟨#[]⟩)/\Below w.heap.size w wr) (fun iv _=>l.length - (intOf iv).toNat)
 case atStart=>exact⟨0,aU _,rfl,aF.at rfl _ _ _,hr1.alloc _,hB1.alloc hB1.size _⟩
 case round=>
  obtain⟨k,hk,rfl,HS,HR,bI⟩:=hrel;by_cases hlt:k<l.length
  ·obtain⟨g,o,rfl,hg,c0,c1,c2⟩:=(HF.o.aa bI) k hlt;have hstep:=take_one hlt;have hmem:=hl k hlt;have pI:=hq k hk;have hz:=nj (bH (l.take k));have Jc:=aB (fun V=>U9 (aM (bH (l.take k))) l[k].1 (nu (bH (l.take k))) (de (bH (l.take k))) l[k].2.1 l[k].2.2 V (by omega) (by omega));rw[gi,show val l[k].1 l[k].2.1 l[k].2.2=Cm l[k] from rfl, <- hstep] at Jc;have pN:=HS.o;clear HS hstep hmem pI hz;generalize l[k].1=fn at *;generalize l[k].2.1=fx at *;generalize l[k].2.2=fy at *;obtain⟨k0,k1,k2,f0,f1,f2⟩:=pN.facts;have cE:=pN.lt;go_upto_region 5 with fail
   go_region_with (
     (go_at_call 71;refine(Jc.o _).af ?_;rintro e w2 ⟨rfl,hb2⟩;have hs2:=pN.drew.aa hb2 pN.lt;have hr2:=(aF.drew HR.o).aa hb2 HR.o.lt;have hB2:=bI.drew.trans (hb2.af bI.size);obtain⟨k0,k1,k2,f0,f1,f2⟩:=hs2.facts;rw[kz]))
   all_goals
    go_wp2;go_roundw
    case rel=>exact⟨k+1,by omega,by go_num,hs2.put _ _ _,hr2.far3 (by omega) _ _ _,cQ hB2 hB1.size _ _ _⟩
    case measure=>simp[intOf];omega
  ·obtain rfl:k=l.length:=by omega
   have pN:=HS.o;rw[I6.o] at pN;obtain⟨k0,k1,k2,f0,f1,f2⟩:=pN.facts;obtain⟨j0,j1,j2,i0,i1,i2⟩:=HR.o.facts;go_wp2;refine bS ((HR.o.put _ _ _).result rfl _ rfl) rfl ?_;exact⟨rfl,cQ bI (aq _) _ _ _⟩
theorem agV (a:Option Addr) (ca f:Nat) (lb:Array Value) (F:List Int) (p:Int ->Bool) (w:World) (h:aC w a F) (hn:F.length<=1000) (eF:∀args w,(callFunc f args).run Tryz.prog w=.ok (.enter f args) w)
  (hp:∀q∈F,∀U:World,Below w.heap.size w U ->Calls Tryz.prog f (#[.int .i64 q]++lb) U fun e w'=>e=.returned (.bool (p q))/\Below U.heap.size U w'):
  Calls Tryz.prog 83 #[.slice a F.length ca,.func (.func f) #[] lb] w fun e w'=>∃j:Int,e=.returned (.int .i64 j)/\decide (0<=j)=F.any p/\Below w.heap.size w w':=by
 have HF:=hid h;have HP:=hid hp
 have gG:Hid ((∀i (hi:i<F.length),p F[i]=false) ->F.any p=false):=fun hh=>Jw.2 fun q hq=>by
  obtain⟨i,hi,rfl⟩:=iZ hq;rw[hh i hi];decide
 have RN:Hid (∀i (hi:i<F.length),p F[i]=true ->F.any p=true):=fun i hi hh=>sJ.2 ⟨_,bM hi,hh⟩;clear h hp;generalize F.any p=R at *;go_enter Tryz.func83,Tryz.ntmps83;go_wp2_with fail
 go_loopw [8] (fun iv wr=>∃i:Nat,i<=F.length/\iv=.int .i64 i/\Hid (∀j (hj:j<F.length),j< i ->p F[j]=false)/\Hid (Below w.heap.size w wr)) (fun iv _=>F.length - (intOf iv).toNat)
 case atStart=>exact⟨0,aU _,rfl,(fun j _ hj=>absurd hj (by omega)),au _ _⟩
 case round=>
  obtain⟨i,hi,rfl,HN,HB⟩:=hrel;by_cases hlt:i<F.length
  ·obtain⟨g,o,rfl,hg,h0⟩:=HF.o i hlt;have k0:=(HB.o.cell (p:=⟨g,_,none⟩) hg).trans h0;have HC:=hid (HP.o F[i] (bM hlt) wr HB.o);have RM:=hid (RN.o i hlt)
   have tO:Hid (p F[i]=false ->∀j (hj:j<F.length),j<i+1 ->p F[j]=false):=fun e j hj ux=>by
    rcases cT j i with h2 |h2
    ·exact HN.o j hj h2
    ·obtain rfl:j=i:=by omega
     exact e
   clear h0;generalize p F[i]=q at *;generalize F[i]=f1 at *;go_wp2_with fail
   refine HC.o.af ?_;rintro e w2 ⟨rfl,hb2⟩;have bB:=hid (HB.o.trans (hb2.af HB.o.size));clear hb2 HC;cases q with
   |true=>
    have HE:=hid (RM.o rfl);go_wp2;go_ret;exact⟨(i:Nat),rfl,by rw[HE.o];simp,bB.o⟩
   |false=>
    have HE:=hid (tO.o rfl);go_wp2;go_roundw
    case rel=>exact⟨i+1,by omega,by go_num,HE,bB⟩
    case measure=>simp[intOf];omega
  ·obtain rfl:i=F.length:=by omega
   have HE:=hid (gG.o fun j hj=>HN.o j hj hj);go_wp2;go_ret;exact⟨-1,rfl,by rw[HE.o];rfl,HB.o⟩
theorem ajA (a:Option Addr) (ca f:Nat) (lb:Array Value) (F:List Int) (p:Int ->Bool) (w:World) (h:aC w a F) (hn:F.length<=1000) (eF:∀args w,(callFunc f args).run Tryz.prog w=.ok (.enter f args) w)
  (hp:∀q∈F,∀U:World,Below w.heap.size w U ->Calls Tryz.prog f (#[.int .i64 q]++lb) U fun e w'=>e=.returned (.bool (p q))/\Below U.heap.size U w'):
  Calls Tryz.prog 38 #[.slice a F.length ca,.func (.func f) #[] lb] w fun e w'=>e=.returned (.bool (F.any p))/\Below w.heap.size w w':=by
 have HI:=hid (agV a ca f lb F p w h hn eF hp);clear h hp;generalize F.any p=R at *;go_enter Tryz.func38,Tryz.ntmps38;go_wp2_with fail
 refine HI.o.af ?_;rintro e w2 ⟨j,rfl,hj,hb2⟩;have HB:=hid hb2;have HJ:=hid hj;clear hb2 hj;go_wp2;go_ret;exact⟨by rw[<- HJ.o];rfl,HB.o⟩
theorem aej (a:Option Addr) (ca:Nat) (F:List (Int×Int)) (v:Int) (B:Nat) (w:World) (h:ky w a F) (hn:F.length<=1000) (hc:w.cell? ⟨B,0,none⟩=some (.slice a F.length ca)):
  Calls Tryz.prog 39 #[.int .i64 v,.pointer (some ⟨B,0,none⟩)] w fun e w'=>e=.returned (.bool (F.any fun p=>p.1==v))/\Below w.heap.size w w':=by
 have HI:=hid (Xf a ca F v w h hn);clear h;generalize (F.any fun p=>p.1==v)=R at *;go_enter Tryz.func39,Tryz.ntmps39;go_wp2_with fail
 refine HI.o.af ?_;rintro e w2 ⟨rfl,hb2⟩;have HB:=hid hb2;clear hb2;go_wp2;go_ret;exact⟨rfl,HB.o⟩
theorem agY (a b c q f:Option Addr) (ca cb cc cq cf:Nat) (V:List Vr) (L:List (List Int)) (R:List (List Fr)) (Q:List Int) (F:List (Int×Int)) (w:World) (h:Cu w a b c V L R) (hq:aC w q Q) (hQ:Q.length<=1000) (hF:ky w f F) (hn:F.length<=1000) (G7:F.length<=cf):
  Calls Tryz.prog 11 #[.agg #[.slice a V.length ca,.slice b L.length cb,.slice c R.length cc],.slice q Q.length cq,.slice f F.length cf] w fun e w'=>uW (fG V L R Q F).1 (fG V L R Q F).2 (mF V L R Q F) e w'/\Below w.heap.size w w':=by
 have I5:=hid (fun (U:World) (hU:Below w.heap.size w U)=>Xc a b c f ca cb cc cf V L R F U (h.net.aa hU) h.sm (hF.aa hU) hn G7);have fN:=hid (fun (U:World) (hU:Below w.heap.size w U)=>Ge a b c ca cb cc L.length R.length V U (h.net.aa hU).vars h.sm.vars.1)
 have I7:Hid (∀(G:Nat) (U:World),Below w.heap.size w U ->ck U G (ar V) ->Calls Tryz.prog 37 #[.slice (some ⟨G,0,none⟩) V.length V.length,.slice q Q.length cq] U fun e w'=>e=.returned (.tuple #[.int .i64 (iF (iL (ar V)) Q).1,.int .i64 (iF (iL (ar V)) Q).2])/\Below U.heap.size U w'):=fun G U hU hi=>by
  have cZ:(iL (ar V)).length=V.length:=by rw[bs,kI]
  have hv5:=h.sm.vars.1;have:=JP (some ⟨G,0,none⟩) q V.length cq (iL (ar V)) Q U hi.ints (hq.aa hU) (by rw[cZ];omega) (by omega);rwa [cZ] at this
 have HCF:Hid (∀(B:Nat) (U:World),Below w.heap.size w U ->B<U.heap.size ->U.cell? ⟨B,0,none⟩=some (.slice f F.length cf) ->Calls Tryz.prog 38 #[.slice q Q.length cq,.func (.func 39) #[] #[.pointer (some ⟨B,0,none⟩)]] U fun e w'=>e=.returned (.bool (F.any fun p=>jc p.1 Q))/\Below U.heap.size U w'):=fun B U hU hB hc=>by
  rw[akt];exact ajA q cq 39 #[.pointer (some ⟨B,0,none⟩)] Q (fun v=>F.any fun p=>p.1==v) U (hq.aa hU) hQ (enters_of Tryz.func39 (by kernel_rfl) rfl) (fun v _ U' Eg=>aej f cf F v B U' ((hF.aa hU).aa Eg) hn ((Eg.cell (p:=⟨B,0,none⟩) hB).trans hc))
 have QJ:iE V L R F=0 ->(iF (iL (ar V)) Q).2=0 ->bj V L R=0/\F=zF (nF F)/\gW (ar V) V.length (nF F)/\Up Q V.length:=fun e e2=>by
  obtain⟨e1,e3,e4⟩:=aaf e;exact⟨e1,e3,e4,ajz e2⟩
 have CA:Hid (iE V L R F=0 ->(iF (iL (ar V)) Q).2=0 ->(F.any fun p=>jc p.1 Q)=false ->∀U:World,Below w.heap.size w U ->Calls Tryz.prog 33 #[.agg #[.slice a V.length ca,.slice b L.length cb,.slice c R.length cc],.slice q Q.length cq,.slice f F.length cf] U fun e w'=>∃x y,e=.returned (.agg #[x,y])/\dw w' x y (cM V L R Q (nF F))/\Below U.heap.size U w'):=fun e e2 e3 U hU=>by
  obtain⟨h0,hz,hl,hu⟩:=QJ e e2;have h1:=hF.aa hU;rw[hz] at h1 e3;have Hc:=h.aa hU;have:=Xm a b c q f ca cb cc cq cf V L R Q (nF F) U Hc.net Hc.ls h.sm h.wt h0 h.lt (hq.aa hU) hu h1 hl (akq hu e3) (fun U' Eg=>Rg a b c ca cb cc V L R U' Eg h.sm);rw[<- od, <- hz] at this;exact this
 have gG:Hid (iE V L R F=0 ->(iF (iL (ar V)) Q).2=0 ->(F.any fun p=>jc p.1 Q)=false ->∀(G:Nat) (x y:Value) (U:World),ck U G (ar V) ->dw U x y (cM V L R Q (nF F)) ->Calls Tryz.prog 41 #[.slice (some ⟨G,0,none⟩) V.length V.length,.agg #[x,y]] U fun e w'=>uW (fG V L R Q F).1 (fG V L R Q F).2 (mF V L R Q F) e w'/\Below U.heap.size U w'):=fun e e2 e3 G x y U hi hv=>by
  obtain⟨h0,hz,hl,hu⟩:=QJ e e2;have cZ:(iL (ar V)).length=V.length:=by rw[bs,kI]
  have h8:=(iz h0).n8;have h5:=ach h0 hu (nF F) (h.few h0);have hck:=aci h0 hu (nF F);obtain⟨b',c',eX,oI,rfl,rfl,h1,h2,_⟩:=hv;have Zc:rX V L R Q F=0:=by rw[rX,aA e,aA e2,aD (by rw[e3];decide)]
  by_cases hfz:bH (cM V L R Q (nF F)).2=0
  ·have e1:mF V L R Q F=3:=by rw[mF,aA Zc,aA hfz]
   (have e5:fG V L R Q F=([],[]):=by rw[fG,e1,aD (by decide)]);rw[e1,e5];have:=acE (some ⟨G,0,none⟩) b' c' V.length eX oI (iL (ar V)) Q (cM V L R Q (nF F)).2 U hi.ints h1 h2 (by rw[cZ];omega) (by omega) hck (TR h0 h.lt Q (nF F)) (TQ h0 h.lt hu (nF F)) (by omega) hfz;rwa [cZ] at this
  ·have e1:mF V L R Q F=0:=by rw[mF,aA Zc,aD hfz]
   (have e5:fG V L R Q F=(Q,jy (cM V L R Q (nF F)).2):=by rw[fG,aA e1]);rw[e1,e5];have:=acF (some ⟨G,0,none⟩) b' c' V.length eX oI (iL (ar V)) Q (cM V L R Q (nF F)).2 U hi.ints h1 h2 (by rw[cZ];omega) (by omega) hck (TR h0 h.lt Q (nF F)) (TQ h0 h.lt hu (nF F)) (by omega) hfz;rwa [cZ] at this
 have HE:Hid (∀k,rX V L R Q F=k ->k≠0 ->mF V L R Q F=k/\fG V L R Q F=([],[])):=fun k e e2=>by
  have e1:mF V L R Q F=k:=by rw[mF,aD (by rw[e];exact e2),e]
  exact⟨e1,by rw[fG,e1,aD e2]⟩
 have q9:Hid (iE V L R F≠0 ->rX V L R Q F=iE V L R F):=fun e=>aD e;have oT:Hid (iE V L R F=0 ->(iF (iL (ar V)) Q).2≠0 ->rX V L R Q F=(iF (iL (ar V)) Q).2):=fun e e2=>by rw[rX,aA e,aD e2]
 have E3:Hid (iE V L R F=0 ->(iF (iL (ar V)) Q).2=0 ->(F.any fun p=>jc p.1 Q)=true ->rX V L R Q F=7):=fun e e2 e3=>by rw[rX,aA e,aA e2,aA e3]
 generalize mF V L R Q F=pe at *;generalize fG V L R Q F=pt at *;generalize rX V L R Q F=ae at *;generalize cM V L R Q (nF F)=TT at *;generalize iE V L R F=fe at *;generalize (F.any fun p=>jc p.1 Q)=fq at *;clear h hq hF QJ G7;have Ah:=(au w.heap.size w).alloc (aq _) (NC (.slice a V.length ca) (.slice b L.length cb) (.slice c R.length cc));have QM:=Ah.alloc Ah.size (.cells #[.slice f F.length cf] 28);have HA:=hid (QM.alloc QM.size (TC (.slice none 0 0) (.slice none 0 0)));have hs1:(w.alloc (NC (.slice a V.length ca) (.slice b L.length cb) (.slice c R.length cc))).heap.size=w.heap.size+1:=by simp
 have hs2:((w.alloc (NC (.slice a V.length ca) (.slice b L.length cb) (.slice c R.length cc))).alloc (.cells #[.slice f F.length cf] 28)).heap.size=w.heap.size+1+1:=by simp
 have vv:Hid (cR (((w.alloc (NC (.slice a V.length ca) (.slice b L.length cb) (.slice c R.length cc))).alloc (.cells #[.slice f F.length cf] 28)).alloc (TC (.slice none 0 0) (.slice none 0 0))) w.heap.size (.slice a V.length ca) (.slice b L.length cb) (.slice c R.length cc)):=by
  have hN:=cR.at (w:=w) rfl (.slice a V.length ca) (.slice b L.length cb) (.slice c R.length cc);have Cj:=hN.aa ((au _ _).alloc (aq _) (.cells #[.slice f F.length cf] 28)) hN.lt;exact Cj.aa ((au _ _).alloc (aq _) (TC (.slice none 0 0) (.slice none 0 0))) Cj.lt
 have Ez:Hid (Boxed (((w.alloc (NC (.slice a V.length ca) (.slice b L.length cb) (.slice c R.length cc))).alloc (.cells #[.slice f F.length cf] 28)).alloc (TC (.slice none 0 0) (.slice none 0 0))) (w.heap.size+1) 28 (.slice f F.length cf)):=by
  have:=(aY (w.alloc (NC (.slice a V.length ca) (.slice b L.length cb) (.slice c R.length cc))) 28 (.slice f F.length cf)).alloc (TC (.slice none 0 0) (.slice none 0 0));rwa [hs1] at this
 have qY:Hid (bw (((w.alloc (NC (.slice a V.length ca) (.slice b L.length cb) (.slice c R.length cc))).alloc (.cells #[.slice f F.length cf] 28)).alloc (TC (.slice none 0 0) (.slice none 0 0))) (w.heap.size+1+1) (.slice none 0 0) (.slice none 0 0)):=bw.at (w:=(w.alloc (NC (.slice a V.length ca) (.slice b L.length cb) (.slice c R.length cc))).alloc (.cells #[.slice f F.length cf] 28)) hs2 _ _;obtain⟨n0,n1,n2⟩:=vv.o.cells;have x0:=Ez.o.cell;clear Ah QM hs1 hs2;go_enter Tryz.func11,Tryz.ntmps11;go_wp2_with fail
 generalize (((w.alloc (NC (.slice a V.length ca) (.slice b L.length cb) (.slice c R.length cc))).alloc (.cells #[.slice f F.length cf] 28)).alloc (TC (.slice none 0 0) (.slice none 0 0)))=W0 at *;refine(I5.o W0 HA.o).af ?_;rintro e w2 ⟨rfl,hb2⟩;have bB:=hid (HA.o.trans (hb2.af HA.o.size));have nQ:=hid (vv.o.aa hb2 vv.o.lt);have bR:=hid (aS Ez.o hb2);have eJ:=hid (qY.o.aa hb2 qY.o.lt);clear n0 n1 n2 x0 hb2 HA vv Ez qY I5;by_cases kM:fe=0
 ·subst kM;have qW:=hid (CA.o rfl);have yU:=hid (gG.o rfl);have SS:=hid (oT.o rfl);have SR:=hid (E3.o rfl);obtain⟨n0,n1,n2⟩:=nQ.o.cells;clear q9 oT E3 CA gG;go_wp2_with fail
  refine(fN.o w2 bB.o).af ?_;rintro e w3 ⟨G,rfl,hG,hrow,hb3⟩;have eZ:=hid (bB.o.trans (hb3.af bB.o.size));have ES:=hid (nQ.o.aa hb3 nQ.o.lt);have pU:=hid (aS bR.o hb3);have kV:=hid (eJ.o.aa hb3 eJ.o.lt);have HC3:=hid (I7.o G w3 eZ.o hrow);have tS:=hid hrow;clear n0 n1 n2 hb3 hrow hG bB nQ bR eJ fN I7;generalize (iF (iL (ar V)) Q).1=c1 at *;generalize (iF (iL (ar V)) Q).2=c2 at *;go_wp2_with fail
  refine HC3.o.af ?_;rintro e w4 ⟨rfl,hb4⟩;have eY:=hid (eZ.o.trans (hb4.af eZ.o.size));have sj:=hid (ES.o.aa hb4 ES.o.lt);have yJ:=hid (aS pU.o hb4);have jD:=hid (kV.o.aa hb4 kV.o.lt);have EZ:=hid (tS.o.aa hb4 tS.o.lt);clear hb4 eZ ES pU kV tS HC3;by_cases hc2:c2=0
  ·subst hc2;have RU:=hid (qW.o rfl);have IW:=hid (yU.o rfl);have SQ:=hid (SR.o rfl);have xr:=hid (HCF.o (w.heap.size+1) w4 eY.o yJ.o.lt yJ.o.cell);clear SS SR qW yU HCF;go_wp2_with fail
   refine xr.o.af ?_;rintro e w5 ⟨rfl,hb5⟩;have eT:=hid (eY.o.trans (hb5.af eY.o.size));have CM:=hid (sj.o.aa hb5 sj.o.lt);have tD:=hid (aS yJ.o hb5);have tJ:=hid (jD.o.aa hb5 jD.o.lt);have vA:=hid (EZ.o.aa hb5 EZ.o.lt);clear hb5 eY sj yJ jD EZ xr;cases fq with
   |true=>
    obtain⟨q1,q2⟩:=HE.o 7 (SQ.o rfl) (by decide);have tK:=hid q1;have r8:=hid q2;obtain⟨t0,t1,f0,f1⟩:=tJ.o.facts;have yR:=hid (tJ.o.put (.slice none 0 0) (.slice none 0 0));have sB:=hid (mK (g:=w.heap.size+1+1) eT.o (by omega) (.slice none 0 0) (.slice none 0 0));clear q1 q2 HE SQ RU IW;go_wp2;refine bS (yR.o.result2 rfl _ rfl) rfl ?_;exact⟨by rw[tK.o,r8.o];exact uW.empty 7 _,sB.o⟩
   |false=>
    have gR:=hid (RU.o rfl w5 eT.o);have CL:=hid (IW.o rfl);obtain⟨n0,n1,n2⟩:=CM.o.cells;have x0:=tD.o.cell;clear HE SQ RU IW;go_wp2_with fail
    refine gR.o.af ?_;rintro e w6 ⟨x,y,rfl,wm,eA⟩;have AQ:=hid (eT.o.trans (eA.af eT.o.size));have Sa:=hid (tJ.o.aa eA tJ.o.lt);have HX6:=hid (CL.o G x y w6 (vA.o.aa eA vA.o.lt) wm);obtain⟨xs,xn,xc,rfl⟩:=wm.slices.1;obtain⟨ys,yn,yc,rfl⟩:=wm.slices.2;clear n0 n1 n2 x0 wm eA eT CM tD tJ vA gR CL;go_wp2_with fail
    refine HX6.o.af ?_;rintro e w7 ⟨⟨b7,c7,Ii,Ih,rfl,zU,YG⟩,c5⟩;have rP:=Sa.o.aa c5 Sa.o.lt;have uM:=AQ.o.trans (c5.af AQ.o.size);obtain⟨t0,t1,f0,f1⟩:=rP.facts;have yR:=hid (rP.put (.slice b7 pt.1.length Ii) (.slice c7 pt.2.length Ih));have HI9:=hid (zU.putT rP (slv _ _ _) (slv _ _ _) (slv b7 pt.1.length Ii) (.slice c7 pt.2.length Ih));have HF9:=hid (YG.putT rP (slv _ _ _) (slv _ _ _) (slv b7 pt.1.length Ii) (.slice c7 pt.2.length Ih));have sB:=hid (mK (g:=w.heap.size+1+1) uM (by omega) (.slice b7 pt.1.length Ii) (.slice c7 pt.2.length Ih));clear zU YG c5 rP uM HX6 Sa AQ;go_wp2;refine bS (yR.o.result2 rfl _ rfl) rfl ?_;exact⟨⟨b7,c7,Ii,Ih,rfl,HI9.o,HF9.o⟩,sB.o⟩
  ·obtain⟨q1,q2⟩:=HE.o c2 (SS.o hc2) hc2;have tK:=hid q1;have r8:=hid q2;(have rL:(c2==0)=false:=by simpa using hc2);obtain⟨t0,t1,f0,f1⟩:=jD.o.facts;have yR:=hid (jD.o.put (.slice none 0 0) (.slice none 0 0));have sB:=hid (mK (g:=w.heap.size+1+1) eY.o (by omega) (.slice none 0 0) (.slice none 0 0));clear q1 q2 hc2 HE SS SR qW yU;go_wp2;refine bS (yR.o.result2 rfl _ rfl) rfl ?_;exact⟨by rw[tK.o,r8.o];exact uW.empty c2 _,sB.o⟩
 ·obtain⟨q1,q2⟩:=HE.o fe (q9.o kM) kM;have tK:=hid q1;have r8:=hid q2;have rL:(fe==0)=false:=by simpa using kM
  obtain⟨t0,t1,f0,f1⟩:=eJ.o.facts;have yR:=hid (eJ.o.put (.slice none 0 0) (.slice none 0 0));have sB:=hid (mK (g:=w.heap.size+1+1) bB.o (by omega) (.slice none 0 0) (.slice none 0 0));clear q1 q2 kM HE q9 oT E3 CA gG;go_wp2;refine bS (yR.o.result2 rfl _ rfl) rfl ?_;exact⟨by rw[tK.o,r8.o];exact uW.empty fe _,sB.o⟩
variable {fa fb:List (Nat×Nat)} {wr:World}
structure BK (V:List Vr) (L:List (List Int)) (R:List (List Fr)) (P:Rat) (Q:List Int) (F G:List (Nat×Nat)):Prop where
 up:Up Q V.length
 fok:gW (ar V) V.length F
 gok:gW (ar V) V.length G
 eg:G.map (·.1)=ag Q
 dis:∀v∈ag Q,¬v∈F.map (·.1)
 lk:aX V L R (G++F)=P
theorem akd {x y:List Int} (hx:Up x V.length) (hy:Up y V.length) (ea:fa.map (·.1)=ag x) (eb:fb.map (·.1)=ag (ic y x)) (va:∀p∈fa,p.2<sz (ar V) p.1) (vb:∀p∈fb,p.2<sz (ar V) p.1):
  gW (ar V) V.length (fa++fb)/\BK V L R (aX V L R (fa++fb)) (ic y x) fa fb/\BK V L R (aX V L R (fa++fb)) x fb fa:=by
 have hap:=aks hx hy (show Up [] V.length from Ty _);obtain⟨h1,h2,h3, -⟩:=aiM (fz:=[]) hap ea eb rfl va vb (fun p hp=>by cases hp);rw[xJ] at h1 h2 h3;have hn:=h1.nd;rw[dL,A4] at hn;refine⟨h1,⟨zz hy,h2,h3,eb,fun v hv hm=>?_,agy V L R fb fa⟩,⟨hx,h3,h2,ea,fun v hv hm=>?_,rfl⟩⟩
 ·exact hn.2.2 v hm v (by rw[eb];exact hv) rfl
 ·exact hn.2.2 v (by rw[ea];exact hv) v hm rfl
structure BR (W wr:World) (g2 g3:Nat) (s:Fr) (V:List Vr) (L:List (List Int)) (R:List (List Fr)) (i:Nat) (fa fb:List (Nat×Nat)) (P:Rat) (dQ:Option Addr) (Q:List Int) (pF:Option Addr) (cF:Nat) (F:List (Nat×Nat)) (pG:Option Addr) (cG:Nat) (G:List (Nat×Nat)):Prop where
 lo:Below W.heap.size W wr
 b2:∃f:Fr,aF wr g2 f.1 f.2.1 f.2.2/\(i< 2 ->f=qF (aX V L R F))
 b3:aF wr g3 s.1 s.2.1 s.2.2
 iq:aC W dQ Q
 ff:ky W pF (zF F)
 fg:ky W pG (zF G)
 lf:(zF F).length<=cF
 lg:(zF G).length<=cG
 ok:i< 2 ->BK V L R P Q F G
 nx:i=0 ->F=fa/\G=fb
theorem BR.step {W wq:World} {g2 g3:Nat} {s:Fr} {P:Rat} {dQ:Option Addr} {Q:List Int} {pF:Option Addr} {cF:Nat} {F:List (Nat×Nat)} {pG:Option Addr} {cG:Nat} {G:List (Nat×Nat)} (h:BR W wr g2 g3 s V L R i fa fb P dQ Q pF cF F pG cG G) (hb:Below wr.heap.size wr wq):BR W wq g2 g3 s V L R i fa fb P dQ Q pF cF F pG cG G:=by
 obtain⟨f,h1,h2⟩:=h.b2;exact⟨h.lo.trans (hb.af h.lo.size),⟨f,h1.aa hb h1.lt,h2⟩,h.b3.aa hb h.b3.lt,h.iq,h.ff,h.fg,h.lf,h.lg,h.ok,h.nx⟩
theorem BR.next {W:World} {g2 g3:Nat} {s:Fr} {P:Rat} {dQ:Option Addr} {Q:List Int} {pF:Option Addr} {cF:Nat} {F:List (Nat×Nat)} {pG:Option Addr} {cG:Nat} {G:List (Nat×Nat)} (h:BR W wr g2 g3 s V L R i fa fb P dQ Q pF cF F pG cG G) (_:i<2) (hg:W.heap.size<=g2) (hne:g3≠g2) {fn:Bool} {fx fy:ByteArray} (hx:aF wr g2 fn fx fy) (hs:qF (aX V L R fb)=s) {A:List Int} (hk:BK V L R P A fb fa) {d:Option Addr} (hi:aC W d A):
  BR W (((wr.setCell ⟨g2,0,none⟩ (.bool s.1)).setCell ⟨g2,1,none⟩ (.string s.2.1)).setCell ⟨g2,2,none⟩ (.string s.2.2)) g2 g3 s V L R (i+1) fa fb P d A pG cG G pF cF F:=
 ⟨cQ h.lo hg _ _ _,⟨s,hx.put s.1 s.2.1 s.2.2,fun h2=>by rw[(h.nx (by omega)).2];exact hs.symm⟩,h.b3.far3 hne _ _ _,hi,h.fg,h.ff,h.lg,h.lf,fun h2=>by rw[(h.nx (by omega)).1,(h.nx (by omega)).2];exact hk,fun h2=>absurd h2 (by omega)⟩
theorem agO (a1 a2 a3 ax ay av:Option Addr) (c1 c2 c3 cx cy cv:Nat) (L1 L2 L3 x y K:List Int) (bk:Bool) (w:World) (h1:aC w a1 L1) (h2:aC w a2 L2) (h3:aC w a3 L3) (hx:aC w ax x) (hy:aC w ay y) (hv:aC w av K) (r1:tB L1) (r2:tB L2) (r3:tB L3) (rx:tB x) (ry:tB y) (rv:tB K):
  Calls Tryz.prog 5 #[.agg #[.slice a1 L1.length c1,.slice a2 L2.length c2,.slice a3 L3.length c3,.bool bk],.slice ax x.length cx,.slice ay y.length cy,.slice av K.length cv] w fun e w'=>e=.returned (.bool true)/\Below w.heap.size w w':=by
 have HMD:=hid (fun (U:World) (hB:Below w.heap.size w U)=>ags a1 a2 a3 c1 c2 c3 L1 L2 L3 bk U (h1.aa hB) (h2.aa hB) (h3.aa hB) r1 r2 r3);have td:(w.alloc (.cells #[.slice a1 L1.length c1,.slice a2 L2.length c2,.slice a3 L3.length c3,.bool bk] 48)).heap[w.heap.size]? =some (.cells #[.slice a1 L1.length c1,.slice a2 L2.length c2,.slice a3 L3.length c3,.bool bk] 48 (0,0)):=im w _;have q0:(w.alloc (.cells #[.slice a1 L1.length c1,.slice a2 L2.length c2,.slice a3 L3.length c3,.bool bk] 48)).cell? ⟨w.heap.size,0,none⟩=some (.slice a1 L1.length c1):=by rw[bX _ _ _ _ _ (0,0) td];rfl
 have q1:(w.alloc (.cells #[.slice a1 L1.length c1,.slice a2 L2.length c2,.slice a3 L3.length c3,.bool bk] 48)).cell? ⟨w.heap.size,1,none⟩=some (.slice a2 L2.length c2):=by rw[bX _ _ _ _ _ (0,0) td];rfl
 have q2:(w.alloc (.cells #[.slice a1 L1.length c1,.slice a2 L2.length c2,.slice a3 L3.length c3,.bool bk] 48)).cell? ⟨w.heap.size,2,none⟩=some (.slice a3 L3.length c3):=by rw[bX _ _ _ _ _ (0,0) td];rfl
 have q3:(w.alloc (.cells #[.slice a1 L1.length c1,.slice a2 L2.length c2,.slice a3 L3.length c3,.bool bk] 48)).cell? ⟨w.heap.size,3,none⟩=some (.bool bk):=by rw[bX _ _ _ _ _ (0,0) td];rfl
 have hb0:Below w.heap.size w (w.alloc (.cells #[.slice a1 L1.length c1,.slice a2 L2.length c2,.slice a3 L3.length c3,.bool bk] 48)):=(au _ w).alloc (aq _) _;have HRX:=hid rx;have HRY:=hid ry;have tI:=hid rv;have HX:=hid hx;have HY:=hid hy;have HV:=hid hv;clear h1 h2 h3 hx hy hv r1 r2 r3 rx ry rv td;go_enter Tryz.func5,Tryz.ntmps5;go_wp2_with fail
 generalize (w.alloc (.cells #[.slice a1 L1.length c1,.slice a2 L2.length c2,.slice a3 L3.length c3,.bool bk] 48))=W0 at *;refine(HMD.o _ hb0).af ?_;rintro e W4 ⟨a,b,c,ca,cb,cc,V,L,R,rfl,hN,Zw,nI,hb4⟩;clear q0 q1 q2 q3 HMD;have dW:=nI.one;have wG:=nI.six;have aZ:=iz nI.ok;have dK:=hb0.trans (hb4.af hb0.size);have bc:Below W4.heap.size W4 (W4.alloc (NC (.slice a V.length ca) (.slice b L.length cb) (.slice c R.length cc))):=(au _ W4).alloc (aq _) _;have bF:=cR.at (w:=W4) rfl (.slice a V.length ca) (.slice b L.length cb) (.slice c R.length cc);have HS:=hid (show TS w _ _ a b c ca cb cc V L R from ⟨bF,(nI.ni4 hN Zw).aa bc,dK.trans (bc.af dK.size)⟩);obtain⟨b0,b1,b2⟩:=bF.cells;clear hN Zw hb4 dK bc bF hb0;go_wp2_with fail
 clear b0 b1 b2;generalize Cl:W4.heap.size=B at *;clear Cl;generalize (W4.alloc (NC (.slice a V.length ca) (.slice b L.length cb) (.slice c R.length cc)))=W5 at *
 have SL:Hid (∀(d:Option Addr) (cd:Nat) (U:List Int) (Z:World),TS w Z B a b c ca cb cc V L R ->aC Z d U ->Up U V.length ->Calls Tryz.prog 19 #[.agg #[.slice a V.length ca,.slice b L.length cb,.slice c R.length cc],.slice d U.length cd,.slice av K.length cv] Z fun e w'=>∃x l,e=.returned x/\iU w' Z.heap.size x (zF l)/\l.map (·.1)=ag U/\(∀p∈l,p.2<sz (ar V) p.1)/\Below Z.heap.size Z w'):=fun d cd U Z hZ hd hU=>ad1 a b c d av ca cb cc cd cv V L R U K Z hZ.net.net hd (HV.o.aa hZ.fr) hU (by have:=M8 hU wG;omega) tI.o.2 tI.o.1 (fun v hv=>by
  have h1:=kF (uf nI.ok) v;have h2:=nI.szs v;rw[Nj hv] at h1 h2;omega)
 have my:Hid (∀(d:Option Addr) (cd:Nat) (l:List (Nat×Nat)) (Z:World),TS w Z B a b c ca cb cc V L R ->ky Z d (zF l) ->(zF l).length<=cd ->gW (ar V) V.length l ->Calls Tryz.prog 8 #[.agg #[.slice a V.length ca,.slice b L.length cb,.slice c R.length cc],.slice d (zF l).length cd] Z fun e w'=>e=.returned (.tuple #[gF (qF (aX V L R l)),.int .i64 0])/\Below Z.heap.size Z w'):=fun d cd l Z hZ hd hc hl=>by
  have h:=agX a b c d ca cb cc cd V L R (zF l) Z hZ.net hd (by rw[od];have:=hl.len;omega) hc;rwa [(NZ nI.ok hl).1,(NZ nI.ok hl).2] at h
 have yM:Hid (∀(d:Option Addr) (cd:Nat) (l:List Int) (Z:World),aC Z d l ->l.length<=140737488355328 ->(∀x∈l, -9223372036854775808<=x/\x<=9223372036854775807) ->Calls Tryz.prog 18 #[.slice d l.length cd,.int .i64 (V.length:Nat)] Z fun e w'=>∃d' wO U,e=.returned (.slice d' U.length wO)/\aC w' d' U/\Up U V.length/\U.length<=6/\Below Z.heap.size Z w'):=fun d cd l Z hd hl hr=>(adP d cd V.length l Z hd hr hl dW (by omega)).af fun e w' ⟨x,U,h,hr,hu,hb⟩=>by
  obtain⟨d',wO,rfl,hi⟩:=hr.ints;exact⟨d',wO,U,h,hi,hu,M8 hu wG,hb⟩
 have q8:Hid (∀(d f:Option Addr) (cd cf:Nat) (l m:List Int) (Z:World),aC Z d l ->aC Z f m ->l.length<=6 ->m.length<=6 ->Calls Tryz.prog 20 #[.slice d l.length cd,.slice f m.length cf] Z fun e w'=>∃d' wO,e=.returned (.slice d' (ic l m).length wO)/\aC w' d' (ic l m)/\(ic l m).length<=6/\Below Z.heap.size Z w'):=fun d f cd cf l m Z hd hf hl hm=>(adW d f cd cf l m Z hd hf (by omega) (by omega)).af fun e w' ⟨x,h,hr,hb⟩=>by
  obtain⟨d',wO,rfl,hi⟩:=hr.ints;exact⟨d',wO,h,hi,aL (lT _ _) hl,hb⟩
 have I2:Hid (∀l,qw (aX V L R l)<=8003):=fun l=>by rw[DK];exact KA nI.ok (uf nI.ok) nI.lite l (aq _)
 have HLN:Hid (∀l,0<=aX V L R l):=fun l=>agz nI.ok l;have mP:Hid (∀l m,aX V L R (l++m)<=aX V L R l):=fun l m=>agA nI.ok l m;refine(yM.o ax cx x _ (HX.o.aa HS.o.fr) HRX.o.1 HRX.o.2).af ?_;rintro e W6 ⟨d1,k1,A1,rfl,i1,u1,m1,eA⟩;have EE:=hid (HS.o.step eA);have mA:=hid i1;have RS:=hid u1;clear HS eA i1 u1;obtain⟨b0,b1,b2⟩:=EE.o.box.cells;go_wp2_with fail
 clear b0 b1 b2;refine(yM.o ay cy y _ (HY.o.aa EE.o.fr) HRY.o.1 HRY.o.2).af ?_;rintro e W7 ⟨d2,k2,Y2,rfl,i2,u2,m2,c5⟩;have HS7:=hid (EE.o.step c5);replace mA:=hid (mA.o.aa c5);have y4:=hid i2;have yL:=hid u2;clear EE c5 i2 u2;go_wp2_with fail
 refine(q8.o d2 d1 k2 k1 Y2 A1 _ y4.o mA.o m2 m1).af ?_;rintro e W8 ⟨d3,k3,rfl,i3,m3,fp⟩;have wX:=hid (HS7.o.step fp);replace mA:=hid (mA.o.aa fp);have nT:=hid i3;clear HS7 fp i3 y4 q8 yM;obtain⟨b0,b1,b2⟩:=wX.o.box.cells;go_wp2_with fail
 clear b0 b1 b2;refine(SL.o d1 k1 A1 _ wX.o mA.o RS.o).af ?_;rintro e W9 ⟨x9,fa,rfl,o9,ea,va,rO⟩;obtain⟨pa,qa,rfl,ga,la,na⟩:=o9.facts;have tR:=hid ga;have SZ:=hid la;have HNa:=hid na;have SN:=hid ea;have HWa:=hid va;have ED:=hid (wX.o.step rO);replace mA:=hid (mA.o.aa rO);replace nT:=hid (nT.o.aa rO);clear wX rO o9 ga la na ea va;have L6:=hid (zz (M:=A1) yL.o);obtain⟨b0,b1,b2⟩:=ED.o.box.cells;go_wp2_with fail
 clear b0 b1 b2;refine(SL.o d3 k3 (ic Y2 A1) _ ED.o nT.o L6.o).af ?_;rintro e Iq ⟨Tg,fb,rfl,xX,eb,vb,Ha⟩;obtain⟨pb,qb,rfl,gb,lb,nb⟩:=xX.facts;obtain⟨z1,z2,z3⟩:=akd (L:=L) (R:=R) RS.o yL.o SN.o eb HWa.o vb;have HK1:=hid z1;have EY:=hid z2;have HK3:=hid z3;have Sx:Hid ((zF fa).length<=6):=by show _<=_;rw[od, <- cX (f:=(·.1)),SN.o,cY];exact m1
 have HLb:Hid ((zF fb).length<=6):=by show _<=_;rw[od, <- cX (f:=(·.1)),eb,cY];exact m3
 have xo:=hid gb;have SY:=hid lb;have HNb:=hid nb;have abf:=hid (ED.o.step Ha);replace mA:=hid (mA.o.aa Ha);replace nT:=hid (nT.o.aa Ha);replace tR:=hid (tR.o.aa Ha);clear ED Ha xX gb lb nb eb vb SN HWa RS yL L6 z1 z2 z3 SL;generalize ic Y2 A1=B3 at *;have EO:=hid (iU.start Iq);have Ja:=hid ((au Iq.heap.size Iq).alloc (aq _) (.cells #[] 90))
 go_wp2_with (at_builtin;first
  |(refine JG rfl _ _ rfl Iq.heap.size _ [] (zF fa) rfl EO.o pa qa rfl (tR.o.aa Ja.o) HNa.o (by have:=Sx.o;simp;omega) Ja.o.size ?_;intro v17 W17 Va g17;have Md:=hid Va;have CY:=hid (Ja.o.grown g17 Ja.o.size EO.o.own);clear Va g17)
  |(refine JG rfl _ _ rfl Iq.heap.size _ (zF fa) (zF fb) rfl Md.o pb qb rfl (xo.o.aa CY.o) HNb.o (by have:=Sx.o;have:=HLb.o;omega) CY.o.size ?_;intro v18 W18 NP g18;rw[<- abz] at NP;have abi:=hid NP;have Jb:=hid (CY.o.grown g18 CY.o.size Md.o.own);have Mc:=hid (abf.o.step (CY.o.grown g18 CY.o.size Md.o.own));obtain⟨p4,q4,rfl,h4,l4, -⟩:=abi.o.facts;have EZ:=hid h4;have Mk:=hid l4;obtain⟨b0,b1,b2⟩:=Mc.o.box.cells;clear NP g18 h4 l4))
 clear b0 b1 b2;refine(my.o p4 q4 (fa++fb) _ Mc.o EZ.o Mk.o HK1.o).af ?_;rintro e Ct ⟨rfl,Ef⟩;replace tR:=hid ((tR.o.aa Jb.o).aa Ef);replace xo:=hid ((xo.o.aa Jb.o).aa Ef);replace mA:=hid ((mA.o.aa Jb.o).aa Ef);replace nT:=hid ((nT.o.aa Jb.o).aa Ef);have abe:=hid (Mc.o.step Ef);clear abf Mc Jb Ef EZ Mk abi Md CY EO Ja;obtain⟨pn,px,py,hp⟩:∃x y z,qF (aX V L R (fa++fb))=(x,y,z):=⟨_,_,_,rfl⟩;obtain⟨tn,tx,ty,ht⟩:∃x y z,qF (aX V L R fa)=(x,y,z):=⟨_,_,_,rfl⟩;obtain⟨sn,sx,sy,hs⟩:∃x y z,qF (aX V L R fb)=(x,y,z):=⟨_,_,_,rfl⟩;have vu:=hid (fun d cd Z h1 h2 h3=>my.o d cd fa Z h1 h2 h3 EY.o.fok);have Sg:=hid (fun d cd Z h1 h2 h3=>my.o d cd fb Z h1 h2 h3 HK3.o.fok)
 have Mz:Hid (∃j:Int,¬0<j/\∀U:World,Calls Tryz.prog 21 #[gF (qF (aX V L R (fa++fb))),gF (qF (aX V L R fa))] U fun e w'=>e=.returned (.int .i64 j)/\Below U.heap.size U w'):=by
  refine⟨fB (aX V L R (fa++fb)) (aX V L R fa),fun h=>?_,fun U=>?_⟩
  ·have hle:=mP.o fa fb;rw[fB] at h;by_cases h1:aX V L R (fa++fb)<aX V L R fa
   ·rw[aA h1] at h;omega
   ·rw[aD h1,aA (Rat.le_antisymm hle (Rat.not_lt.1 h1))] at h;omega
  ·have h:=ad6 (aM (aX V L R (fa++fb))) (aM (aX V L R fa)) (nu (aX V L R (fa++fb))) (de (aX V L R (fa++fb))) (nu (aX V L R fa)) (de (aX V L R fa)) U (by rw[nj];have:=I2.o (fa++fb);omega) (by rw[nj];have:=I2.o fa;omega);rwa [gi,gi] at h
 rw[ht] at vu;rw[hs] at Sg;rw[hp,ht] at Mz;obtain⟨j,hj,hcm⟩:=Mz.o;have HCJ:=hid hcm;have hjd:decide (0<j)=false:=cD hj;clear Mz hcm hj mP my;have HQP:=hid hp;have HQT:=hid ht;have HQS:=hid hs;rw[hp];clear hp ht hs;have bc:Below Ct.heap.size Ct (Ct.alloc (FC pn px py)):=(au _ Ct).alloc (aq _) _;have r7:=hid (aF.new Ct pn px py);have Mb:=hid (abe.o.step bc);replace tR:=hid (tR.o.aa bc);replace xo:=hid (xo.o.aa bc);replace mA:=hid (mA.o.aa bc);replace nT:=hid (nT.o.aa bc);clear bc abe;obtain⟨b0,b1,b2⟩:=Mb.o.box.cells;go_wp2_with fail
 clear b0 b1 b2;generalize hg1:Ct.heap.size=g1 at *;generalize (Ct.alloc (FC pn px py))=W21 at *;clear hg1;refine(vu.o pa qa _ Mb.o tR.o SZ.o).af ?_;rintro e oJ ⟨rfl,hb⟩;have wY:=hid (Mb.o.step hb);replace r7:=hid (r7.o.aa hb r7.o.lt);replace tR:=hid (tR.o.aa hb);replace xo:=hid (xo.o.aa hb);replace mA:=hid (mA.o.aa hb);replace nT:=hid (nT.o.aa hb);clear hb Mb vu;have nS:=hid ((au oJ.heap.size oJ).alloc (aq _) (FC tn tx ty));have bR:=hid (aF.new oJ tn tx ty);have HWg:Hid (w.heap.size<=oJ.heap.size):=wY.o.fr.size;obtain⟨b0,b1,b2⟩:=(wY.o.step nS.o).box.cells;go_wp2_with fail
 clear b0 b1 b2;generalize hg2:oJ.heap.size=g2 at bR HWg⊢;have oT:=hid hg2;generalize (oJ.alloc (FC tn tx ty))=W23 at *;clear hg2;refine(Sg.o pb qb _ (wY.o.step nS.o) (xo.o.aa nS.o) SY.o).af ?_;rintro e Ar ⟨rfl,hb⟩;replace bR:=hid (bR.o.aa hb bR.o.lt);replace nS:=hid (nS.o.trans (hb.af nS.o.size));clear hb Sg;have bc:Below Ar.heap.size Ar (Ar.alloc (FC sn sx sy)):=(au _ Ar).alloc (aq _) _;have pU:=hid (aF.new Ar sn sx sy);have alf:Hid (g2<Ar.heap.size):=bR.o.lt;replace bR:=hid (bR.o.aa bc bR.o.lt);replace nS:=hid (nS.o.trans (bc.af nS.o.size));clear bc;obtain⟨x0,x1,x2⟩:=(r7.o.aa nS.o r7.o.lt).three;obtain⟨y0,y1,y2⟩:=bR.o.three;go_wp2_with fail
 clear x0 x1 x2 y0 y1 y2;generalize hg3:Ar.heap.size=g3 at *;generalize (Ar.alloc (FC sn sx sy))=W25 at *;clear hg3;refine(HCJ.o _).af ?_;rintro e W26 ⟨rfl,hb⟩;generalize hPP:aX V L R (fa++fb)=PP at *;clear hPP;have HBR:=hid (show BR oJ W26 g2 g3 (sn,sx,sy) V L R 0 fa fb PP d3 B3 pa qa fa pb qb fb from ⟨nS.o.trans (hb.af nS.o.size),⟨(tn,tx,ty),bR.o.aa hb bR.o.lt,fun _=>HQT.o.symm⟩,pU.o.aa hb pU.o.lt,nT.o,tR.o,xo.o,SZ.o,SY.o,fun _=>EY.o,fun _=>⟨rfl,rfl⟩⟩);clear hb HCJ bR pU nT tR xo SZ SY HQT EY Sx HLb HNa HNb HK1 nS;go_wp2_with fail
 clear hjd;go_loopw [11,12,13,21] (fun v11 v12 v13 iv wr=>∃(i:Nat) (dQ:Option Addr) (kQ:Nat) (Q:List Int) (pF:Option Addr) (cF:Nat) (F:List (Nat×Nat)) (pG:Option Addr) (cG:Nat) (G:List (Nat×Nat)),i<=2/\iv=.int .i64 i/\v11=.slice dQ Q.length kQ/\v12=.slice pF (zF F).length cF/\v13=.slice pG (zF G).length cG/\Hid (BR oJ wr g2 g3 (sn,sx,sy) V L R i fa fb PP dQ Q pF cF F pG cG G)) (fun _ _ _ iv _=>2 - (intOf iv).toNat)
 case atStart=>exact⟨0,d3,k3,B3,pa,qa,fa,pb,qb,fb,by omega,rfl,rfl,rfl,rfl,HBR⟩
 case round=>
  obtain⟨i,dQ,kQ,Q,pF,cF,F,pG,cG,G,hi,rfl,rfl,rfl,rfl,HR⟩:=hrel;clear HBR;by_cases hlt:i<2
  ·obtain⟨⟨fn,fx,fy⟩,hf2,kM⟩:=HR.o.b2;have CT:=hid (kM hlt);have bR:=hid hf2;have HK:=hid (HR.o.ok hlt);clear hf2 kM;have hQ6:=M8 HK.o.up wG;have sf:=hid (fun (Z:World) (hZ:Below oJ.heap.size oJ Z)=>agY a b c dQ pF ca cb cc kQ cF V L R Q (zF F) Z (wY.o.step hZ).net (HR.o.iq.aa hZ) (by omega) (HR.o.ff.aa hZ) (by rw[od];have:=HK.o.fok.len;omega) HR.o.lf);have sq:=hid (bay nI.ok HK.o.up HK.o.fok HK.o.gok HK.o.eg HK.o.dis);by_cases hz:aX V L R F=0
   focus
    have hE:=sq.o.1 hz;rw[hE] at sf
    have mz:Hid (∀U:World,Calls Tryz.prog 22 #[.int .i64 0] U fun e w'=>e=.returned (.agg #[.bool fn,.string fx,.string fy])/\Below U.heap.size U w'):=fun U=>by
     have h:=UZ U;have e:(fn,fx,fy)=(aM 0,nu 0,de 0):=CT.o.trans (by rw[hz];rfl);obtain⟨rfl,e'⟩:=AY e;obtain⟨rfl,rfl⟩:=AY e';exact h
    clear sq hE hz;generalize (fG V L R Q (zF F)).1=t1 at sf;generalize (fG V L R Q (zF F)).2=t2 at sf;obtain⟨b0,b1,b2⟩:=(wY.o.step HR.o.lo).box.cells;go_wp2_with fail
    clear b0 b1 b2;refine(sf.o _ HR.o.lo).af ?_;rintro e Y1 ⟨⟨tb,tc,Eu,uR,rfl, -, -⟩,hb⟩;obtain⟨n1,KX⟩:∃n,t1.length=n:=⟨_,rfl⟩;obtain⟨n2,KW⟩:∃n,t2.length=n:=⟨_,rfl⟩;rw[KX,KW];clear KX KW sf;have bc:Below Y1.heap.size Y1 (Y1.alloc (TC (.slice tb n1 Eu) (.slice tc n2 uR))):=(au _ Y1).alloc (aq _) _;replace HR:=hid ((HR.o.step hb).step bc);replace bR:=hid ((bR.o.aa hb bR.o.lt).aa bc (bR.o.aa hb bR.o.lt).lt);clear hb bc;go_upto_region 16 with fail
    generalize hg4:Y1.heap.size=g4 at *;generalize (Y1.alloc (TC (.slice tb n1 Eu) (.slice tc n2 uR)))=Y2 at *;clear hg4;have gS:Hid (∀U:World,Below Y2.heap.size Y2 U ->U.cell? ⟨g2,0,none⟩=some (.bool fn)/\U.cell? ⟨g2,1,none⟩=some (.string fx)/\U.cell? ⟨g2,2,none⟩=some (.string fy)):=fun U hU=>(bR.o.aa hU bR.o.lt).three;have bz:Hid (Below Y2.heap.size Y2 Y2.drew):=(au Y2.heap.size Y2).drew;obtain⟨X0,qE⟩:∃x,Y2.drew=x:=⟨_,rfl⟩;rw[qE] at bz;refine jE (S:=fun U=>U.cell? ⟨g2,0,none⟩=some (.bool fn)/\U.cell? ⟨g2,1,none⟩=some (.string fx)/\U.cell? ⟨g2,2,none⟩=some (.string fy)) (by kernel_rfl) (by rw[qE];exact gS.o _ bz.o) (fun ak=>?_);rw[qE] at ak⊢;clear qE;refine aw 0 (.int .i64 3) ?_;refine aw 1 (.bool false) ?_;refine aw 2 (.agg #[.bool fn,.string fx,.string fy]) ?_;refine aH [3] (cA ?_ aG);intro K' hK';go_simp;refine(mz.o _).af ?_;rintro e Y3 ⟨rfl,hb⟩;replace bz:=hid (bz.o.trans (hb.af bz.o.size));clear hb;refine hK'.o _ _ (gS.o _ bz.o) (fun ah=>?_);clear hK' K' ak;have ak:=ah;clear ah;refine aw 4 (.bool true) ?_;refine aw 5 (.bool false) ?_;(try simp only[gE,aP]);refine eK (by kernel_rfl) ?_ _;have uE:=bz.o;replace HR:=hid (HR.o.step uE);replace bR:=hid (bR.o.aa uE bR.o.lt);clear bz gS ak
   rotate_left
   focus
    obtain⟨hE,Zi,k0,hix,dX,hcell,rJ⟩:=sq.o.2 hz;obtain⟨hs1,hs2,hs3⟩:=aef nI.ok nI.lite HK.o.up HK.o.fok HK.o.dis hz
    have hlen:(fG V L R Q (zF F)).2.length<=10000:=by
     rw[hs3];have h1:=LL (S:=ar V) nI.szs (ag Q);have h2:3^(ag Q).length<=3^6:=iX (by decide) (by rw[cY];exact hQ6);exact aL h1 (aL h2 (by decide))
    rw[hE,Zi] at sf
    have HMU:Hid (∀U:World,Calls Tryz.prog 26 #[gF (qF (PP*(1/aX V L R F))),.agg #[.bool fn,.string fx,.string fy]] U fun e w'=>e=.returned (.agg #[.bool pn,.string px,.string py])/\Below U.heap.size U w'):=fun U=>by
     have wB:qw (PP*(1/aX V L R F))<=16007:=by
      have h1:=NS PP (1/aX V L R F);have h2:=NT hz;have h3:=I2.o F;have h4:=I2.o (G++F);rw[HK.o.lk] at h4;omega
     have h:=U4 (aM (PP*(1/aX V L R F))) (aM (aX V L R F)) (nu (PP*(1/aX V L R F))) (de (PP*(1/aX V L R F))) (nu (aX V L R F)) (de (aX V L R F)) U (by rw[nj];omega) (by rw[nj];have:=I2.o F;omega);rw[gi,gi] at h;(have e1:PP*(1/aX V L R F)*aX V L R F=PP:=by rw[rp,vH,tW,Rat.inv_mul_cancel _ hz,tV]);rw[e1] at h;have e2:(fn,fx,fy)=(aM (aX V L R F),nu (aX V L R F),de (aX V L R F)):=CT.o;obtain⟨rfl,e3⟩:=AY e2;obtain⟨rfl,rfl⟩:=AY e3;have e4:(aM PP,nu PP,de PP)=(pn,px,py):=HQP.o;obtain⟨rfl,e5⟩:=AY e4;obtain⟨rfl,rfl⟩:=AY e5;exact h
    have iH:Hid (∀(d:Option Addr) (cd:Nat) (U:World),dA U d (fG V L R Q (zF F)).2 ->Calls Tryz.prog 27 #[.slice d (fG V L R Q (zF F)).2.length cd] U fun e w'=>e=.returned (.agg #[.bool (aM 1),.string (nu 1),.string (de 1)])/\Below U.heap.size U w'):=fun d cd U hd=>by
     have h:=adN d cd _ U hd hs1 hs2 hlen;rw[rJ] at h;exact h
    have q7:Hid (∀U:World,Calls Tryz.prog 22 #[.int .i64 1] U fun e w'=>e=.returned (.agg #[.bool (aM 1),.string (nu 1),.string (de 1)])/\Below U.heap.size U w'):=fun U=>adS U;have mz:Hid (∀U:World,Calls Tryz.prog 22 #[.int .i64 0] U fun e w'=>e=.returned (.agg #[.bool (aM 0),.string (nu 0),.string (de 0)])/\Below U.heap.size U w'):=fun U=>UZ U
    have ER:Hid (fn=aM 0 ->fx.toList=(nu 0).toList ->¬fy.toList=(de 0).toList):=fun h1 h2 h3=>by
     have e2:(fn,fx,fy)=(aM (aX V L R F),nu (aX V L R F),de (aX V L R F)):=CT.o;obtain⟨rfl,e3⟩:=AY e2;obtain⟨rfl,rfl⟩:=AY e3;have e4:nu (aX V L R F)=nu 0:=rk (Rj.symm.trans (p8.2 h2));have e5:de (aX V L R F)=de 0:=rk (Rj.symm.trans (p8.2 h3));exact hz (by rw[<- gi (aX V L R F),h1,e4,e5,gi])
    have HIX:Hid (∀(g:Nat) (d:Option Addr) (cd:Nat) (U:World),ck U g (ar V) ->aC U dQ Q ->aC U d (iL (G.map (·.2))) ->Calls Tryz.prog 24 #[.slice (some ⟨g,0,none⟩) V.length V.length,.slice dQ Q.length kQ,.slice d (iL (G.map (·.2))).length cd] U fun e w'=>e=.returned (.tuple #[.int .i64 (k0:Nat),.int .i64 0])/\Below U.heap.size U w'):=fun g d cd U h1 h2 h3=>by
     (have cZ:(iL (ar V)).length=V.length:=by rw[bs,kI]);have h:=adX (some ⟨g,0,none⟩) dQ d V.length kQ cd (iL (ar V)) Q (iL (G.map (·.2))) U h1.ints h2 h3 (by omega) (by omega) (by rw[bs,cX];have:=HK.o.gok.len;omega);rwa [cZ,hix] at h
    have HVO:=hid (fun (Z:World) (hZ:Below oJ.heap.size oJ Z)=>ab7 pG cG G Z (HR.o.fg.aa hZ) (by have:=HK.o.gok.len;omega));have fN:=hid (fun (Z:World) (hZ:Below oJ.heap.size oJ Z)=>Ge a b c ca cb cc L.length R.length V Z (wY.o.step hZ).net.net.vars (by omega));have HIQ:=hid (fun (Z:World) (hZ:Below oJ.heap.size oJ Z)=>HR.o.iq.aa hZ);(have HCE:Hid ((fG V L R Q (zF F)).2[k0]=qF (PP*(1/aX V L R F))):=by show _=_;rw[hcell,HK.o.lk]);clear sq hE Zi hix hcell rJ hs1 hs2 hs3 hz;generalize qF (PP*(1/aX V L R F))=ce at *;generalize (fG V L R Q (zF F)).2=cells at *;generalize iL (G.map (·.2))=gv at *;obtain⟨en,ex,ey⟩:=ce;obtain⟨b0,b1,b2⟩:=(wY.o.step HR.o.lo).box.cells;go_wp2_with fail
    clear b0 b1 b2;refine(sf.o _ HR.o.lo).af ?_;rintro e Y1 ⟨⟨tb,tc,Eu,uR,rfl, -,hfr⟩,hb⟩;obtain⟨n1,KX⟩:∃n,Q.length=n:=⟨_,rfl⟩;obtain⟨n2,KW⟩:∃n,cells.length=n:=⟨_,rfl⟩;obtain⟨gc,oc,rfl,je,c0,c1,c2⟩:=hfr k0 dX;rw[HCE.o] at c0 c1 c2;clear sf KX KW;have bc:Below Y1.heap.size Y1 (Y1.alloc (TC (.slice tb Q.length Eu) (.slice (some ⟨gc,oc,none⟩) cells.length uR))):=(au _ Y1).alloc (aq _) _;have gR:=hid (bw.at (w:=Y1) rfl (.slice tb Q.length Eu) (.slice (some ⟨gc,oc,none⟩) cells.length uR));have xq:=hid (hfr.aa bc);have HCC:Hid (∀U:World,Below Y1.heap.size Y1 U ->U.cell? ⟨gc,oc+k0*3,none⟩=some (.bool en)/\U.cell? ⟨gc,oc+k0*3+1,none⟩=some (.string ex)/\U.cell? ⟨gc,oc+k0*3+2,none⟩=some (.string ey)):=fun U hU=>⟨(hU.cell (p:=⟨gc,_,none⟩) je).trans c0,(hU.cell (p:=⟨gc,_,none⟩) je).trans c1,(hU.cell (p:=⟨gc,_,none⟩) je).trans c2⟩;have pT:=hid bc;replace HR:=hid ((HR.o.step hb).step bc);replace bR:=hid ((bR.o.aa hb bR.o.lt).aa bc (bR.o.aa hb bR.o.lt).lt);clear hb bc c0 c1 c2 je hfr;go_upto_region 16 with fail
    generalize hg4:Y1.heap.size=g4 at gR⊢;generalize (Y1.alloc (TC (.slice tb Q.length Eu) (.slice (some ⟨gc,oc,none⟩) cells.length uR)))=Y2 at *;clear hg4;have gS:Hid (∀U:World,Below Y2.heap.size Y2 U ->U.cell? ⟨g2,0,none⟩=some (.bool fn)/\U.cell? ⟨g2,1,none⟩=some (.string fx)/\U.cell? ⟨g2,2,none⟩=some (.string fy)):=fun U hU=>(bR.o.aa hU bR.o.lt).three;have bz:Hid (Below Y2.heap.size Y2 Y2.drew):=(au Y2.heap.size Y2).drew;obtain⟨X0,qE⟩:∃x,Y2.drew=x:=⟨_,rfl⟩;rw[qE] at bz;refine jE (S:=fun U=>U.cell? ⟨g2,0,none⟩=some (.bool fn)/\U.cell? ⟨g2,1,none⟩=some (.string fx)/\U.cell? ⟨g2,2,none⟩=some (.string fy)) (by kernel_rfl) (by rw[qE];exact gS.o _ bz.o) (fun ak=>?_);rw[qE] at ak⊢;clear qE;refine aw 0 (.int .i64 0) ?_;refine aw 1 (.bool true) ?_;refine aw 2 (.agg #[.bool fn,.string fx,.string fy]) ?_;refine aH [3] (cA ?_ aG);intro K' hK';go_simp;refine(mz.o _).af ?_;rintro e Y3 ⟨rfl,hb⟩;replace bz:=hid (bz.o.trans (hb.af bz.o.size));clear hb;refine hK'.o _ _ (gS.o _ bz.o) (fun ah=>?_);clear hK' K' ak;have ak:=ah;clear ah;(try simp only[gE,aP]);refine cN 4 (.bool false) ?_ ?_
    ·intro u' aN;go_simp;exact ER.o
    refine aw 5 (.bool false) ?_;(try simp only[gE,aP]);refine eK (by kernel_rfl) ?_ _;have uE:=bz.o;replace HR:=hid (HR.o.step uE);replace bR:=hid (bR.o.aa uE bR.o.lt);replace gR:=hid (gR.o.aa uE gR.o.lt);replace xq:=hid (xq.o.aa uE);replace pT:=hid (pT.o.trans (uE.af pT.o.size));clear bz gS ak mz ER;go_wp2_with fail
    refine(HVO.o _ HR.o.lo).af ?_;rintro e Y4 ⟨d5,k5,rfl,i5,hb⟩;have tP:=hid i5;replace HR:=hid (HR.o.step hb);replace bR:=hid (bR.o.aa hb bR.o.lt);replace gR:=hid (gR.o.aa hb gR.o.lt);replace xq:=hid (xq.o.aa hb);replace pT:=hid (pT.o.trans (hb.af pT.o.size));clear hb i5 HVO;obtain⟨b0,b1,b2⟩:=(wY.o.step HR.o.lo).box.cells;go_wp2_with fail
    clear b0 b1 b2;refine(fN.o _ HR.o.lo).af ?_;rintro e Y5 ⟨gz,rfl, -,hrow,hb⟩;have EI:=hid hrow;replace tP:=hid (tP.o.aa hb);replace HR:=hid (HR.o.step hb);replace bR:=hid (bR.o.aa hb bR.o.lt);replace gR:=hid (gR.o.aa hb gR.o.lt);replace xq:=hid (xq.o.aa hb);replace pT:=hid (pT.o.trans (hb.af pT.o.size));clear hb hrow fN;go_wp2_with fail
    refine(HIX.o gz d5 k5 _ EI.o (HIQ.o _ HR.o.lo) tP.o).af ?_;rintro e Y6 ⟨rfl,hb⟩;replace HR:=hid (HR.o.step hb);replace bR:=hid (bR.o.aa hb bR.o.lt);replace gR:=hid (gR.o.aa hb gR.o.lt);replace xq:=hid (xq.o.aa hb);replace pT:=hid (pT.o.trans (hb.af pT.o.size));clear hb HIX EI tP HIQ;have hkd:decide ((cells.length:Int)<=(k0:Int))=false:=cD (by omega);go_upto_region 21 with fail
    have gS:Hid (∀U:World,Below Y6.heap.size Y6 U ->U.cell? ⟨g4,1,none⟩=some (.slice (some ⟨gc,oc,none⟩) cells.length uR)/\(U.cell? ⟨gc,oc+k0*3,none⟩=some (.bool en)/\U.cell? ⟨gc,oc+k0*3+1,none⟩=some (.string ex)/\U.cell? ⟨gc,oc+k0*3+2,none⟩=some (.string ey))/\(U.cell? ⟨g2,0,none⟩=some (.bool fn)/\U.cell? ⟨g2,1,none⟩=some (.string fx)/\U.cell? ⟨g2,2,none⟩=some (.string fy))/\(U.cell? ⟨g1,0,none⟩=some (.bool pn)/\U.cell? ⟨g1,1,none⟩=some (.string px)/\U.cell? ⟨g1,2,none⟩=some (.string py))):=fun U hU=>⟨(gR.o.aa hU gR.o.lt).c1,HCC.o U (pT.o.trans (hU.af pT.o.size)),(bR.o.aa hU bR.o.lt).three,(r7.o.aa (HR.o.lo.trans (hU.af HR.o.lo.size)) r7.o.lt).three⟩;have bz:Hid (Below Y6.heap.size Y6 Y6.drew):=(au Y6.heap.size Y6).drew;obtain⟨X0,qE⟩:∃x,Y6.drew=x:=⟨_,rfl⟩;rw[qE] at bz;refine jE (S:=fun U=>U.cell? ⟨g4,1,none⟩=some (.slice (some ⟨gc,oc,none⟩) cells.length uR)/\(U.cell? ⟨gc,oc+k0*3,none⟩=some (.bool en)/\U.cell? ⟨gc,oc+k0*3+1,none⟩=some (.string ex)/\U.cell? ⟨gc,oc+k0*3+2,none⟩=some (.string ey))/\(U.cell? ⟨g2,0,none⟩=some (.bool fn)/\U.cell? ⟨g2,1,none⟩=some (.string fx)/\U.cell? ⟨g2,2,none⟩=some (.string fy))/\(U.cell? ⟨g1,0,none⟩=some (.bool pn)/\U.cell? ⟨g1,1,none⟩=some (.string px)/\U.cell? ⟨g1,2,none⟩=some (.string py))) (by kernel_rfl) (by rw[qE];exact gS.o _ bz.o) (fun ak=>?_);rw[qE] at ak⊢;clear qE;refine aw 0 (.int .i64 0) ?_;refine aw 1 (.bool false) ?_;refine aw 2 (.bool false) ?_;refine aw 3 (.int .i64 (k0:Nat)) ?_;refine aw 4 (.pointer (some ⟨g4,1,none⟩)) ?_
    (try simp only[gE,aP]);refine cN 5 (.slice (some ⟨gc,oc,none⟩) cells.length uR) ?_ ?_
    ·intro u' aN;try simp only[gE];obtain⟨s0,⟨s1,s2,s3⟩,⟨s4,s5,s6⟩,⟨s7,s8,s9⟩⟩:=aN;go_simp
    refine aw 6 (.int .i64 (cells.length:Nat)) ?_;refine aw 7 (.bool false) ?_;refine aw 8 (.bool false) ?_;refine aw 9 (.bool false) ?_;refine aw 10 (.pointer (some ⟨g4,1,none⟩)) ?_;(try simp only[gE,aP]);refine cN 11 (.slice (some ⟨gc,oc,none⟩) cells.length uR) ?_ ?_
    ·intro u' aN;try simp only[gE];obtain⟨s0,⟨s1,s2,s3⟩,⟨s4,s5,s6⟩,⟨s7,s8,s9⟩⟩:=aN;go_simp
    refine aw 12 (.int .i64 (k0:Nat)) ?_;refine aw 13 (.pointer (some ⟨gc,oc+k0*3,none⟩)) ?_;(try simp only[gE,aP]);refine cN 14 (.agg #[.bool en,.string ex,.string ey]) ?_ ?_
    ·intro u' aN;try simp only[gE];obtain⟨s0,⟨s1,s2,s3⟩,⟨s4,s5,s6⟩,⟨s7,s8,s9⟩⟩:=aN;go_simp
    (try simp only[gE,aP]);refine cN 15 (.agg #[.bool fn,.string fx,.string fy]) ?_ ?_
    ·intro u' aN;try simp only[gE];obtain⟨s0,⟨s1,s2,s3⟩,⟨s4,s5,s6⟩,⟨s7,s8,s9⟩⟩:=aN;go_simp
    (try simp only[gE,aP]);refine cN 17 (.agg #[.bool pn,.string px,.string py]) ?_ ?_
    ·intro u' aN;try simp only[gE];obtain⟨s0,⟨s1,s2,s3⟩,⟨s4,s5,s6⟩,⟨s7,s8,s9⟩⟩:=aN;go_simp
    refine aH [16] (cA ?_ aG);intro K' hK';go_simp;refine(HMU.o _).af ?_;rintro e Y7 ⟨rfl,hb⟩;replace bz:=hid (bz.o.trans (hb.af bz.o.size));clear hb;refine hK'.o _ _ (gS.o _ bz.o) (fun ah=>?_);clear hK' K' ak;have ak:=ah;clear ah;refine aw 18 (.bool false) ?_;refine aw 19 (.bool false) ?_;refine aw 20 (.bool false) ?_;refine aw 21 (.pointer (some ⟨g4,1,none⟩)) ?_;(try simp only[gE,aP]);refine cN 22 (.slice (some ⟨gc,oc,none⟩) cells.length uR) ?_ ?_
    ·intro u' aN;try simp only[gE];obtain⟨s0,⟨s1,s2,s3⟩,⟨s4,s5,s6⟩,⟨s7,s8,s9⟩⟩:=aN;go_simp
    refine aH [23] (cA ?_ aG);intro K' hK';go_simp;refine(iH.o _ _ _ (xq.o.aa bz.o)).af ?_;rintro e Y8 ⟨rfl,hb⟩;replace bz:=hid (bz.o.trans (hb.af bz.o.size));clear hb;refine hK'.o _ _ (gS.o _ bz.o) (fun ah=>?_);clear hK' K' ak;have ak:=ah;clear ah;refine aH [24] (cA ?_ aG);intro K' hK';go_simp;refine(q7.o _).af ?_;rintro e Y9 ⟨rfl,hb⟩;replace bz:=hid (bz.o.trans (hb.af bz.o.size));clear hb;refine hK'.o _ _ (gS.o _ bz.o) (fun ah=>?_);clear hK' K' ak;have ak:=ah;clear ah;refine aw 25 (.bool false) ?_;refine aw 26 (.bool false) ?_;(try simp only[gE,aP]);refine eK (by kernel_rfl) ?_ _;have uE:=bz.o;replace HR:=hid (HR.o.step uE);replace bR:=hid (bR.o.aa uE bR.o.lt);clear bz gS ak HCC pT xq gR
   all_goals
    obtain⟨x0,x1,x2⟩:=bR.o.three;have f0:=bR.o.fz 0;have f1:=bR.o.fz 1;have f2:=bR.o.fz 2;obtain⟨y0,y1,y2⟩:=HR.o.b3.three;go_wp2_with fail
    have EJ:=hid (HR.o.next hlt (Nat.le_of_eq oT.o) (Nat.ne_of_gt alf.o) bR.o HQS.o HK3.o mA.o);clear x0 x1 x2 f0 f1 f2 y0 y1 y2;go_roundw
    case rel=>exact⟨i+1,d1,k1,A1,pG,cG,G,pF,cF,F,by omega,by go_num,rfl,rfl,rfl,EJ⟩
    case measure=>simp[intOf];omega
  ·obtain rfl:i=2:=by omega
   go_wp2;go_ret;exact⟨rfl,wY.o.fr.trans (HR.o.lo.af wY.o.fr.size)⟩
open Go.ChangeShapes Go.WideShapes Go.ChangeAt
variable {fn:Func}
theorem agF {H:Type} {enc:TypeId×Value ->H} {a:Assume} {C:Checked} {os:Os} {f:FuncId} {s:ChangeSpec} {conds:List PathCond} {apart fresh handsOn again:Bool} {X:World ->Array Value ->Prop}
  (hX:∀(w w':World) (args:Array Value),w.heap=w'.heap ->X w args ->X w' args)
  (own:ownKnob C.prog.godebug=none) (started:os.Started) (afs:C.prog.inits.idxOf? f=none) (hfn:C.prog.funcs[f]? =some fn)
  (witness:∃(w:World) (tape:Tape) (i:Input),w.os=os/\(w.forCall tape i).Shaped C.prog/\i.vars=[]/\Input.okWide C.prog (w.forCall tape i) .any w.heap.size f i/\
   ((s.pre enc C.prog fn conds apart (w.forCall tape i).memory i.args/\X (w.forCall tape i).memory i.args)/\sizedMet enc C.prog fn (OpenSpec.ofChange s) apart (w.forCall tape i).memory i.args)/\a.holds C.prog (lone (Frame.enter C.prog f i.args .normal) [] (w.forCall tape i)))
  (walk:∀(W:World) (base:Nat) (args:Array Value) (ds gs:List (DataW H)) (before:List MemPlace),
   (∀(j:Nat) t v,fn.params[j]? =some t ->args[j]? =some v ->Value.okWide C.prog W .any base t v) ->
   DataW.Whole enc C.prog fn.params.toList s.vars apart W args.toList ds gs before ->
   (DataW.weightsEach C.prog (fn.params.toList++s.plain.varTypes C.prog) (ds++gs)).all (·<=reachBytes)=true ->X W args ->W.ShapedOpen C.prog ->
   Calls C.prog f args W fun e W'=>∃v,e=.returned v/\s.post enc C.prog fn apart fresh handsOn again W args v W'):
  ReturnsInHanded a C os f .any (fun w args=>(s.pre enc C.prog fn conds apart w args/\X w args)/\sizedMet enc C.prog fn (OpenSpec.ofChange s) apart w args) (s.post enc C.prog fn apart fresh handsOn again):=by
 refine returnsInHanded_of_calls own started afs witness ?_;intro w tape i _ uo _ aZ hpre _;obtain⟨_,_,_,fn',ahL,_,_,_,_,hval⟩:=aZ;obtain rfl:fn'=fn:=mS (ahL.symm.trans hfn);obtain⟨⟨⟨ds,gs,before,hw,_⟩,hx⟩,hz⟩:=hpre;refine(walk (w.forCall tape i) w.heap.size i.args ds gs before hval (DataW.Whole.of_heap (w':=w.forCall tape i) (by rfl) hw) (hz.weights hw) (hX _ _ _ (by rfl) hx) uo).af fun e W' ⟨v,he,hp⟩=>?_;subst he;exact ChangeSpec.post_blind hp
theorem aj7 {a:Addr} {v:Value} (h:w.cell? a=some v):a.block<w.heap.size:=by
 rcases cT a.block w.heap.size with h1 |h1
 ·exact h1
 ·simp[World.cell?,Array.getElem?_eq_none h1] at h
variable {j:Nat}
def sT {H:Type} (x:Int):DataW H:=.lit (.int .i64 x)
theorem aj3:Tryz.prog.cellsOf 3=1:=by kernel_rfl
theorem JM {H:Type} {enc:TypeId×Value ->H} {W:World} {fuel:Nat} {cs:List Value} {x:DataW H×List MemPlace} (hf:DataW.trod enc Tryz.prog W 0 (fun _=>true) true fuel 27 cs=some x):
  ∃(a:Option Addr) (cap:Nat) (l:List Int),cs=[.slice a l.length cap]/\aC W a l/\(a=none ->cap=0)/\((x.1=.nil/\l=[])∨∃rest,x.1=.slice (l.map sT) rest)/\∀y∈l, -9223372036854775808<=y/\y<=9223372036854775807:=by
 rcases Deep.open_slice Tryz.underlying27 hf with ⟨hcs,hx⟩ |⟨a',len,cap,m,n,D,Pl,hcs,hb,hl,hm,hmm,hx,hel⟩
 ·exact⟨none,0,[],hcs,fun k hk=>absurd hk (by simp),fun _=>rfl,.inl ⟨by rw[hx],rfl⟩,fun _ h=>by cases h⟩
 ·have kg:len<=m:=by rw[hmm];split<;>omega
  rw[aj3] at hel
  have each:∀i,i<len ->∃z:Int,(W.cell? (a'.add (i*1))=some (.int .i64 z)/\ -9223372036854775808<=z/\z<=9223372036854775807)/\D i=sT z:=by
   intro i hi;obtain⟨cs',h1,h2⟩:=hel i (by omega);obtain⟨_,hlen,hcell⟩:=World.cells?_some h1;obtain⟨z,e0,Xr,hwf⟩:=DataW.trod_int Tryz.underlying3 h2;subst e0;simp only[Prod.mk.injEq] at Xr;have g0:=hcell 0 (by omega);rw[Deep.add_add] at g0;exact⟨z,⟨by simpa using g0,bounds_i64 hwf⟩,Xr.1⟩
  obtain⟨f,hf2⟩:=Deep.choose_lt (α:=Int) each;refine⟨some a',cap,(List.range len).map f,by rw[hcs];simp,?_,fun e=>by(cases e),.inr ⟨(List.range (m - len)).map fun j=>D (len+j),?_⟩,?_⟩
  ·intro k hk;(have eV:k<len:=by simpa using hk);obtain⟨⟨g0,_⟩,_⟩:=hf2 k eV;obtain⟨⟨z0,_⟩,_⟩:=hf2 0 (by omega);have hsp:=World.cell?_spot z0;obtain⟨bb,oo,sp⟩:=a';rw[mC] at hsp;simp[Addr.add] at hsp;subst hsp;rw[WideShapes.add_plain] at g0;refine⟨bb,oo,rfl,aj7 g0,?_⟩;simpa using g0
  ·rw[hx];show DataW.slice _ _=DataW.slice _ _;congr 1
   rw[tX];exact qd fun i hi=>(hf2 i (cH.1 hi)).2
  ·intro y hy;obtain⟨i,hi,rfl⟩:=aW.1 hy;exact(hf2 i (cH.1 hi)).1.2
theorem open_ints {H:Type} {enc:TypeId×Value ->H} {W:World} {r:Reach} {b0:Nat} {v:Value} {d:DataW H} {p:List MemPlace} (hval:Value.okWide Tryz.prog W r b0 27 v) (h:DataW.Trod enc Tryz.prog W 0 (fun _=>true) true 27 v d p):
  ∃(a:Option Addr) (cap:Nat) (l:List Int),v=.slice a l.length cap/\aC W a l/\(a=none ->cap=0)/\((d=.nil/\l=[])∨∃rest,d=.slice (l.map sT) rest)/\∀x∈l, -9223372036854775808<=x/\x<=9223372036854775807:=by
 obtain⟨a,len,cap,rfl⟩:=okWide_slice Tryz.underlying27 hval;obtain⟨fuel,hf⟩:=h;obtain⟨a',cap',l,hcs,hi,h0,hd,hr⟩:=JM hf;simp[Value.cells] at hcs;obtain⟨rfl,rfl,rfl⟩:=hcs;exact⟨a,cap,l,rfl,hi,h0,hd,hr⟩
theorem aka:Tryz.prog.bytesOf 3=8:=by kernel_rfl
theorem Dp {H:Type} {ts:List TypeId} {ds:List (DataW H)} (h:(DataW.weightsEach Tryz.prog ts ds).all (·<=reachBytes)=true) {d:DataW H} (ht:ts[j]? =some 27) (hd:ds[j]? =some d) (hl:(d=.nil/\l=[])∨∃rest,d=.slice (l.map sT) rest):
  l.length<=140737488355328:=by
 rcases hl with ⟨_,rfl⟩ |⟨rest,rfl⟩
 ·simp
 have h1:=fE.1 h _ (DataW.weights_mem_each ht hd (((l.map (sT (H:=H))).length+rest.length)*Tryz.prog.bytesOf 3) (by simp[DataW.weights,Tryz.underlying27]));have h1':((l.map (sT (H:=H))).length+rest.length)*Tryz.prog.bytesOf 3<=reachBytes:=by simpa using h1
 rw[aka,cX] at h1';simp only[reachBytes] at h1';omega
theorem aj1:Tryz.prog.cellsOf 48=4:=by kernel_rfl
theorem aj2:Tryz.prog.cellsOf 27=1:=by kernel_rfl
theorem aj6:Tryz.prog.cellsOf 4=1:=by kernel_rfl
theorem afd {H:Type} {enc:TypeId×Value ->H} {W:World} {r:Reach} {b0:Nat} {v:Value} {d:DataW H} {p:List MemPlace} (hval:Value.okWide Tryz.prog W r b0 48 v) (h:DataW.Trod enc Tryz.prog W 0 (fun _=>true) true 48 v d p):
  ∃(a1 a2 a3:Option Addr) (c1 c2 c3:Nat) (L1 L2 L3:List Int) (bk:Bool) (d1 d2 d3 d4:DataW H),v=.agg #[.slice a1 L1.length c1,.slice a2 L2.length c2,.slice a3 L3.length c3,.bool bk]/\d=.agg [d1,d2,d3,d4]/\aC W a1 L1/\aC W a2 L2/\aC W a3 L3/\
   ((d1=.nil/\L1=[])∨∃rest,d1=.slice (L1.map sT) rest)/\((d2=.nil/\L2=[])∨∃rest,d2=.slice (L2.map sT) rest)/\((d3=.nil/\L3=[])∨∃rest,d3=.slice (L3.map sT) rest)/\
   (∀x∈L1, -9223372036854775808<=x/\x<=9223372036854775807)/\(∀x∈L2, -9223372036854775808<=x/\x<=9223372036854775807)/\(∀x∈L3, -9223372036854775808<=x/\x<=9223372036854775807):=by
 obtain⟨cs,rfl,hsz⟩:=okWide_struct Tryz.underlying48 hval;rw[aj1] at hsz;obtain⟨l⟩:=cs;match l,hsz with
 |[c0,c1,c2,c3],_=>
  obtain⟨fuel,hf⟩:=h;obtain⟨y0,y1,y2,y3,m,hx,_,sU,hy1,hy2,DM⟩:=Go.Joins.trod_struct4 Tryz.underlying48 hf;simp[Value.cells,aj2,aj6] at sU hy1 hy2 DM;obtain⟨a1,k1,L1,e0,h0,_,g0,r0⟩:=JM sU;obtain⟨a2,k2,L2,e1,h1,_,g1,r1⟩:=JM hy1;obtain⟨a3,k3,L3,e2,h2,_,g2,r2⟩:=JM hy2;obtain⟨nn,e3,rfl⟩:=DataW.trod_bool Tryz.underlying4 DM;obtain rfl:c0=_:=by simpa using e0
  obtain rfl:c1=_:=by simpa using e1
  obtain rfl:c2=_:=by simpa using e2
  obtain rfl:c3=_:=by simpa using e3
  simp only[Prod.mk.injEq] at hx;exact⟨a1,a2,a3,k1,k2,k3,L1,L2,L3,_,_,_,_,_,rfl,hx.1,h0,h1,h2,g0,g1,g2,r0,r1,r2⟩
theorem ac9 {H:Type} {ts:List TypeId} {ds:List (DataW H)} (h:(DataW.weightsEach Tryz.prog ts ds).all (·<=reachBytes)=true) {L1 L2 L3:List Int} {d1 d2 d3 d4:DataW H} (ht:ts[j]? =some 48) (hd:ds[j]? =some (.agg [d1,d2,d3,d4])) (h1:(d1=.nil/\L1=[])∨∃rest,d1=.slice (L1.map sT) rest) (h2:(d2=.nil/\L2=[])∨∃rest,d2=.slice (L2.map sT) rest) (h3:(d3=.nil/\L3=[])∨∃rest,d3=.slice (L3.map sT) rest):
  L1.length<=140737488355328/\L2.length<=140737488355328/\L3.length<=140737488355328:=by
 have h':(DataW.weightsEach Tryz.prog [27,27,27,4] [d1,d2,d3,d4]).all (·<=reachBytes)=true:=by
  rw[fE];intro n hn;refine fE.1 h _ (DataW.weights_mem_each ht hd n ?_);simp only[DataW.weights,Tryz.underlying48];exact hn
 exact⟨Dp h' (j:=0) rfl rfl h1,Dp h' (j:=1) rfl rfl h2,Dp h' (j:=2) rfl rfl h3⟩
theorem aaQ {H:Type} {enc:TypeId×Value ->H} {P:Program} (hl:laidOutB P=true) {W:World} (hb:Below W.heap.size W W'):∀ {ts:List TypeId} {vs:List Value} {ds:List (DataW H)} {ps:List MemPlace},
  (ts.all fun t=>P.readableRec t&&decide (t<P.types.size))=true ->DataW.TrodAll enc P W 0 (fun _=>true) true ts vs ds ps ->DataW.TrodAll enc P W' 0 (fun b=>decide (b<W.heap.size)) true ts vs ds ps
 |[],[],[],_,_,h=>h
 |t::ts,v::vs,d::ds,_,ht,⟨p,q,h,hr,e⟩=>by
  rw[List.all_cons,iK,iK] at ht;refine⟨p,q,Below.trod hl ht.1.1 (rk ht.1.2) h hb ?_,aaQ hl hb ht.2 hr,e⟩;obtain⟨m,hm⟩:=h;exact DataW.trod_lt m _ _ _ hm
 |[],_::_,_,_,_,h=>by simp[DataW.TrodAll] at h
 |[],[],_::_,_,_,h=>by simp[DataW.TrodAll] at h
 |_::_,[],_,_,_,h=>by simp[DataW.TrodAll] at h
 |_::_,_::_,[],_,_,h=>by simp[DataW.TrodAll] at h
end Go.Proofs.YtfgkjjlocjmfeaaGreatDoor
