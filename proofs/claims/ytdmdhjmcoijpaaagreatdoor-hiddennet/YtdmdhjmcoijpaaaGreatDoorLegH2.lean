/- Part2: part 2. -/
import Derived.Test.YtdmdhjmcoijpaaaGreatDoorLegH1
set_option maxRecDepth 100000
set_option maxHeartbeats 400000000
set_option linter.unusedSimpArgs false
set_option linter.unusedVariables false
namespace Go.Proofs.YtdmdhjmcoijpaaaGreatDoor
open Go.RowKit
variable {L:List (List Int)} {i n:Nat}
def Ag (L:List (List Int)):Bool:=(List.range L.length).all fun v=>!decide (v∈ag (L.getD v []))
def gB (L:List (List Int)):Bool:=decide (1<=L.length/\L.length<=8)&&uC L L.length&&Ag L
theorem Z0 (n:Nat) (w:World):
  du 195 #[.int .i64 (n:Nat)] w fun e w'=>e=.returned (.bool (decide (1<=n/\n<=8)))/\w'=w:=by
 by_cases a:1<=n
 ·by_cases b:n<=8
  ·rw[eD (p:=1<=n/\n<=8) ⟨a,b⟩];(have c:(1:Int)<=(n:Int):=al);(have d:(n:Int)<=8:=al);go_enter Tryz.func195,Tryz.ntmps195;go_wp2;go_ret;exact⟨rfl,rfl⟩
  ·rw[eK (p:=1<=n/\n<=8) (fun h=>b h.2)];(have c:(1:Int)<=(n:Int):=al);have E:Hid (decide ((n:Int)<=8)=false):=eK al;clear b;go_enter Tryz.func195,Tryz.ntmps195;go_wp2;go_ret;exact⟨by rw[E.o];rfl,rfl⟩
 ·rw[eK (p:=1<=n/\n<=8) (fun h=>a h.1)];obtain rfl:n=0:=al
  clear a;go_enter Tryz.func195,Tryz.ntmps195;go_wp2;go_ret;exact⟨rfl,rfl⟩
theorem YD {l:List Int} (a:n<=8) (h:fT l n=true):∀u∈ag l,u<8:=by
 have:=YC (l:=l) (n:=n) (i:=l.length) a h (aq _);rwa [jR] at this
theorem U6 (h:uC L n=true) (a:i<L.length):fT L[i] n=true:=iQ.1 h _ (bF a)
theorem ZL (h:i<L.length) (e:i∈ag L[i]):Ag L=false:=by
 rw[Ag,I5];refine⟨i,cI.2 h,?_⟩;rw[bY,bj h];simpa using e
theorem ZK (h:∀i (a:i<L.length),¬i∈ag L[i]):Ag L=true:=by
 rw[Ag,iQ];intro i a;have b:=cI.1 a;rw[bY,bj b];simpa using h i b
theorem YG (a:Option Addr) (ca:Nat) (L:List (List Int)) (w:World) (h:gW w a L) (r:∀l∈L,l.length<=140737488355328):
  du 145 #[.slice a L.length ca] w fun e w'=>ef w w'/\
   ((gB L=true/\∃G,e=.returned (.tuple #[.slice (some ⟨G,0,none⟩) L.length L.length,.bool true])/\w.heap.size<=G/\cF w' G (jU L))∨(gB L=false/\∃v,e=.returned (.tuple #[v,.bool false]))):=by
 have F:=hid h;have J:=hid r;have H:Hid (gB L=(decide (1<=L.length/\L.length<=8)&&uC L L.length&&Ag L)):=rfl;generalize gB L=g at *;clear h r;cases hm:decide (1<=L.length/\L.length<=8) with
 |false=>
  have HC:=hid (fun V:World=>Z0 L.length V);rw[hm] at H HC;have Q:Hid (g=false):=by show _=_;rw[H.o];rfl
  clear hm H;go_enter Tryz.func145,Tryz.ntmps145;go_wp2_with fail
  refine(HC.o _).af ?_;rintro e w1 ⟨rfl,rfl⟩;go_wp2;go_ret2;exact⟨au _ _,.inr ⟨Q.o,_,rfl⟩⟩
 |true=>
  have HC:=hid (fun V:World=>Z0 L.length V);rw[hm] at H HC;obtain⟨h1,f⟩:=tW hm;have S:=hid (fun (V:World) (X:gW V a L)=>afF a ca L.length L V X f f J.o);have K:Hid (uC L L.length=true ->∀i (k:i<L.length),∀u∈ag L[i],u<8):=fun h i k=>YD f (U6 h k);have Y:=hid (fun i h e=>ZL (L:=L) (i:=i) h e);have A:=hid (fun h=>ZK (L:=L) h);have M:Hid (∀i (h:i<L.length),(jU L)[i]? =some (aB (ag L[i]))):=fun i h=>by simp[jU,h]
  clear hm;generalize uC L L.length=ra at *;generalize Ag L=Z at *;generalize jU L=ms at *;go_enter Tryz.func145,Tryz.ntmps145;go_wp2_with fail
  refine(HC.o _).af ?_;rintro e w1 ⟨rfl,rfl⟩;go_wp2_with fail
  refine(S.o _ F.o).af ?_;rintro e s ⟨c,⟨R,G,rfl,T,q⟩ |⟨R,rfl⟩⟩
  ·have U:=hid q;have b:=hid c;have aa:=hid (K.o R);(have I:Hid (g=Z):=by show _=_;rw[H.o,R];rfl);clear q c R H;go_wp2_with fail
   go_loopw [21] (fun iv wr=>∃i:Nat,i<=L.length/\iv=.int .i64 i/\Hid (∀j (h:j<L.length),j< i ->¬j∈ag L[j])/\wr=s) (fun iv _=>L.length - (intOf iv).toNat)
   case atStart=>exact⟨0,aV _,rfl,fun j _ h=>absurd h al,rfl⟩
   case round=>
    obtain⟨i,k,rfl,m,rfl⟩:=hrel;by_cases t:i<L.length
    ·have y:=M.o i t;obtain⟨x,z⟩:=mH.1 y;have P:=U.o.cell i x;rw[z] at P;have uJ:=hid (Y.o i t)
     have O:Hid (¬i∈ag L[i] ->∀j (h:j<L.length),j<i+1 ->¬j∈ag L[j]):=fun h j d rS=>by
      rcases cT j i with p |p
      ·exact m.o j d p
      ·obtain rfl:j=i:=al
       exact h
     have D:=hid (fun V:World=>Rq (ag L[i]) i V (aa.o i t) al);clear y x z;generalize ag L[i]=l at *;go_wp2_with fail
     refine(D.o _).af ?_;rintro e w3 ⟨rfl,rfl⟩;by_cases n:i∈l
     ·rw[eD n];have E:=hid (uJ.o n);clear n;go_wp2;go_ret2;exact⟨b.o,.inr ⟨by rw[I.o];exact E.o,_,rfl⟩⟩
     ·rw[eK n];have E:=hid (O.o n);clear n;go_wp2;go_roundw
      case rel=>exact⟨i+1,al,b5,E,trivial⟩
      case measure=>simp[intOf];omega
    ·obtain rfl:i=L.length:=al
     have E:=hid (A.o fun j d=>m.o j d d);go_wp2;go_ret2;exact⟨b.o,.inl ⟨by rw[I.o];exact E.o,G,rfl,T,U.o⟩⟩
  ·have I:Hid (g=false):=by show _=_;rw[H.o,R];rfl
   have b:=hid c;clear R c H;go_wp2_with fail
   go_loopw [21] (fun iv wr=>iv=.int .i64 0/\wr=s) (fun _ _=>0)
   case atStart=>exact⟨rfl,rfl⟩
   case round=>
    obtain⟨rfl,rfl⟩:=hrel;go_wp2;go_ret2;exact⟨b.o,.inr ⟨I.o,_,rfl⟩⟩
variable {k v:Nat}
def jI (P:List (List Nat)) (out:List Nat) (v:Nat):Bool:=!decide (v∈out)&&decide (∀u∈P.getD v [],u∈out)
def sO (P:List (List Nat)) (out:List Nat):Option Nat:=(List.range P.length).find? (jI P out)
def aZ (P:List (List Nat)):Nat ->List Nat
 |0=>[]
 |k+1=>match sO P (aZ P k) with
  |some v=>aZ P k++[v]
  |none=>aZ P k
theorem find_range {p:Nat ->Bool}:∀ {n v:Nat},v< n ->p v=true ->(∀u,u< v ->p u=false) ->(List.range n).find? p=some v:=by
 intro n;induction n with
 |zero=>intro v h;omega
 |succ n ih=>
  intro v c a b;rw[qC,List.find?_append];rcases cT v n with h |h
  ·rw[ih h a b];rfl
  ·obtain rfl:v=n:=al
   (have:(List.range v).find? p=none:=List.find?_eq_none.2 fun u y=>by rw[b u (cI.1 y)];decide);rw[this];simp[a]
theorem ahO {P:List (List Nat)} {o:List Nat} (b:v<P.length) (h:jI P o v=true) (a:∀u,u< v ->jI P o u=false):sO P o=some v:=find_range b h a
theorem ahP {P:List (List Nat)} {o:List Nat} (h:∀u,u<P.length ->jI P o u=false):sO P o=none:=List.find?_eq_none.2 fun u y=>by rw[h u (cI.1 y)];decide
theorem RT {P:List (List Nat)} (h:sO P (aZ P k)=some v):aZ P (k+1)=aZ P k++[v]:=by rw[aZ,h]
theorem Zo {P:List (List Nat)} (h:sO P (aZ P k)=none):∀j,aZ P (k+j)=aZ P k
 |0=>rfl
 |j+1=>by
  have i:=Zo h j;show aZ P (k+j+1)=_;rw[aZ,i,h]
theorem ahs {P:List (List Nat)} (h:sO P (aZ P k)=none) (a:k<=n):aZ P n=aZ P k:=by
 have:=Zo h (n - k);rwa [show k+(n - k)=n by omega] at this
theorem Gf (P:List (List Nat)):∀k,(aZ P k).length<=k
 |0=>aq _
 |k+1=>by
  have:=Gf P k;rw[aZ];cases sO P (aZ P k) with
  |none=>show (aZ P k).length<=_;omega
  |some v=>show (aZ P k++[v]).length<=_;rw[bK];simp;omega
theorem DV (P:List (List Nat)):∀k,∀v∈aZ P k,v<P.length
 |0,v,hv=>by cases hv
 |k+1,v,hv=>by
  rw[aZ] at hv;cases e:sO P (aZ P k) with
  |none=>rw[e] at hv;exact DV P k v hv
  |some u=>
   rw[e] at hv;rcases ck.1 hv with h |h
   ·exact DV P k v h
   ·obtain rfl:=dT.1 h;exact cI.1 (WO e)
def aN (L:List (List Int)):List (List Nat):=L.map ag
theorem l5 (L:List (List Int)):(aN L).length=L.length:=by simp[aN]
theorem RG (h:i<L.length):(aN L).getD i []=ag L[i]:=by simp[aN,bY,h]
theorem Gp (L:List (List Int)):jU L=(aN L).map aB:=by simp[jU,aN]
theorem aav (a b:List Nat):iL (a++b)=iL a++iL b:=by simp[iL]
def bZ (L:List (List Int)):Int:=if gB L=true then(if (aZ (aN L) L.length).length<L.length then 10 else 0) else 11
def D9 (c:Nat):Bool:=decide (97<=c/\c<=122)
def KV (c:Nat):Bool:=decide (48<=c/\c<=57)
def uX (c:Nat):Bool:=D9 c ||KV c ||decide (c=95)
def zY (s:ByteArray):Bool:=(s.data.toList.all fun c=>uX c.toNat)&&D9 (s.data.toList.headD 0).toNat
def isVar (s:ByteArray):Bool:=s.toList==[118,97,114]
def JL (s:ByteArray):Bool:=s.toList==[101,108,115,101]
def B5 (s:ByteArray):Bool:=decide (s.size<=12)&&!isVar s&&!JL s&&zY s
theorem ZR (c:Nat) (w:World):du 227 #[.int .u8 (c:Nat)] w fun e w'=>e=.returned (.bool (D9 c))/\w'=w:=by
 rw[D9];by_cases a:97<=c
 ·have E:Hid (decide ((c:Int)<=122)=decide (97<=c/\c<=122)):=zO.2 ⟨fun h=>⟨a,al⟩,fun h=>al⟩;have b:(97:Int)<=(c:Int):=al
  go_enter Tryz.func227,Tryz.ntmps227;go_wp2;go_ret;exact⟨by rw[<- E.o];rfl,rfl⟩
 ·have E:Hid (decide (97<=c/\c<=122)=false):=eK fun h=>a h.1;rw[E.o];have b:(c:Int)<97:=al
  clear a;go_enter Tryz.func227,Tryz.ntmps227;go_wp2;go_ret;exact⟨rfl,rfl⟩
theorem aic (c:Nat) (w:World):du 242 #[.int .u8 (c:Nat)] w fun e w'=>e=.returned (.bool (KV c))/\w'=w:=by
 rw[KV];by_cases a:48<=c
 ·have E:Hid (decide ((c:Int)<=57)=decide (48<=c/\c<=57)):=zO.2 ⟨fun h=>⟨a,al⟩,fun h=>al⟩;have b:(48:Int)<=(c:Int):=al
  go_enter Tryz.func242,Tryz.ntmps242;go_wp2;go_ret;exact⟨by rw[<- E.o];rfl,rfl⟩
 ·have E:Hid (decide (48<=c/\c<=57)=false):=eK fun h=>a h.1;rw[E.o];have b:(c:Int)<48:=al
  clear a;go_enter Tryz.func242,Tryz.ntmps242;go_wp2;go_ret;exact⟨rfl,rfl⟩
theorem aia (c:Nat) (w:World):du 226 #[.int .u8 (c:Nat)] w fun e w'=>e=.returned (.bool (uX c))/\w'=w:=by
 have H:Hid (uX c=(D9 c ||KV c ||decide (c=95))):=rfl;have L:=hid (ZR c);have F:=hid (aic c);generalize uX c=r at *;go_enter Tryz.func226,Tryz.ntmps226;go_wp2_with fail
 refine(L.o _).af ?_;rintro e a ⟨rfl,rfl⟩;cases hl:D9 c with
 |true=>
  rw[hl] at H;have E:Hid (r=true):=H.o;clear hl;go_wp2;go_ret;exact⟨by rw[E.o];rfl,rfl⟩
 |false=>
  rw[hl] at H;go_wp2_with fail
  refine(F.o _).af ?_;rintro e b ⟨rfl,rfl⟩;cases hf:KV c with
  |true=>
   rw[hf] at H;have E:Hid (r=true):=H.o;clear hl hf;go_wp2;go_ret;exact⟨by rw[E.o];rfl,rfl⟩
  |false=>
   rw[hf] at H
   have E:Hid (r=((c:Int)==95)):=by
    show _=_;rw[H.o,Bool.false_or,Bool.false_or,wE,gY,uO];omega
   clear hl hf;go_wp2;go_ret;exact⟨by rw[E.o];rfl,rfl⟩
theorem aeK {s:ByteArray} (h:k<s.size):s.data.toList.take (k+1)=s.data.toList.take k++[s[k]]:=by
 have a:k<s.data.toList.length:=by simpa using h
 rw[iF a];rfl
theorem aed {s:ByteArray} (h:k<s.size) (e:uX s[k].toNat=false):zY s=false:=by
 have m:s[k]∈s.data.toList:=by
  have:s.data.toList[k]'(by simpa using h)=s[k]:=rfl;rw[<- this];exact bF _
 have:(s.data.toList.all fun c=>uX c.toNat)=false:=by
  rw[I5];exact⟨_,m,by rw[e];decide⟩
 rw[zY,this];rfl
theorem akb {s:ByteArray} (h:0<s.size):s.data.toList.headD 0=s[0]:=by
 obtain⟨⟨l⟩⟩:=s;cases l with
 |nil=>exact absurd h bd
 |cons c l=>rfl
theorem aeb {s:ByteArray} (h:0<s.size) (e:(s.data.toList.take s.size).all (fun c=>uX c.toNat)=true):zY s=D9 s[0].toNat:=by
 have a:s.data.toList.all (fun c=>uX c.toNat)=true:=by
  rwa [lT aE] at e
 rw[zY,a,I7,akb h]
theorem ah9 (s:ByteArray) (w:World) (t:s.size<=140737488355328):
  du 186 #[.string s] w fun e w'=>e=.returned (.bool (B5 s))/\w'=w:=by
 have H:Hid (B5 s=(decide (s.size<=12)&&!isVar s&&!JL s&&zY s)):=rfl;have p:=hid (fun k h e=>aed (s:=s) (k:=k) h e);have q:=hid (fun h e=>aeb (s:=s) h e)
 have n:Hid (s.size=0 ->zY s=false):=fun h=>by
  have:s.data.toList=[]:=I0.1 (by rw[DI];exact h);rw[zY,this];rfl
 generalize B5 s=nb at *;generalize zY s=m at *;by_cases a:s.size=0
 ·have E:Hid (nb=false):=by show _=_;rw[H.o,n.o a];simp
  have d:(s.size:Int)<1:=al
  clear a H;go_enter Tryz.func186,Tryz.ntmps186;go_wp2;go_ret;exact⟨by rw[E.o];rfl,rfl⟩
 by_cases A:12<s.size
 ·have E:Hid (nb=false):=by show _=_;rw[H.o,eK (show ¬s.size<=12 by omega)];rfl
  have d:(1:Int)<=(s.size:Int):=al
  have g:(12:Int)<(s.size:Int):=al
  clear a H;go_enter Tryz.func186,Tryz.ntmps186;go_wp2;go_ret;exact⟨by rw[E.o];rfl,rfl⟩
 have d:(1:Int)<=(s.size:Int):=al
 have g:(s.size:Int)<=12:=al
 cases hv:isVar s with
 |true=>
  have E:Hid (nb=false):=by show _=_;rw[H.o,hv];simp
  rw[isVar] at hv;clear H a A;go_enter Tryz.func186,Tryz.ntmps186;go_wp2;go_ret;exact⟨by rw[E.o];rfl,rfl⟩
 |false=>
  cases he:JL s with
  |true=>
   (have E:Hid (nb=false):=by show _=_;rw[H.o,he];simp);rw[isVar] at hv;rw[JL] at he;clear H a A;go_enter Tryz.func186,Tryz.ntmps186;go_wp2;go_ret;exact⟨by rw[E.o];rfl,rfl⟩
  |false=>
   (have E:Hid (nb=m):=by show _=_;rw[H.o,hv,he,eD (show s.size<=12 by omega)];simp);rw[isVar] at hv;rw[JL] at he;(have i:0<s.size:=al);clear H a A;go_enter Tryz.func186,Tryz.ntmps186;go_wp2_with fail
   go_loopw [22] (fun iv wr=>∃k:Nat,k<=s.size/\iv=.int .i64 k/\Hid ((s.data.toList.take k).all (fun c=>uX c.toNat)=true)/\wr=w) (fun iv _=>s.size - (intOf iv).toNat)
   case atStart=>exact⟨0,aV _,rfl,rfl,rfl⟩
   case round=>
    obtain⟨k,r,rfl,b,rfl⟩:=hrel;by_cases l:k<s.size
    ·have f:=hid (p.o k l)
     have T:Hid (uX s[k].toNat=true ->(s.data.toList.take (k+1)).all (fun c=>uX c.toNat)=true):=fun h=>by
      rw[aeK l,List.all_append,b.o];simp[h]
     go_wp2_with fail
     refine(aia s[k].toNat _).af ?_;rintro e j ⟨rfl,rfl⟩;cases hw:uX s[k].toNat with
     |false=>
      have F:=hid (f.o hw);clear hw;go_wp2;go_ret;exact⟨by rw[E.o,F.o];rfl,rfl⟩
     |true=>
      have S:=hid (T.o hw);clear hw;go_wp2;go_roundw
      case rel=>exact⟨k+1,al,b5,S,trivial⟩
      case measure=>simp[intOf];omega
    ·obtain rfl:k=s.size:=al
     have F:=hid (q.o i b.o);go_wp2_with fail
     refine(ZR s[0].toNat _).af ?_;rintro e j ⟨rfl,rfl⟩;go_wp2;go_ret;exact⟨by rw[E.o,F.o];rfl,rfl⟩
variable {a:Option Addr} {w w':World}
def tx (w:World) (a:Option Addr) (l:List ByteArray):Prop:=∀k (h:k<l.length),∃g o,a=some ⟨g,o,none⟩/\g<w.heap.size/\w.cell? ⟨g,o+k,none⟩=some (.string l[k])
theorem tx.aa {l:List ByteArray} (h:tx w a l) (c:ef w w'):tx w' a l:=fun k f=>by
 obtain⟨g,o,d,b,e⟩:=h k f;exact⟨g,o,d,aU b c.size,(c.cell (p:=⟨g,o+k,none⟩) b).trans e⟩
theorem tx.take {l:List ByteArray} (h:tx w a l) (i:Nat):tx w a (l.take i):=fun k f=>by
 have d:k<l.length:=by rw[eE] at f;omega
 obtain⟨g,o,b,c,e⟩:=h k d;refine⟨g,o,b,c,?_⟩;rw[zV];exact e
def jr (f:Nat ->Int):Nat ->Int
 |0=>0
 |n+1=>if jr f n=0 then f n else jr f n
theorem CU {f:Nat ->Int}:∀ {n:Nat},(∀j,j< n ->f j=0) ->jr f n=0
 |0,_=>rfl
 |n+1,h=>by rw[jr,aA (CU fun j a=>h j al),h n al]
theorem KS {f:Nat ->Int} (h:∀j,j< i ->f j=0) (b:f i≠0):∀ {n:Nat},i< n ->jr f n=f i
 |0,hn=>al
 |n+1,hn=>by
  rcases cT i n with a |a
  ·rw[jr,KS h b a,aD b]
  ·obtain rfl:i=n:=al
   rw[jr,aA (CU h)]
theorem QN {f:Nat ->Int} (h:∀j,j< i ->f j=0) (b:f i=0):∀j,j<i+1 ->f j=0:=fun j c=>by
 rcases cT j i with a |a
 ·exact h j a
 ·obtain rfl:j=i:=al
  exact b
def Ai (l:List ByteArray) (v:ByteArray):Bool:=l.any fun x=>decide (x=v)
def wN (l:List ByteArray) (i:Nat):Int:=if B5 (l.getD i ⟨#[]⟩)=true then(if Ai (l.take i) (l.getD i ⟨#[]⟩)=true then 7 else 0) else 4
def pR (l:List ByteArray):Int:=jr (wN l) l.length
theorem Uo {l:List ByteArray} (h:i<l.length):l.getD i ⟨#[]⟩=l[i]:=by rw[bY,bj h];rfl
def Ad (l:List ByteArray) (v:ByteArray):Int:=match l.findIdx? (fun x=>decide (x=v)) with
 |some i=>(i:Int)
 |none=> -1
theorem amw {a b:ByteArray}:(a.toList==b.toList)=decide (a=b):=by
 rw[wE,uO,gY];constructor
 ·intro h;rw[toList_data,toList_data] at h;obtain⟨⟨x⟩⟩:=a;obtain⟨⟨y⟩⟩:=b;simp only at h;rw[h]
 ·intro h;rw[h]
theorem agQ {l:List ByteArray} {v:ByteArray} (h:i<l.length) (e:l[i]=v) (n:∀j (a:j<l.length),j< i ->¬l[j]=v):Ad l v=i:=by
 have:l.findIdx? (fun x=>decide (x=v))=some i:=List.findIdx?_eq_some_iff_getElem.2 ⟨h,eD e,fun j a=>by
  rw[gY];exact n j al a⟩
 rw[Ad,this]
theorem agO {l:List ByteArray} {v:ByteArray} (n:∀j (h:j<l.length),¬l[j]=v):Ad l v= -1:=by
 have:l.findIdx? (fun x=>decide (x=v))=none:=List.findIdx?_eq_none_iff.2 fun x a=>by
  obtain⟨j,h,rfl⟩:=jz a;exact eK (n j h)
 rw[Ad,this]
theorem agP (l:List ByteArray) (v:ByteArray):decide (0<=Ad l v)=Ai l v:=by
 rw[wE,gY,Ai,uT,Ad];cases e:l.findIdx? (fun x=>decide (x=v)) with
 |some i=>
  obtain⟨h,p,_⟩:=List.findIdx?_eq_some_iff_getElem.1 e;exact⟨fun _=>⟨l[i],bF h,p⟩,fun _=>by show (0:Int)<=(i:Int);omega⟩
 |none=>
  have:=List.findIdx?_eq_none_iff.1 e;exact⟨fun h=>by exact absurd (show (0:Int)<= -1 from h) bd,fun ⟨x,a,p⟩=>by rw[this x a] at p;cases p⟩
theorem afj (a:Option Addr) (ca:Nat) (l:List ByteArray) (v:ByteArray) (w:World) (h:tx w a l) (n:l.length<=140737488355328):
  du 228 #[.slice a l.length ca,.string v] w fun e w'=>e=.returned (.int .i64 (Ad l v))/\w'=w:=by
 have F:=hid h;have P:=hid (fun i h e n=>agQ (l:=l) (v:=v) (i:=i) h e n);have Q:=hid (fun n=>agO (l:=l) (v:=v) n);generalize Ad l v=r at *;clear h;go_enter Tryz.func228,Tryz.ntmps228;go_wp2_with fail
 go_loopw [8] (fun iv wr=>∃i:Nat,i<=l.length/\iv=.int .i64 i/\Hid (∀j (b:j<l.length),j< i ->¬l[j]=v)/\wr=w) (fun iv _=>l.length - (intOf iv).toNat)
 case atStart=>exact⟨0,aV _,rfl,fun j _ h=>absurd h al,rfl⟩
 case round=>
  obtain⟨i,m,rfl,H,rfl⟩:=hrel;by_cases t:i<l.length
  ·obtain⟨g,o,rfl,k,d⟩:=F.o i t;have A:=hid (fun e=>P.o i t e H.o)
   have u:Hid (¬l[i]=v ->∀j (b:j<l.length),j<i+1 ->¬l[j]=v):=fun h j b S=>by
    rcases cT j i with c |c
    ·exact H.o j b c
    ·obtain rfl:j=i:=al
     exact h
   generalize l[i]=x at *;by_cases e:x=v
   ·have E:=hid (A.o e);subst e;go_wp2;go_ret;exact⟨by rw[E.o];rfl,rfl⟩
   ·have E:=hid (u.o e);(have f:(v.toList==x.toList)=false:=by rw[amw];exact eK fun h=>e h.symm);clear e;go_wp2;go_roundw
    case rel=>exact⟨i+1,al,b5,E,trivial⟩
    case measure=>simp[intOf];omega
  ·obtain rfl:i=l.length:=al
   have E:=hid (Q.o fun j b=>H.o j b b);go_wp2;go_ret;exact⟨by rw[E.o];rfl,rfl⟩
theorem afn (a:Option Addr) (ca:Nat) (l:List ByteArray) (v:ByteArray) (w:World) (h:tx w a l) (n:l.length<=140737488355328):
  du 187 #[.slice a l.length ca,.string v] w fun e w'=>e=.returned (.bool (Ai l v))/\w'=w:=by
 have F:=hid h;have H:=hid (fun (V:World) (b:tx V a l)=>afj a ca l v V b n);have M:=hid (agP l v);generalize Ai l v=m at *;generalize Ad l v=r at *;clear h;go_enter Tryz.func187,Tryz.ntmps187;go_wp2_with fail
 refine(H.o _ F.o).af ?_;rintro e c ⟨rfl,rfl⟩;go_wp2;go_ret;exact⟨by rw[<- M.o];rfl,rfl⟩
theorem ah6 {l:List ByteArray} (h:i<l.length) (e:B5 l[i]=false):wN l i=4:=by rw[wN,Uo h,e,aD bd]
theorem ah8 {l:List ByteArray} (h:i<l.length) (e:B5 l[i]=true) (a:Ai (l.take i) l[i]=true):wN l i=7:=by rw[wN,Uo h,e,aA rfl,a,aA rfl]
theorem ah7 {l:List ByteArray} (h:i<l.length) (e:B5 l[i]=true) (a:Ai (l.take i) l[i]=false):wN l i=0:=by rw[wN,Uo h,e,aA rfl,a,aD bd]
theorem acG (a:Option Addr) (ca:Nat) (l:List ByteArray) (w:World) (h:tx w a l) (S:l.length<=140737488355328) (M:l.length<=ca) (f:∀s∈l,s.size<=140737488355328):
  du 130 #[.slice a l.length ca] w fun e w'=>e=.returned (.int .i64 (pR l))/\w'=w:=by
 have F:=hid h;have p:=hid f;have A:Hid (∀i,i<l.length ->(∀j,j< i ->wN l j=0) ->∀k,wN l i=k ->k≠0 ->pR l=k):=fun i c z k d I=>by rw[pR,KS z (by rw[d];exact I) c,d]
 have Z:Hid ((∀j,j<l.length ->wN l j=0) ->pR l=0):=fun h=>CU h;have m:=hid (fun i h e=>ah6 (l:=l) (i:=i) h e);have D:=hid (fun i h e b=>ah8 (l:=l) (i:=i) h e b);have O:=hid (fun i h e b=>ah7 (l:=l) (i:=i) h e b);generalize pR l=r at *;clear h f;go_enter Tryz.func130,Tryz.ntmps130;go_wp2_with fail
 go_loopw [7] (fun iv wr=>∃i:Nat,i<=l.length/\iv=.int .i64 i/\Hid (∀j,j< i ->wN l j=0)/\wr=w) (fun iv _=>l.length - (intOf iv).toNat)
 case atStart=>exact⟨0,aV _,rfl,fun j h=>absurd h al,rfl⟩
 case round=>
  obtain⟨i,c,rfl,H,rfl⟩:=hrel;by_cases t:i<l.length
  ·obtain⟨g,o,rfl,R,L⟩:=F.o i t;have J:=p.o l[i] (bF t);have u:=hid (fun e=>A.o i t H.o 4 (m.o i t e) bd);have y:=hid (fun e b=>A.o i t H.o 7 (D.o i t e b) bd);have P:=hid (fun e b=>QN H.o (O.o i t e b));have K:=hid (F.o.take i);(have Q:(l.take i).length=i:=by rw[eE];omega)
   have q:Hid (∀(v:ByteArray) (V:World),tx V (some ⟨g,o,none⟩) (l.take i) ->du 187 #[.slice (some ⟨g,o,none⟩) i ca,.string v] V fun e w'=>e=.returned (.bool (Ai (l.take i) v))/\w'=V):=fun v V n=>by
    have:=afn (some ⟨g,o,none⟩) ca (l.take i) v V n al;rwa [Q] at this
   clear Q;generalize l[i]=x at *;go_wp2_with fail
   refine(ah9 x _ J).af ?_;rintro e T ⟨rfl,rfl⟩;cases uk:B5 x with
   |false=>
    have E:=hid (u.o uk);clear uk;go_wp2;go_ret;exact⟨by rw[E.o];rfl,rfl⟩
   |true=>
    go_wp2_with fail
    refine(q.o x _ K.o).af ?_;rintro e U ⟨rfl,rfl⟩;cases hm:Ai (l.take i) x with
    |true=>
     have E:=hid (y.o uk hm);clear uk hm;go_wp2;go_ret;exact⟨by rw[E.o];rfl,rfl⟩
    |false=>
     have E:=hid (P.o uk hm);clear uk hm;go_wp2;go_roundw
     case rel=>exact⟨i+1,al,b5,E,trivial⟩
     case measure=>simp[intOf];omega
  ·obtain rfl:i=l.length:=al
   have E:=hid (Z.o H.o);go_wp2;go_ret;exact⟨by rw[E.o];rfl,rfl⟩
section
open Go.Shelf
attribute [local go_sem] Oper.semAt_some
variable {Bn:Nat}
def ER (B:Nat) (w:World) (a:Option Addr) (l:List Int):Prop:=∀k (h:k<l.length),∃g o,a=some ⟨g,o,none⟩/\g<B/\w.cell? ⟨g,o+k,none⟩=some (.int .i64 l[k])
theorem ER.aa {B:Nat} {l:List Int} (h:ER B w a l) (e:Below B w w'):ER B w' a l:=fun k f=>by
 obtain⟨g,o,c,b,d⟩:=h k f;exact⟨g,o,c,b,(e.cell (p:=⟨g,_,none⟩) b).trans d⟩
theorem aJ.toB {l:List Int} (h:aJ w a l):ER w.heap.size w a l:=h
def tC (Bn B:Nat) (V V':World):Prop:=oF Bn V V'/\Below B V V'
theorem tC.t {B:Nat} {X Y Z:World} (h:tC Bn B X Y) (k:tC Bn B Y Z):tC Bn B X Z:=⟨h.1.t k.1,h.2.trans k.2⟩
theorem tC.b {B:Nat} (n:Bn<w.heap.size) (d:B<=w.heap.size) (V:World) (l:Nat) (o o':Obj) (c:w.heap.size<=l) (h1:V.heap[l]? =some o) (h:o.isCells=false) (a:o.isWalk=false):tC Bn B V (V.putObj l o'):=
 ⟨oF.b n V l o o' c h1 h a,uP d V l o o' c h1 h a⟩
def nj (n k:Nat):List Nat:=(List.range k).map fun j=>n - 1 - j
theorem Pk (n k:Nat):nj n (k+1)=nj n k++[n - 1 - k]:=by simp[nj,qC]
theorem amH (n k:Nat):(nj n k).length=k:=by simp[nj]
abbrev At (l:List Int):Type:= {i:Nat//i<l.length}
abbrev UZ (l:List Int) (x:At l):Array Value:= #[.int .i64 (x.1:Nat),.int .i64 (l[x.1]'x.2)]
theorem amG (n:Nat) (Q:1<=n) (l Bn B:Nat) (a:Option Addr) (cap:Nat) (xs:List Int) (P:xs.length<=140737488355328) (J c:List (At xs) ->World ->Prop)
  (Y:∀p x V,J p V ->p.length<xs.length ->YieldAt Fence.wide (n - 1) Tryz.prog l (UZ xs x) V fun e V'=>
   (e=.returned (.bool true)/\J (p++[x]) V'/\tC Bn B V V')∨(e=.returned (.bool false)/\c (p++[x]) V'))
  (V:World) (q:V.cell? ⟨Bn,0,none⟩=some (.slice a xs.length cap)) (f:ER B V a xs) (h0:J [] V):
  CallsIn Fence.wide n Tryz.prog 243 #[.func (.yield l) #[] #[],.pointer (some ⟨Bn,0,none⟩)] V fun e V'=>(∃v,e=.returned v)/\
   ((∃s:List (At xs),s.map (·.1)=nj xs.length xs.length/\J s V')∨(∃p:List (At xs),(∃k,k<=xs.length/\p.map (·.1)=nj xs.length k)/\c p V')):=by
 have X:=hid f;clear f;refine FO Tryz.func243 rfl trivial ?_ rfl;simp only[Tryz.ntmps243,nJ,ew,mG,Nat.reduceAdd,Nat.reduceSub,nR,nQ,nK,mI,jy,fG];gi_wp2
 gi_loopw [3] (fun i wr=>∃(k:Nat) (p:List (At xs)),k<=xs.length/\i=.int .i64 ((xs.length:Int) - 1 - (k:Int))/\Hid (p.map (·.1)=nj xs.length k)/\J p wr/\wr.cell? ⟨Bn,0,none⟩=some (.slice a xs.length cap)/\Hid (ER B wr a xs))
  (fun i _=>(intOf i+1).toNat)
 case atStart=>exact⟨0,[],aV _,aE,rfl,h0,q,X⟩
 case round=>
  obtain⟨k,p,O,rfl,H,j,L,b⟩:=hrel;by_cases U:k<xs.length
  ·have Z:p.length=k:=by have:=dh List.length H.o;rwa [dM,amH] at this
   (have h:xs.length - 1 - k<xs.length:=al);obtain⟨fn,ad,ae,ab,y,R⟩:=Y p ⟨xs.length - 1 - k,h⟩ wr j al;obtain⟨g,o,rfl,K,I⟩:=b.o (xs.length - 1 - k) h;(have S:Hid ((p++[(⟨xs.length - 1 - k,h⟩:At xs)]).map (·.1)=nj xs.length (k+1)):=by show _=_;rw[eP,H.o,Pk];rfl);have r:=hid R;clear R;rw[UZ] at y;simp only at y;(have F:Hid ((xs.length:Int) - 1 - ((k+1:Nat):Int)=(xs.length:Int) - 1 - (k:Int) - 1):=by show _=_;omega);(have d:(xs.length:Int) - 1 - (k:Int)=((xs.length - 1 - k:Nat):Int):=al);rw[d];have u:=hid d;clear d;have M:xs.length - 1 - k<xs.length:=h;generalize hEn:xs[xs.length - 1 - k]=xv at *;generalize Uc:xs.length - 1 - k=E at *;gi_wp2
   refine r.o.af ?_;rintro e D (⟨rfl,w,m⟩ |⟨rfl,A⟩)
   ·have z:=Eq.trans m.1 L;have T:=b.o.aa m.2;gi_wp2
    go_roundw
    case rel=>exact⟨k+1,_,al,by rw[F.o,u.o],S,w,z,T⟩
    case measure=>simp[intOf]
   ·gi_wp2
    refine cj (results_none rfl _ _ _) rfl ?_;exact⟨⟨_,rfl⟩,.inr ⟨_,⟨k+1,al,S.o⟩,A⟩⟩
  ·obtain rfl:k=xs.length:=al
   (have t:(xs.length:Int) - 1 - (xs.length:Int)= -1:=al);rw[t];gi_wp2
   go_end0
   exact⟨⟨_,rfl⟩,.inl ⟨_,H.o,j⟩⟩
end
open Go.Shelf
variable {K:Act ->World ->Prop} {ops:Array Oper} {Q:Exit ->Act ->World ->Prop} {md:Region.Mode}
def JA (ops:Array Oper):Bool:=ops.all fun o=>match o.op with |.defer _=>false |_=>true
theorem agN (h:JA ops=true) {o:Oper} (d:ops[i]? =some o):∀c,o.op≠.defer c:=by
 intro c e;rw[JA,Array.all_eq_true] at h;obtain⟨b,a⟩:=cJ.1 d;have:=h i b;rw[a,e] at this;cases this
theorem ahw {l:Nat} {P:Program} (q:JA ops=true) (u:¬LetsOut Q) {k:Act ->World ->Prop} {a:Act} (b:∀a w,K a w ->k a w)
  (h:wpOp P ops Q i K a w):wpOpIn (Fence.wide.inRound l) n P ops Q i k a w:=by
 unfold wpOp at h;unfold wpOpIn;cases ho:ops[i]? with
 |none=>rw[ho] at h;exact b _ _ h
 |some o=>
  rw[ho] at h;simp only at h⊢;by_cases m:Region.wanted o (yielded ops a.tmps)=true
  ·rw[aA m] at h⊢;rcases h with h |h
   ·refine⟨fun _ _=>trivial,?_⟩;rw[Oper.semAt_eq _ _ _ (agN q ho)];unfold Oper.wp at h;generalize (execOp a.eval o).run P w=r at *;cases r with
    |ok nx w'=>
     cases nx with
     |value v=>exact b _ _ h
     |skip=>exact b _ _ h
     |defer d=>exact b _ _ h
     |enter f args=>
      refine⟨fun g=>absurd g (show ¬Fence.wide.depth.isSome=true by decide),(ix (n:=n - 1)).2 (Calls.af h ?_)⟩;intro e x j;cases e with
      |returned v=>exact b _ _ j
      |panicked c=>exact j
      |outgrown=>exact j
     |row r args=>exact⟨fun g=>absurd g (show ¬Fence.wide.depth.isSome=true by decide),fun c p _=>let ⟨v,t,r,s⟩:=h c p;⟨v,t,b _ _ r,stepsIn_wide.2 s⟩⟩
     |_=>exact h.elim
    |halt hl w'=>
     cases hl with
     |panic v=>exact h
     |_=>exact h.elim
   ·exact absurd h.2 u
  ·rw[aD m] at h⊢;exact⟨fun _ _=>trivial,b _ _ h⟩
theorem acW {l:Nat} {P:Program} (k:JA ops=true) (o:¬LetsOut Q):∀(fuel:Nat) (d:Array Bool) (a:Act) (w:World),wpAny P md ops Q fuel d a w ->wpAnyIn (Fence.wide.inRound l) n P md ops Q fuel d a w
 |0,_,_,_,h=>h
 |fuel+1,_,_,_,h=>⟨h.1,fun i b=>ahw k o (fun a w=>acW k o fuel _ a w) (h.2 i b)⟩
theorem yL {l id:Nat} {P:Program} {a:Act} (S:World ->Prop) (m:P.follows .mixedOrders=true) (k:JA ops=true) (o:¬LetsOut Q) (b:S w.drew)
  (h:S w.drew ->wpAnyH P .any ops Q S ops.size (Array.replicate ops.size false) a w.drew):(Code.region id ops true).wpIn (Fence.wide.inRound l) n P Q a w:=
 wpIn_region_any m (acW k o _ _ _ _ (wpAny_of_held _ _ _ _ (h b)))
section
attribute [local go_sem] Oper.semAt_some
variable {S vs:List Nat} {g:Nat} {V:World}
def EL (S vs:List Nat) (st:Nat×List Nat) (i:Nat):Nat×List Nat:=(st.1/sz S (vs.getD i 0),st.2.set i (st.1 % sz S (vs.getD i 0)))
def qh (S vs:List Nat) (K n:Nat) (pre:List Nat):Nat×List Nat:=pre.foldl (EL S vs) (K,List.replicate n 0)
theorem acT (S vs:List Nat) (K n:Nat) (e:List Nat) (i:Nat):qh S vs K n (e++[i])=EL S vs (qh S vs K n e) i:=by simp[qh]
theorem amL (S vs:List Nat) (K n:Nat) (e:List Nat):(qh S vs K n e).1<=K/\(qh S vs K n e).2.length=n:=by
 have k:∀(l:List Nat) (s:Nat×List Nat),s.1<=K ->s.2.length=n ->(l.foldl (EL S vs) s).1<=K/\(l.foldl (EL S vs) s).2.length=n:=by
  intro l;induction l with
  |nil=>intro s h a;exact⟨h,a⟩
  |cons i l ih=>
   intro s h a;exact ih _ (aR (zS _ _) h) (by simp[EL,a])
 exact k e _ (aq _) aE
theorem acU (S vs:List Nat) (K:Nat):∀m,m<=vs.length ->qh S vs K vs.length (nj vs.length m)=(K/cnt S (vs.drop (vs.length - m)),List.replicate (vs.length - m) 0++mn S (vs.drop (vs.length - m)) (K % cnt S (vs.drop (vs.length - m))))
 |0,_=>by simp[qh,nj,cnt,mn]
 |m+1,h=>by
  rw[Pk,acT,acU S vs K m al];have a:vs.length - 1 - m<vs.length:=al
  have e:vs.length - (m+1)=vs.length - 1 - m:=al
  have b:vs.length - m=(vs.length - 1 - m)+1:=al
  have d:vs.drop (vs.length - 1 - m)=vs[vs.length - 1 - m]::vs.drop ((vs.length - 1 - m)+1):=nP a;rw[e,b,d,EL,CQ a];generalize vs.drop ((vs.length - 1 - m)+1)=rest;generalize vs[vs.length - 1 - m]=v;generalize vs.length - 1 - m=j;simp only[cnt,mn];rw[ZX,ZW,QG,dK (cnt S rest),List.replicate_succ',lV,BC _ _ aE];simp
theorem amM {K:Nat} (h:K<cnt S vs):qh S vs K vs.length (nj vs.length vs.length)=(0,mn S vs K):=by
 rw[acU S vs K _ (aq _),mF];simp[kI h,yr h]
theorem UY (n:Nat) (a:Option Addr) (l cap:Nat) (w:World):
  CallsIn Fence.wide n Tryz.prog 231 #[.slice a l cap] w fun e w'=>e=.returned (.func (.func 243) #[] #[.pointer (some ⟨w.heap.size,0,none⟩)])/\w'=w.alloc (.cells #[.slice a l cap] 22):=by
 refine FO Tryz.func231 rfl trivial ?_ rfl;simp only[Tryz.ntmps231,nJ,ew,mG,Nat.reduceAdd,Nat.reduceSub,nR,nQ,nK,mI,jy,fG];gi_wp2
 go_ret;exact⟨rfl,rfl⟩
theorem UX (n:Nat) (f:1<=n) (Bn B:Nat) (a:Option Addr) (cap:Nat) (xs:List Int) (e:xs.length<=140737488355328) (w:World) (E:Bn<w.heap.size) (c:B<=w.heap.size) (d:w.cell? ⟨Bn,0,none⟩=some (.slice a xs.length cap)) (g:ER B w a xs):
  SeqStopsK Fence.wide n Tryz.prog 243 #[.pointer (some ⟨Bn,0,none⟩)] (UZ xs) (tC Bn B) (fun s=>s.map (·.1)=nj xs.length xs.length) (fun r=>∃k,k<=xs.length/\r.map (·.1)=nj xs.length k) xs.length w:=fun l J x V h _ _ Y b=>
 amG n f l Bn B a cap xs e J x Y V ((h.cell (p:=⟨Bn,0,none⟩) E).trans d) (g.aa (h.af c)) b
theorem Na {β:Type} (g:Nat) (f:β ->List Nat):Own (fun s W=>cM W g (f s)):=fun s X Y w h b r=>by
 refine(b.block g h.lt fun e=>?_).trans h;obtain⟨o,a,c⟩:=r g e.symm;rw[show X.heap[g]? =_ from h] at a;cases a;cases c
theorem Z3 (w:World) (n:Nat):cM (w.alloc (.cells (madeCells #[Value.int .i64 0] n) 3)) w.heap.size (List.replicate n 0):=by
 have h:(madeCells #[Value.int .i64 0] n).toList=(List.replicate n (0:Nat)).map iv:=by
  have:=Gq n;rwa [kF,show (Value.int .i64 0).cells= #[Value.int .i64 0] from rfl] at this
 have e:madeCells #[Value.int .i64 0] n=((List.replicate n (0:Nat)).map iv).toArray:=by rw[<- h]
 rw[cM, <- e];exact dB _ _
theorem cM.alloc {l:List Nat} (h:cM w g l) (o:Obj):cM (w.alloc o) g l:=(wF w o g h.lt).trans h
theorem ic {t:TypeId} {v:Value} (h:Boxed V k t v) (b j:Nat) (y:Value) (e:k≠b):Boxed (V.setCell ⟨b,j,none⟩ y) k t v:=(fQ V ⟨b,j,none⟩ y k e).trans h
theorem cM.off {l:List Nat} (h:cM V g l) (b j:Nat) (y:Value) (e:g≠b):cM (V.setCell ⟨b,j,none⟩ y) g l:=(fQ V ⟨b,j,none⟩ y g e).trans h
end
section
attribute [local go_sem] Oper.semAt_some
variable {S:List Nat}
def lZ (S:List Nat) (n:Nat) (vs:List Nat):List Nat:=(List.range n).map (cE S vs)
theorem pL (S:List Nat) (n:Nat) (vs:List Nat):(lZ S n vs).length=n:=by simp[lZ]
theorem ae5 (S:List Nat) (n:Nat):lZ S n []=List.replicate n 0:=by
 apply sI<;>simp[lZ,cE]
theorem ae7 (S:List Nat) (n u:Nat) (vs:List Nat):(lZ S n vs).set u (cnt S vs)=lZ S n (u::vs):=by
 apply sI
 ·simp[lZ]
 ·intro i a b;simp only[lZ,MG,nO,DF,cE];by_cases e:u=i
  ·rw[aA e,aA e.symm]
  ·rw[aD e,aD (fun h=>e h.symm)]
theorem ae6 (S:List Nat) (n:Nat) (vs:List Nat) (h:v<n):(lZ S n vs)[v]'(by rw[pL];exact h)=cE S vs v:=by simp[lZ]
def BU (S vs:List Nat) (st:Nat×List Nat) (i:Nat):Nat×List Nat:=(st.1*sz S (vs.getD i 0),st.2.set (vs.getD i 0) st.1)
def pM (S vs:List Nat) (n:Nat) (pre:List Nat):Nat×List Nat:=pre.foldl (BU S vs) (1,List.replicate n 0)
theorem X4 (S vs:List Nat) (n:Nat) (e:List Nat) (i:Nat):pM S vs n (e++[i])=BU S vs (pM S vs n e) i:=by simp[pM]
theorem X5 (S vs:List Nat) (n:Nat):∀m,m<=vs.length ->pM S vs n (nj vs.length m)=(cnt S (vs.drop (vs.length - m)),lZ S n (vs.drop (vs.length - m)))
 |0,_=>by simp[pM,nj,cnt,ae5]
 |m+1,h=>by
  rw[Pk,X4,X5 S vs n m al];have j:vs.length - 1 - m<vs.length:=al
  have e:vs.length - (m+1)=vs.length - 1 - m:=al
  have a:vs.length - m=(vs.length - 1 - m)+1:=al
  have d:vs.drop (vs.length - 1 - m)=vs[vs.length - 1 - m]::vs.drop ((vs.length - 1 - m)+1):=nP j;rw[e,a,d,BU,CQ j];simp only[cnt,ae7];rw[dK]
theorem ae8 (d:∀v,sz S v<=4) (vs:List Nat) (n:Nat) (e:List Nat):(pM S vs n e).1<=4^e.length/\(pM S vs n e).2.length=n:=by
 have k:∀(l:List Nat) (s:Nat×List Nat),s.2.length=n ->(l.foldl (BU S vs) s).1<=s.1*4^l.length/\(l.foldl (BU S vs) s).2.length=n:=by
  intro l;induction l with
  |nil=>intro s a;exact⟨aE,a⟩
  |cons i l ih=>
   intro s a;obtain⟨b,c⟩:=ih (BU S vs s i) (by simp[BU,a]);refine⟨aR b ?_,c⟩;show s.1*sz S (vs.getD i 0)*4^l.length<=s.1*4^(l.length+1);rw[gJ,dK (4^l.length), <- iP];exact lS _ (jg _ (d _))
 have h:=k e (1,List.replicate n 0) aE;rwa [jP] at h
theorem ae9 (S vs:List Nat) (n:Nat):pM S vs n (nj vs.length vs.length)=(cnt S vs,lZ S n vs):=by
 rw[X5 S vs n _ (aq _),mF,BM]
theorem X6 (a b:Option Addr) (ca cb:Nat) (sizes vars:List Int) (w:World) (I:aJ w a sizes) (hv:aJ w b vars) (A:fX sizes) (Y:Up vars sizes.length):
  du 207 #[.slice a sizes.length ca,.slice b vars.length cb] w fun e w'=>∃(c cc:Nat),e=.returned (.slice (some ⟨c,0,none⟩) sizes.length cc)/\w.heap.size<=c/\aJ w' (some ⟨c,0,none⟩) (iL (lZ (ag sizes) sizes.length (ag vars)))/\ef w w':=by
 refine(ix (n:=6)).1 ?_;have rR:=A.eight;have oY:=Y.length;have ax:cnt (ag sizes) (ag vars)<=65536:=vJ A.sz_le (by rw[gM];omega);have av:=fun V=>run_make_row' (P:=Tryz.prog) 22 3 (.int .i64 0) 8 Tryz.underlying22 Tryz.infoInt rfl .i64 .i64 sizes.length al al V;have HS:=hid I;have HV:=hid hv;have S:=hid A;have lQ:=hid Y;have sB:=hid (ae9 (ag sizes) (ag vars) sizes.length);rw[gM] at sB;clear I hv A Y;refine uN Tryz.func207 rfl trivial ?_ rfl;simp only[Tryz.ntmps207,nJ,ew,mG,Nat.reduceAdd,Nat.reduceSub,nR,nQ,nK,mI,jy,fG];gi_wp2_with ((refine⟨trivial,?_⟩;gi_at_call 231;refine(UY _ _ _ _ _).af ?_;rintro e w2 ⟨rfl,rfl⟩))
 obtain⟨f,g⟩:∃f,f=(((((w.alloc (.cells #[.slice a sizes.length ca] 22)).alloc (.cells #[.int .i64 1] 3)).alloc (.cells (madeCells #[.int .i64 0] sizes.length) 3)).alloc (.cells #[.slice (some ⟨w.heap.size+1+1,0,none⟩) sizes.length sizes.length] 22)).alloc (.cells #[.slice b vars.length cb] 22)):=⟨_,rfl⟩;have yZ:f.heap.size=w.heap.size+1+1+1+1+1:=by rw[g];simp
 have b0:Boxed f w.heap.size 22 (.slice a sizes.length ca):=by rw[g];exact((((a8 w _ _).alloc _).alloc _).alloc _).alloc _
 have b1:Boxed f (w.heap.size+1) 3 (.int .i64 1):=by
  have h:=((((a8 (w.alloc (.cells #[.slice a sizes.length ca] 22)) 3 (.int .i64 1)).alloc (.cells (madeCells #[.int .i64 0] sizes.length) 3)).alloc (.cells #[.slice (some ⟨w.heap.size+1+1,0,none⟩) sizes.length sizes.length] 22)).alloc (.cells #[.slice b vars.length cb] 22));rw[dE] at h;rw[g];exact h
 have r2:cM f (w.heap.size+1+1) (List.replicate sizes.length 0):=by
  have h:=((Z3 ((w.alloc (.cells #[.slice a sizes.length ca] 22)).alloc (.cells #[.int .i64 1] 3)) sizes.length).alloc (.cells #[.slice (some ⟨w.heap.size+1+1,0,none⟩) sizes.length sizes.length] 22)).alloc (.cells #[.slice b vars.length cb] 22);rw[dE,dE] at h;rw[g];exact h
 have b3:Boxed f (w.heap.size+1+1+1) 22 (.slice (some ⟨w.heap.size+1+1,0,none⟩) sizes.length sizes.length):=by
  have h:=(a8 (((w.alloc (.cells #[.slice a sizes.length ca] 22)).alloc (.cells #[.int .i64 1] 3)).alloc (.cells (madeCells #[.int .i64 0] sizes.length) 3)) 22 (.slice (some ⟨w.heap.size+1+1,0,none⟩) sizes.length sizes.length)).alloc (.cells #[.slice b vars.length cb] 22);rw[dE,dE,dE] at h;rw[g];exact h
 have X:Boxed f (w.heap.size+1+1+1+1) 22 (.slice b vars.length cb):=by
  have h:=a8 ((((w.alloc (.cells #[.slice a sizes.length ca] 22)).alloc (.cells #[.int .i64 1] 3)).alloc (.cells (madeCells #[.int .i64 0] sizes.length) 3)).alloc (.cells #[.slice (some ⟨w.heap.size+1+1,0,none⟩) sizes.length sizes.length] 22)) 22 (.slice b vars.length cb);rw[dE,dE,dE,dE] at h;rw[g];exact h
 have ad:ef w f:=by
  rw[g];exact(((((au _ w).alloc (aq _) _).alloc aE _).alloc (by simp;omega) _).alloc (by simp;omega) _).alloc (by simp;omega) _
 rw[<- g];clear g
 refine Mr (α:=At vars) rfl al (gf:=243) (lb:= #[.pointer (some ⟨w.heap.size+1+1+1+1,0,none⟩)]) rfl trivial (enters_of Tryz.func243 ao rfl)
  (UX 5 al (w.heap.size+1+1+1+1) w.heap.size b cb vars al f al al X.cell (HV.o.toB.aa ad)) tC.t (tC.b al al) (au _ _) (fun _=>rfl)
  (fun (d:List (At vars)) V=>Boxed V w.heap.size 22 (.slice a sizes.length ca)/\Boxed V (w.heap.size+1) 3 (.int .i64 ((pM (ag sizes) (ag vars) sizes.length (d.map (·.1))).1:Nat))/\cM V (w.heap.size+1+1) (pM (ag sizes) (ag vars) sizes.length (d.map (·.1))).2/\Boxed V (w.heap.size+1+1+1) 22 (.slice (some ⟨w.heap.size+1+1,0,none⟩) sizes.length sizes.length)/\Boxed V (w.heap.size+1+1+1+1) 22 (.slice b vars.length cb)/\ef w V)
  (fun _ _ _=>False)
  (fP (gZ (jN _ _ (fun _=>_)) _) (fP (gZ (jN _ _ (fun d:List (At vars)=>.int .i64 ((pM (ag sizes) (ag vars) sizes.length (d.map (·.1))).1:Nat))) _) (fP (gZ (Na _ (fun d:List (At vars)=>(pM (ag sizes) (ag vars) sizes.length (d.map (·.1))).2)) _) (fP (gZ (jN _ _ (fun _=>_)) _) (fP (gZ (jN _ _ (fun _=>_)) _) (zM (aq _) al))))))
  (fun _ _ _ _ _ I _ _=>I)
  ⟨b0,b1,r2,b3,X,ad⟩
  (fun x=> {tmps:= #[.slice a sizes.length ca,.slice b vars.length cb,.pointer (some ⟨w.heap.size,0,none⟩),undef,.slice none 0 0,.pointer (some ⟨w.heap.size+1,0,none⟩),.pointer (some ⟨w.heap.size+1+1+1,0,none⟩),undef,.int .i64 (vars[x.1]'x.2),.slice a sizes.length ca,.int .i64 (sizes.length:Nat),.slice (some ⟨w.heap.size+1+1,0,none⟩) sizes.length sizes.length,.slice b vars.length cb,.func (.func 243) #[] #[.pointer (some ⟨w.heap.size+1+1+1+1,0,none⟩)],.int .i64 (x.1:Nat),.int .i64 (vars[x.1]'x.2),undef,undef,undef,undef,undef,undef,undef,undef,undef,undef,undef],defers:=[]}) ?assign ?body ?done ?stop
 case assign=>
  intro l x V K q;gi_wp2
  exact q
 case body=>
  rintro l d ⟨i,H⟩ V ⟨Z,E,k,m,h4,F⟩ aC;obtain⟨l6,mR⟩:=lQ.o.nat H
  have ab:Hid (pM (ag sizes) (ag vars) sizes.length ((d++[(⟨i,H⟩:At vars)]).map (·.1))=((pM (ag sizes) (ag vars) sizes.length (d.map (·.1))).1*sz (ag sizes) vars[i].toNat,(pM (ag sizes) (ag vars) sizes.length (d.map (·.1))).2.set vars[i].toNat (pM (ag sizes) (ag vars) sizes.length (d.map (·.1))).1)):=by
   show _=_;rw[eP,iy,nM,X4,BU,CQ (show i<(ag vars).length by rw[gM];exact H),uY H]
  obtain⟨jV,aj⟩:=ae8 S.o.sz_le (ag vars) sizes.length (d.map (·.1));have ai:(4:Nat)^(d.map (·.1)).length<=16384:=aR (kE al (show (d.map (·.1)).length<=7 by rw[dM];omega)) bd;have ae:=aR jV ai;have hz:=nT S.o.pos vars[i].toNat;have Gt:=S.o.sz_le vars[i].toNat;clear jV ai;generalize hV:vars[i].toNat=v at *;rw[<- l6];obtain⟨g',o',rfl,iI,c1⟩:=(HS.o.aa F) v mR;rw[<- S.o.sz_eq mR] at c1
  have az:g'<w.heap.size:=by
   obtain⟨g3,o3,e3,m,_⟩:=HS.o v mR;cases e3;exact m
  clear l6 hV;generalize pM (ag sizes) (ag vars) sizes.length (d.map (·.1))=st at *;obtain⟨p,Q⟩:=st;simp only at E k ae aj ab;generalize sz (ag sizes) v=s at *;have a1:=k.cell v al;have ay:=k.fz v;have k0:=Z.cell;have k1:=E.cell;have k3:=m.cell;have dN:p*s<=65536:=aR (iO ae Gt) bd;have T:(p:Int)*(s:Int)=((p*s:Nat):Int):=(lW _ _).symm;have nY:v<Q.length:=al
  generalize Q[v]=z at *;have aT:IntKind.i64.wrap ((p:Int)*(s:Int))=(p:Int)*(s:Int):=by rw[T,fj];omega
  have PJ:=hid T;clear T av b0 b1 r2 b3 X ad yZ sB lQ S HV ax aj;gi_wp2_with fail
  have ah:∀(b j:Nat),¬w.heap.size+1+1=b ->(V.setCell ⟨w.heap.size+1+1,v,none⟩ (.int .i64 (p:Int))).cell? ⟨b,j,none⟩=V.cell? ⟨b,j,none⟩:=fun b j hb=>dY _ _ _ _ (fun e=>hb (by cases e;rfl));have m2:=(ah g' (o'+v) al).trans c1;have q0:Boxed (V.setCell ⟨w.heap.size+1+1,v,none⟩ (.int .i64 (p:Int))) w.heap.size 22 (.slice (some ⟨g',o',none⟩) sizes.length ca):=ic Z _ v _ al;have q1:Boxed (V.setCell ⟨w.heap.size+1+1,v,none⟩ (.int .i64 (p:Int))) (w.heap.size+1) 3 (.int .i64 (p:Nat)):=ic E _ v _ al;have q3:Boxed (V.setCell ⟨w.heap.size+1+1,v,none⟩ (.int .i64 (p:Int))) (w.heap.size+1+1+1) 22 (.slice (some ⟨w.heap.size+1+1,0,none⟩) sizes.length sizes.length):=ic m _ v _ al;have J:Boxed (V.setCell ⟨w.heap.size+1+1,v,none⟩ (.int .i64 (p:Int))) (w.heap.size+1+1+1+1) 22 (.slice b vars.length cb):=ic h4 _ v _ al;have q2:cM (V.setCell ⟨w.heap.size+1+1,v,none⟩ (.int .i64 (p:Int))) (w.heap.size+1+1) (Q.set v p):=k.set v p;have qB:ef w (V.setCell ⟨w.heap.size+1+1,v,none⟩ (.int .i64 (p:Int))):=F.setCell (p:=⟨w.heap.size+1+1,v,none⟩) (by simp;omega) _;have qK:Below w.heap.size V (V.setCell ⟨w.heap.size+1+1,v,none⟩ (.int .i64 (p:Int))):=(au w.heap.size V).setCell (p:=⟨w.heap.size+1+1,v,none⟩) (by simp;omega) _;have qO:KeepsOthers V (V.setCell ⟨w.heap.size+1+1,v,none⟩ (.int .i64 (p:Int))):=kh V _ _;have j4:oF (w.heap.size+1+1+1+1) V (V.setCell ⟨w.heap.size+1+1,v,none⟩ (.int .i64 (p:Int))):=J.cell.trans h4.cell.symm;have m0:=q0.cell
  have m1:=q1.cell;have fU:=q1.frozen;clear ah;generalize (V.setCell ⟨w.heap.size+1+1,v,none⟩ (.int .i64 (p:Int)))=U at *;refine yL (fun u=>u.cell? ⟨w.heap.size,0,none⟩=some (.slice (some ⟨g',o',none⟩) sizes.length ca)/\u.cell? ⟨g',o'+v,none⟩=some (.int .i64 (s:Nat))) ao ao (fun ⟨_,_,h⟩=>h) ⟨m0,m2⟩ ?_;intro ak;refine ed 1 (.slice (some ⟨g',o',none⟩) sizes.length ca) ?_ ?_
  ·intro u O;obtain⟨L,M⟩:=O;simp only[gE];go_simp
  simp only[gE,aP];refine ed 2 (.int .i64 (v:Nat)) ?_ ?_
  ·intro u O;obtain⟨L,M⟩:=O;simp only[gE];go_simp
  simp only[gE,aP];refine ed 3 (.pointer (some ⟨g',o'+v,none⟩)) ?_ ?_
  ·intro u O;obtain⟨L,M⟩:=O;simp only[gE];go_simp
  simp only[gE,aP];refine ed 4 (.int .i64 (s:Nat)) ?_ ?_
  ·intro u O;obtain⟨L,M⟩:=O;simp only[gE];go_simp
  simp only[gE,aP];refine aG [0] (cA ?_ aF);intro R y;simp only[gE];go_simp;refine y.o _ _ ak (fun _=>?_);clear y R;refine ed 5 (.int .i64 ((p:Int)*(s:Int))) ?_ ?_
  ·intro u O;obtain⟨L,M⟩:=O;simp only[gE];go_simp
  simp only[gE,aP];refine aG [6] (cA ?_ aF);intro R y;simp only[gE];go_simp;refine y.o _ _ ⟨(ic q0 (w.heap.size+1) 0 _ al).cell,(dY _ _ _ _ (fun e=>(show ¬w.heap.size+1=g' by omega) (dh Addr.block e))).trans m2⟩ (fun _=>dS ao ?_ _);clear y R ak;gi_wp2
  rw[PJ.o];refine⟨(qO.trans ((kh U _ _).trans (zW _))).from _,⟨j4.t ((ic J (w.heap.size+1) 0 (.int .i64 ((p*s:Nat):Int)) al).cell.trans J.cell.symm),(qK.setCell (p:=⟨w.heap.size+1,0,none⟩) aE _).drew⟩,?_⟩;refine⟨ic q0 _ 0 _ al,?_,?_,ic q3 _ 0 _ al,ic J _ 0 _ al,(qB.setCell (p:=⟨w.heap.size+1,0,none⟩) aE _).drew⟩
  ·rw[ab.o];exact q1.set _
  ·rw[ab.o];exact q2.off _ 0 _ al
 case done=>
  rintro D ys V hD Ca ⟨Z,E,k,m,h4,F⟩ q;rw[Ca,sB.o] at k;have hc:=m.cell;gi_wp2
  refine⟨aE,.inl ⟨_,_,rfl,Bu q,?_⟩⟩;refine⟨_,Bx rfl _ _ _,?_⟩;refine⟨w.heap.size+1+1,⟨sizes.length,rfl⟩,al,?_,F.trans (uP (w:=w) (aq _) V D _ _ al q rfl rfl)⟩;have an:cM (V.putObj D (.deferred none)) (w.heap.size+1+1) (lZ (ag sizes) sizes.length (ag vars)):=Na (w.heap.size+1+1) (fun (_:Unit)=>lZ (ag sizes) sizes.length (ag vars)) () V _ (some D) k (grownBy_putObj' V D _) (fun r e=>by cases e;exact⟨_,q,rfl⟩);exact an.ints
 case stop=>
  rintro D c d V _ _ h _;exact h.elim
end
section
attribute [local go_sem] Oper.semAt_some
variable {S vs:List Nat}
def DN (S vs ts:List Nat) (st:Nat×Nat) (i:Nat):Nat×Nat:=(st.1/sz S (vs.getD i 0),st.2+st.1 % sz S (vs.getD i 0)*ts.getD (vs.getD i 0) 0)
def pN (S vs ts:List Nat) (K:Nat) (pre:List Nat):Nat×Nat:=pre.foldl (DN S vs ts) (K,0)
theorem X7 (S vs s:List Nat) (K:Nat) (e:List Nat) (i:Nat):pN S vs s K (e++[i])=DN S vs s (pN S vs s K e) i:=by simp[pN]
theorem afa (p:Pos S) (c:∀v,sz S v<=4) (vs t:List Nat) (d:∀v,t.getD v 0<=65536) (K:Nat) (e:List Nat):(pN S vs t K e).1<=K/\(pN S vs t K e).2<=262144*e.length:=by
 have k:∀(l:List Nat) (s:Nat×Nat),(l.foldl (DN S vs t) s).1<=s.1/\(l.foldl (DN S vs t) s).2<=s.2+262144*l.length:=by
  intro l;induction l with
  |nil=>intro s;exact⟨aq _,aE⟩
  |cons i l ih=>
   intro s;obtain⟨a,b⟩:=ih (DN S vs t s i);refine⟨aR a (zS _ _),aR b ?_⟩;have f:=jQ s.1 (show 0<sz S (vs.getD i 0) from nT p _);have g:s.1 % sz S (vs.getD i 0)*t.getD (vs.getD i 0) 0<=4*65536:=iO (by have:=c (vs.getD i 0);omega) (d _);show s.2+s.1 % sz S (vs.getD i 0)*t.getD (vs.getD i 0) 0+_<=_;rw[ew];omega
 have h:=k e (K,0);rwa [bB] at h
theorem X8 (n:vs.Nodup) (s:List Nat) (K:Nat):∀m,m<=vs.length ->pN S vs s K (nj vs.length m)=(K/cnt S (vs.drop (vs.length - m)),fH (fun v=>aY S (vs.drop (vs.length - m)) (K % cnt S (vs.drop (vs.length - m))) v*s.getD v 0) (vs.drop (vs.length - m)))
 |0,_=>by simp[pN,nj,cnt,fH]
 |m+1,h=>by
  rw[Pk,X7,X8 n s K m al];have j:vs.length - 1 - m<vs.length:=al
  have a:vs.length - (m+1)=vs.length - 1 - m:=al
  have b:vs.length - m=(vs.length - 1 - m)+1:=al
  have d:vs.drop (vs.length - 1 - m)=vs[vs.length - 1 - m]::vs.drop ((vs.length - 1 - m)+1):=nP j;have k:(vs.drop (vs.length - 1 - m)).Nodup:=n.sublist (List.drop_sublist _ _);rw[d,pG] at k;rw[a,b,d,DN,CQ j];generalize vs.drop ((vs.length - 1 - m)+1)=rest at k⊢;generalize vs[vs.length - 1 - m]=u at k⊢;simp only[amK];rw[cnt,QG,dK (cnt S rest),fH,aA rfl,yu];congr 2
  refine F2 fun v c=>?_;rw[aD (fun e=>k.1 (by rw[<- e];exact c))]
theorem afb (n:vs.Nodup) (s:List Nat) {K:Nat} (h:K<cnt S vs):pN S vs s K (nj vs.length vs.length)=(0,fH (fun v=>aY S vs K v*s.getD v 0) vs):=by
 rw[X8 n s K _ (aq _),mF,BM,kI h,yr h]
theorem afd (Y F I:Nat) (a b t:Option Addr) (ca cb ct:Nat) (sizes vars:List Int) (s:List Nat) (K:Nat) (w:World) (Hg:Y<w.heap.size) (xD:F<w.heap.size) (uy:I<w.heap.size) (xv:w.cell? ⟨Y,0,none⟩=some (.slice b vars.length cb)) (xs:w.cell? ⟨F,0,none⟩=some (.slice a sizes.length ca)) (xt:w.cell? ⟨I,0,none⟩=some (.slice t sizes.length ct))
  (hs:aJ w a sizes) (hv:aJ w b vars) (ht:aJ w t (iL s)) (sQ:s.length=sizes.length) (vw:∀v,s.getD v 0<=65536) (Z:fX sizes) (bJ:Up vars sizes.length) (P:K<cnt (ag sizes) (ag vars)) (kP:(ag vars).Nodup):
  du 232 #[.int .i64 (K:Nat),.pointer (some ⟨Y,0,none⟩),.pointer (some ⟨F,0,none⟩),.pointer (some ⟨I,0,none⟩)] w (eS w (.int .i64 (fH (fun v=>aY (ag sizes) (ag vars) K v*s.getD v 0) (ag vars):Nat))):=by
 refine(ix (n:=6)).1 ?_;have rR:=Z.eight;have oY:=bJ.length;have an:cnt (ag sizes) (ag vars)<=65536:=vJ Z.sz_le (by rw[gM];omega);have HS:=hid hs;have HV:=hid hv;have HT:=hid ht;have S:=hid Z;have lQ:=hid bJ;have ek:=hid vw;have sB:=hid (afb kP s P);rw[gM] at sB;clear hs hv Z bJ ht vw;refine uN Tryz.func232 rfl trivial ?_ rfl;simp only[Tryz.ntmps232,nJ,ew,mG,Nat.reduceAdd,Nat.reduceSub,nR,nQ,nK,mI,jy,fG];gi_wp2_with ((refine⟨trivial,?_⟩;gi_at_call 231;refine(UY _ _ _ _ _).af ?_;rintro e w2 ⟨rfl,rfl⟩))
 obtain⟨H,Q⟩:∃H,H=(((w.alloc (.cells #[.int .i64 (K:Nat)] 3)).alloc (.cells #[.int .i64 0] 3)).alloc (.cells #[.slice b vars.length cb] 22)):=⟨_,rfl⟩;have yZ:H.heap.size=w.heap.size+1+1+1:=by rw[Q];simp
 have b0:Boxed H w.heap.size 3 (.int .i64 (K:Nat)):=by rw[Q];exact((a8 w _ _).alloc _).alloc _
 have b1:Boxed H (w.heap.size+1) 3 (.int .i64 0):=by
  have h:=(a8 (w.alloc (.cells #[.int .i64 (K:Nat)] 3)) 3 (.int .i64 0)).alloc (.cells #[.slice b vars.length cb] 22);rw[dE] at h;rw[Q];exact h
 have b4:Boxed H (w.heap.size+1+1) 22 (.slice b vars.length cb):=by
  have h:=a8 ((w.alloc (.cells #[.int .i64 (K:Nat)] 3)).alloc (.cells #[.int .i64 0] 3)) 22 (.slice b vars.length cb);rw[dE,dE] at h;rw[Q];exact h
 have ae:ef w H:=by
  rw[Q];exact(((au _ w).alloc (aq _) _).alloc aE _).alloc (by simp;omega) _
 rw[<- Q];clear Q
 refine Mr (α:=At vars) rfl al (gf:=243) (lb:= #[.pointer (some ⟨w.heap.size+1+1,0,none⟩)]) rfl trivial (enters_of Tryz.func243 ao rfl)
  (UX 5 al (w.heap.size+1+1) w.heap.size b cb vars al H al al b4.cell (HV.o.toB.aa ae)) tC.t (tC.b al al) (au _ _) (fun _=>rfl)
  (fun (q:List (At vars)) V=>Boxed V w.heap.size 3 (.int .i64 ((pN (ag sizes) (ag vars) s K (q.map (·.1))).1:Nat))/\Boxed V (w.heap.size+1) 3 (.int .i64 ((pN (ag sizes) (ag vars) s K (q.map (·.1))).2:Nat))/\Boxed V (w.heap.size+1+1) 22 (.slice b vars.length cb)/\ef w V)
  (fun _ _ _=>False)
  (fP (gZ (jN _ _ (fun q:List (At vars)=>.int .i64 ((pN (ag sizes) (ag vars) s K (q.map (·.1))).1:Nat))) _) (fP (gZ (jN _ _ (fun q:List (At vars)=>.int .i64 ((pN (ag sizes) (ag vars) s K (q.map (·.1))).2:Nat))) _) (fP (gZ (jN _ _ (fun _=>_)) _) (zM (aq _) al))))
  (fun _ _ _ _ _ hs _ _=>hs)
  ⟨b0,b1,b4,ae⟩
  (fun x=> {tmps:= #[.int .i64 (K:Nat),.pointer (some ⟨Y,0,none⟩),.pointer (some ⟨F,0,none⟩),.pointer (some ⟨I,0,none⟩),.pointer (some ⟨w.heap.size,0,none⟩),.int .i64 0,.pointer (some ⟨w.heap.size+1,0,none⟩),undef,.int .i64 (vars[x.1]'x.2),.slice b vars.length cb,.func (.func 243) #[] #[.pointer (some ⟨w.heap.size+1+1,0,none⟩)],.int .i64 (x.1:Nat),.int .i64 (vars[x.1]'x.2),undef,undef,undef,undef,undef,undef,undef,undef,undef,undef,undef,undef,undef,undef,undef,undef,undef,undef,undef,undef],defers:=[]}) ?assign ?body ?done ?stop
 case assign=>
  intro l x V K P;gi_wp2
  exact P
 case body=>
  rintro l q ⟨i,hi⟩ V ⟨h0,L,h4,M⟩ az;obtain⟨l6,mR⟩:=lQ.o.nat hi
  have ad:Hid (pN (ag sizes) (ag vars) s K ((q++[(⟨i,hi⟩:At vars)]).map (·.1))=((pN (ag sizes) (ag vars) s K (q.map (·.1))).1/sz (ag sizes) vars[i].toNat,(pN (ag sizes) (ag vars) s K (q.map (·.1))).2+(pN (ag sizes) (ag vars) s K (q.map (·.1))).1 % sz (ag sizes) vars[i].toNat*s.getD vars[i].toNat 0)):=by
   show _=_;rw[eP,iy,nM,X7,DN,CQ (show i<(ag vars).length by rw[gM];exact hi),uY hi]
  obtain⟨jV,ah⟩:=afa S.o.pos S.o.sz_le (ag vars) s ek.o K (q.map (·.1));rw[dM] at ah;have hz:=nT S.o.pos vars[i].toNat;have Gt:=S.o.sz_le vars[i].toNat;have vw:=ek.o vars[i].toNat;generalize hV:vars[i].toNat=v at *;rw[<- l6];obtain⟨g',o',rfl,iI,c1⟩:=(HS.o.aa M) v mR;rw[<- S.o.sz_eq mR] at c1
  have ay:g'<w.heap.size:=by
   obtain⟨g3,o3,e3,h3,_⟩:=HS.o v mR;cases e3;exact h3
  have Ee:v<(iL s).length:=by rw[bI];omega
  obtain⟨gt,X,rfl,ax,c2⟩:=(HT.o.aa M) v Ee
  have av:gt<w.heap.size:=by
   obtain⟨g3,o3,e3,h3,_⟩:=HT.o v Ee;cases e3;exact h3
  have ai:(iL s)[v]=((s.getD v 0:Nat):Int):=by rw[CQ al];simp[iL]
  rw[ai] at c2;clear ai l6 hV;generalize pN (ag sizes) (ag vars) s K (q.map (·.1))=st at *;obtain⟨p,r⟩:=st;simp only at h0 L jV ah ad;generalize sz (ag sizes) v=f at *;generalize s.getD v 0=d at *;have k0:=h0.cell;have k1:=L.cell;have ks:=(M.cell (p:=⟨F,0,none⟩) xD).trans xs;have kt:=(M.cell (p:=⟨I,0,none⟩) uy).trans xt;have f1:=L.frozen;have sU:(p:Int) % (f:Int)=((p % f:Nat):Int):=(yz _ _).symm;have iV:(p:Int)/(f:Int)=((p/f:Nat):Int):=(yA _ _).symm;have aj:p % f<=3:=by have:=jQ p (show 0<f by omega);omega
  have bz:p/f<=65536:=aR (zS _ _) al;generalize p % f=m at *;generalize p/f=dd at *;have S9:m*d<=196608:=aR (iO aj vw) bd;have ab:(m:Int)*(d:Int)=((m*d:Nat):Int):=(lW _ _).symm;have aC:IntKind.i64.wrap ((p:Int)/(f:Int))=(p:Int)/(f:Int):=by rw[iV,fj];omega
  have aT:IntKind.i64.wrap ((m:Int)*(d:Int))=(m:Int)*(d:Int):=by rw[ab,fj];omega
  have a1:IntKind.i64.wrap ((r:Int)+(m:Int)*(d:Int))=(r:Int)+(m:Int)*(d:Int):=by rw[ab,fj];omega
  have qj:=hid sU;have oK:=hid iV;have kX:Hid ((r:Int)+(m:Int)*(d:Int)=((r+m*d:Nat):Int)):=by show _=_;rw[ab];exact(yB _ _).symm
  clear sU iV ab b0 b1 b4 ae yZ sB lQ S HV ek an P;gi_wp2_with fail
  refine yL (fun u=>u.cell? ⟨w.heap.size,0,none⟩=some (.int .i64 (p:Nat))/\u.cell? ⟨F,0,none⟩=some (.slice (some ⟨g',o',none⟩) sizes.length ca)/\u.cell? ⟨g',o'+v,none⟩=some (.int .i64 (f:Nat))/\u.cell? ⟨I,0,none⟩=some (.slice (some ⟨gt,X,none⟩) sizes.length ct)/\u.cell? ⟨gt,X+v,none⟩=some (.int .i64 (d:Nat))) ao ao (fun ⟨_,_,h⟩=>h) ⟨k0,ks,c1,kt,c2⟩ ?_;intro T;refine ed 1 (.int .i64 (p:Nat)) ?_ ?_
  ·intro u O;obtain⟨y,z,g,k,A⟩:=O;simp only[gE];go_simp
  simp only[gE,aP];refine ed 2 (.slice (some ⟨g',o',none⟩) sizes.length ca) ?_ ?_
  ·intro u O;obtain⟨y,z,g,k,A⟩:=O;simp only[gE];go_simp
  simp only[gE,aP];refine ed 3 (.int .i64 (v:Nat)) ?_ ?_
  ·intro u O;obtain⟨y,z,g,k,A⟩:=O;simp only[gE];go_simp
  simp only[gE,aP];refine ed 4 (.pointer (some ⟨g',o'+v,none⟩)) ?_ ?_
  ·intro u O;obtain⟨y,z,g,k,A⟩:=O;simp only[gE];go_simp
  simp only[gE,aP];refine ed 5 (.int .i64 (f:Nat)) ?_ ?_
  ·intro u O;obtain⟨y,z,g,k,A⟩:=O;simp only[gE];go_simp
  simp only[gE,aP];refine ed 6 (.int .i64 (m:Nat)) ?_ ?_
  ·intro u O;obtain⟨y,z,g,k,A⟩:=O;simp only[gE];go_simp;rw[aD (show ¬f=0 by omega),Int.tmod_eq_emod_of_nonneg (ML _),qj.o]
  simp only[gE,aP];refine ed 7 (.slice (some ⟨gt,X,none⟩) sizes.length ct) ?_ ?_
  ·intro u O;obtain⟨y,z,g,k,A⟩:=O;simp only[gE];go_simp
  simp only[gE,aP];refine ed 8 (.int .i64 (v:Nat)) ?_ ?_
  ·intro u O;obtain⟨y,z,g,k,A⟩:=O;simp only[gE];go_simp
  simp only[gE,aP];refine ed 9 (.pointer (some ⟨gt,X+v,none⟩)) ?_ ?_
  ·intro u O;obtain⟨y,z,g,k,A⟩:=O;simp only[gE];go_simp
  simp only[gE,aP];refine ed 10 (.int .i64 (d:Nat)) ?_ ?_
  ·intro u O;obtain⟨y,z,g,k,A⟩:=O;simp only[gE];go_simp
  simp only[gE,aP];refine ed 11 (.int .i64 ((m:Int)*(d:Int))) ?_ ?_
  ·intro u O;obtain⟨y,z,g,k,A⟩:=O;simp only[gE];go_simp
  simp only[gE,aP];refine aG [0] (cA ?_ aF);intro J E;simp only[gE];go_simp;refine E.o _ _ T (fun _=>?_);clear E J;refine ed 12 (.int .i64 ((r:Int)+(m:Int)*(d:Int))) ?_ ?_
  ·intro u O;obtain⟨y,z,g,k,A⟩:=O;simp only[gE];go_simp
  simp only[gE,aP];refine aG [13] (cA ?_ aF);intro J E;simp only[gE];go_simp;have R:∀(b j:Nat),¬w.heap.size+1=b ->(V.setCell ⟨w.heap.size+1,0,none⟩ (.int .i64 ((r:Int)+(m:Int)*(d:Int)))).drew.cell? ⟨b,j,none⟩=V.cell? ⟨b,j,none⟩:=fun b j hb=>dY _ _ _ _ (fun e=>hb (by cases e;rfl));have m0:=(R w.heap.size 0 al).trans k0;have ms:=(R F 0 al).trans ks;have mc:=(R g' (o'+v) al).trans c1;refine E.o _ _ ⟨m0,ms,mc,(R I 0 al).trans kt,(R gt (X+v) al).trans c2⟩ (fun _=>dS ao ?_ _);clear E J T R;have q0:Boxed (V.setCell ⟨w.heap.size+1,0,none⟩ (.int .i64 ((r:Int)+(m:Int)*(d:Int)))).drew w.heap.size 3 (.int .i64 (p:Nat)):=ic h0 _ 0 _ al;have q1:Boxed (V.setCell ⟨w.heap.size+1,0,none⟩ (.int .i64 ((r:Int)+(m:Int)*(d:Int)))).drew (w.heap.size+1) 3 (.int .i64 ((r:Int)+(m:Int)*(d:Int))):=L.set _;have q4:Boxed (V.setCell ⟨w.heap.size+1,0,none⟩ (.int .i64 ((r:Int)+(m:Int)*(d:Int)))).drew (w.heap.size+1+1) 22 (.slice b vars.length cb):=ic h4 _ 0 _ al;have qB:ef w (V.setCell ⟨w.heap.size+1,0,none⟩ (.int .i64 ((r:Int)+(m:Int)*(d:Int)))).drew:=(M.setCell (p:=⟨w.heap.size+1,0,none⟩) aE _).drew;have qK:Below w.heap.size V (V.setCell ⟨w.heap.size+1,0,none⟩ (.int .i64 ((r:Int)+(m:Int)*(d:Int)))).drew:=((au w.heap.size V).setCell (p:=⟨w.heap.size+1,0,none⟩) aE _).drew
  have qO:KeepsOthers V (V.setCell ⟨w.heap.size+1,0,none⟩ (.int .i64 ((r:Int)+(m:Int)*(d:Int)))).drew:=(kh V _ _).trans (zW _);have j4:oF (w.heap.size+1+1) V (V.setCell ⟨w.heap.size+1,0,none⟩ (.int .i64 ((r:Int)+(m:Int)*(d:Int)))).drew:=q4.cell.trans h4.cell.symm;have fU:=q0.frozen;generalize (V.setCell ⟨w.heap.size+1,0,none⟩ (.int .i64 ((r:Int)+(m:Int)*(d:Int)))).drew=U at *;gi_wp2_with fail
  refine yL (fun u=>u.cell? ⟨F,0,none⟩=some (.slice (some ⟨g',o',none⟩) sizes.length ca)/\u.cell? ⟨g',o'+v,none⟩=some (.int .i64 (f:Nat))) ao ao (fun ⟨_,_,h⟩=>h) ⟨ms,mc⟩ ?_;intro T;refine ed 1 (.slice (some ⟨g',o',none⟩) sizes.length ca) ?_ ?_
  ·intro u O;obtain⟨g,k⟩:=O;simp only[gE];go_simp
  simp only[gE,aP];refine ed 2 (.int .i64 (v:Nat)) ?_ ?_
  ·intro u O;obtain⟨g,k⟩:=O;simp only[gE];go_simp
  simp only[gE,aP];refine ed 3 (.pointer (some ⟨g',o'+v,none⟩)) ?_ ?_
  ·intro u O;obtain⟨g,k⟩:=O;simp only[gE];go_simp
  simp only[gE,aP];refine ed 4 (.int .i64 (f:Nat)) ?_ ?_
  ·intro u O;obtain⟨g,k⟩:=O;simp only[gE];go_simp
  simp only[gE,aP];refine aG [0] (cA ?_ aF);intro J E;simp only[gE];go_simp;refine E.o _ _ T (fun _=>?_);clear E J;refine ed 5 (.int .i64 ((p:Int)/(f:Int))) ?_ ?_
  ·intro u O;obtain⟨g,k⟩:=O;simp only[gE];go_simp;omega
  simp only[gE,aP];refine aG [6] (cA ?_ aF);intro J E;simp only[gE];go_simp;refine E.o _ _ ⟨(dY _ _ _ _ (fun e=>(show ¬w.heap.size=F by omega) (dh Addr.block e))).trans ms,(dY _ _ _ _ (fun e=>(show ¬w.heap.size=g' by omega) (dh Addr.block e))).trans mc⟩ (fun _=>dS ao ?_ _);clear E J T;gi_wp2
  rw[oK.o];rw[kX.o] at q1;refine⟨(qO.trans ((kh U _ _).trans (zW _))).from _,⟨j4.t ((ic q4 w.heap.size 0 (.int .i64 (dd:Nat)) al).cell.trans q4.cell.symm),(qK.setCell (p:=⟨w.heap.size,0,none⟩) aE _).drew⟩,?_⟩;refine⟨?_,?_,ic q4 _ 0 _ al,(qB.setCell (p:=⟨w.heap.size,0,none⟩) aE _).drew⟩
  ·rw[ad.o];exact q0.set _
  ·rw[ad.o];exact ic q1 _ 0 _ al
 case done=>
  rintro D ys V hD Ca ⟨h0,L,h4,M⟩ P;rw[Ca,sB.o] at L;have hc:=L.cell;gi_wp2
  refine⟨aE,.inl ⟨_,_,rfl,Bu P,?_⟩⟩;refine⟨_,Bx rfl _ _ _,?_⟩;exact⟨rfl,M.trans (uP (w:=w) (aq _) V D _ _ al P rfl rfl)⟩
 case stop=>
  rintro D c q V _ _ h _;exact h.elim
end
variable {S:List Nat} {ca cb m n':Nat} {V:World}
theorem Rj (s:∀v,sz S v<=4):∀(vs:List Nat) (v:Nat),vs.length<=8 ->cE S vs v<=65536
 |[],_,_=>by simp[cE]
 |u::vs,v,h=>by
  rw[cE];have a:vs.length<=8:=by simp at h;omega
  by_cases e:v=u
  ·rw[aA e];exact vJ s a
  ·rw[aD e];exact Rj s vs v a
theorem XZ (S:List Nat) (n:Nat) (vs:List Nat) (v:Nat):(lZ S n vs).getD v 0=if v<n then cE S vs v else 0:=by
 by_cases h:v<n
 ·rw[aA h,CQ (by rw[pL];exact h),ae6 S n vs h]
 ·rw[aD h,bY,jA (by rw[pL];omega)];rfl
def nk (W:World) (n m:Nat) (f:Value) (a b:Option Addr) (ca cb:Nat) (sizes vars other:List Int):Prop:=
 ∃(Bv Bs Bt g ct:Nat),f=.func (.func 232) #[] #[.pointer (some ⟨Bv,0,none⟩),.pointer (some ⟨Bs,0,none⟩),.pointer (some ⟨Bt,0,none⟩)]/\(n<=Bv/\n<=Bs/\n<=Bt/\n<=g)/\(Bv<m/\Bs<m/\Bt<m/\g<m)/\m<=W.heap.size/\
  W.cell? ⟨Bv,0,none⟩=some (.slice b vars.length cb)/\W.cell? ⟨Bs,0,none⟩=some (.slice a sizes.length ca)/\W.cell? ⟨Bt,0,none⟩=some (.slice (some ⟨g,0,none⟩) sizes.length ct)/\aJ W (some ⟨g,0,none⟩) (iL (lZ (ag sizes) sizes.length (ag other)))
def zt (n m:Nat) (W V:World):Prop:=m<=V.heap.size/\∀k,n<=k ->k< m ->V.heap[k]? =W.heap[k]?
theorem zt.of_below {W:World} (h:ef W V) (a:m<=W.heap.size):zt n m W V:=⟨aR a h.size,fun k _ b=>h.block k (aU b a)⟩
theorem zt.set (W:World) {B:Nat} (j:Nat) (y:Value) (h:m<=W.heap.size) (c:B<n∨m<=B):zt n m W (W.setCell ⟨B,j,none⟩ y):=⟨aR h (kh W _ _).size,fun k a b=>fQ W ⟨B,j,none⟩ y k (by show k≠B;omega)⟩
theorem nk.kept {W:World} {f:Value} {b:Option Addr} {sizes vars u:List Int} (h:nk W n m f a b ca cb sizes vars u) (c:zt n m W V):nk V n m f a b ca cb sizes vars u:=by
 obtain⟨v,s,t,g,w,x,⟨o,p,q,r⟩,⟨i,j,l,d⟩,I,z,A,D,E⟩:=h;refine⟨v,s,t,g,w,x,⟨o,p,q,r⟩,⟨i,j,l,d⟩,c.1,(nH (c.2 v o i)).trans z,(nH (c.2 s p j)).trans A,(nH (c.2 t q l)).trans D,fun k H=>?_⟩;obtain⟨g',o',e,F,y⟩:=E k H;cases e;exact⟨g,0,rfl,aU d c.1,(nH (c.2 g r d)).trans y⟩
theorem nk.top {W:World} {f:Value} {b:Option Addr} {sizes vars e:List Int} (h:nk W n m f a b ca cb sizes vars e):m<=W.heap.size:=by
 obtain⟨_,_,_,_,_,_,_,_,c,_⟩:=h;exact c
theorem nk.wider {W:World} {c:Nat} {f:Value} {b:Option Addr} {sizes vars e:List Int} (h:nk W n m f a b ca cb sizes vars e) (r:n'<=n) (T:m<=c) (p:c<=W.heap.size):nk W n' c f a b ca cb sizes vars e:=by
 obtain⟨v,s,t,g,d,i,⟨z,A,D,E⟩,⟨u,w,x,y⟩,q,j,k,l,o⟩:=h;exact⟨v,s,t,g,d,i,⟨al,al,al,al⟩,⟨al,al,al,al⟩,p,j,k,l,o⟩
theorem nk.aa {W:World} {f:Value} {b:Option Addr} {sizes vars e:List Int} (h:nk W n m f a b ca cb sizes vars e) (c:ef W V):nk V n m f a b ca cb sizes vars e:=h.kept (zt.of_below c h.top)
theorem nk.shape {W:World} {f:Value} {b:Option Addr} {sizes vars o:List Int} (h:nk W n m f a b ca cb sizes vars o):∃l,f=.func (.func 232) #[] l:=by
 obtain⟨v,s,t,g,c,e,_⟩:=h;exact⟨_,e⟩
theorem nk.calls {lb:Array Value} {b:Option Addr} {sizes vars e:List Int} (h:nk V n m (.func (.func 232) #[] lb) a b ca cb sizes vars e) (w:aJ V a sizes) (c:aJ V b vars) (S:fX sizes) (J:Up vars sizes.length) (t:Up e sizes.length) {K:Nat} (u:K<cnt (ag sizes) (ag vars)):
  du 232 (#[.int .i64 (K:Nat)]++lb) V (eS V (.int .i64 (pos (ag sizes) (aY (ag sizes) (ag vars) K) (ag e):Nat))):=by
 obtain⟨j,s,i,g,k,f,_,⟨x,y,z,_⟩,A,o,p,q,r⟩:=h;simp only[Value.func.injEq,true_and] at f;rw[f];have E:=t.length;have R:=S.eight
 have d:=afd j s i a b _ ca cb k sizes vars (lZ (ag sizes) sizes.length (ag e)) K V al al al o p q w c r (pL _ _ _) (fun v=>by
  rw[XZ];by_cases c:v<sizes.length
  ·rw[aA c];exact Rj S.sz_le _ _ (by rw[gM];omega)
  ·rw[aD c];omega) S J u J.nodup
 have l:fH (fun v=>aY (ag sizes) (ag vars) K v*(lZ (ag sizes) sizes.length (ag e)).getD v 0) (ag vars)=pos (ag sizes) (aY (ag sizes) (ag vars) K) (ag e):=by
  rw[<- stand sizes.length K J.nodup t.nodup J.aa t.aa];exact F2 fun v c=>by rw[XZ,aA (J.aa v c)]
 rw[l] at d;exact d
theorem Rk (a b c:Option Addr) (ca cb cc:Nat) (sizes vars r:List Int) (w:World) (s:aJ w a sizes) (k:aJ w c r) (S:fX sizes) (E:Up r sizes.length):
  du 206 #[.slice a sizes.length ca,.slice b vars.length cb,.slice c r.length cc] w fun e w'=>∃f,e=.returned f/\nk w' w.heap.size w'.heap.size f a b ca cb sizes vars r/\ef w w':=by
 have n:=hid s;have H:=hid k;have A:=hid (fun V x y=>X6 a c ca cc sizes r V x y S E);clear s k;go_enter Tryz.func206,Tryz.ntmps206;go_wp2_with fail
 have i:ef w ((w.alloc (.cells #[.slice a sizes.length ca] 22)).alloc (.cells #[.slice b vars.length cb] 22)):=((au _ w).alloc (aq _) _).alloc aE _;have q:Boxed ((w.alloc (.cells #[.slice a sizes.length ca] 22)).alloc (.cells #[.slice b vars.length cb] 22)) w.heap.size 22 (.slice a sizes.length ca):=(a8 w _ _).alloc _
 have u:Boxed ((w.alloc (.cells #[.slice a sizes.length ca] 22)).alloc (.cells #[.slice b vars.length cb] 22)) (w.heap.size+1) 22 (.slice b vars.length cb):=by
  have h:=a8 (w.alloc (.cells #[.slice a sizes.length ca] 22)) 22 (.slice b vars.length cb);rwa [dE] at h
 have K:((w.alloc (.cells #[.slice a sizes.length ca] 22)).alloc (.cells #[.slice b vars.length cb] 22)).heap.size=w.heap.size+1+1:=aE
 generalize ((w.alloc (.cells #[.slice a sizes.length ca] 22)).alloc (.cells #[.slice b vars.length cb] 22))=W at *;refine(A.o _ (n.o.aa i) (H.o.aa i)).af ?_;rintro e d ⟨t,g,rfl,L,j,l⟩;have F:=l.size
 have Q:t<d.heap.size:=by
  obtain⟨I,J,v,z,_⟩:=j 0 (by rw[bI,pL];exact S.one);cases v;exact z
 go_wp2;go_ret;have m:ef d (d.alloc (.cells #[.slice (some ⟨t,0,none⟩) sizes.length g] 22)):=(au _ d).alloc (aq _) _;have D:ef W (d.alloc (.cells #[.slice (some ⟨t,0,none⟩) sizes.length g] 22)):=l.trans (m.af F);refine⟨_,rfl,⟨w.heap.size+1,w.heap.size,d.heap.size,t,g,rfl,⟨al,al,al,al⟩,⟨by simp;omega,by simp;omega,aE,by simp;omega⟩,aq _,(D.cell (p:=⟨w.heap.size+1,0,none⟩) (by simp;omega)).trans u.cell,(D.cell (p:=⟨w.heap.size,0,none⟩) (by simp;omega)).trans q.cell,(a8 d 22 _).cell,j.aa m⟩,i.trans (D.af al)⟩
variable {f:Nat ->Nat} {x y:Value}
theorem sL (f:Nat ->Nat) (d:∀u,f u<sz S u):∀vs:List Nat,pos S f vs<cnt S vs:=by
 intro vs
 have e:∀(vs:List Nat) (k c:Nat),k< c ->vs.foldl (fun k v=>k*sz S v+f v) k<c*cnt S vs:=by
  intro vs;induction vs with
  |nil=>intro k c h;simpa [cnt] using h
  |cons u vs ih=>
   intro k c h
   have a:k*sz S u+f u<c*sz S u:=by
    have b:(k+1)*sz S u<=c*sz S u:=lS _ h;have g:=d u;rw[fF,jP] at b;omega
   have:=ih _ _ a;rwa [iP] at this
 have:=e vs 0 1 al;rwa [jP] at this
theorem vK (p:Pos S):∀(vs:List Nat) (k v:Nat),k<cnt S vs ->aY S vs k v<sz S v
 |[],_,v,_=>nT p v
 |u::vs,k,v,h=>by
  rw[aY];by_cases e:v=u
  ·rw[aA e,e];exact(Nat.div_lt_iff_lt_mul (K4 p vs)).2 h
  ·rw[aD e];exact vK p vs _ v (jQ _ (K4 p vs))
def aM (f:Nat ->Nat) (v x:Nat):Nat ->Nat:=fun u=>if u=v then x else f u
theorem XV {g h:Nat ->Nat} (b:g v=0) (a:∀u,¬u=v ->h u=g u):∀ {l:List Nat},l.Nodup ->fH h l=fH g l+if v∈l then h v else 0
 |[],_=>by simp[fH]
 |u::l,hn=>by
  rw[pG] at hn;rw[fH,fH,XV b a hn.2];by_cases e:u=v
  ·subst e;rw[aD hn.1,aA dp,b];omega
  ·rw[a u e];(have:v∈u::l↔v∈l:=by rw[dU];exact⟨fun h=>h.elim (fun h=>absurd h.symm e) id,.inr⟩);simp only[this];omega
theorem agx (x:Nat) (a:f v=0) {e:List Nat} (n:e.Nodup):pos S f e+x*cE S e v=pos S (aM f v x) e:=by
 rw[Nn S f n,Nn S (aM f v x) n,XV (g:=fun u=>f u*cE S e u) (h:=fun u=>aM f v x u*cE S e u) (v:=v) (by show f v*_=0;rw[a,jO]) (fun u b=>by show aM f v x u*_=f u*_;rw[aM,aD b]) n];congr 1
 by_cases h:v∈e
 ·rw[aA h];show _=aM f v x v*_;rw[aM,aA rfl]
 ·rw[aD h,Ri h,ll]
def uE (W:World) (n m:Nat) (f:Value) (a b:Option Addr) (ca cb:Nat) (sizes vars other:List Int) (v:Nat):Prop:=
 ∃(Bf Bt:Nat) (g:Value),f=.func (.func 208) #[] #[.pointer (some ⟨Bf,0,none⟩),.pointer (some ⟨Bt,0,none⟩)]/\n<=Bf/\n<=Bt/\Bf<m/\Bt<m/\m<=W.heap.size/\
  W.cell? ⟨Bf,0,none⟩=some g/\W.cell? ⟨Bt,0,none⟩=some (.int .i64 (cE (ag sizes) (ag other) v:Nat))/\nk W n m g a b ca cb sizes vars other
theorem uE.kept {W:World} {f:Value} {b:Option Addr} {sizes vars o:List Int} (h:uE W n m f a b ca cb sizes vars o v) (k:zt n m W V):uE V n m f a b ca cb sizes vars o v:=by
 obtain⟨c,t,g,l,i,j,d,e,_,p,q,r⟩:=h;exact⟨c,t,g,l,i,j,d,e,k.1,(nH (k.2 c i d)).trans p,(nH (k.2 t j e)).trans q,r.kept k⟩
theorem abg {u:World} {p q:Addr} (b:ef w u) (a:p.block<w.heap.size) (c:q.block<w.heap.size) (h1:w.cell? p=some x) (h:w.cell? q=some y):(u.cell? p=some x/\u.cell? q=some y)/\Hid (ef w u):=⟨⟨(b.cell a).trans h1,(b.cell c).trans h⟩,b⟩
theorem afc (f t:Nat) (lb:Array Value) (K val P s:Nat) (w:World) (A:f<w.heap.size) (h1:w.cell? ⟨f,0,none⟩=some (.func (.func 232) #[] lb)) (y:t<w.heap.size) (a:w.cell? ⟨t,0,none⟩=some (.int .i64 (s:Nat))) (b:∀V,ef w V ->du 232 (#[.int .i64 (K:Nat)]++lb) V fun e w'=>e=.returned (.int .i64 (P:Nat))/\ef V w') (m:P<=65536) (l:val<=4) (i:s<=65536):
  du 208 #[.int .i64 (K:Nat),.int .i64 (val:Nat),.pointer (some ⟨f,0,none⟩),.pointer (some ⟨t,0,none⟩)] w (eS w (.int .i64 (P+val*s:Nat))):=by
 have HC:=hid b;have j:val*s<=262144:=aR (iO l i) bd;have c:(val:Int)*(s:Int)=((val*s:Nat):Int):=(lW _ _).symm;have p:IntKind.i64.wrap ((val:Int)*(s:Int))=(val:Int)*(s:Int):=by rw[c,fj];omega
 have q:IntKind.i64.wrap ((P:Int)+(val:Int)*(s:Int))=(P:Int)+(val:Int)*(s:Int):=by rw[c,fj];omega
 have k:Hid ((P:Int)+(val:Int)*(s:Int)=((P+val*s:Nat):Int)):=by show _=_;rw[c];exact(yB _ _).symm
 have h:ef w w.drew:=(au w.heap.size w).drew;clear b c;go_enter Tryz.func208,Tryz.ntmps208;go_upto_region 1 with fail
 go_region_held3 (fun u=>(u.cell? ⟨f,0,none⟩=some (.func (.func 232) #[] lb)/\u.cell? ⟨t,0,none⟩=some (.int .i64 (s:Nat)))/\Hid (ef w u))
  (first |exact abg d A y h1 a |exact abg h A y h1 a)
  (first
   |(go_at_call 232;refine(HC.o _ h).af ?_;rintro e n ⟨rfl,g⟩;have d:=h.trans (g.af h.size)))
 go_wp2;go_ret;exact⟨by rw[k.o];rfl,d⟩
theorem uE.calls {lb:Array Value} {b:Option Addr} {sizes vars e:List Int} (h:uE V n m (.func (.func 208) #[] lb) a b ca cb sizes vars e v) (s:aJ V a sizes) (q:aJ V b vars) (c:fX sizes) (J:Up vars sizes.length) (t:Up e sizes.length) (D:¬v∈ag vars) {K val:Nat} (i:K<cnt (ag sizes) (ag vars)) (w:val<=4):
  du 208 (#[.int .i64 (K:Nat),.int .i64 (val:Nat)]++lb) V (eS V (.int .i64 (pos (ag sizes) (aM (aY (ag sizes) (ag vars) K) v val) (ag e):Nat))):=by
 obtain⟨k,l,g,j,_,_,x,y,A,o,p,f⟩:=h;simp only[Value.func.injEq,true_and] at j;rw[j];obtain⟨r,rfl⟩:=f.shape;have E:=t.length;have R:=c.eight;have P:=sL (S:=ag sizes) (aY (ag sizes) (ag vars) K) (fun u=>vK c.pos (ag vars) K u i) (ag e);have z:=vJ c.sz_le (vs:=ag e) (by rw[gM];omega);rw[<- agx val (EO D) t.nodup];exact afc k l r K val _ _ V al o al p (fun V' d=>(f.aa d).calls (s.aa d) (q.aa d) c J t i) al w (Rj c.sz_le _ _ (by rw[gM];omega))
theorem uW {P:Program} {S S':World ->Prop} (c:∀w,S' w ->S w):∀(fuel:Nat) (d:Array Bool) (a:Act) (w:World),wpAnyH P md ops Q S' fuel d a w ->wpAnyH P md ops Q S fuel d a w
 |0,_,_,_,h=>h
 |fuel+1,_,_,_,h=>⟨h.1,fun i f=>wpOp_mono (fun e w' b=>⟨c _ b.1,uW c fuel _ e w' b.2⟩) (h.2 i f)⟩
theorem acO {u:World} (h:ef w u) (B j:Nat) (y:Value) (a:w.heap.size<=B):ef w (u.setCell ⟨B,j,none⟩ y):=h.setCell (p:=⟨B,j,none⟩) a y
theorem aX {W:World} {B:Nat} {t:TypeId} (h:Boxed W B t x) (b:ef W V):Boxed V B t x:=(b.block B h.lt).trans h
theorem wQ {e:List Nat} (h:v<n):(iL (lZ S n e))[v]'(by rw[bI,pL];exact h)=((cE S e v:Nat):Int):=by simp[iL,lZ]
theorem Rl (a b c:Option Addr) (ca cb cc:Nat) (sizes vars t:List Int) (v:Nat) (w:World) (hs:aJ w a sizes) (ho:aJ w c t) (aS:fX sizes) (vt:Up t sizes.length) (I:v<sizes.length):
  du 162 #[.slice a sizes.length ca,.slice b vars.length cb,.slice c t.length cc,.int .i64 (v:Nat)] w fun e w'=>∃f,e=.returned f/\uE w' w.heap.size w'.heap.size f a b ca cb sizes vars t v/\ef w w':=by
 have Q:=hid hs;have P:=hid ho;have HA:=hid (fun V h1 h2=>X6 a c ca cc sizes t V h1 h2 aS vt);have HB:=hid (fun V h1 h2=>Rk a b c ca cb cc sizes vars t V h1 h2 aS vt);have rR:=aS.eight;have aj:(0:Int)<=(v:Int):=al
 have pT:(v:Int)<(sizes.length:Int):=al
 clear hs ho;go_enter Tryz.func162,Tryz.ntmps162;go_upto_region 1 with fail
 have i:ef w w.drew:=(au w.heap.size w).drew;refine gI (S:=fun u=>Hid (ef w u)) ao i (fun k=>?_);generalize w.drew=J at *;refine ar 0 (.slice a sizes.length ca) ?_;refine ar 1 (.slice b vars.length cb) ?_;refine ar 2 (.slice c t.length cc) ?_;refine ar 4 (.slice a sizes.length ca) ?_;refine ar 5 (.slice c t.length cc) ?_;refine ar 7 (.int .i64 (v:Nat)) ?_;refine aG [3,10,11] (cA ?_ (cA ?_ (cA ?_ aF)))
 focus
  intro l K;go_simp;refine(HB.o _ (Q.o.aa i) (P.o.aa i)).af ?_;rintro e u1 ⟨f,rfl,F,d⟩;obtain⟨Z,rfl⟩:=F.shape;have X:=i.size;replace i:=i.trans (d.af i.size);refine K.o _ _ i (fun n=>?_);clear K l k;have k:=n;clear n;have mh:w.heap.size<=J.heap.size:=X;have Y:=F.top;generalize J.heap.size=O at F X mh⊢;generalize hm1:u1.heap.size=H at F Y;rw[<- hm1] at Y;have z:H<=u1.heap.size:=al
  clear d hm1;refine aG [6,10,11] (cA ?_ (cA ?_ (cA ?_ aF)))
  focus
   intro l K;go_simp;refine(HA.o _ (Q.o.aa i) (P.o.aa i)).af ?_;rintro e u2 ⟨g,ct,rfl,M,D,d⟩;replace i:=i.trans (d.af i.size);replace F:=F.aa d;replace z:=aR z d.size;refine K.o _ _ i (fun n=>?_);clear K l k;have k:=n;clear n;obtain⟨g3,o3,L,R,m⟩:=D v (by rw[bI,pL];exact I);cases L;rw[wQ I,bB] at m;clear d D M k;(try simp only[gE,aP]);refine uW (S':=fun u=>Hid (ef w u)/\u.cell? ⟨g,v,none⟩=some (.int .i64 (cE (ag sizes) (ag t) v:Nat))) (fun _ h=>h.1) _ _ _ _ ?_;have k:Hid (ef w u2)/\u2.cell? ⟨g,v,none⟩=some (.int .i64 (cE (ag sizes) (ag t) v:Nat)):=⟨i,m⟩;refine ar 8 (.pointer (some ⟨g,v,none⟩)) ?_;refine ar 9 (.int .i64 (cE (ag sizes) (ag t) v:Nat)) ?_;refine aG [10,11] (cA ?_ (cA ?_ aF))
   focus
    intro l K;go_simp;have d:ef u2 (u2.alloc (.cells #[.nilFunc] 238)):=(au _ u2).alloc (aq _) _;have s:Boxed (u2.alloc (.cells #[.nilFunc] 238)) u2.heap.size 238 (.nilFunc):=a8 u2 _ _;(have q:u2.heap.size<(u2.alloc (.cells #[.nilFunc] 238)).heap.size:=aE);have w9:=i.size;replace i:=i.trans (d.af i.size);replace F:=F.aa d;have U:u2.heap.size<O∨H<=u2.heap.size:=.inr z;replace z:=aR z d.size;(have g9:¬u2.heap.size=g:=al);replace m:=(d.cell (p:=⟨g,v,none⟩) R).trans m;replace R:=aU R d.size;refine K.o _ _ ⟨i,m⟩ (fun k=>?_);clear K l d;generalize (u2.alloc (.cells #[.nilFunc] 238))=j at *;generalize u2.heap.size=y at *;refine aG [11] (cA ?_ aF);intro l K;go_simp;have d:ef j (j.alloc (.cells #[.int .i64 0] 3)):=(au _ j).alloc (aq _) _;have x:Boxed (j.alloc (.cells #[.int .i64 0] 3)) j.heap.size 3 (.int .i64 0):=a8 j _ _;(have r:j.heap.size<(j.alloc (.cells #[.int .i64 0] 3)).heap.size:=aE);have cC:=i.size;replace i:=i.trans (d.af i.size);replace s:=aX s d;(have ne:¬y=j.heap.size:=al);replace q:=aU q d.size;replace F:=F.aa d;have T:j.heap.size<O∨H<=j.heap.size:=.inr z;replace z:=aR z d.size;(have ab:¬j.heap.size=g:=al);replace m:=(d.cell (p:=⟨g,v,none⟩) R).trans m;replace R:=aU R d.size;refine K.o _ _ ⟨i,m⟩ (fun k=>?_);clear K l d;generalize (j.alloc (.cells #[.int .i64 0] 3))=E at *;generalize j.heap.size=A at *
   rotate_left
   focus
    intro l K;go_simp;have d:ef u2 (u2.alloc (.cells #[.int .i64 0] 3)):=(au _ u2).alloc (aq _) _;have x:Boxed (u2.alloc (.cells #[.int .i64 0] 3)) u2.heap.size 3 (.int .i64 0):=a8 u2 _ _;(have r:u2.heap.size<(u2.alloc (.cells #[.int .i64 0] 3)).heap.size:=aE);have cC:=i.size;replace i:=i.trans (d.af i.size);replace F:=F.aa d;have T:u2.heap.size<O∨H<=u2.heap.size:=.inr z;replace z:=aR z d.size;(have ab:¬u2.heap.size=g:=al);replace m:=(d.cell (p:=⟨g,v,none⟩) R).trans m;replace R:=aU R d.size;refine K.o _ _ ⟨i,m⟩ (fun k=>?_);clear K l d;generalize (u2.alloc (.cells #[.int .i64 0] 3))=j at *;generalize u2.heap.size=A at *;refine aG [10] (cA ?_ aF);intro l K;go_simp;have d:ef j (j.alloc (.cells #[.nilFunc] 238)):=(au _ j).alloc (aq _) _;have s:Boxed (j.alloc (.cells #[.nilFunc] 238)) j.heap.size 238 (.nilFunc):=a8 j _ _;(have q:j.heap.size<(j.alloc (.cells #[.nilFunc] 238)).heap.size:=aE);have w9:=i.size;replace i:=i.trans (d.af i.size);replace x:=aX x d;(have ne:¬A=j.heap.size:=al);replace r:=aU r d.size;replace F:=F.aa d;have U:j.heap.size<O∨H<=j.heap.size:=.inr z;replace z:=aR z d.size;(have g9:¬j.heap.size=g:=al);replace m:=(d.cell (p:=⟨g,v,none⟩) R).trans m;replace R:=aU R d.size;refine K.o _ _ ⟨i,m⟩ (fun k=>?_);clear K l d;generalize (j.alloc (.cells #[.nilFunc] 238))=E at *;generalize j.heap.size=y at *
  rotate_left 2
  focus
   intro l K;go_simp;have d:ef u1 (u1.alloc (.cells #[.nilFunc] 238)):=(au _ u1).alloc (aq _) _;have s:Boxed (u1.alloc (.cells #[.nilFunc] 238)) u1.heap.size 238 (.nilFunc):=a8 u1 _ _;(have q:u1.heap.size<(u1.alloc (.cells #[.nilFunc] 238)).heap.size:=aE);have w9:=i.size;replace i:=i.trans (d.af i.size);replace F:=F.aa d;have U:u1.heap.size<O∨H<=u1.heap.size:=.inr z;replace z:=aR z d.size;refine K.o _ _ i (fun k=>?_);clear K l d;generalize (u1.alloc (.cells #[.nilFunc] 238))=u2 at *;generalize u1.heap.size=y at *;refine aG [6,11] (cA ?_ (cA ?_ aF))
   focus
    intro l K;go_simp;refine(HA.o _ (Q.o.aa i) (P.o.aa i)).af ?_;rintro e j ⟨g,ct,rfl,M,D,d⟩;replace i:=i.trans (d.af i.size);replace F:=F.aa d;replace z:=aR z d.size;refine K.o _ _ i (fun n=>?_);clear K l k;have k:=n;clear n;obtain⟨g3,o3,L,R,m⟩:=D v (by rw[bI,pL];exact I);cases L;rw[wQ I,bB] at m;replace s:=aX s d;(have g9:¬y=g:=al);replace q:=aU q d.size;clear d D M k;(try simp only[gE,aP]);refine uW (S':=fun u=>Hid (ef w u)/\u.cell? ⟨g,v,none⟩=some (.int .i64 (cE (ag sizes) (ag t) v:Nat))) (fun _ h=>h.1) _ _ _ _ ?_;have k:Hid (ef w j)/\j.cell? ⟨g,v,none⟩=some (.int .i64 (cE (ag sizes) (ag t) v:Nat)):=⟨i,m⟩;refine ar 8 (.pointer (some ⟨g,v,none⟩)) ?_;refine ar 9 (.int .i64 (cE (ag sizes) (ag t) v:Nat)) ?_;refine aG [11] (cA ?_ aF);intro l K;go_simp;have d:ef j (j.alloc (.cells #[.int .i64 0] 3)):=(au _ j).alloc (aq _) _;have x:Boxed (j.alloc (.cells #[.int .i64 0] 3)) j.heap.size 3 (.int .i64 0):=a8 j _ _;(have r:j.heap.size<(j.alloc (.cells #[.int .i64 0] 3)).heap.size:=aE);have cC:=i.size;replace i:=i.trans (d.af i.size);replace s:=aX s d;(have ne:¬y=j.heap.size:=al);replace q:=aU q d.size;replace F:=F.aa d;have T:j.heap.size<O∨H<=j.heap.size:=.inr z;replace z:=aR z d.size;(have ab:¬j.heap.size=g:=al);replace m:=(d.cell (p:=⟨g,v,none⟩) R).trans m;replace R:=aU R d.size
    refine K.o _ _ ⟨i,m⟩ (fun k=>?_);clear K l d;generalize (j.alloc (.cells #[.int .i64 0] 3))=E at *;generalize j.heap.size=A at *
   rotate_left
   focus
    intro l K;go_simp;have d:ef u2 (u2.alloc (.cells #[.int .i64 0] 3)):=(au _ u2).alloc (aq _) _;have x:Boxed (u2.alloc (.cells #[.int .i64 0] 3)) u2.heap.size 3 (.int .i64 0):=a8 u2 _ _;(have r:u2.heap.size<(u2.alloc (.cells #[.int .i64 0] 3)).heap.size:=aE);have cC:=i.size;replace i:=i.trans (d.af i.size);replace s:=aX s d;(have ne:¬y=u2.heap.size:=al);replace q:=aU q d.size;replace F:=F.aa d;have T:u2.heap.size<O∨H<=u2.heap.size:=.inr z;replace z:=aR z d.size;refine K.o _ _ i (fun k=>?_);clear K l d;generalize (u2.alloc (.cells #[.int .i64 0] 3))=j at *;generalize u2.heap.size=A at *;refine aG [6] (cA ?_ aF);intro l K;go_simp;refine(HA.o _ (Q.o.aa i) (P.o.aa i)).af ?_;rintro e E ⟨g,ct,rfl,M,D,d⟩;replace i:=i.trans (d.af i.size);replace F:=F.aa d;replace z:=aR z d.size;refine K.o _ _ i (fun n=>?_);clear K l k;have k:=n;clear n;obtain⟨g3,o3,L,R,m⟩:=D v (by rw[bI,pL];exact I);cases L;rw[wQ I,bB] at m;replace s:=aX s d;(have g9:¬y=g:=al);replace q:=aU q d.size;replace x:=aX x d;(have ab:¬A=g:=al);replace r:=aU r d.size;clear d D M k;(try simp only[gE,aP]);refine uW (S':=fun u=>Hid (ef w u)/\u.cell? ⟨g,v,none⟩=some (.int .i64 (cE (ag sizes) (ag t) v:Nat))) (fun _ h=>h.1) _ _ _ _ ?_;have k:Hid (ef w E)/\E.cell? ⟨g,v,none⟩=some (.int .i64 (cE (ag sizes) (ag t) v:Nat)):=⟨i,m⟩
    refine ar 8 (.pointer (some ⟨g,v,none⟩)) ?_;refine ar 9 (.int .i64 (cE (ag sizes) (ag t) v:Nat)) ?_
  rotate_left 2
  focus
   intro l K;go_simp;have d:ef u1 (u1.alloc (.cells #[.int .i64 0] 3)):=(au _ u1).alloc (aq _) _;have x:Boxed (u1.alloc (.cells #[.int .i64 0] 3)) u1.heap.size 3 (.int .i64 0):=a8 u1 _ _;(have r:u1.heap.size<(u1.alloc (.cells #[.int .i64 0] 3)).heap.size:=aE);have cC:=i.size;replace i:=i.trans (d.af i.size);replace F:=F.aa d;have T:u1.heap.size<O∨H<=u1.heap.size:=.inr z;replace z:=aR z d.size;refine K.o _ _ i (fun k=>?_);clear K l d;generalize (u1.alloc (.cells #[.int .i64 0] 3))=u2 at *;generalize u1.heap.size=A at *;refine aG [6,10] (cA ?_ (cA ?_ aF))
   focus
    intro l K;go_simp;refine(HA.o _ (Q.o.aa i) (P.o.aa i)).af ?_;rintro e j ⟨g,ct,rfl,M,D,d⟩;replace i:=i.trans (d.af i.size);replace F:=F.aa d;replace z:=aR z d.size;refine K.o _ _ i (fun n=>?_);clear K l k;have k:=n;clear n;obtain⟨g3,o3,L,R,m⟩:=D v (by rw[bI,pL];exact I);cases L;rw[wQ I,bB] at m;replace x:=aX x d;(have ab:¬A=g:=al);replace r:=aU r d.size;clear d D M k;(try simp only[gE,aP]);refine uW (S':=fun u=>Hid (ef w u)/\u.cell? ⟨g,v,none⟩=some (.int .i64 (cE (ag sizes) (ag t) v:Nat))) (fun _ h=>h.1) _ _ _ _ ?_;have k:Hid (ef w j)/\j.cell? ⟨g,v,none⟩=some (.int .i64 (cE (ag sizes) (ag t) v:Nat)):=⟨i,m⟩;refine ar 8 (.pointer (some ⟨g,v,none⟩)) ?_;refine ar 9 (.int .i64 (cE (ag sizes) (ag t) v:Nat)) ?_;refine aG [10] (cA ?_ aF);intro l K;go_simp;have d:ef j (j.alloc (.cells #[.nilFunc] 238)):=(au _ j).alloc (aq _) _;have s:Boxed (j.alloc (.cells #[.nilFunc] 238)) j.heap.size 238 (.nilFunc):=a8 j _ _;(have q:j.heap.size<(j.alloc (.cells #[.nilFunc] 238)).heap.size:=aE);have w9:=i.size;replace i:=i.trans (d.af i.size);replace x:=aX x d;(have ne:¬A=j.heap.size:=al);replace r:=aU r d.size;replace F:=F.aa d;have U:j.heap.size<O∨H<=j.heap.size:=.inr z;replace z:=aR z d.size;(have g9:¬j.heap.size=g:=al);replace m:=(d.cell (p:=⟨g,v,none⟩) R).trans m;replace R:=aU R d.size
    refine K.o _ _ ⟨i,m⟩ (fun k=>?_);clear K l d;generalize (j.alloc (.cells #[.nilFunc] 238))=E at *;generalize j.heap.size=y at *
   rotate_left
   focus
    intro l K;go_simp;have d:ef u2 (u2.alloc (.cells #[.nilFunc] 238)):=(au _ u2).alloc (aq _) _;have s:Boxed (u2.alloc (.cells #[.nilFunc] 238)) u2.heap.size 238 (.nilFunc):=a8 u2 _ _;(have q:u2.heap.size<(u2.alloc (.cells #[.nilFunc] 238)).heap.size:=aE);have w9:=i.size;replace i:=i.trans (d.af i.size);replace x:=aX x d;(have ne:¬A=u2.heap.size:=al);replace r:=aU r d.size;replace F:=F.aa d;have U:u2.heap.size<O∨H<=u2.heap.size:=.inr z;replace z:=aR z d.size;refine K.o _ _ i (fun k=>?_);clear K l d;generalize (u2.alloc (.cells #[.nilFunc] 238))=j at *;generalize u2.heap.size=y at *;refine aG [6] (cA ?_ aF);intro l K;go_simp;refine(HA.o _ (Q.o.aa i) (P.o.aa i)).af ?_;rintro e E ⟨g,ct,rfl,M,D,d⟩;replace i:=i.trans (d.af i.size);replace F:=F.aa d;replace z:=aR z d.size;refine K.o _ _ i (fun n=>?_);clear K l k;have k:=n;clear n;obtain⟨g3,o3,L,R,m⟩:=D v (by rw[bI,pL];exact I);cases L;rw[wQ I,bB] at m;replace s:=aX s d;(have g9:¬y=g:=al);replace q:=aU q d.size;replace x:=aX x d;(have ab:¬A=g:=al);replace r:=aU r d.size;clear d D M k;(try simp only[gE,aP]);refine uW (S':=fun u=>Hid (ef w u)/\u.cell? ⟨g,v,none⟩=some (.int .i64 (cE (ag sizes) (ag t) v:Nat))) (fun _ h=>h.1) _ _ _ _ ?_;have k:Hid (ef w E)/\E.cell? ⟨g,v,none⟩=some (.int .i64 (cE (ag sizes) (ag t) v:Nat)):=⟨i,m⟩
    refine ar 8 (.pointer (some ⟨g,v,none⟩)) ?_;refine ar 9 (.int .i64 (cE (ag sizes) (ag t) v:Nat)) ?_
 rotate_left 6
 focus
  intro l K;go_simp;have d:ef J (J.alloc (.cells #[.nilFunc] 238)):=(au _ J).alloc (aq _) _;have s:Boxed (J.alloc (.cells #[.nilFunc] 238)) J.heap.size 238 (.nilFunc):=a8 J _ _;have q:J.heap.size<(J.alloc (.cells #[.nilFunc] 238)).heap.size:=aE
  have w9:=i.size;replace i:=i.trans (d.af i.size);refine K.o _ _ i (fun k=>?_);clear K l d;generalize (J.alloc (.cells #[.nilFunc] 238))=u1 at *;generalize J.heap.size=y at *;refine aG [3,11] (cA ?_ (cA ?_ aF))
  focus
   intro l K;go_simp;refine(HB.o _ (Q.o.aa i) (P.o.aa i)).af ?_;rintro e u2 ⟨f,rfl,F,d⟩;obtain⟨Z,rfl⟩:=F.shape;have X:=i.size;replace i:=i.trans (d.af i.size);refine K.o _ _ i (fun n=>?_);clear K l k;have k:=n;clear n;replace s:=aX s d;have U:y<u1.heap.size∨u2.heap.size<=y:=.inl q;replace q:=aU q d.size;have mh:w.heap.size<=u1.heap.size:=X;have Y:=F.top;generalize u1.heap.size=O at F X mh U⊢;generalize hm1:u2.heap.size=H at F Y U;rw[<- hm1] at Y;(have z:H<=u2.heap.size:=al);clear d hm1;refine aG [6,11] (cA ?_ (cA ?_ aF))
   focus
    intro l K;go_simp;refine(HA.o _ (Q.o.aa i) (P.o.aa i)).af ?_;rintro e j ⟨g,ct,rfl,M,D,d⟩;replace i:=i.trans (d.af i.size);replace F:=F.aa d;replace z:=aR z d.size;refine K.o _ _ i (fun n=>?_);clear K l k;have k:=n;clear n;obtain⟨g3,o3,L,R,m⟩:=D v (by rw[bI,pL];exact I);cases L;rw[wQ I,bB] at m;replace s:=aX s d;(have g9:¬y=g:=al);replace q:=aU q d.size;clear d D M k;(try simp only[gE,aP]);refine uW (S':=fun u=>Hid (ef w u)/\u.cell? ⟨g,v,none⟩=some (.int .i64 (cE (ag sizes) (ag t) v:Nat))) (fun _ h=>h.1) _ _ _ _ ?_;have k:Hid (ef w j)/\j.cell? ⟨g,v,none⟩=some (.int .i64 (cE (ag sizes) (ag t) v:Nat)):=⟨i,m⟩;refine ar 8 (.pointer (some ⟨g,v,none⟩)) ?_;refine ar 9 (.int .i64 (cE (ag sizes) (ag t) v:Nat)) ?_;refine aG [11] (cA ?_ aF);intro l K;go_simp;have d:ef j (j.alloc (.cells #[.int .i64 0] 3)):=(au _ j).alloc (aq _) _;have x:Boxed (j.alloc (.cells #[.int .i64 0] 3)) j.heap.size 3 (.int .i64 0):=a8 j _ _;(have r:j.heap.size<(j.alloc (.cells #[.int .i64 0] 3)).heap.size:=aE);have cC:=i.size;replace i:=i.trans (d.af i.size);replace s:=aX s d;(have ne:¬y=j.heap.size:=al);replace q:=aU q d.size;replace F:=F.aa d;have T:j.heap.size<O∨H<=j.heap.size:=.inr z;replace z:=aR z d.size;(have ab:¬j.heap.size=g:=al);replace m:=(d.cell (p:=⟨g,v,none⟩) R).trans m;replace R:=aU R d.size
    refine K.o _ _ ⟨i,m⟩ (fun k=>?_);clear K l d;generalize (j.alloc (.cells #[.int .i64 0] 3))=E at *;generalize j.heap.size=A at *
   rotate_left
   focus
    intro l K;go_simp;have d:ef u2 (u2.alloc (.cells #[.int .i64 0] 3)):=(au _ u2).alloc (aq _) _;have x:Boxed (u2.alloc (.cells #[.int .i64 0] 3)) u2.heap.size 3 (.int .i64 0):=a8 u2 _ _;(have r:u2.heap.size<(u2.alloc (.cells #[.int .i64 0] 3)).heap.size:=aE);have cC:=i.size;replace i:=i.trans (d.af i.size);replace s:=aX s d;(have ne:¬y=u2.heap.size:=al);replace q:=aU q d.size;replace F:=F.aa d;have T:u2.heap.size<O∨H<=u2.heap.size:=.inr z;replace z:=aR z d.size;refine K.o _ _ i (fun k=>?_);clear K l d;generalize (u2.alloc (.cells #[.int .i64 0] 3))=j at *;generalize u2.heap.size=A at *;refine aG [6] (cA ?_ aF);intro l K;go_simp;refine(HA.o _ (Q.o.aa i) (P.o.aa i)).af ?_;rintro e E ⟨g,ct,rfl,M,D,d⟩;replace i:=i.trans (d.af i.size);replace F:=F.aa d;replace z:=aR z d.size;refine K.o _ _ i (fun n=>?_);clear K l k;have k:=n;clear n;obtain⟨g3,o3,L,R,m⟩:=D v (by rw[bI,pL];exact I);cases L;rw[wQ I,bB] at m;replace s:=aX s d;(have g9:¬y=g:=al);replace q:=aU q d.size;replace x:=aX x d;(have ab:¬A=g:=al);replace r:=aU r d.size;clear d D M k;(try simp only[gE,aP]);refine uW (S':=fun u=>Hid (ef w u)/\u.cell? ⟨g,v,none⟩=some (.int .i64 (cE (ag sizes) (ag t) v:Nat))) (fun _ h=>h.1) _ _ _ _ ?_;have k:Hid (ef w E)/\E.cell? ⟨g,v,none⟩=some (.int .i64 (cE (ag sizes) (ag t) v:Nat)):=⟨i,m⟩
    refine ar 8 (.pointer (some ⟨g,v,none⟩)) ?_;refine ar 9 (.int .i64 (cE (ag sizes) (ag t) v:Nat)) ?_
  rotate_left 2
  focus
   intro l K;go_simp;have d:ef u1 (u1.alloc (.cells #[.int .i64 0] 3)):=(au _ u1).alloc (aq _) _;have x:Boxed (u1.alloc (.cells #[.int .i64 0] 3)) u1.heap.size 3 (.int .i64 0):=a8 u1 _ _;(have r:u1.heap.size<(u1.alloc (.cells #[.int .i64 0] 3)).heap.size:=aE);have cC:=i.size;replace i:=i.trans (d.af i.size);replace s:=aX s d;(have ne:¬y=u1.heap.size:=al);replace q:=aU q d.size;refine K.o _ _ i (fun k=>?_);clear K l d;generalize (u1.alloc (.cells #[.int .i64 0] 3))=u2 at *;generalize u1.heap.size=A at *;refine aG [3] (cA ?_ aF);intro l K;go_simp;refine(HB.o _ (Q.o.aa i) (P.o.aa i)).af ?_;rintro e j ⟨f,rfl,F,d⟩;obtain⟨Z,rfl⟩:=F.shape;have X:=i.size;replace i:=i.trans (d.af i.size);refine K.o _ _ i (fun n=>?_);clear K l k;have k:=n;clear n;replace s:=aX s d;have U:y<u2.heap.size∨j.heap.size<=y:=.inl q;replace q:=aU q d.size;replace x:=aX x d;have T:A<u2.heap.size∨j.heap.size<=A:=.inl r;replace r:=aU r d.size;have mh:w.heap.size<=u2.heap.size:=X;have Y:=F.top;generalize u2.heap.size=O at F X mh U T⊢;generalize hm1:j.heap.size=H at F Y U T;rw[<- hm1] at Y;(have z:H<=j.heap.size:=al);clear d hm1;refine aG [6] (cA ?_ aF);intro l K;go_simp;refine(HA.o _ (Q.o.aa i) (P.o.aa i)).af ?_;rintro e E ⟨g,ct,rfl,M,D,d⟩;replace i:=i.trans (d.af i.size);replace F:=F.aa d;replace z:=aR z d.size;refine K.o _ _ i (fun n=>?_)
   clear K l k;have k:=n;clear n;obtain⟨g3,o3,L,R,m⟩:=D v (by rw[bI,pL];exact I);cases L;rw[wQ I,bB] at m;replace s:=aX s d;(have g9:¬y=g:=al);replace q:=aU q d.size;replace x:=aX x d;(have ab:¬A=g:=al);replace r:=aU r d.size;clear d D M k;(try simp only[gE,aP]);refine uW (S':=fun u=>Hid (ef w u)/\u.cell? ⟨g,v,none⟩=some (.int .i64 (cE (ag sizes) (ag t) v:Nat))) (fun _ h=>h.1) _ _ _ _ ?_;have k:Hid (ef w E)/\E.cell? ⟨g,v,none⟩=some (.int .i64 (cE (ag sizes) (ag t) v:Nat)):=⟨i,m⟩;refine ar 8 (.pointer (some ⟨g,v,none⟩)) ?_;refine ar 9 (.int .i64 (cE (ag sizes) (ag t) v:Nat)) ?_
 rotate_left 3
 focus
  intro l K;go_simp;have d:ef J (J.alloc (.cells #[.int .i64 0] 3)):=(au _ J).alloc (aq _) _;have x:Boxed (J.alloc (.cells #[.int .i64 0] 3)) J.heap.size 3 (.int .i64 0):=a8 J _ _;have r:J.heap.size<(J.alloc (.cells #[.int .i64 0] 3)).heap.size:=aE
  have cC:=i.size;replace i:=i.trans (d.af i.size);refine K.o _ _ i (fun k=>?_);clear K l d;generalize (J.alloc (.cells #[.int .i64 0] 3))=u1 at *;generalize J.heap.size=A at *;refine aG [3,10] (cA ?_ (cA ?_ aF))
  focus
   intro l K;go_simp;refine(HB.o _ (Q.o.aa i) (P.o.aa i)).af ?_;rintro e u2 ⟨f,rfl,F,d⟩;obtain⟨Z,rfl⟩:=F.shape;have X:=i.size;replace i:=i.trans (d.af i.size);refine K.o _ _ i (fun n=>?_);clear K l k;have k:=n;clear n;replace x:=aX x d;have T:A<u1.heap.size∨u2.heap.size<=A:=.inl r;replace r:=aU r d.size;have mh:w.heap.size<=u1.heap.size:=X;have Y:=F.top;generalize u1.heap.size=O at F X mh T⊢;generalize hm1:u2.heap.size=H at F Y T;rw[<- hm1] at Y;(have z:H<=u2.heap.size:=al);clear d hm1;refine aG [6,10] (cA ?_ (cA ?_ aF))
   focus
    intro l K;go_simp;refine(HA.o _ (Q.o.aa i) (P.o.aa i)).af ?_;rintro e j ⟨g,ct,rfl,M,D,d⟩;replace i:=i.trans (d.af i.size);replace F:=F.aa d;replace z:=aR z d.size;refine K.o _ _ i (fun n=>?_);clear K l k;have k:=n;clear n;obtain⟨g3,o3,L,R,m⟩:=D v (by rw[bI,pL];exact I);cases L;rw[wQ I,bB] at m;replace x:=aX x d;(have ab:¬A=g:=al);replace r:=aU r d.size;clear d D M k;(try simp only[gE,aP]);refine uW (S':=fun u=>Hid (ef w u)/\u.cell? ⟨g,v,none⟩=some (.int .i64 (cE (ag sizes) (ag t) v:Nat))) (fun _ h=>h.1) _ _ _ _ ?_;have k:Hid (ef w j)/\j.cell? ⟨g,v,none⟩=some (.int .i64 (cE (ag sizes) (ag t) v:Nat)):=⟨i,m⟩;refine ar 8 (.pointer (some ⟨g,v,none⟩)) ?_;refine ar 9 (.int .i64 (cE (ag sizes) (ag t) v:Nat)) ?_;refine aG [10] (cA ?_ aF);intro l K;go_simp;have d:ef j (j.alloc (.cells #[.nilFunc] 238)):=(au _ j).alloc (aq _) _;have s:Boxed (j.alloc (.cells #[.nilFunc] 238)) j.heap.size 238 (.nilFunc):=a8 j _ _;(have q:j.heap.size<(j.alloc (.cells #[.nilFunc] 238)).heap.size:=aE);have w9:=i.size;replace i:=i.trans (d.af i.size);replace x:=aX x d;(have ne:¬A=j.heap.size:=al);replace r:=aU r d.size;replace F:=F.aa d;have U:j.heap.size<O∨H<=j.heap.size:=.inr z;replace z:=aR z d.size;(have g9:¬j.heap.size=g:=al);replace m:=(d.cell (p:=⟨g,v,none⟩) R).trans m;replace R:=aU R d.size
    refine K.o _ _ ⟨i,m⟩ (fun k=>?_);clear K l d;generalize (j.alloc (.cells #[.nilFunc] 238))=E at *;generalize j.heap.size=y at *
   rotate_left
   focus
    intro l K;go_simp;have d:ef u2 (u2.alloc (.cells #[.nilFunc] 238)):=(au _ u2).alloc (aq _) _;have s:Boxed (u2.alloc (.cells #[.nilFunc] 238)) u2.heap.size 238 (.nilFunc):=a8 u2 _ _;(have q:u2.heap.size<(u2.alloc (.cells #[.nilFunc] 238)).heap.size:=aE);have w9:=i.size;replace i:=i.trans (d.af i.size);replace x:=aX x d;(have ne:¬A=u2.heap.size:=al);replace r:=aU r d.size;replace F:=F.aa d;have U:u2.heap.size<O∨H<=u2.heap.size:=.inr z;replace z:=aR z d.size;refine K.o _ _ i (fun k=>?_);clear K l d;generalize (u2.alloc (.cells #[.nilFunc] 238))=j at *;generalize u2.heap.size=y at *;refine aG [6] (cA ?_ aF);intro l K;go_simp;refine(HA.o _ (Q.o.aa i) (P.o.aa i)).af ?_;rintro e E ⟨g,ct,rfl,M,D,d⟩;replace i:=i.trans (d.af i.size);replace F:=F.aa d;replace z:=aR z d.size;refine K.o _ _ i (fun n=>?_);clear K l k;have k:=n;clear n;obtain⟨g3,o3,L,R,m⟩:=D v (by rw[bI,pL];exact I);cases L;rw[wQ I,bB] at m;replace s:=aX s d;(have g9:¬y=g:=al);replace q:=aU q d.size;replace x:=aX x d;(have ab:¬A=g:=al);replace r:=aU r d.size;clear d D M k;(try simp only[gE,aP]);refine uW (S':=fun u=>Hid (ef w u)/\u.cell? ⟨g,v,none⟩=some (.int .i64 (cE (ag sizes) (ag t) v:Nat))) (fun _ h=>h.1) _ _ _ _ ?_;have k:Hid (ef w E)/\E.cell? ⟨g,v,none⟩=some (.int .i64 (cE (ag sizes) (ag t) v:Nat)):=⟨i,m⟩
    refine ar 8 (.pointer (some ⟨g,v,none⟩)) ?_;refine ar 9 (.int .i64 (cE (ag sizes) (ag t) v:Nat)) ?_
  rotate_left 2
  focus
   intro l K;go_simp;have d:ef u1 (u1.alloc (.cells #[.nilFunc] 238)):=(au _ u1).alloc (aq _) _;have s:Boxed (u1.alloc (.cells #[.nilFunc] 238)) u1.heap.size 238 (.nilFunc):=a8 u1 _ _;(have q:u1.heap.size<(u1.alloc (.cells #[.nilFunc] 238)).heap.size:=aE);have w9:=i.size;replace i:=i.trans (d.af i.size);replace x:=aX x d;(have ne:¬A=u1.heap.size:=al);replace r:=aU r d.size;refine K.o _ _ i (fun k=>?_);clear K l d;generalize (u1.alloc (.cells #[.nilFunc] 238))=u2 at *;generalize u1.heap.size=y at *;refine aG [3] (cA ?_ aF);intro l K;go_simp;refine(HB.o _ (Q.o.aa i) (P.o.aa i)).af ?_;rintro e j ⟨f,rfl,F,d⟩;obtain⟨Z,rfl⟩:=F.shape;have X:=i.size;replace i:=i.trans (d.af i.size);refine K.o _ _ i (fun n=>?_);clear K l k;have k:=n;clear n;replace s:=aX s d;have U:y<u2.heap.size∨j.heap.size<=y:=.inl q;replace q:=aU q d.size;replace x:=aX x d;have T:A<u2.heap.size∨j.heap.size<=A:=.inl r;replace r:=aU r d.size;have mh:w.heap.size<=u2.heap.size:=X;have Y:=F.top;generalize u2.heap.size=O at F X mh U T⊢;generalize hm1:j.heap.size=H at F Y U T;rw[<- hm1] at Y;(have z:H<=j.heap.size:=al);clear d hm1;refine aG [6] (cA ?_ aF);intro l K;go_simp;refine(HA.o _ (Q.o.aa i) (P.o.aa i)).af ?_;rintro e E ⟨g,ct,rfl,M,D,d⟩;replace i:=i.trans (d.af i.size);replace F:=F.aa d;replace z:=aR z d.size;refine K.o _ _ i (fun n=>?_);clear K l k
   have k:=n;clear n;obtain⟨g3,o3,L,R,m⟩:=D v (by rw[bI,pL];exact I);cases L;rw[wQ I,bB] at m;replace s:=aX s d;(have g9:¬y=g:=al);replace q:=aU q d.size;replace x:=aX x d;(have ab:¬A=g:=al);replace r:=aU r d.size;clear d D M k;(try simp only[gE,aP]);refine uW (S':=fun u=>Hid (ef w u)/\u.cell? ⟨g,v,none⟩=some (.int .i64 (cE (ag sizes) (ag t) v:Nat))) (fun _ h=>h.1) _ _ _ _ ?_;have k:Hid (ef w E)/\E.cell? ⟨g,v,none⟩=some (.int .i64 (cE (ag sizes) (ag t) v:Nat)):=⟨i,m⟩;refine ar 8 (.pointer (some ⟨g,v,none⟩)) ?_;refine ar 9 (.int .i64 (cE (ag sizes) (ag t) v:Nat)) ?_
 all_goals
  refine aG [12] (cA ?_ aF);have c9:=s.cell;have f9:=s.frozen;intro l K;go_simp;have e9:Boxed (E.setCell ⟨y,0,none⟩ (.func (.func 232) #[] Z)) y 238 (.func (.func 232) #[] Z):=s.set _;have O6:Boxed (E.setCell ⟨y,0,none⟩ (.func (.func 232) #[] Z)) A 3 (.int .i64 0):=ic x y 0 _ al;replace F:=F.kept (zt.set E 0 (.func (.func 232) #[] Z) z U);replace i:=acO i y 0 (.func (.func 232) #[] Z) w9;replace m:(E.setCell ⟨y,0,none⟩ (.func (.func 232) #[] Z)).cell? ⟨g,v,none⟩=_:=(dY _ _ _ _ (fun e=>g9 (dh Addr.block e))).trans m;have lz:E.heap.size<=(E.setCell ⟨y,0,none⟩ (.func (.func 232) #[] Z)).heap.size:=(kh E _ _).size;replace q:=aU q lz;replace r:=aU r lz;replace z:=aR z lz;refine K.o _ _ ⟨i,m⟩ (fun n=>?_);clear K l k s x c9 f9 lz;have k:=n;clear n;generalize (E.setCell ⟨y,0,none⟩ (.func (.func 232) #[] Z))=v1 at *;have ad:=O6.cell;have ae:=O6.frozen;refine aG [13] (cA ?_ aF);intro l K;go_simp;have x9:Boxed (v1.setCell ⟨A,0,none⟩ (.int .i64 (cE (ag sizes) (ag t) v:Nat))) y 238 (.func (.func 232) #[] Z):=ic e9 A 0 _ al;have ai:=O6.set (.int .i64 (cE (ag sizes) (ag t) v:Nat));replace F:=F.kept (zt.set v1 0 (.int .i64 (cE (ag sizes) (ag t) v:Nat)) z T);replace i:=acO i A 0 (.int .i64 (cE (ag sizes) (ag t) v:Nat)) cC;replace m:(v1.setCell ⟨A,0,none⟩ (.int .i64 (cE (ag sizes) (ag t) v:Nat))).cell? ⟨g,v,none⟩=_:=(dY _ _ _ _ (fun e=>ab (dh Addr.block e))).trans m
  have lz:v1.heap.size<=(v1.setCell ⟨A,0,none⟩ (.int .i64 (cE (ag sizes) (ag t) v:Nat))).heap.size:=(kh v1 _ _).size;replace q:=aU q lz;replace r:=aU r lz;replace z:=aR z lz;refine K.o _ _ ⟨i,m⟩ (fun _=>dS ao ?_ _);clear K l k e9 O6 ad ae lz;generalize (v1.setCell ⟨A,0,none⟩ (.int .i64 (cE (ag sizes) (ag t) v:Nat)))=v2 at *;go_wp2;go_ret;exact⟨_,rfl,⟨y,A,_,rfl,w9,cC,q,r,aq _,x9.cell,ai.cell,F.wider mh z (aq _)⟩,i⟩
variable {pv:Value} {V':World}
abbrev iB (f:Fr):Value:=.agg #[.bool f.1,.string f.2.1,.string f.2.2]
structure JF (w V:World) (pv:Value) (B:Nat) (n:Bool) (x y:ByteArray):Prop where
 how:Boxed V w.heap.size 242 pv
 res:aI V (w.heap.size+1) false ⟨#[]⟩ ⟨#[]⟩
 left:aI V B n x y
 aa:ef w V
 lt:w.heap.size+1<B
theorem JF.step {B:Nat} {n:Bool} {x y:ByteArray} (h:JF w V pv B n x y) (b:ef V V'):JF w V' pv B n x y:=
 ⟨(b.block _ h.how.lt).trans h.how,h.res.aa b h.res.lt,h.left.aa b h.left.lt,h.aa.trans (b.af h.aa.size),h.lt⟩
theorem JF.drew {B:Nat} {n:Bool} {x y:ByteArray} (h:JF w V pv B n x y):JF w V.drew pv B n x y:=⟨h.how,h.res,h.left,h.aa.drew,h.lt⟩
theorem JF.put {B:Nat} {n:Bool} {x y:ByteArray} (h:JF w V pv B n x y) (n':Bool) (x' a:ByteArray):JF w (((V.setCell ⟨B,0,none⟩ (.bool n')).setCell ⟨B,1,none⟩ (.string x')).setCell ⟨B,2,none⟩ (.string a)) pv B n' x' a:=by
 have b:=h.lt;exact⟨ic (ic (ic h.how B 0 _ al) B 1 _ al) B 2 _ al,((h.res.far al _).far al _).far al _,h.left.put n' x' a,dV h.aa al _ _ _,h.lt⟩
theorem aiY (f t:Nat) (u Q:Array Value) (ep:∀r w,(callFunc f r).run Tryz.prog w=.ok (.enter f r) w) (et:∀r w,(callFunc t r).run Tryz.prog w=.ok (.enter t r) w) (n:Nat) (T L:Nat ->Fr) (w:World) (h1:1<=n) (hn:n<=65536)
  (X:∀k,k< n ->∀V,ef w V ->du t (#[.int .i64 (k:Nat)]++Q) V fun e w'=>e=.returned (iB (T k))/\ef V w')
  (U:∀k,k+1< n ->∀V,ef w V ->du f (#[iB (L k),iB (T (k+1))]++u) V fun e w'=>e=.returned (iB (L (k+1)))/\ef V w')
  (h0:L 0=T 0):
  du 212 #[.agg #[.func (.func f) #[] u],.int .i64 (n:Nat),.func (.func t) #[] Q] w (eS w (iB (L (n - 1)))):=by
 have F:=hid X;have HP:=hid U;clear X U;go_enter Tryz.func212,Tryz.ntmps212;go_wp2_with fail
 have m:ef w ((w.alloc (.cells #[.func (.func f) #[] u] 242)).alloc (.cells #[.bool false,.string ⟨#[]⟩,.string ⟨#[]⟩] 42)):=((au _ w).alloc (aq _) _).alloc aE _;have O:Boxed ((w.alloc (.cells #[.func (.func f) #[] u] 242)).alloc (.cells #[.bool false,.string ⟨#[]⟩,.string ⟨#[]⟩] 42)) w.heap.size 242 (.func (.func f) #[] u):=(a8 w _ _).alloc _
 have q:aI ((w.alloc (.cells #[.func (.func f) #[] u] 242)).alloc (.cells #[.bool false,.string ⟨#[]⟩,.string ⟨#[]⟩] 42)) (w.heap.size+1) false ⟨#[]⟩ ⟨#[]⟩:=by
  have h:=aI.new (w.alloc (.cells #[.func (.func f) #[] u] 242)) false ⟨#[]⟩ ⟨#[]⟩;rwa [dE] at h
 have ai:((w.alloc (.cells #[.func (.func f) #[] u] 242)).alloc (.cells #[.bool false,.string ⟨#[]⟩,.string ⟨#[]⟩] 42)).heap.size=w.heap.size+1+1:=aE
 generalize ((w.alloc (.cells #[.func (.func f) #[] u] 242)).alloc (.cells #[.bool false,.string ⟨#[]⟩,.string ⟨#[]⟩] 42))=W at *;have ab:=hid h0;refine(F.o 0 al _ m).af ?_;rcases CC:T 0 with ⟨v,x,y⟩;rintro e l ⟨rfl,j⟩;rw[CC] at h0;have I:=hid h0;clear h0 CC ab;have ae:=j.size;have P:=(aX O j);have R:=q.aa j q.lt;have s:=m.trans (j.af m.size);go_wp2_with fail
 have Y:Hid (JF w (l.alloc (.cells #[.bool v,.string x,.string y] 42)) (.func (.func f) #[] u) l.heap.size v x y):=⟨P.alloc _,R.alloc _,aI.new l v x y,s.alloc s.size _,al⟩;generalize l.heap.size=B at *;clear O q m ai j ae P R s;go_loopw [13] (fun iv wr=>∃i:Nat,i+1<=n/\iv=.int .i64 i/\Hid (JF w wr (.func (.func f) #[] u) B (L i).1 (L i).2.1 (L i).2.2)) (fun iv _=>n - (intOf iv).toNat)
 case atStart=>exact⟨0,h1,rfl,by rw[I.o];exact Y⟩
 case round=>
  obtain⟨i,hi,rfl,H⟩:=hrel;clear Y I;by_cases Z:i+1<n
  ·have z:=F.o (i+1) Z;have g:=HP.o i Z;rw[Int.natCast_succ] at z;rcases hL:L i with ⟨ni,xi,yi⟩;rcases hT:T (i+1) with ⟨nt,xt,yt⟩;rcases T2:L (i+1) with ⟨nl,xl,yl⟩;rw[hL] at H g;rw[hT] at z g;rw[T2] at g;have E:=hid z;have De:=hid g;have oN:=hid T2;clear z g hL hT T2;have J:=H.o;simp only at J;obtain⟨k0,k1,k2,f0,f1,f2⟩:=J.left.facts;have A:=J.drew;(have an:IntKind.i64.wrap ((i:Int)+1)=(i:Int)+1:=by rw[fj];omega);go_upto_region 5 with fail
   refine gI (S:=fun V=>V.cell? ⟨w.heap.size,0,none⟩=some (.func (.func f) #[] u)) ao A.how.cell (fun c=>?_);have d0:=A.left.c0;have d1:=A.left.c1;have d2:=A.left.c2;refine ar 0 (.pointer (some ⟨w.heap.size,0,none⟩)) ?_;refine ar 1 (.func (.func f) #[] u) ?_;refine ar 3 (.func (.func t) #[] Q) ?_;refine ar 4 (.int .i64 (i:Nat)) ?_;refine ar 5 (.int .i64 ((i:Int)+1)) ?_;refine aG [2,6] (cA ?_ (cA ?_ aF))
   focus
    intro b K;go_simp;refine K.o _ _ A.how.cell (fun a=>?_);clear K b c;have c:=a;clear a;refine aG [6] (cA ?_ aF);intro b K;go_simp;refine(E.o _ A.aa).af ?_;rintro e w2 ⟨rfl,D⟩;have d:=A.step D;obtain⟨e0,e1,e2,_,_,_⟩:=d.left.facts
   rotate_left
   focus
    intro b K;go_simp;refine(E.o _ A.aa).af ?_;rintro e w2 ⟨rfl,D⟩;have d:=A.step D;obtain⟨e0,e1,e2,_,_,_⟩:=d.left.facts;refine K.o _ _ d.how.cell (fun a=>?_);clear K b c;have c:=a;clear a;refine aG [2] (cA ?_ aF);intro b K;go_simp
   all_goals
    refine K.o _ _ d.how.cell (fun a=>?_);clear K b c;have c:=a;clear a;refine aG [7] (cA ?_ aF);intro b K;go_simp;refine(De.o _ d.aa).af ?_;rintro e w3 ⟨rfl,ad⟩;have p:=d.step ad;refine K.o _ _ p.how.cell (fun a=>?_);clear K b c;have c:=a;clear a;obtain⟨q0,q1,q2,p0,p1,p2⟩:=p.left.facts;refine aG [8] (cA ?_ aF);intro b K;go_simp;have M:=p.put nl xl yl;refine K.o _ _ M.how.cell (fun _=>dS ao ?_ _);clear K b c;go_wp2;go_roundw
    case rel=>exact⟨i+1,al,by rw[Int.natCast_succ],by rw[oN.o];exact M⟩
    case measure=>simp[intOf];omega
  ·have aj:i+1=n:=al
   (have HE:Hid (L (n - 1)=L i):=by show _=_;rw[show n - 1=i by omega]);have J:=H.o;obtain⟨k0,k1,k2,f0,f1,f2⟩:=J.left.facts;obtain⟨r0,r1,r2,t0,t1,t2⟩:=J.res.facts;go_wp2;refine cj ((J.res.put _ _ _).result rfl _ rfl) rfl ?_;exact⟨by rw[HE.o],dV J.aa al _ _ _⟩
abbrev aQ (f:Fr):Rat:=val f.1 f.2.1 f.2.2
def great (f g:Fr):Fr:=if gz (aQ f) (aQ g)<0 then g else f
theorem aky (f g:Fr) (w:World) (s:f.2.1.size+f.2.2.size<=100000) (t:g.2.1.size+g.2.2.size<=100000):
  du 233 #[iB f,iB g] w (eS w (iB (great f g))):=by
 obtain⟨n,x,y⟩:=f;obtain⟨m,u,v⟩:=g;have HC:=hid (fun V:World=>EJ (w:=V) (gz (val n x y) (val m u v)) rfl rfl rfl s t);have H:Hid (great (n,x,y) (m,u,v)=if gz (val n x y) (val m u v)<0 then(m,u,v) else(n,x,y)):=rfl;generalize great (n,x,y) (m,u,v)=r at *;generalize gz (val n x y) (val m u v)=k at *;have a:aI (((w.alloc (FC n x y)).alloc (FC m u v)).alloc (FC false ⟨#[]⟩ ⟨#[]⟩)) w.heap.size n x y:=((aI.new w n x y).alloc _).alloc _;have c:aI (((w.alloc (FC n x y)).alloc (FC m u v)).alloc (FC false ⟨#[]⟩ ⟨#[]⟩)) (w.heap.size+1) m u v:=(aI.at (w:=w.alloc (FC n x y)) aE m u v).alloc _;have d:aI (((w.alloc (FC n x y)).alloc (FC m u v)).alloc (FC false ⟨#[]⟩ ⟨#[]⟩)) (w.heap.size+1+1) false ⟨#[]⟩ ⟨#[]⟩:=aI.at (w:=(w.alloc (FC n x y)).alloc (FC m u v)) aE false ⟨#[]⟩ ⟨#[]⟩;have i:ef w (((w.alloc (FC n x y)).alloc (FC m u v)).alloc (FC false ⟨#[]⟩ ⟨#[]⟩)):=(((au _ w).alloc (aq _) _).alloc aE _).alloc (by simp;omega) _;go_enter Tryz.func233,Tryz.ntmps233;go_wp2_with fail
 generalize (((w.alloc (FC n x y)).alloc (FC m u v)).alloc (FC false ⟨#[]⟩ ⟨#[]⟩))=W at a c d i⊢;refine(HC.o _).af ?_;rintro e w1 ⟨rfl,b⟩;have p:=a.aa b a.lt;have q:=c.aa b c.lt;have h:=d.aa b d.lt;have j:=i.trans (b.af i.size);obtain⟨S,T,U,A,D,E⟩:=p.facts;obtain⟨O,P,Q,K,L,M⟩:=q.facts;obtain⟨X,Y,Z,F,I,J⟩:=h.facts;by_cases l:k<0
 ·have R:Hid (r=(m,u,v)):=by show _=_;rw[H.o,aA l]
  clear H;go_wp2;refine cj ((h.put _ _ _).result rfl _ rfl) rfl ?_;exact⟨by rw[R.o],dV j al _ _ _⟩
 ·have R:Hid (r=(n,x,y)):=by show _=_;rw[H.o,aD l]
  have z:0<=k:=al
  clear H;go_wp2;refine cj ((h.put _ _ _).result rfl _ rfl) rfl ?_;exact⟨by rw[R.o],dV j al _ _ _⟩
theorem XM (w:World):du 209 #[] w (eS w (.agg #[.func (.func 47) #[] #[]])):=by
 go_enter Tryz.func209,Tryz.ntmps209;go_wp2;refine cj (FM rfl _ _ w.heap.size _ _ _ _ rfl (a8 w _ _) Tryz.underlying242 rfl ao) rfl ?_;exact⟨rfl,(au _ w).alloc (aq _) _⟩
theorem akx (w:World):du 210 #[] w (eS w (.agg #[.func (.func 233) #[] #[]])):=by
 go_enter Tryz.func210,Tryz.ntmps210;go_wp2;refine cj (FM rfl _ _ w.heap.size _ _ _ _ rfl (a8 w _ _) Tryz.underlying242 rfl ao) rfl ?_;exact⟨rfl,(au _ w).alloc (aq _) _⟩
variable {l:List Fr} {g:Nat}
def jq:List Fr ->List Value
 |[]=>[]
 |f::l=>.bool f.1::.string f.2.1::.string f.2.2::jq l
theorem KO:∀l:List Fr,(jq l).length=3*l.length
 |[]=>rfl
 |f::l=>by simp only[jq,ew,KO l];omega
theorem KP:∀(l:List Fr) (k:Nat) (h:k<l.length),(jq l)[k*3]? =some (.bool l[k].1)/\(jq l)[k*3+1]? =some (.string l[k].2.1)/\(jq l)[k*3+2]? =some (.string l[k].2.2)
 |[],_,h=>absurd h aE
 |f::l,0,_=>⟨rfl,rfl,rfl⟩
 |f::l,k+1,h=>by
  have a:k<l.length:=by simpa using h
  obtain⟨b,c,d⟩:=KP l k a;have e:(k+1)*3=k*3+1+1+1:=al
  refine⟨?_,?_,?_⟩
  ·rw[e];exact b
  ·rw[show (k+1)*3+1=(k*3+1)+1+1+1 by omega];exact c
  ·rw[show (k+1)*3+2=(k*3+2)+1+1+1 by omega];exact d
theorem Uy:∀(l:List Fr) (k:Nat) (f:Fr),(((jq l).set (k*3) (.bool f.1)).set (k*3+1) (.string f.2.1)).set (k*3+2) (.string f.2.2)=jq (l.set k f)
 |[],k,f=>by simp[jq]
 |x::l,0,f=>by simp[jq]
 |x::l,k+1,f=>by
  rw[show (k+1)*3=k*3+1+1+1 by omega,show k*3+1+1+1+1=(k*3+1)+1+1+1 by omega,show k*3+1+1+1+2=(k*3+2)+1+1+1 by omega];simp only[jq,dC,Uy l k f]
def eN (w:World) (g:Nat) (l:List Fr):Prop:=w.heap[g]? =some (.cells (jq l).toArray 42 (0,0))
theorem eN.lt (h:eN w g l):g<w.heap.size:=(cJ.1 h).1
theorem eN.fz (h:eN w g l) (j:Nat):w.frozen? ⟨g,j,none⟩=false:=jw w g j _ _ h
theorem eN.aa {b:Nat} (h:eN w g l) (a:Below b w w') (c:g<b):eN w' g l:=(a.block g c).trans h
theorem eN.cells (h:eN w g l) (k:Nat) (a:k<l.length):w.cell? ⟨g,k*3,none⟩=some (.bool l[k].1)/\w.cell? ⟨g,k*3+1,none⟩=some (.string l[k].2.1)/\w.cell? ⟨g,k*3+2,none⟩=some (.string l[k].2.2):=by
 obtain⟨b,c,d⟩:=KP l k a;refine⟨?_,?_,?_⟩<;>rw[bG w g _ _ _ (0,0) h]<;>simpa using dj
theorem eN.fr (h:eN w g l):aW w (some ⟨g,0,none⟩) l:=fun k d=>by
 obtain⟨a,b,c⟩:=h.cells k d;refine⟨g,0,rfl,h.lt,?_,?_,?_⟩
 ·rw[bB];exact a
 ·rw[bB];exact b
 ·rw[bB];exact c
theorem eN.put (h:eN w g l) (k:Nat) (f:Fr):eN (((w.setCell ⟨g,k*3,none⟩ (.bool f.1)).setCell ⟨g,k*3+1,none⟩ (.string f.2.1)).setCell ⟨g,k*3+2,none⟩ (.string f.2.2)) g (l.set k f):=by
 have a:=jf w g (k*3) _ _ (.bool f.1) h;have b:=jf _ g (k*3+1) _ _ (.string f.2.1) a;have c:=jf _ g (k*3+2) _ _ (.string f.2.2) b;rw[eN,c, <- Uy];simp
variable {xs:List Value} {base:Nat}
def zi:Fr:=(false,⟨#[]⟩,⟨#[]⟩)
def iR (l:List Fr) (i:Nat):List Fr:=l.take i++List.replicate (l.length - i) zi
theorem Ga (l:List Fr):iR l 0=List.replicate l.length zi:=by simp[iR]
theorem wM (l:List Fr) (h:i<=l.length):(iR l i).length=l.length:=by simp[iR];omega
theorem Gc (l:List Fr):iR l l.length=l:=by simp[iR]
theorem Gb (l:List Fr) (h:i<l.length):(iR l i).set i l[i]=iR l (i+1):=by
 rw[iR,iR,BC _ _ (by simp;omega),iF h];have e:l.length - i=(l.length - (i+1))+1:=al
 rw[e,IW,eE,tX al,mF,cN,lV];rfl
theorem Tryz.infoFrac:(Tryz.prog.info? 42).map (fun i=>(i.zero,i.size,i.bytes))=some (some (.agg #[.bool false,.string ⟨#[]⟩,.string ⟨#[]⟩]),3,40):=ao
theorem bE.put {u v:Value} (h:bE w g u v) (x y:Value):bE ((w.setCell ⟨g,0,none⟩ x).setCell ⟨g,1,none⟩ y) g x y:=by
 have a:=jf w g 0 _ _ x h;have b:=jf _ g 1 _ _ y a;exact b
theorem eN.off (h:eN w g l) (b j:Nat) (y:Value) (e:g≠b):eN (w.setCell ⟨b,j,none⟩ y) g l:=(fQ w ⟨b,j,none⟩ y g e).trans h
theorem Ht {t:TypeId} (h:w.ownsRow base t 3 (.slice (some ⟨g,0,none⟩) n n) n xs):w.heap[g]? =some (.cells xs.toArray t (0,0)):=by
 rcases h.2 with ⟨a,_⟩ |⟨g',p,c,a,_,b,j,_,s,m⟩
 ·cases a
 ·cases a;rw[b, <- m,lT (by simp;omega)]
theorem abR:∀(n j:Nat),j<3*n ->(jq (List.replicate n zi))[j]? =some (#[Value.bool false,Value.string ⟨#[]⟩,Value.string ⟨#[]⟩][j % 3]!)
 |0,j,h=>al
 |n+1,0,_=>rfl
 |n+1,1,_=>rfl
 |n+1,2,_=>rfl
 |n+1,j+3,h=>by
  rw[show (j+3) % 3=j % 3 by omega,IW];exact abR n j al
theorem Gr (n:Nat):(madeCells (Value.agg #[Value.bool false,Value.string ⟨#[]⟩,Value.string ⟨#[]⟩]).cells (n*3)).toList=jq (List.replicate n zi):=by
 apply I3;intro j;by_cases h:j<3*n
 ·rw[abR n j h,madeCells];have a:j<n*3:=al
  simp[a,Value.cells]
 ·rw[jA (by rw[DI,size_madeCells];omega),jA (by rw[KO,BF];omega)]
theorem KT (a b:Option Addr) (ca cb:Nat) (sizes vars:List Int) (F:Nat) (lb:Array Value) (eF:∀ae w,(callFunc F ae).run Tryz.prog w=.ok (.enter F ae) w) (l:List Fr) (w:World) (M:aJ w a sizes) (Q:aJ w b vars) (S:fX sizes) (J:Up vars sizes.length) (L:l.length=cnt (ag sizes) (ag vars))
  (O:∀k (h:k<l.length),∀V,ef w V ->du F (#[.int .i64 (k:Nat)]++lb) V fun e w'=>e=.returned (iB l[k])/\ef V w'):
  du 66 #[.slice a sizes.length ca,.slice b vars.length cb,.func (.func F) #[] lb] w fun e w'=>∃g:Nat,e=.returned (.agg #[.slice b vars.length cb,.slice (some ⟨g,0,none⟩) l.length l.length])/\w.heap.size<=g/\eN w' g l/\ef w w':=by
 obtain⟨i0,bM,av,ax,ay⟩:=dJ Tryz.infoFrac;have HS:=hid M;have HV:=hid Q;have HT:=hid O;have HC:=hid (fun V h1 h2=>acy a b ca cb sizes vars V h1 h2 S J);have rR:=S.eight;have oY:=J.length;have an:cnt (ag sizes) (ag vars)<=65536:=vJ S.sz_le (by rw[gM];omega);rw[<- L] at an HC;clear M Q O L S J;go_enter Tryz.func66,Tryz.ntmps66;go_wp2_with fail
 have s:(w.alloc (.cells #[.slice none 0 0,.slice none 0 0] 49)).heap[w.heap.size]? =some (.cells #[.slice none 0 0,.slice none 0 0] 49 (0,0)):=dB _ _;have j:ef w (w.alloc (.cells #[.slice none 0 0,.slice none 0 0] 49)):=(au _ w).alloc (aq _) _;have ad:(w.alloc (.cells #[.slice none 0 0,.slice none 0 0] 49)).heap.size=w.heap.size+1:=aE
 generalize (w.alloc (.cells #[.slice none 0 0,.slice none 0 0] 49))=W at s j ad⊢;refine(HC.o _ (HS.o.aa j) (HV.o.aa j)).af ?_;rintro e c ⟨rfl,q⟩;have ak:=q.size;have A:c.heap[w.heap.size]? =some (.cells #[.slice none 0 0,.slice none 0 0] 49 (0,0)):=(q.block _ al).trans s;have t:=j.trans (q.af j.size)
 go_wp2_with (first
  |(at_make;refine lj _ rfl _ _ 24 rfl c.heap.size 42 i0 (.agg #[.bool false,.string ⟨#[]⟩,.string ⟨#[]⟩]) 3 Tryz.underlying24 bM av ax .i64 .i64 _ _ l.length rfl rfl b5 b5 (by rw[ay];omega) (by unfold maxLen;omega) (aq _) ?_;intro n ah ai))
 have v:=Ht ah;rw[Gr] at v;have T:Hid (eN n c.heap.size (List.replicate l.length zi)):=v;have u:ef c n:=(au _ c).grown ai (aq _) (fun k e=>by cases e);have E:n.heap[w.heap.size]? =some (.cells #[.slice none 0 0,.slice none 0 0] 49 (0,0)):=(u.block _ al).trans A;have I:=hid (t.trans (u.af t.size));have JW:w.heap.size+1<=c.heap.size:=al
 generalize c.heap.size=G at *;clear ah ai v u A s j q t ak ad;have Z:Hid (bE n w.heap.size (.slice none 0 0) (.slice none 0 0)):=E;clear E;go_wp2_with fail
 go_loopw [15] (fun iv wr=>∃i:Nat,i<=l.length/\iv=.int .i64 i/\Hid (eN wr G (iR l i))/\Hid (bE wr w.heap.size (.slice none 0 0) (.slice none 0 0))/\Hid (ef w wr)) (fun iv _=>l.length - (intOf iv).toNat)
 case atStart=>exact⟨0,aV _,rfl,by rw[Ga];exact T,Z,I⟩
 case round=>
  obtain⟨i,hi,rfl,R,H,m⟩:=hrel;clear T Z I;by_cases ab:i<l.length
  ·have aj:=hid (Gb l ab);have D:=hid (HT.o i ab);have az:=wM l hi;generalize l[i]=f at *;obtain⟨fn,x,y⟩:=f;go_wp2_with fail
   refine(D.o _ m.o).af ?_;rintro e Y ⟨rfl,r⟩;have d:=R.o.aa r R.o.lt;have X:bE Y w.heap.size (.slice none 0 0) (.slice none 0 0):=(r.block _ (cJ.1 H.o).1).trans H.o;have U:=m.o.trans (r.af m.o.size);obtain⟨k0,k1,k2⟩:=d.cells i al;have f0:=d.fz (i*3);have f1:=d.fz (i*3+1);have f2:=d.fz (i*3+2);generalize (iR l i)[i]=z at *;obtain⟨zn,zx,zy⟩:=z;simp only at k0 k1 k2;have P:=hid (d.put i (fn,x,y));rw[aj.o] at P;have ET:Hid (bE (((Y.setCell ⟨G,i*3,none⟩ (.bool fn)).setCell ⟨G,i*3+1,none⟩ (.string x)).setCell ⟨G,i*3+2,none⟩ (.string y)) w.heap.size (.slice none 0 0) (.slice none 0 0)):=(fQ _ ⟨G,i*3+2,none⟩ _ w.heap.size (by show w.heap.size≠G;omega)).trans ((fQ _ ⟨G,i*3+1,none⟩ _ w.heap.size (by show w.heap.size≠G;omega)).trans ((fQ _ ⟨G,i*3,none⟩ _ w.heap.size (by show w.heap.size≠G;omega)).trans X));have k8:=hid (((U.setCell (p:=⟨G,i*3,none⟩) (by show w.heap.size<=G;omega) (.bool fn)).setCell (p:=⟨G,i*3+1,none⟩) (by show w.heap.size<=G;omega) (.string x)).setCell (p:=⟨G,i*3+2,none⟩) (by show w.heap.size<=G;omega) (.string y));clear d X U r D;go_wp2;go_roundw
   case rel=>exact⟨i+1,al,b5,P,ET,k8⟩
   case measure=>simp[intOf];omega
  ·obtain rfl:i=l.length:=al
   have K:=R.o;rw[Gc] at K;obtain⟨t0,t1⟩:wr.cell? ⟨w.heap.size,0,none⟩=some (.slice none 0 0)/\wr.cell? ⟨w.heap.size,1,none⟩=some (.slice none 0 0):=⟨H.o.c0,H.o.c1⟩;have g0:wr.frozen? ⟨w.heap.size,0,none⟩=false:=jw wr w.heap.size 0 _ _ H.o;have g1:wr.frozen? ⟨w.heap.size,1,none⟩=false:=jw wr w.heap.size 1 _ _ H.o;go_wp2;refine cj (FM rfl _ _ w.heap.size _ _ _ _ rfl (H.o.put _ _) Tryz.underlying49 rfl ao) rfl ?_;exact⟨G,rfl,al,(K.off _ 0 _ al).off _ 1 _ al,(m.o.setCell (p:=⟨w.heap.size,0,none⟩) (aq _) _).setCell (p:=⟨w.heap.size,1,none⟩) (aq _) _⟩
variable {vs:List Nat}
theorem acS:∀ {vs:List Nat} {k i:Nat},vs.Nodup ->(h:i<vs.length) ->(mn S vs k)[i]? =some (aY S vs k vs[i])
 |[],_,_,_,h=>absurd h aE
 |u::vs,k,0,_,_=>by simp[mn,aY]
 |u::vs,k,i+1,hn,h=>by
  rw[pG] at hn;have a:i<vs.length:=by simpa using h
  have e:¬vs[i]=u:=fun e=>hn.1 (by rw[<- e];exact bF a);rw[mn,List.getElem?_cons_succ,acS hn.2 a,List.getElem_cons_succ,aY,aD e]
def pO (n:Nat) (f:Nat ->Nat):List Nat:=(List.range n).map f
theorem DT (n:Nat) (f:Nat ->Nat):(pO n f).length=n:=by simp[pO]
theorem Rm (h:v<n):(pO n f)[v]? =some (f v):=by simp[pO,h]
theorem afg {g:Nat ->Nat} (h:∀v,v< n ->f v=g v):pO n f=pO n g:=sG fun v a=>h v (cI.1 a)
theorem aff (v x:Nat):(pO n f).set v x=pO n (aM f v x):=by
 apply I3;intro u;rw[List.getElem?_set];by_cases a:u<n
 ·rw[Rm a,Rm a,aM,DT];by_cases e:v=u
  ·subst e;rw[aA rfl,aA a,aA rfl]
  ·rw[aD e,aD (fun h=>e h.symm)]
 ·rw[jA (by rw[DT];omega),jA (by rw[DT];omega),DT];by_cases e:v=u
  ·rw[aA e,aD al]
  ·rw[aD e]
theorem agz (S:List Nat) (f:Nat ->Nat) (h:i<vs.length):pos S f (vs.take (i+1))=pos S f (vs.take i)*sz S vs[i]+f vs[i]:=by
 rw[iF h,agA]
theorem aej {x:Nat} (h:∀u,f u<sz S u) (a:x<sz S v) (u:Nat):aM f v x u<sz S u:=by
 rw[aM];by_cases e:u=v
 ·rw[aA e,e];exact a
 ·rw[aD e];exact h u
def qF (q:Rat):Fr:=(bw q,nu q,de q)
theorem OZ (q:Rat):iB (qF q)=.agg #[.bool (bw q),.string (nu q),.string (de q)]:=rfl
theorem mZ (q:Rat):aQ (qF q)=q:=ji q
def bD (l:List Fr) (k:Nat):Fr:=l[k]?.getD zi
theorem kS (h:k<l.length):bD l k=l[k]:=by rw[bD,bj h];rfl
theorem amu (h:k<l.length):(bD l k).2.1.size+(bD l k).2.2.size+2<=fw l:=by rw[kS h];exact Hk (bF h)
def vk (l:List Fr):List Fr:=l.map fun f=>qF (aQ f*(1/fsum l))
def xH (S vars rest:List Nat) (v x:Nat) (l:List Fr):List Fr:=(List.range (cnt S rest)).map fun K=>qF (aQ (bD l (pos S (aM (aY S rest K) v x) vars)))
def lr (most:Bool) (T:Nat ->Fr):Nat ->Fr
 |0=>T 0
 |k+1=>if most then great (lr most T k) (T (k+1)) else qF (aQ (lr most T k)+aQ (T (k+1)))
def qJ (S vars rest:List Nat) (v:Nat) (most:Bool) (l:List Fr):List Fr:=(List.range (cnt S rest)).map fun K=>qF (aQ (lr most (fun x=>bD l (pos S (aM (aY S rest K) v x) vars)) (sz S v - 1)))
def uZ (S va vb U:List Nat) (la lb:List Fr):List Fr:=(List.range (cnt S U)).map fun K=>qF (aQ (bD la (pos S (aY S U K) va))*aQ (bD lb (pos S (aY S U K) vb)))
def bS (l:List Int) (v:Int):List Int:=l.filter fun u=>!(u==v)
def Cw (m:Nat) (l:List Fr):Prop:=∀k,k<l.length ->(bD l k).2.1.size+(bD l k).2.2.size+2<=m
theorem Cw.up (h:Cw m l) (b:m<=n):Cw n l:=fun k a=>aR (h k a) b
def sw:List Fr ->Nat
 |[]=>0
 |f::l=>f.2.1.size+f.2.2.size+sw l
theorem bE.off {u v:Value} (h:bE w g u v) (b j:Nat) (y:Value) (e:g≠b):bE (w.setCell ⟨b,j,none⟩ y) g u v:=(fQ w ⟨b,j,none⟩ y g e).trans h
theorem AO {sizes vars:List Int} (h:j7 sizes vars m=0):fX sizes/\Up vars sizes.length/\m=cnt (ag sizes) (ag vars):=by
 rw[j7] at h;by_cases a:countB sizes vars=true
 ·rw[aA a] at h;by_cases b:m=cnt (ag sizes) (ag vars)
  ·exact⟨(UG a).1,(UG a).2,b⟩
  ·rw[aD b] at h;omega
 ·rw[aD a] at h;omega
open Go.Sort Go.Lib
def ij (B:Nat) (b:Option Addr) (cb:Nat):Prop:=(b=none ->cb=0)/\∀g o,b=some ⟨g,o,none⟩ ->B<=g
theorem ij.up {B C:Nat} {b:Option Addr} (h:ij B b cb) (a:C<=B):ij C b cb:=⟨h.1,fun g o e=>aR a (h.2 g o e)⟩
theorem ij.nil (B:Nat):ij B Option.none 0:=⟨fun _=>rfl,fun g o e=>by cases e⟩
theorem ij.at {B G:Nat} (h:B<=G):ij B (Option.some ⟨G,0,Option.none⟩) cb:=⟨(fun e=>by cases e),fun g o e=>by cases e;exact h⟩
def bP (w:World) (B:Nat) (v:Value) (l:List Int):Prop:=w.ownsRow B 3 1 v l.length (l.map (Value.int .i64))
theorem bP.cases {B:Nat} {v:Value} {l:List Int} (h:bP w B v l):(v=.slice none 0 0/\l=[])∨∃g cap,v=.slice (some ⟨g,0,none⟩) l.length cap/\B<=g/\g<w.heap.size/\l.length<=cap/\cap<=maxLen/\Holds (Value.int .i64) w g 0 l.toArray:=by
 rcases h.2 with ⟨a,b⟩ |⟨g,cap,r,a,b,c,f,i,n,k⟩
 ·exact .inl ⟨a,I0.1 b⟩
 ·refine .inr ⟨g,cap,a,b,(cJ.1 c).1,f,i,fun j m=>?_⟩;have d:j<l.length:=by simpa using m
  refine⟨?_,jw w g _ _ _ c⟩;rw[bB,bG w g j _ _ (0,0) c]
  have e:r[j]? =(r.toList.take (l.length*1))[j]?:=by
   rw[pI,aA al,uU]
  rw[e,k,lU,bj d];simp[d]
theorem GW {d:Array Int} {l:List Int} (h:Holds (Value.int .i64) w g 0 d) (b:g<w.heap.size) (f:∀j (i:j<l.length),∃a:j<d.size,d[j]=l[j]):aJ w (some ⟨g,0,none⟩) l:=fun k c=>by
 obtain⟨a,e⟩:=f k c;refine⟨g,0,rfl,b,?_⟩;have:=(h k a).1;rw[IE d k a,e] at this;exact this
theorem bP.ints {B:Nat} {v:Value} {l:List Int} (h:bP w B v l):∃d c,v=.slice d l.length c/\aJ w d l:=by
 rcases h.cases with ⟨rfl,rfl⟩ |⟨g,cap,rfl,_,a,_,_,b⟩
 ·exact⟨none,0,rfl,fun k f=>absurd f aE⟩
 ·exact⟨_,_,rfl,GW b a fun j e=>⟨by simpa using e,aE⟩⟩
theorem aat {b o:Nat} {l:List Int} (h:aJ w (some ⟨b,o,none⟩) l):∀j,j<l.length ->w.cell? ⟨b,o+j,none⟩=some (.int .i64 (l.getD j 0)):=fun j a=>by
 obtain⟨g,o',e,_,c⟩:=h j a;cases e;rw[c,bY,bj a];rfl
theorem M6 (b:Option Addr) (cb:Nat) (l:List Int) (w:World) (h:aJ w b l) (n:l.length<=1000000):
  du 51 #[.slice b l.length cb] w fun e w'=>∃v,e=.returned v/\bP w' w.heap.size v l/\ef w w':=by
 cases b with
 |none=>
  have d:l=[]:=by
   cases l with
   |nil=>rfl
   |cons x l=>obtain⟨g,o,e,_⟩:=h 0 aE;cases e
  subst d;refine(Tryz.slices_Clone_int_nil 0 cb w).af ?_;rintro e w' ⟨rfl,rfl⟩;exact⟨_,rfl,⟨rfl,.inl ⟨rfl,rfl⟩⟩,au _ _⟩
 |some a=>
  cases l with
  |nil=>
   refine(Tryz.slices_Clone_int_zero a cb w).af ?_;rintro e w' ⟨v,rfl,r,_,c⟩;exact⟨v,rfl,r,c⟩
  |cons x l=>
   obtain⟨g,o,e,_⟩:=h 0 aE;cases e;refine(Tryz.slices_Clone_int g o (x::l).length cb (x::l) w (aq _) al (aat h)).af ?_;rintro e w' ⟨v,rfl,r,_,c⟩;rw[jR] at r;exact⟨v,rfl,r,c⟩
theorem Jt (b:Option Addr) (cb:Nat) (l:List Int) (x:Int) (w:World) (h:aJ w b l) (n:l.length<=140737488355328):
  du 101 #[.slice b l.length cb,.int .i64 x] w (eS w (.bool (l.contains x))):=by
 cases l with
 |nil=>
  refine(Tryz.slices_Contains_int_empty b cb x w).af ?_;rintro e w' ⟨rfl,rfl⟩;exact⟨rfl,au _ _⟩
 |cons y l=>
  obtain⟨g,o,rfl,_⟩:=h 0 aE;refine(Tryz.slices_Contains_int g o (y::l).length cb (y::l) x w (aq _) al (aat h)).af ?_;rintro e w' ⟨rfl,rfl⟩;rw[jR];exact⟨rfl,au _ _⟩
theorem Xc (u v:Int) (B:Nat) (W:World) (c:W.cell? ⟨B,0,none⟩=some (.int .i64 v)):
  FnGives Tryz.prog 205 #[.pointer (some ⟨B,0,none⟩)] #[.int .i64 u] (.bool (u==v)) W:=by
 show du 205 #[.int .i64 u,.pointer (some ⟨B,0,none⟩)] W _;go_enter Tryz.func205,Tryz.ntmps205;go_wp2
 all_goals (go_ret;exact⟨by simp_all,0,rfl⟩)
theorem aef (v:Int) (B:Nat) (w:World) (h:B<w.heap.size) (c:w.cell? ⟨B,0,none⟩=some (.int .i64 v)):
  PredAt Tryz.prog 205 #[.pointer (some ⟨B,0,none⟩)] (Value.int .i64) (fun u=>u==v) w:=
 fun W x b=>Xc x v B W ((b.cell (p:=⟨B,0,none⟩) h).trans c)
theorem aee (v:Int) (B b f i:Nat) (w:World) (h:B<w.heap.size) (e:B≠b) (c:w.cell? ⟨B,0,none⟩=some (.int .i64 v)):
  PredOver Tryz.prog 205 #[.pointer (some ⟨B,0,none⟩)] (Value.int .i64) (fun u=>u==v) b f i w:=
 fun n o d x _=>Xc x v B _ (by
  unfold sortWorld;rw[cell?_grow _ _ _ (by show B<(putRow _ _ _ _ _).heap.size;rw[size_putRow];exact h),cell?_putRow_other _ _ b f _ _ (Or.inl e)];exact c)
theorem Yg (fv:Value) (w:World):du 158 #[.slice none 0 0,fv] w (eS w (.slice none 0 0)):=by
 go_enter Tryz.func158,Tryz.ntmps158;go_wp2_with fail
 refine(Tryz.slices_IndexFunc_empty (α:=Int) none 0 fv w).af ?_;rintro e a ⟨rfl,rfl⟩;go_wp2;go_ret;exact⟨rfl,au _ _⟩
theorem UU {B:Nat} {a:World} {os:Array Obj} (d:Array Int) (h:Below B a w) (c:B<=w.heap.size) (b:B<=g):Below B a (grow (putRow (Value.int .i64) (Sort.ahead w n) g 0 d) os):=
 h.grown (Mt d) c fun k e=>by cases e;exact b
theorem UW {B:Nat} {a:World} (d:Array Int) (h:Below B a w) (c:B<=w.heap.size) (b:B<=g):Below B a (putRow (Value.int .i64) (Sort.ahead w n) g 0 d):=by
 have:=UU (n:=n) (os:= #[]) d h c b;rwa [grow_empty] at this
theorem QV (b:Option Addr) (cb:Nat) (vars:List Int) (v:Int) (w:World) (p:aJ w b vars) (P:vars.length<=1000000):
  du 161 #[.slice b vars.length cb,.int .i64 v] w fun e w'=>∃(d:Option Addr) (m:Nat),e=.returned (.slice d (bS vars v).length m)/\aJ w' d (bS vars v)/\ij w.heap.size d m/\ef w w':=by
 have V:=hid p;obtain⟨L,f⟩:∃L,L=bS vars v:=⟨_,rfl⟩;rw[<- f];have H:=hid f;clear p f;go_enter Tryz.func161,Tryz.ntmps161;go_wp2_with fail
 have h:ef w (w.alloc (.cells #[.int .i64 v] 3)):=(au _ w).alloc (aq _) _;have l:=a8 w 3 (.int .i64 v);generalize (w.alloc (.cells #[.int .i64 v] 3))=W at h l⊢;refine(M6 b cb vars _ (V.o.aa h) P).af ?_;rintro e s ⟨x,rfl,r,t⟩;have c:=aX l t;have a:=h.trans (t.af h.size);have X:=l.lt;have Y:=h.size;rcases r.cases with ⟨rfl,rfl⟩ |⟨g,cap,rfl,U,J,y,T,i⟩
 ·go_wp2_with fail
  refine(Yg _ _).af ?_;rintro e R ⟨rfl,S⟩;go_wp2;go_ret;have E:L=[]:=H.o;subst E;exact⟨none,0,rfl,fun k O=>absurd O aE,ij.nil _,a.trans (S.af a.size)⟩
 ·have n:=Tryz.slices_DeleteFunc (Value.int .i64) (fun _=>rfl) (fun u=>u==v) 205 #[.pointer (some ⟨w.heap.size,0,none⟩)] (enters_of Tryz.func205 ao rfl) 0 Tryz.zeroValue3 g 0 cap vars.toArray s (aef v _ _ c.lt c.cell) (aee v _ g 0 _ _ c.lt al c.cell) i (by simp;omega) (by simpa using y);have z:vars.toArray.size=vars.length:=aE
  rw[z] at n;have A:vars.toArray.toList.filter (fun x=>!(x==v))=bS vars v:=by simp[bS]
  rw[A, <- H.o] at n;have D:L.length<=vars.length:=by rw[H.o];exact pH _ _
  have M:=hid n;have F:=hid i;have Q:=hid D;clear n i r z A y T D;go_wp2_with fail
  refine M.o.af ?_;rintro e R ⟨rfl,q,rfl⟩;go_wp2;go_ret
  have I:(L++List.replicate (vars.length - L.length) 0).toArray.size=vars.toArray.size:=by
   have:=Q.o;simp;omega
  refine⟨some ⟨g,0,none⟩,cap,rfl,GW (holds_putRow (Value.int .i64) (Sort.ahead s q) g 0 vars.toArray _ F.o I) (by rw[size_putRow];exact J) (fun j K=>⟨by simp;omega,by simp[sH,K]⟩),ij.at al,UW _ a a.size al⟩
variable {fn:Func} {cc:Nat} {x':Value}
def rZ (vars:List Int) (l:List Fr) (k:Int) (e:Ending) (w':World):Prop:=∃(b c:Option Addr) (cb cc:Nat),e=.returned (.tuple #[.agg #[.slice b vars.length cb,.slice c l.length cc],.int .i64 k])/\aJ w' b vars/\aW w' c l
def uD (B:Nat) (vars:List Int) (l:List Fr) (k:Int) (e:Ending) (w':World):Prop:=∃(b c:Option Addr) (cb cc:Nat),e=.returned (.tuple #[.agg #[.slice b vars.length cb,.slice c l.length cc],.int .i64 k])/\aJ w' b vars/\aW w' c l/\ij B b cb/\ij B c cc
theorem rZ.empty (k:Int) (w:World):rZ [] [] k (.returned (.tuple #[.agg #[.slice none 0 0,.slice none 0 0],.int .i64 k])) w:=⟨none,none,0,0,rfl,fun k h=>absurd h aE,fun k h=>absurd h aE⟩
theorem bE.result2 (h:bE w g x y) {p u:Tmp} (r:fn.results= #[.cell p 49,.tmp u]) (m:Array Value) (a:m.getD p undef=.pointer (some ⟨g,0,none⟩)):
  (results fn m).run Tryz.prog w=.ok (.tuple #[.agg #[x,y],m.getD u undef]) w:=by
 rw[results_cell_tmp r,a];simp only[asAddr,Bz,wB];rw[run_loadVar_row w g _ 49 _ _ _ h Tryz.underlying49 rfl ao];simp only[wB]
def cV (v:Value):Prop:=∃a n c,v=Value.slice a n c
theorem aJ.farT {c:Option Addr} {l:List Int} (h:aJ V c l) (b:bE V g x y) (f:cV x) (i:cV y) (j:Nat) (u:Value):aJ (V.setCell ⟨g,j,none⟩ u) c l:=fun k d=>by
 obtain⟨g',o,rfl,t,a⟩:=h k d;obtain⟨p,v,r,rfl⟩:=f;obtain⟨q,w,s,rfl⟩:=i
 have n:¬g'=g:=fun e=>by
  subst e;rw[bG V g' (o+k) _ _ (0,0) b] at a;match hm:o+k with
  |0=>rw[hm] at a;simp at a
  |1=>rw[hm] at a;simp at a
  |m+2=>rw[hm] at a;simp at a
 exact⟨g',o,rfl,aU t (kh V _ _).size,(dY _ _ _ _ (fun e=>n (dh Addr.block e).symm)).trans a⟩
theorem aJ.putT {c:Option Addr} {l:List Int} (h:aJ V c l) (b:bE V g x y) (e:cV x) (a:cV y) (i:cV x') (f:Value):aJ ((V.setCell ⟨g,0,none⟩ x').setCell ⟨g,1,none⟩ f) c l:=by
 have d:bE (V.setCell ⟨g,0,none⟩ x') g x' y:=jf V g 0 _ _ x' b;exact(h.farT b e a 0 _).farT d i a 1 _
theorem slv (a:Option Addr) (n c:Nat):cV (.slice a n c):=⟨a,n,c,rfl⟩
theorem bE.facts (h:bE w g x y):w.cell? ⟨g,0,none⟩=some x/\w.cell? ⟨g,1,none⟩=some y/\w.frozen? ⟨g,0,none⟩=false/\w.frozen? ⟨g,1,none⟩=false:=⟨h.c0,h.c1,jw w g 0 _ _ h,jw w g 1 _ _ h⟩
theorem o9 {B:Nat} {a:World} (h:Below B a w) (b:B<=g) (u v:Value):Below B a ((w.setCell ⟨g,0,none⟩ u).setCell ⟨g,1,none⟩ v):=(h.setCell b u).setCell b v
def NH (w V:World) (u v:Value):Prop:=bE V w.heap.size u v/\bE V (w.heap.size+1) (.slice none 0 0) (.slice none 0 0)/\ef w V
theorem NH.step {u v:Value} (h:NH w V u v) (b:ef V V'):NH w V' u v:=⟨h.1.aa b h.1.lt,h.2.1.aa b h.2.1.lt,h.2.2.trans (b.af h.2.2.size)⟩
theorem NH.drew {u v:Value} (h:NH w V u v):NH w V.drew u v:=⟨h.1,h.2.1,h.2.2.drew⟩
theorem NH.new (w:World) (u v:Value):NH w ((w.alloc (TC u v)).alloc (TC (.slice none 0 0) (.slice none 0 0))) u v:=⟨(bE.at (w:=w) rfl _ _).alloc _,bE.at (w:=w.alloc (TC u v)) aE _ _,((au _ w).alloc (aq _) _).alloc aE _⟩
theorem NH.off {u v:Value} (h:NH w V u v) (B j:Nat) (y:Value) (a:w.heap.size+1<B):NH w (V.setCell ⟨B,j,none⟩ y) u v:=⟨h.1.off B j y al,h.2.1.off B j y al,h.2.2.setCell (p:=⟨B,j,none⟩) (by show w.heap.size<=B;omega) y⟩
theorem NH.lt {u v:Value} (h:NH w V u v):w.heap.size+1<V.heap.size:=h.2.1.lt
theorem NH.fin {u v:Value} (h:NH w V u v) {vars:List Int} {b:Option Addr} {G:Nat} (i:aJ V b vars) (r:eN V G l) (d:w.heap.size+1<G) (x y:Value) (a:x=.slice b vars.length cb) (c:y=.slice (some ⟨G,0,none⟩) l.length cc):
  bE ((V.setCell ⟨w.heap.size+1,0,none⟩ x).setCell ⟨w.heap.size+1,1,none⟩ y) (w.heap.size+1) x y/\rZ vars l 0 (.returned (.tuple #[.agg #[x,y],.int .i64 0])) ((V.setCell ⟨w.heap.size+1,0,none⟩ x).setCell ⟨w.heap.size+1,1,none⟩ y)/\ef w ((V.setCell ⟨w.heap.size+1,0,none⟩ x).setCell ⟨w.heap.size+1,1,none⟩ y):=by
 subst a c;exact⟨h.2.1.put _ _,⟨b,some ⟨G,0,none⟩,cb,cc,rfl,i.putT h.2.1 (slv _ _ _) (slv _ _ _) (slv _ _ _) _,((r.off _ 0 _ al).off _ 1 _ al).fr⟩,o9 h.2.2 al _ _⟩
variable {la:List Int} {rest:List Oper}
theorem afk (n:Nat) (g:n<=100000) (w:World):
  du 244 #[.slice none 0 0,.int .i64 (n:Nat)] w fun e w'=>∃v,e=.returned v/\bP w' w.heap.size v []/\ef w w':=by
 obtain⟨i,b,c,j,z⟩:=dJ Tryz.infoInt;by_cases h:n=0
 ·subst h;go_enter Tryz.func244,Tryz.ntmps244;go_wp2;go_ret;exact⟨_,rfl,⟨rfl,.inl ⟨rfl,rfl⟩⟩,au _ _⟩
 ·have d:(Builtin.firstCells i.size 0 (.slice none 0 0)).run Tryz.prog w.drew=.ok ([]:List Value).toArray w.drew:=run_firstCells_none w.drew i.size 0 0 0
  have U:∀t,(Builtin.append_ #[22,3] t #[.slice none 0 0,.int .i64 (n:Int)]).run Tryz.prog w=.ok (.slice (some ⟨w.heap.size,0,none⟩) (0+n) (grownCap w (0+n) 0 3)) (w.drew.alloc (.cells (([]:List Value).toArray++Builtin.zeroCells (Value.int .i64 0).cells n++Builtin.zeroCells (Value.int .i64 0).cells (grownCap w (0+n) 0 3 - (0+n))) 3)):=fun t=>
   WS w 22 3 t 3 i (.int .i64 0) .i64 .i64 Tryz.underlying22 Tryz.underlying3 b c none 0 0 [] d n al al al al (by rw[z];omega) (FN al (by rw[z];omega))
  have L:0+n<=grownCap w (0+n) 0 3:=grownCap_ge w _ _ _;have p:=grownCap_le_maxLen w (0+n) 0 3 (by unfold maxLen;omega);rw[bB] at U L p;obtain⟨G,a⟩:∃G,G=grownCap w n 0 3:=⟨_,rfl⟩;rw[<- a] at U L p;have f:=hid p;have D:G<=9223372036854775807:=by unfold maxLen at p;omega
  have m:(0:Int)<(n:Int):=al
  clear d a p;go_enter Tryz.func244,Tryz.ntmps244;go_wp2_with (at_builtin;refine Lib.wpList_append_run _ rfl _ _ _ _ rfl _ _ rfl rfl _ _ (U _) ?_)
  go_ret;refine⟨_,rfl,⟨rfl,.inr ⟨w.heap.size,G,_,rfl,aq _,dB w.drew _,aV _,f.o,?_,aE⟩⟩,((au _ w).drew).alloc (aq _) _⟩;simp[size_zeroCells];omega
theorem I9 {o:Oper} {a:Act} (t:o.guard=none) (s x:Operand)
  (k:o.op=.call {callee:=.builtin .append,args:= #[s,x],argTypes:= #[22,22]}) (base:Nat) (v:Value) (xs la:List Int) (m:a.eval s=v) (n:bP w base v xs) (p:Option Addr) (ca:Nat) (q:a.eval x=.slice p la.length ca) (i:aJ w p la) (D:p=none ->ca=0) (L:xs.length+la.length<=100000) (K:base<=w.heap.size)
  (h:∀v' w',bP w' base v' (xs++la) ->w.grownBy w' v.ownBlock ->wpList Tryz.prog ops Q rest (a.put o.dst v') w'):wpList Tryz.prog ops Q (o::rest) a w:=by
 obtain⟨r,M,H,I,J⟩:=dJ Tryz.infoInt;cases p with
 |none=>
  have A:la=[]:=by
   cases la with
   |nil=>rfl
   |cons x l=>obtain⟨g,o,e,_⟩:=i 0 aE;cases e
  subst A;have c:=D rfl;subst c;have d:=h v w (by rw[BP];exact n) ⟨rfl,rfl,rfl,aq _,fun _ _ _=>rfl⟩;exact wpList_append_own_none t s x 22 k base 3 r 1 Tryz.underlying22 M v xs.length _ m n q d
 |some ad=>
  refine FH _ t s x 22 k base 3 r (.int .i64 0) 1 8 Tryz.underlying22 M H I J rfl bd v xs.length _ m n ad la.length ca (la.map (Value.int .i64)) q aE ?_ ?_ (by unfold maxLen;omega) al K ?_
  ·intro j u b;rw[lU] at b;cases hq:la[j]? with
   |none=>rw[hq] at b;cases b
   |some z=>
    rw[hq] at b;cases b;obtain⟨F,X⟩:=mH.1 hq;obtain⟨g,o',e,_,f⟩:=i j F;cases e;rw[<- X];rw[Addr.add];by_cases c:j=0
    ·subst c;simpa using f
    ·simpa [c] using f
  ·intro u E;obtain⟨z,_,rfl⟩:=ba.1 E;rfl
  ·intro v' w' d y _;refine h v' w' ?_ y;rw[bP,bK,eP];exact d
def zj (la lb:List Int) (i:Nat):List Int:=if i=0 then[] else if i=1 then la else la++lb
theorem bP.own {B:Nat} {v:Value} {l:List Int} (h:bP w B v l):∀k,v.ownBlock=some k ->B<=k:=by
 intro k a;rcases h.2 with ⟨rfl,_⟩ |⟨g,cap,c,rfl,b,_⟩
 ·cases a
 ·cases a;exact b
theorem alf {lb:List Int} (r:la.length<=1000) (k:lb.length<=1000) (i:Nat):(zj la lb i).length<=2000:=by
 rw[zj];by_cases h:i=0
 ·rw[aA h];simp
 ·rw[aD h];by_cases a:i=1
  ·rw[aA a];omega
  ·rw[aD a,bK];omega
theorem afo (R:Nat) (a b:Option Addr) (ca cb:Nat) (la lb:List Int) (w:World) (s:R<w.heap.size) (J:w.cell? ⟨R,0,none⟩=some (.slice a la.length ca)) (K:w.cell? ⟨R,1,none⟩=some (.slice b lb.length cb)) (y:aJ w a la) (k:aJ w b lb) (M:a=none ->ca=0) (P:b=none ->cb=0) (r:la.length<=1000) (x:lb.length<=1000):
  du 234 #[.slice (some ⟨R,0,none⟩) 2 2] w fun e w'=>∃v,e=.returned v/\bP w' w.heap.size v (la++lb)/\ef w w':=by
 have V:∀i,i< 2 ->∃(p:Option Addr) (c:Nat) (l:List Int),w.cell? ⟨R,i,none⟩=some (.slice p l.length c)/\aJ w p l/\(p=none ->c=0)/\l.length<=1000/\zj la lb (i+1)=zj la lb i++l:=by
  intro i z;by_cases h:i=0
  ·subst h;exact⟨a,ca,la,J,y,M,r,by simp[zj]⟩
  ·obtain rfl:i=1:=al
   exact⟨b,cb,lb,K,k,P,x,by simp[zj]⟩
 have S:=hid V;have O:=hid (fun i=>alf r x i);have j:zj la lb 2=la++lb:=by simp[zj]
 rw[<- j];have D:zj la lb 0=[]:=rfl;clear V J K y k M P j r x;generalize zj la lb=F at *;go_enter Tryz.func234,Tryz.ntmps234;go_wp2_with fail
 go_loopw [3,11] (fun sv iv wr=>∃i:Nat,i<=2/\iv=.int .i64 i/\sv=.int .i64 ((F i).length:Nat)/\Hid (ef w wr)) (fun _ iv _=>2 - (intOf iv).toNat)
 case atStart=>exact⟨0,al,rfl,by rw[D];rfl,au _ _⟩
 case round=>
  obtain⟨i,z,rfl,rfl,H⟩:=hrel;by_cases t:i<2
  ·obtain⟨p,c,l,d,I,m,hl,f⟩:=S.o i t;have ad:=(H.o.cell (p:=⟨R,i,none⟩) s).trans d;have A:=O.o i;(have ae:IntKind.i64.wrap (((F i).length:Int)+(l.length:Int))=((F i).length:Int)+(l.length:Int):=by rw[fj];omega);(have E:Hid (((F (i+1)).length:Int)=((F i).length:Int)+(l.length:Int)):=by show _=_;rw[f,bK];exact yB _ _);(have nZ:(0:Int)<=((F i).length:Int)+(l.length:Int):=al);clear f d m I;go_wp2;go_roundw
   case rel=>exact⟨i+1,al,b5,by rw[E.o],H⟩
   case measure=>simp[intOf];omega
  ·obtain rfl:i=2:=al
   have A:=O.o 2;go_wp2_with fail
   refine(afk (F 2).length al _).af ?_;rintro e w1 ⟨v1,rfl,q,Q⟩;have bh:=hid (H.o.trans (Q.af H.o.size));have L:Hid (∀b,b<=wr.heap.size ->bP w1 b v1 []):=fun b k=>⟨q.1,q.2.imp id (fun ⟨g,cap,ab,h1,j,h3⟩=>⟨g,cap,ab,h1,aR k j,h3⟩)⟩;have Z:=hid (L.o w.heap.size H.o.size);clear q Q L;go_wp2_with fail
   go_loopw [6,27] (fun sv iv wr=>∃i:Nat,i<=2/\iv=.int .i64 i/\Hid (bP wr w.heap.size sv (F i))/\Hid (ef w wr)) (fun _ iv _=>2 - (intOf iv).toNat)
   case atStart=>exact⟨0,al,rfl,by rw[D];exact Z,bh⟩
   case round=>
    obtain⟨i,z,rfl,n,u⟩:=hrel;by_cases t:i<2
    ·obtain⟨p,c,l,d,I,m,hl,f⟩:=S.o i t;have ad:=(u.o.cell (p:=⟨R,i,none⟩) s).trans d;have A:=O.o i;have X:=hid (I.aa u.o);have Y:=hid m;have E:=hid f;have LN:=hid n.o.own;clear f d m I;go_wp2_with (at_builtin;refine I9 rfl _ _ rfl w.heap.size _ (F i) l rfl n.o p c rfl X.o Y.o al u.o.size ?_;intro v' w2 U T)
     have iC:=hid U;have bA:=hid (u.o.grown T u.o.size LN.o);clear U T;go_roundw
     case rel=>exact⟨i+1,al,b5,by rw[E.o];exact iC,bA⟩
     case measure=>simp[intOf];omega
    ·obtain rfl:i=2:=al
     go_wp2;go_ret;exact⟨_,rfl,n.o,u.o⟩
theorem Gg (w:World) (u:Int):aJ (w.alloc (.cells #[.int .i64 u] 3)) (some ⟨w.heap.size,0,none⟩) [u]:=fun k h=>by
 obtain rfl:k=0:=by simp at h;omega
 exact⟨w.heap.size,0,rfl,aE,(a8 w _ _).cell⟩
theorem bP.under {B:Nat} {v:Value} {l:List Int} (h:bP w B v l) (e:ef w w'):bP w' B v l:=by
 refine⟨h.1,h.2.imp id ?_⟩;rintro⟨g,cap,r,b,c,a,d⟩;exact⟨g,cap,r,b,c,(e.block g (cJ.1 a).1).trans a,d⟩
theorem ak8 {P:List (List Nat)} {o:List Nat} (h:v∈o):jI P o v=false:=by simp[jI,h]
theorem ak7 {P:List (List Nat)} {o p:List Nat} (a:P.getD v []=p) (h:¬∀u∈p,u∈o):jI P o v=false:=by rw[jI,a,eK h,Bool.and_false]
theorem ak6 {P:List (List Nat)} {o p:List Nat} (b:P.getD v []=p) (h:¬v∈o) (a:∀u∈p,u∈o):jI P o v=true:=by rw[jI,b,eD a,eK h];rfl
theorem ahr (G c:Nat) (P:List (List Nat)) (w:World) (t:cF w G (P.map aB)) (hn:P.length<=8) (s:∀p∈P,∀u∈p,u<8):
  du 146 #[.slice (some ⟨G,0,none⟩) P.length c] w fun e w'=>∃x,e=.returned x/\bP w' w.heap.size x (iL (aZ P P.length))/\ef w w':=by
 obtain⟨i0,bM,ak,an,ao⟩:=dJ Tryz.infoInt;have U:=hid t
 have Z:Hid (∀i,i<P.length ->(∀u∈P.getD i [],u<8)/\∃h:i<(P.map aB).length,(P.map aB)[i]=aB (P.getD i [])):=fun i j=>by
  have e:P.getD i []=P[i]:=by rw[bY,bj j];rfl
  rw[e];exact⟨s _ (bF j),by simpa using j,aE⟩
 have I:Hid (∀k,∀u∈aZ P k,u<8):=fun k u y=>aU (DV P k u y) hn;have ah:=hid (Gf P);have Lx:Hid (∀k v,v<P.length ->jI P (aZ P k) v=true ->(∀u,u< v ->jI P (aZ P k) u=false) ->aZ P (k+1)=aZ P k++[v]):=fun k v g a h3=>RT (ahO g a h3);have ai:Hid (∀k,k<=P.length ->(∀u,u<P.length ->jI P (aZ P k) u=false) ->aZ P P.length=aZ P k):=fun k g a=>ahs (ahP a) g;have q:Hid (aZ P 0=[]):=rfl;generalize hF:aZ P=F at *;clear t s hF;go_enter Tryz.func146,Tryz.ntmps146;go_wp2_with fail
 go_step3
 go_wp2_with (first
  |(at_make;refine wpList_make_own _ rfl _ _ 22 rfl w.heap.size 3 i0 (.int .i64 0) 1 Tryz.underlying22 bM ak an .i64 .i64 _ P.length rfl rfl b5 (by rw[ao];omega) (by unfold maxLen;omega) (aq _) ?_;intro K Q T))
 have m:Hid (bP K w.heap.size (.slice (some ⟨w.heap.size,0,none⟩) 0 P.length) []):=Q;have A:Hid (ef w K):=(au _ w).grown T (aq _) (fun k e=>by cases e);clear Q T;go_wp2_with fail
 go_step3
 go_wp2_with fail
 go_loopw [3,4,12] (fun sv lv iv wr=>∃k:Nat,k<=P.length/\iv=.int .i64 k/\sv=.int .u32 (aB (F k):Nat)/\Hid (bP wr w.heap.size lv (iL (F k)))/\Hid (ef w wr)) (fun _ _ iv _=>P.length - (intOf iv).toNat)
 case atStart=>exact⟨0,aV _,rfl,by rw[q.o];rfl,by rw[q.o];exact m,A⟩
 case round=>
  obtain⟨k,hk,rfl,rfl,R,H⟩:=hrel;clear m A;by_cases av:k<P.length
  ·have aj:=hid (U.o.aa H.o U.o.lt);go_wp2_with fail
   go_loopw [3,4,16] (fun sv lv jv wq=>∃v:Nat,v<=P.length/\jv=.int .i64 v/\sv=.int .u32 (aB (F k):Nat)/\lv=u4/\Hid (∀u,u< v ->jI P (F k) u=false)/\wq=wr) (fun _ _ jv _=>P.length - (intOf jv).toNat)
   case atStart=>exact⟨0,aV _,rfl,rfl,rfl,fun u h=>absurd h al,rfl⟩
   case round=>
    obtain⟨v,hv,rfl,rfl,rfl,d,rfl⟩:=hrel;by_cases Y:v<P.length
    ·obtain⟨M,L,r⟩:=Z.o v Y;have c0:=aj.o.cell v L;rw[r] at c0;have Vz:=hid M;have ab:Hid (v∈F k ->jI P (F k) v=false):=ak8;have Qh:Hid (¬(∀u∈P.getD v [],u∈F k) ->jI P (F k) v=false):=ak7 rfl;have ad:Hid (¬v∈F k ->(∀u∈P.getD v [],u∈F k) ->jI P (F k) v=true):=ak6 rfl
     have D:Hid (jI P (F k) v=false ->∀u,u<v+1 ->jI P (F k) u=false):=fun h u y=>by
      rcases cT u v with a |a
      ·exact d.o u a
      ·obtain rfl:u=v:=al
       exact h
     clear M L r;generalize P.getD v []=p at *;go_wp2_with fail
     refine(Rq (F k) v _ (I.o k) al).af ?_;rintro e w3 ⟨rfl,rfl⟩;by_cases n:v∈F k
     ·rw[eD n];have E:=hid (D.o (ab.o n));clear n;go_wp2;go_roundw
      case rel=>exact⟨v+1,al,b5,rfl,rfl,E,trivial⟩
      case measure=>simp[intOf];omega
     ·rw[eK n];have Mb:=hid n;clear n;go_wp2_with fail
      refine(afN (F k) p _ (I.o k) Vz.o).af ?_;rintro e l ⟨rfl,rfl⟩;by_cases b:∀u∈p,u∈F k
      ·rw[eD b];have S:=Lx.o k v Y (ad.o Mb.o b) d.o;(have X:Hid (aB (v::F k)=aB (F (k+1))):=Si fun z=>by rw[S,dU,ck,dT];exact or_comm);(have ae:Hid (iL (F (k+1))=iL (F k)++[(v:Int)]):=by show _=_;rw[S,aav];rfl)
       have PZ:Hid ((iL (F k)).length<=8):=by
        have:=ah.o k;show (iL (F k)).length<=8;rw[bI];omega
       clear b S;have LN:=hid R.o.own;have LG:Hid (bP (l.alloc (.cells #[.int .i64 (v:Nat)] 3)) w.heap.size _ (iL (F k))):=World.ownsRow.alloc R.o _;have f:=hid (H.o.alloc H.o.size (.cells #[.int .i64 (v:Nat)] 3));have V:=hid (Gg l (v:Nat));go_wp2_with (at_builtin;refine I9 rfl _ _ rfl w.heap.size _ (iL (F k)) [((v:Nat):Int)] rfl LG.o (some ⟨l.heap.size,0,none⟩) 1 rfl V.o (fun e=>by cases e) (by have:=PZ.o;simp;omega) f.o.size ?_;intro v' w5 O J)
       have rh:=hid O;have dI:=hid (f.o.grown J f.o.size LN.o);clear O J;refine(F5 (F k) v _ (I.o k) al).af ?_;rintro e w6 ⟨rfl,rfl⟩;rw[X.o];go_wp2;go_roundw
       case rel=>exact⟨k+1,al,b5,rfl,by rw[ae.o];exact rh,dI⟩
       case measure=>simp[intOf];omega
      ·rw[eK b];have E:=hid (D.o (Qh.o b));clear b;go_wp2;go_roundw
       case rel=>exact⟨v+1,al,b5,rfl,rfl,E,trivial⟩
       case measure=>simp[intOf];omega
    ·obtain rfl:v=P.length:=al
     have E:=hid (ai.o k hk d.o);go_wp2;(try rw[Exit.noGoto_ret]);go_ret;exact⟨_,rfl,by rw[E.o];exact R.o,H.o⟩
  ·obtain rfl:k=P.length:=al
   go_wp2;(try rw[Exit.noGoto_ret]);go_ret;exact⟨_,rfl,R.o,H.o⟩
variable {z:Value}
abbrev Vr:Type:=ByteArray×List ByteArray
def vL (w:World) (a:Option Addr) (V:List Vr):Prop:=∀k (h:k<V.length),∃g o b c,a=some ⟨g,o,none⟩/\g<w.heap.size/\w.cell? ⟨g,o+k*2,none⟩=some (.string V[k].1)/\w.cell? ⟨g,o+k*2+1,none⟩=some (.slice b V[k].2.length c)/\tx w b V[k].2/\V[k].2.length<=c
theorem vL.aa {V:List Vr} (h:vL w a V) (d:ef w w'):vL w' a V:=fun k n=>by
 obtain⟨g,o,b,c,f,e,i,j,l,m⟩:=h k n;exact⟨g,o,b,c,f,aU e d.size,(d.cell (p:=⟨g,o+k*2,none⟩) e).trans i,(d.cell (p:=⟨g,o+k*2+1,none⟩) e).trans j,l.aa d,m⟩
abbrev NC (x y z:Value):Obj:=.cells #[x,y,z] 33
abbrev VC (x y:Value):Obj:=.cells #[x,y] 81
def dQ (w:World) (g:Nat) (x y z:Value):Prop:=w.heap[g]? =some (.cells #[x,y,z] 33 (0,0))
theorem dQ.at (h:w.heap.size=g) (x y z:Value):dQ (w.alloc (NC x y z)) g x y z:=by subst h;exact dB w _
theorem dQ.lt (h:dQ w g x y z):g<w.heap.size:=(cJ.1 h).1
theorem dQ.aa {b:Nat} (h:dQ w g x y z) (a:Below b w w') (c:g<b):dQ w' g x y z:=(a.block g c).trans h
theorem dQ.cells (h:dQ w g x y z):w.cell? ⟨g,0,none⟩=some x/\w.cell? ⟨g,1,none⟩=some y/\w.cell? ⟨g,2,none⟩=some z:=by
 refine⟨?_,?_,?_⟩<;>(rw[bG w g _ _ _ (0,0) h];rfl)
theorem QX (w:World) (x y:Value):(w.alloc (VC x y)).cell? ⟨w.heap.size,0,none⟩=some x/\(w.alloc (VC x y)).cell? ⟨w.heap.size,1,none⟩=some y:=by
 have h:(w.alloc (VC x y)).heap[w.heap.size]? =some (.cells #[x,y] 81 (0,0)):=dB w _;exact⟨by rw[bG _ _ _ _ _ (0,0) h];rfl,by rw[bG _ _ _ _ _ (0,0) h];rfl⟩
def aw (V:List Vr):List Nat:=V.map fun x=>x.2.length
theorem oT (V:List Vr):(aw V).length=V.length:=by simp[aw]
theorem M7 {V:List Vr} (h:i<V.length):(aw V)[i]? =some V[i].2.length:=by simp[aw,h]
theorem NB (a b c:Option Addr) (ca cb cc n m:Nat) (V:List Vr) (w:World) (h:vL w a V) (hV:V.length<=5000):
  du 26 #[.agg #[.slice a V.length ca,.slice b n cb,.slice c m cc]] w fun e w'=>∃G,e=.returned (.slice (some ⟨G,0,none⟩) V.length V.length)/\w.heap.size<=G/\cM w' G (aw V)/\ef w w':=by
 obtain⟨i0,T,ad,ae,ah⟩:=dJ Tryz.infoInt;have M:=hid h;have O:Hid (∀i (h:i<V.length),(aw V)[i]? =some V[i].2.length):=fun i h=>M7 h;have D:=oT V;generalize aw V=ds at *;clear h;have o:=dQ.at (w:=w) rfl (.slice a V.length ca) (.slice b n cb) (.slice c m cc);have r:=(au _ w).alloc (aq _) (NC (.slice a V.length ca) (.slice b n cb) (.slice c m cc));obtain⟨j, -, -⟩:=o.cells;have Q:=o.lt;go_enter Tryz.func26,Tryz.ntmps26;go_upto_region 1 with fail
 generalize (w.alloc (NC (.slice a V.length ca) (.slice b n cb) (.slice c m cc)))=d at *
 go_wp2_with (first
  |(at_make;refine lj _ rfl _ _ 22 rfl d.heap.size 3 i0 (.int .i64 0) 1 Tryz.underlying22 T ad ae .i64 .i64 _ _ V.length rfl rfl b5 b5 (by rw[ah];omega) (by unfold maxLen;omega) (aq _) ?_;intro q K L;have s:ef d q:=(au _ d).grown L (aq _) (fun k e=>by cases e);have ab:=(o.aa s Q).cells.1;clear j))
 have t:=qg K;rw[Gq] at t;have I:Hid (cM q d.heap.size (List.replicate V.length 0)):=t;have A:Hid (ef w q):=r.trans (s.af r.size);have E:=r.size;clear K L t s ab;go_loopw [13] (fun iv wr=>∃i:Nat,i<=V.length/\iv=.int .i64 i/\Hid (cM wr d.heap.size (qH ds i))/\Hid (ef w wr)) (fun iv _=>V.length - (intOf iv).toNat)
 case atStart=>exact⟨0,aV _,rfl,by rw[Y3,D];exact I,A⟩
 case round=>
  obtain⟨i,hi,rfl,R,H⟩:=hrel;clear I A;by_cases J:i<V.length
  ·obtain⟨g,ai,u,y,rfl,hg,j,U, -, -⟩:=(M.o.aa H.o) i J;obtain⟨F,X⟩:=mH.1 (O.o i J);have Z:=hid (Y4 ds F);rw[X] at Z;generalize V[i]=v at *;obtain⟨nm,vs⟩:=v;simp only at j U Z;obtain⟨d0,d1⟩:=QX wr (.string nm) (.slice u vs.length y);have f:=(au _ wr).alloc (aq _) (VC (.string nm) (.slice u vs.length y));have x:=R.o.aa f R.o.lt;have k0:=x.cell i (by rw[Ns _ al];omega);have f0:=x.fz i;have S:=x.set i vs.length;rw[Z.o] at S;have P:=hid S;have wu:=hid ((H.o.trans (f.af H.o.size)).setCell (p:=⟨d.heap.size,i,none⟩) E (.int .i64 (vs.length:Nat)));generalize (qH ds i)[i]'(by rw[Ns _ al];omega)=z at *;clear F X f x S;go_wp2;go_roundw
   case rel=>exact⟨i+1,al,b5,P,wu⟩
   case measure=>simp[intOf];omega
  ·obtain rfl:i=V.length:=al
   have l:=R.o;rw[<- D,Y5] at l;have Y:=hid l;clear l;go_wp2;go_ret;exact⟨d.heap.size,rfl,E,Y.o,H.o⟩
def oB (w:World) (g:Nat) (l:List ByteArray):Prop:=w.heap[g]? =some (.cells (l.map Value.string).toArray 9 (0,0))
theorem oB.cell {l:List ByteArray} (h:oB w g l) (j:Nat) (a:j<l.length):w.cell? ⟨g,j,none⟩=some (.string l[j]):=by
 rw[bG w g j _ _ (0,0) h];simp[a]
theorem oB.fz {l:List ByteArray} (h:oB w g l) (j:Nat):w.frozen? ⟨g,j,none⟩=false:=jw w g j _ _ h
theorem oB.lt {l:List ByteArray} (h:oB w g l):g<w.heap.size:=(cJ.1 h).1
theorem oB.aa {b:Nat} {l:List ByteArray} (h:oB w g l) (a:Below b w w') (c:g<b):oB w' g l:=(a.block g c).trans h
theorem oB.set {l:List ByteArray} (h:oB w g l) (j:Nat) (y:ByteArray):oB (w.setCell ⟨g,j,none⟩ (.string y)) g (l.set j y):=by
 have a:=jf w g j _ _ (.string y) h;rw[oB,a];simp[DD]
theorem oB.st {l:List ByteArray} (h:oB w g l):tx w (some ⟨g,0,none⟩) l:=fun k a=>⟨g,0,rfl,h.lt,by rw[bB];exact h.cell k a⟩
theorem aiH (n:Nat):(madeCells (Value.string ⟨#[]⟩).cells (n*1)).toList=(List.replicate n (⟨#[]⟩:ByteArray)).map Value.string:=by
 rw[show (Value.string ⟨#[]⟩).cells= #[Value.string ⟨#[]⟩] from rfl,FK,kF,MC]
theorem Tryz.infoStr:(Tryz.prog.info? 9).map (fun i=>(i.zero,i.size,i.bytes))=some (some (.string ⟨#[]⟩),1,16):=ao
def vd (l:List ByteArray) (i:Nat):List ByteArray:=l.take i++List.replicate (l.length - i) ⟨#[]⟩
theorem ag0 (l:List ByteArray):vd l 0=List.replicate l.length ⟨#[]⟩:=by simp[vd]
theorem Y2 (l:List ByteArray) (h:i<=l.length):(vd l i).length=l.length:=by simp[vd];omega
theorem ag2 (l:List ByteArray):vd l l.length=l:=by simp[vd]
theorem ag1 (l:List ByteArray) (h:i<l.length):(vd l i).set i l[i]=vd l (i+1):=by
 have a:l.length - i=(l.length - (i+1))+1:=al
 have b:(l.take i).length=i:=by rw[eE];omega
 rw[vd,vd,a,IW,BC _ _ al,b,mF,cN,iF h,lV];rfl
def oW (V:List Vr):List ByteArray:=V.map fun x=>x.1
theorem ZQ (V:List Vr):(oW V).length=V.length:=by simp[oW]
theorem ah4 {V:List Vr} (h:i<V.length):(oW V)[i]? =some V[i].1:=by simp[oW,h]
theorem ah5 (a:Option Addr) (ca:Nat) (V:List Vr) (w:World) (h:vL w a V) (Y:V.length<=5000):
  du 131 #[.slice a V.length ca] w fun e w'=>∃G,e=.returned (.slice (some ⟨G,0,none⟩) V.length V.length)/\oB w' G (oW V)/\ef w w':=by
 obtain⟨J,M,L,O,P⟩:=dJ Tryz.infoStr;have F:=hid h;have s:Hid (∀i (h:i<V.length),(oW V)[i]? =some V[i].1):=fun i h=>ah4 h;have l:=ZQ V;generalize oW V=ds at *;clear h;go_enter Tryz.func131,Tryz.ntmps131
 go_wp2_with (first
  |(at_make;refine lj _ rfl _ _ 79 rfl w.heap.size 9 J (.string ⟨#[]⟩) 1 Tryz.underlying79 M L O .i64 .i64 _ _ V.length rfl rfl b5 b5 (by rw[P];omega) (by unfold maxLen;omega) (aq _) ?_;intro n q r))
 have d:=qg q;rw[aiH] at d;have A:Hid (ef w n):=(au _ w).grown r (aq _) (fun k e=>by cases e);have I:Hid (oB n w.heap.size (List.replicate V.length ⟨#[]⟩)):=d;clear q r d;go_wp2_with fail
 go_loopw [11] (fun iv wr=>∃i:Nat,i<=V.length/\iv=.int .i64 i/\Hid (oB wr w.heap.size (vd ds i))/\Hid (ef w wr)) (fun iv _=>V.length - (intOf iv).toNat)
 case atStart=>exact⟨0,aV _,rfl,by rw[ag0,l];exact I,A⟩
 case round=>
  obtain⟨i,hi,rfl,R,H⟩:=hrel;clear I A;by_cases t:i<V.length
  ·obtain⟨g,o,f,j,rfl,hg,y,D, -, -⟩:=(F.o.aa H.o) i t;obtain⟨m,X⟩:=mH.1 (s.o i t);have Z:=hid (ag1 ds m);rw[X] at Z;generalize V[i]=v at *;obtain⟨nm,vs⟩:=v;simp only at y D Z;obtain⟨Q,T⟩:=QX wr (.string nm) (.slice f vs.length j);have b:=(au _ wr).alloc (aq _) (VC (.string nm) (.slice f vs.length j));have x:=R.o.aa b R.o.lt;have k0:=x.cell i (by rw[Y2 _ al];omega);have U:=x.fz i;have S:=x.set i nm;rw[Z.o] at S;have u:=hid S;have K:=hid ((H.o.trans (b.af H.o.size)).setCell (p:=⟨w.heap.size,i,none⟩) (aq _) (.string nm));generalize (vd ds i)[i]'(by rw[Y2 _ al];omega)=z at *;clear m X b x S;go_wp2;go_roundw
   case rel=>exact⟨i+1,al,b5,u,K⟩
   case measure=>simp[intOf];omega
  ·obtain rfl:i=V.length:=al
   have c:=R.o;rw[<- l,ag2] at c;have E:=hid c;clear c;go_wp2;go_ret;exact⟨w.heap.size,rfl,E.o,H.o⟩
def rF (V:List Vr) (i:Nat):Int:=if 1<=(V.getD i (⟨#[]⟩,[])).2.length/\(V.getD i (⟨#[]⟩,[])).2.length<=4 then pR (V.getD i (⟨#[]⟩,[])).2 else 2
def oQ (V:List Vr):Int:=if pR (oW V)=0 then jr (rF V) V.length else pR (oW V)
theorem Un {V:List Vr} (h:i<V.length):V.getD i (⟨#[]⟩,[])=V[i]:=by rw[bY,bj h];rfl
def VSm (V:List Vr):Prop:=V.length<=5000/\∀x∈V,x.1.size<=5000/\x.2.length<=5000/\∀s∈x.2,s.size<=5000
theorem aen {V:List Vr} (h:i<V.length) (e:¬(1<=V[i].2.length/\V[i].2.length<=4)):rF V i=2:=by rw[rF,Un h,aD e]
theorem aem {V:List Vr} (h:i<V.length) (e:1<=V[i].2.length/\V[i].2.length<=4):rF V i=pR V[i].2:=by rw[rF,Un h,aA e]
theorem amd (a:Option Addr) (ca:Nat) (V:List Vr) (w:World) (h:vL w a V) (r:VSm V):
  du 91 #[.slice a V.length ca] w (eS w (.int .i64 (oQ V))):=by
 have P:=hid h;have gX:=hid r;have hV:=r.1;have J:Hid (pR (oW V)≠0 ->oQ V=pR (oW V)):=fun h=>aD h;have F:Hid (pR (oW V)=0 ->oQ V=jr (rF V) V.length):=fun h=>aA h;have ae:=ZQ V
 have ab:Hid (∀s∈oW V,s.size<=140737488355328):=fun s M=>by
  obtain⟨x,hx,rfl⟩:=ba.1 M;have:=(r.2 x hx).1;omega
 have X:=hid (fun (V':World) (ak:vL V' a V)=>ah5 a ca V V' ak hV)
 have tL:Hid (∀(G:Nat) (V':World),oB V' G (oW V) ->du 130 #[.slice (some ⟨G,0,none⟩) V.length V.length] V' fun e w'=>e=.returned (.int .i64 (pR (oW V)))/\w'=V'):=fun G V' o=>by
  have:=acG (some ⟨G,0,none⟩) V.length (oW V) V' o.st al al ab.o;rwa [ae] at this
 generalize oQ V=ve at *;generalize pR (oW V)=ne at *;clear h r ae ab;go_enter Tryz.func91,Tryz.ntmps91;go_wp2_with fail
 refine(X.o _ P.o).af ?_;rintro e w1 ⟨G,rfl,o,ad⟩;have S:=hid o;have A:=hid ad;clear o ad X;go_wp2_with fail
 refine(tL.o G _ S.o).af ?_;rintro e w2 ⟨rfl,rfl⟩;by_cases f:ne=0
 ·subst f;have E:=hid (F.o rfl);clear J F tL S;have O:Hid (∀i,i<V.length ->(∀j,j< i ->rF V j=0) ->∀k,rF V i=k ->k≠0 ->ve=k):=fun i Y hz k b K=>by rw[E.o,KS hz (by rw[b];exact K) Y,b]
  have HZ:Hid ((∀j,j<V.length ->rF V j=0) ->ve=0):=fun h=>by rw[E.o];exact CU h
  have HL:=hid (fun i h e=>aen (V:=V) (i:=i) h e);have Q:=hid (fun i h e=>aem (V:=V) (i:=i) h e);go_wp2_with fail
  go_loopw [15] (fun iv wr=>∃i:Nat,i<=V.length/\iv=.int .i64 i/\Hid (∀j,j< i ->rF V j=0)/\Hid (ef w wr)) (fun iv _=>V.length - (intOf iv).toNat)
  case atStart=>exact⟨0,aV _,rfl,fun j h=>absurd h al,A⟩
  case round=>
   obtain⟨i,Y,rfl,d,c⟩:=hrel;clear A;by_cases l:i<V.length
   ·obtain⟨g,an,z,D,rfl,hg,c0,c1,T,Z⟩:=(P.o.aa c.o) i l;have t:=gX.o.2 V[i] (bF l);have I:=hid (fun e=>O.o i l d.o 2 (HL.o i l e) bd);have u:=hid (fun e k b K=>O.o i l d.o k ((Q.o i l e).trans b) K);have L:=hid (fun e (b:pR V[i].2=0)=>QN d.o ((Q.o i l e).trans b));generalize V[i]=v at *;obtain⟨nm,vs⟩:=v;simp only at c0 c1 T Z t I u L;obtain⟨d0,d1⟩:=QX wr (.string nm) (.slice z vs.length D);have y:=(au _ wr).alloc (aq _) (VC (.string nm) (.slice z vs.length D));have R:=hid (c.o.trans (y.af c.o.size));have ah:=hid (T.aa y);have EW:=hid t.2.2;have oY:=t.2.1;clear y t T;by_cases m:1<=vs.length
    ·by_cases n:vs.length<=4
     ·have U:(1:Int)<=(vs.length:Int):=al
      (have e2:(vs.length:Int)<=4:=al);have PQ:=hid (u.o ⟨m,n⟩);have aj:=hid (L.o ⟨m,n⟩);clear I u L;go_wp2_with fail
      refine(acG z D vs _ ah.o al Z (fun s M=>by have:=EW.o s M;omega)).af ?_;rintro e w3 ⟨rfl,rfl⟩;generalize pR vs=q at *;by_cases p:q=0
      ·subst p;have ai:=hid (aj.o rfl);go_wp2;go_roundw
       case rel=>exact⟨i+1,al,b5,ai,R⟩
       case measure=>simp[intOf];omega
      ·have H:=hid (PQ.o q rfl p);(have ao:(q==0)=false:=by simpa using p);clear p;go_wp2;go_ret;exact⟨by rw[H.o];rfl,R.o⟩
     ·have H:=hid (I.o fun h=>n h.2);(have U:(1:Int)<=(vs.length:Int):=al);(have e2:(4:Int)<(vs.length:Int):=al);clear n I u L;go_wp2;go_ret;exact⟨by rw[H.o];rfl,R.o⟩
    ·have H:=hid (I.o fun h=>m h.1);(have U:(vs.length:Int)<1:=al);clear m I u L;go_wp2;go_ret;exact⟨by rw[H.o];rfl,R.o⟩
   ·obtain rfl:i=V.length:=al
    have H:=hid (HZ.o d.o);go_wp2;go_ret;exact⟨by rw[H.o];rfl,c.o⟩
 ·have E:=hid (J.o f);have uk:(ne==0)=false:=by simpa using f
  clear f J F;go_wp2;go_ret;exact⟨by rw[E.o];rfl,A.o⟩
variable {p:Rat}
def dt (l:List Fr):Bool:=(l.all fun f=>decide (¬aQ f<0))&&decide (fsum l=1)
theorem Pe:gz p 0<0↔p<0:=by
 rw[gz];by_cases h:p<0
 ·rw[aA h];exact⟨fun _=>h,fun _=>bd⟩
 ·rw[aD h];by_cases e:p=0
  ·rw[aA e];exact⟨fun h=>absurd h bd,fun a=>absurd a h⟩
  ·rw[aD e];exact⟨fun h=>absurd h bd,fun a=>absurd a h⟩
theorem UK:(gz p 1==0)=decide (p=1):=by
 rw[wE,uO,gY,gz];by_cases h:p<1
 ·rw[aA h];exact⟨fun h=>absurd h bd,fun e=>by rw[e] at h;exact absurd h bd⟩
 ·rw[aD h];by_cases e:p=1
  ·rw[aA e];exact⟨fun _=>e,fun _=>rfl⟩
  ·rw[aD e];exact⟨fun h=>absurd h bd,fun a=>absurd a e⟩
theorem afT (h:i<l.length) (e:aQ l[i]<0):dt l=false:=by
 have:(l.all fun f=>decide (¬aQ f<0))=false:=by
  rw[I5];exact⟨l[i],bF h,by simpa using e⟩
 rw[dt,this];rfl
theorem afV (h:∀i (a:i<l.length),¬aQ l[i]<0):dt l=decide (fsum l=1):=by
 have:(l.all fun f=>decide (¬aQ f<0))=true:=by
  rw[iQ];intro f b;obtain⟨i,a,rfl⟩:=jz b;exact eD (h i a)
 rw[dt,this,I7]
theorem Rx:qw 1<=2:=by
 show (B 1).size+(B 1).size<=2;have:=Qy;omega
theorem akR (h:i<l.length) (w:fw l<=10000):l[i].2.1.size+l[i].2.2.size<=10000:=by have:=Hk (bF h);omega
theorem ai0 (a:Option Addr) (ca:Nat) (l:List Fr) (w:World) (h:aW w a l) (o:fw l<=10000) (hn:l.length<=10000):
  du 133 #[.slice a l.length ca] w (eS w (.bool (dt l))):=by
 have F:=hid h;have HW:=hid o;have O:=hid (fun V:World=>xI (k:=0) (w:=V) 0 0 rfl bd (by rfl));have U:=hid (fun V:World=>xI (k:=1) (w:=V) 1 1 rfl bd (by rfl));have S:=hid (fun (V:World) (hV:aW V a l)=>UD a ca l V hV o hn);have HN:=hid (fun i h e=>afT (l:=l) (i:=i) h e);have HA:=hid (fun h=>afV (l:=l) h)
 have Q:Hid (val (bw (fsum l)) (nu (fsum l)) (de (fsum l))=fsum l/\(nu (fsum l)).size+(de (fsum l)).size<=100000):=⟨ji _,by
  have h1:=EI (O2 l);rw[mM];omega⟩
 have Z:Hid (val (bw 0) (nu 0) (de 0)=0/\(nu 0).size+(de 0).size<=100000):=⟨ji _,by have:=Nk;rw[mM];omega⟩
 have v:Hid (val (bw 1) (nu 1) (de 1)=1/\(nu 1).size+(de 1).size<=100000):=⟨ji _,by
  have h1:qw 1<=2:=Rx;rw[mM];omega⟩
 generalize dt l=rb at *;clear h o;simp only[C] at O U S;generalize bw 0=n at *;generalize nu 0=z at *;generalize de 0=c at *;generalize bw 1=on at *;generalize nu 1=ox at *;generalize de 1=oy at *;go_enter Tryz.func133,Tryz.ntmps133;go_wp2_with fail
 refine(O.o _).af ?_;rintro e r ⟨rfl,d⟩;have sA:=hid (d.alloc d.size (FC n z c));have ab:=hid (aI.new r n z c);have ah:=d.size;clear d;go_wp2_with fail
 generalize (r.alloc (FC n z c))=w2 at *;generalize r.heap.size=B at *;go_loopw [9] (fun iv wr=>∃i:Nat,i<=l.length/\iv=.int .i64 i/\Hid (∀j (b:j<l.length),j< i ->¬aQ l[j]<0)/\Hid (aI wr B n z c)/\Hid (ef w wr)) (fun iv _=>l.length - (intOf iv).toNat)
 case atStart=>exact⟨0,aV _,rfl,fun j _ h=>absurd h al,ab,sA⟩
 case round=>
  obtain⟨i,hi,rfl,A,X,H⟩:=hrel;clear ab sA;by_cases u:i<l.length
  ·obtain⟨g,ae,rfl,hg,c0,c1,c2⟩:=(F.o.aa H.o) i u;have o0:=akR u HW.o;have uJ:=hid (HN.o i u)
   have A3:Hid (¬aQ l[i]< 0 ->∀j (b:j<l.length),j<i+1 ->¬aQ l[j]<0):=fun h j b rS=>by
    rcases cT j i with K |K
    ·exact A.o j b K
    ·obtain rfl:j=i:=al
     exact h
   generalize l[i]=f at *;obtain⟨fn,x,y⟩:=f;simp only at c0 c1 c2 o0;have m:=(au _ wr).alloc (aq _) (FC fn x y);obtain⟨k0,k1,k2, -⟩:=(aI.new wr fn x y).facts;have P:=X.o.aa m X.o.lt;obtain⟨z0,z1,z2, -⟩:=P.facts;have M:=hid P;have R:=hid (H.o.trans (m.af H.o.size));clear m P;go_wp2_with fail
   generalize (wr.alloc (FC fn x y))=w3 at *;refine(EJ (w:=w3) (gz (val fn x y) 0) rfl Z.o.1 rfl al Z.o.2).af ?_;rintro e w4 ⟨rfl,t⟩;have tE:=hid (M.o.aa t M.o.lt);have J:=hid (R.o.trans (t.af R.o.size));clear k0 k1 k2 z0 z1 z2 t;by_cases Y:val fn x y<0
   ·have E:=hid (uJ.o Y);have hc:gz (val fn x y) 0<0:=Pe.2 Y;clear Y;generalize gz (val fn x y) 0=q at *;go_wp2;go_ret;exact⟨by rw[E.o];rfl,J.o⟩
   ·have E:=hid (A3.o Y)
    have hc:0<=gz (val fn x y) 0:=by
     have:¬gz (val fn x y) 0<0:=fun h=>Y (Pe.1 h);omega
    clear Y;generalize gz (val fn x y) 0=q at *;go_wp2;go_roundw
    case rel=>exact⟨i+1,al,b5,E,tE,J⟩
    case measure=>simp[intOf];omega
  ·obtain rfl:i=l.length:=al
   have E:=hid (HA.o fun j b=>A.o j b b);have Mk:=hid (UK (p:=fsum l));generalize fsum l=s at *;go_wp2_with fail
   refine(S.o _ (F.o.aa H.o)).af ?_;rintro e w5 ⟨rfl,ad⟩;have I:=hid (H.o.trans (ad.af H.o.size));clear ad;go_wp2_with fail
   refine(U.o _).af ?_;rintro e w6 ⟨rfl,T⟩;have L:=hid (I.o.trans (T.af I.o.size));clear T;go_wp2_with fail
   refine(EJ (w:=w6) (gz s 1) Q.o.1 v.o.1 rfl Q.o.2 v.o.2).af ?_;rintro e w7 ⟨rfl,D⟩;have tM:=hid (L.o.trans (D.af L.o.size));clear D;go_wp2;go_ret;exact⟨by rw[E.o, <- Mk.o];rfl,tM.o⟩
theorem rX (h:gB L=true):1<=L.length/\L.length<=8/\uC L L.length=true/\Ag L=true:=by
 rw[gB,kj,kj,gY] at h;exact⟨h.1.1.1,h.1.1.2,h.1.2,h.2⟩
theorem akL (h:gB L=true):∀p∈aN L,∀u∈p,u<8:=by
 obtain⟨e,a,b,f⟩:=rX h;intro p d;obtain⟨l,c,rfl⟩:=ba.1 d;exact YD a (iQ.1 b l c)
theorem Ut (a:Option Addr) (ca:Nat) (L:List (List Int)) (w:World) (h:gW w a L) (n:∀l∈L,l.length<=140737488355328):
  du 95 #[.slice a L.length ca] w fun e w'=>ef w w'/\
   ((bZ L=0/\∃G,e=.returned (.tuple #[.slice (some ⟨G,0,none⟩) L.length L.length,.int .i64 0])/\w.heap.size<=G/\cF w' G (jU L))∨(bZ L≠0/\e=.returned (.tuple #[.slice none 0 0,.int .i64 (bZ L)]))):=by
 have u:=hid h;have R:=hid (fun (V:World) (j:gW V a L)=>YG a ca L V j n);have Q:Hid (gB L=false ->bZ L=11):=fun h=>aD (by rw[h];decide);have M:Hid (gB L=true ->(aZ (aN L) L.length).length<L.length ->bZ L=10):=fun f i=>by rw[bZ,aA f,aA i]
 have I:Hid (gB L=true ->¬(aZ (aN L) L.length).length<L.length ->bZ L=0):=fun f i=>by rw[bZ,aA f,aD i]
 have O:Hid (gB L=true ->∀(G c:Nat) (V:World),cF V G (jU L) ->du 146 #[.slice (some ⟨G,0,none⟩) L.length c] V fun e w'=>∃x,e=.returned x/\bP w' V.heap.size x (iL (aZ (aN L) L.length))/\ef V w'):=fun g G c V j=>by
  have z:=(rX g).2.1;have:=ahr G c (aN L) V (by rw[<- Gp];exact j) (by rw[l5];exact z) (akL g);rwa [l5] at this
 generalize bZ L=ge at *;generalize jU L=P at *;clear h n;go_enter Tryz.func95,Tryz.ntmps95;go_wp2_with fail
 refine(R.o _ u.o).af ?_;rintro e S ⟨b,⟨g,G,rfl,D,U⟩ |⟨g,v,rfl⟩⟩
 ·have r:=hid U;have J:=hid (O.o g G L.length);have H:=hid b;have F:=hid g;clear U b g O R;go_wp2_with fail
  refine(J.o _ r.o).af ?_;rintro e T ⟨x,rfl,p,k⟩;obtain⟨d,K,rfl,_⟩:=p.ints;have A:=hid (H.o.trans (k.af H.o.size));have y:=hid (r.o.aa k r.o.lt);have q:Hid ((iL (aZ (aN L) L.length)).length=(aZ (aN L) L.length).length):=bI _;clear p k;by_cases t:(aZ (aN L) L.length).length<L.length
  ·have E:=hid (M.o F.o t);(have s:(iL (aZ (aN L) L.length)).length<L.length:=by rw[q.o];exact t);clear t;generalize (iL (aZ (aN L) L.length)).length=m at *;go_wp2;go_ret2;exact⟨A.o,.inr ⟨by rw[E.o];decide,by rw[E.o];rfl⟩⟩
  ·have E:=hid (I.o F.o t);(have s:¬(iL (aZ (aN L) L.length)).length<L.length:=by rw[q.o];exact t);clear t;generalize (iL (aZ (aN L) L.length)).length=m at *;go_wp2;go_ret2;exact⟨A.o,.inl ⟨E.o,G,rfl,D,y.o⟩⟩
 ·have E:=hid (Q.o g);have H:=hid b;clear g b;go_wp2;go_ret2;exact⟨H.o,.inr ⟨by rw[E.o];decide,by rw[E.o];rfl⟩⟩
theorem akJ (a:Option Addr) (ca:Nat) (L:List (List Int)) (w:World) (h:gW w a L) (c:∀l∈L,l.length<=140737488355328):
  du 90 #[.slice a L.length ca] w (eS w (.int .i64 (bZ L))):=by
 have F:=hid h;have H:=hid (fun (V:World) (d:gW V a L)=>Ut a ca L V d c);generalize bZ L=ge at *;clear h c;go_enter Tryz.func90,Tryz.ntmps90;go_wp2_with fail
 refine(H.o _ F.o).af ?_;rintro e i ⟨b,⟨rfl,G,rfl,f,U⟩ |⟨g,rfl⟩⟩
 ·clear U;go_wp2;go_ret;exact⟨rfl,b⟩
 ·clear g;go_wp2;go_ret;exact⟨rfl,b⟩
theorem akK (h1:1<=L.length) (b:L.length<=8) (h:∀i (a:i<L.length),fT L[i] L.length=true/\¬i∈ag L[i]):gB L=true:=by
 rw[gB,eD (p:=1<=L.length/\L.length<=8) ⟨h1,b⟩,ZK fun i a=>(h i a).2]
 have:uC L L.length=true:=iQ.2 fun l c=>by
  obtain⟨i,a,rfl⟩:=jz c;exact(h i a).1
 rw[this];rfl
theorem ale (t i v:Nat) (c:Option Addr) (cc:Nat) (lb:Array Value) (l:List Fr) (k val P:Nat) (A:P<l.length) (w:World) (R:t<w.heap.size) (I:w.cell? ⟨t,1,none⟩=some (.slice c l.length cc)) (M:i<w.heap.size) (J:w.cell? ⟨i,0,none⟩=some (.func (.func 208) #[] lb)) (Q:v<w.heap.size) (xv:w.cell? ⟨v,0,none⟩=some (.int .i64 (val:Nat))) (F:aW w c l) (h1:Cw 100000 l)
  (E:∀V,ef w V ->du 208 (#[.int .i64 (k:Nat),.int .i64 (val:Nat)]++lb) V fun e w'=>e=.returned (.int .i64 (P:Nat))/\ef V w'):
  du 163 #[.int .i64 (k:Nat),.pointer (some ⟨t,0,none⟩),.pointer (some ⟨i,0,none⟩),.pointer (some ⟨v,0,none⟩)] w (eS w (iB (qF (aQ (bD l P))))):=by
 obtain⟨g,o,rfl,D,q,s,x⟩:=F P A;have T:=h1 P A;rw[<- kS A] at q s x;have O:=hid E;have HC:=hid (fun V:World=>Qw (w:=V) (aQ (bD l P)) rfl (show (bD l P).2.1.size+(bD l P).2.2.size<=100000 by omega));rw[OZ];generalize aQ (bD l P)=r at *;clear F E h1 T;generalize bD l P=f at *;obtain⟨fn,y,z⟩:=f;simp only at q s x HC;have b:aI (w.alloc (FC false ⟨#[]⟩ ⟨#[]⟩)) w.heap.size false ⟨#[]⟩ ⟨#[]⟩:=aI.new w _ _ _;have a:ef w (w.alloc (FC false ⟨#[]⟩ ⟨#[]⟩)):=(au _ w).alloc (aq _) _;go_enter Tryz.func163,Tryz.ntmps163;go_upto_region 1 with fail
 generalize (w.alloc (FC false ⟨#[]⟩ ⟨#[]⟩))=W at *;replace b:=b.drew;replace a:=a.drew;have L:∀u,ef w u ->u.cell? ⟨t,1,none⟩=some (.slice (some ⟨g,o,none⟩) l.length cc)/\u.cell? ⟨i,0,none⟩=some (.func (.func 208) #[] lb)/\u.cell? ⟨v,0,none⟩=some (.int .i64 (val:Nat))/\u.cell? ⟨g,o+P*3,none⟩=some (.bool fn)/\u.cell? ⟨g,o+P*3+1,none⟩=some (.string y)/\u.cell? ⟨g,o+P*3+2,none⟩=some (.string z):=fun u h=>⟨(h.cell (p:=⟨t,1,none⟩) R).trans I,(h.cell (p:=⟨i,0,none⟩) M).trans J,(h.cell (p:=⟨v,0,none⟩) Q).trans xv,(h.cell (p:=⟨g,_,none⟩) D).trans q,(h.cell (p:=⟨g,_,none⟩) D).trans s,(h.cell (p:=⟨g,_,none⟩) D).trans x⟩;have HELD:=hid L;clear L q s x I J xv;refine gI (S:=fun u=>u.cell? ⟨t,1,none⟩=some (.slice (some ⟨g,o,none⟩) l.length cc)/\u.cell? ⟨i,0,none⟩=some (.func (.func 208) #[] lb)/\u.cell? ⟨v,0,none⟩=some (.int .i64 (val:Nat))/\u.cell? ⟨g,o+P*3,none⟩=some (.bool fn)/\u.cell? ⟨g,o+P*3+1,none⟩=some (.string y)/\u.cell? ⟨g,o+P*3+2,none⟩=some (.string z)) ao (HELD.o _ a) (fun n=>?_);generalize W.drew=u0 at *;refine ar 0 (.pointer (some ⟨t,1,none⟩)) ?_;refine ar 1 (.slice (some ⟨g,o,none⟩) l.length cc) ?_;refine ar 2 (.func (.func 208) #[] lb) ?_;refine ar 3 (.int .i64 (k:Nat)) ?_;refine ar 4 (.int .i64 (val:Nat)) ?_;refine aG [5] (cA ?_ aF);intro j K;go_simp;refine(O.o _ a).af ?_;rintro e u1 ⟨rfl,d⟩;replace b:=b.aa d b.lt;replace a:=a.trans (d.af a.size)
 refine K.o _ _ (HELD.o _ a) (fun m=>?_);clear K j n;have n:=m;clear m d;refine ar 6 (.pointer (some ⟨g,o+P*3,none⟩)) ?_;refine ar 7 (.agg #[.bool fn,.string y,.string z]) ?_;refine aG [8] (cA ?_ aF);intro j K;go_simp;refine(HC.o _).af ?_;rintro e u2 ⟨rfl,d⟩;replace b:=b.aa d b.lt;replace a:=a.trans (d.af a.size);refine K.o _ _ (HELD.o _ a) (fun m=>?_);clear K j n;have n:=m;clear m d;try simp only[gE,aP]
 obtain⟨k0,k1,k2,X,Y,Z⟩:=b.facts;refine aG [9] (cA ?_ aF);intro j K;go_simp;have U:=b.put (bw r) (nu r) (de r);have H:=dV a (g:=w.heap.size) (aq _) (.bool (bw r)) (.string (nu r)) (.string (de r));generalize (((u2.setCell ⟨w.heap.size,0,none⟩ (.bool (bw r))).setCell ⟨w.heap.size,1,none⟩ (.string (nu r))).setCell ⟨w.heap.size,2,none⟩ (.string (de r)))=v9 at *;refine K.o _ _ (HELD.o _ H) (fun _=>dS ao ?_ _);clear K j n;go_wp2;refine cj (U.result rfl _ rfl) rfl ?_;exact⟨rfl,H⟩
theorem ahq (t d v:Nat) (c:Option Addr) (cc:Nat) (lb:Array Value) (l:List Fr) (k val P:Nat) (A:P<l.length) (w:World) (Q:t<w.heap.size) (H:w.cell? ⟨t,1,none⟩=some (.slice c l.length cc)) (L:d<w.heap.size) (I:w.cell? ⟨d,0,none⟩=some (.func (.func 208) #[] lb)) (O:v<w.heap.size) (xv:w.cell? ⟨v,0,none⟩=some (.int .i64 (k:Nat))) (E:aW w c l)
  (D:∀V,ef w V ->du 208 (#[.int .i64 (k:Nat),.int .i64 (val:Nat)]++lb) V fun e w'=>e=.returned (.int .i64 (P:Nat))/\ef V w'):
  du 213 #[.int .i64 (val:Nat),.pointer (some ⟨t,0,none⟩),.pointer (some ⟨d,0,none⟩),.pointer (some ⟨v,0,none⟩)] w (eS w (iB (bD l P))):=by
 obtain⟨g,o,rfl,s,i,j,m⟩:=E P A;rw[<- kS A] at i j m;have M:=hid D;clear E D;generalize bD l P=f at *;obtain⟨fn,x,y⟩:=f;simp only at i j m;have b:aI (w.alloc (FC false ⟨#[]⟩ ⟨#[]⟩)) w.heap.size false ⟨#[]⟩ ⟨#[]⟩:=aI.new w _ _ _;have a:ef w (w.alloc (FC false ⟨#[]⟩ ⟨#[]⟩)):=(au _ w).alloc (aq _) _;go_enter Tryz.func213,Tryz.ntmps213;go_upto_region 1 with fail
 generalize (w.alloc (FC false ⟨#[]⟩ ⟨#[]⟩))=W at *;replace b:=b.drew;replace a:=a.drew;have J:∀u,ef w u ->u.cell? ⟨t,1,none⟩=some (.slice (some ⟨g,o,none⟩) l.length cc)/\u.cell? ⟨d,0,none⟩=some (.func (.func 208) #[] lb)/\u.cell? ⟨v,0,none⟩=some (.int .i64 (k:Nat))/\u.cell? ⟨g,o+P*3,none⟩=some (.bool fn)/\u.cell? ⟨g,o+P*3+1,none⟩=some (.string x)/\u.cell? ⟨g,o+P*3+2,none⟩=some (.string y):=fun u h=>⟨(h.cell (p:=⟨t,1,none⟩) Q).trans H,(h.cell (p:=⟨d,0,none⟩) L).trans I,(h.cell (p:=⟨v,0,none⟩) O).trans xv,(h.cell (p:=⟨g,_,none⟩) s).trans i,(h.cell (p:=⟨g,_,none⟩) s).trans j,(h.cell (p:=⟨g,_,none⟩) s).trans m⟩;have HELD:=hid J;clear J i j m H I xv;refine gI (S:=fun u=>u.cell? ⟨t,1,none⟩=some (.slice (some ⟨g,o,none⟩) l.length cc)/\u.cell? ⟨d,0,none⟩=some (.func (.func 208) #[] lb)/\u.cell? ⟨v,0,none⟩=some (.int .i64 (k:Nat))/\u.cell? ⟨g,o+P*3,none⟩=some (.bool fn)/\u.cell? ⟨g,o+P*3+1,none⟩=some (.string x)/\u.cell? ⟨g,o+P*3+2,none⟩=some (.string y)) ao (HELD.o _ a) (fun q=>?_);generalize W.drew=u0 at *;refine ar 0 (.pointer (some ⟨t,1,none⟩)) ?_;refine ar 1 (.slice (some ⟨g,o,none⟩) l.length cc) ?_;refine ar 2 (.func (.func 208) #[] lb) ?_;refine ar 3 (.int .i64 (k:Nat)) ?_;refine ar 4 (.int .i64 (val:Nat)) ?_;refine aG [5] (cA ?_ aF);intro n K;go_simp;refine(M.o _ a).af ?_;rintro e u1 ⟨rfl,r⟩;replace b:=b.aa r b.lt;replace a:=a.trans (r.af a.size)
 refine K.o _ _ (HELD.o _ a) (fun z=>?_);clear K n q;have q:=z;clear z r;refine ar 6 (.pointer (some ⟨g,o+P*3,none⟩)) ?_;refine ar 7 (.agg #[.bool fn,.string x,.string y]) ?_;try simp only[gE,aP]
 obtain⟨Y,Z,k2,T,U,X⟩:=b.facts;refine aG [8] (cA ?_ aF);intro n K;go_simp;have R:=b.put (fn) (x) (y);have F:=dV a (g:=w.heap.size) (aq _) (.bool (fn)) (.string (x)) (.string (y));generalize (((u1.setCell ⟨w.heap.size,0,none⟩ (.bool (fn))).setCell ⟨w.heap.size,1,none⟩ (.string (x))).setCell ⟨w.heap.size,2,none⟩ (.string (y)))=v9 at *;refine K.o _ _ (HELD.o _ F) (fun _=>dS ao ?_ _);clear K n q;go_wp2;refine cj (R.result rfl _ rfl) rfl ?_;exact⟨rfl,F⟩
variable {T:Nat}
def NR (w V:World) (T R:Nat) (u v:Value):Prop:=bE V T u v/\bE V R (.slice none 0 0) (.slice none 0 0)/\ef w V
theorem NR.step {R:Nat} {u v:Value} (h:NR w V T R u v) (b:ef V V'):NR w V' T R u v:=⟨h.1.aa b h.1.lt,h.2.1.aa b h.2.1.lt,h.2.2.trans (b.af h.2.2.size)⟩
theorem NR.off {R:Nat} {u v:Value} (h:NR w V T R u v) (B j:Nat) (y:Value) (c:T≠B) (b:R≠B) (a:w.heap.size<=B):NR w (V.setCell ⟨B,j,none⟩ y) T R u v:=⟨h.1.off B j y c,h.2.1.off B j y b,h.2.2.setCell (p:=⟨B,j,none⟩) a y⟩
theorem NR.fin {R:Nat} {u v:Value} (h:NR w V T R u v) (c:w.heap.size<=R) {vars:List Int} {b:Option Addr} {G:Nat} (m:ij w.heap.size b cb) (g:w.heap.size<=G) (i:aJ V b vars) (r:eN V G l) (a:G≠R) (x y:Value) (d:x=.slice b vars.length cb) (e:y=.slice (some ⟨G,0,none⟩) l.length cc):
  bE ((V.setCell ⟨R,0,none⟩ x).setCell ⟨R,1,none⟩ y) R x y/\uD w.heap.size vars l 0 (.returned (.tuple #[.agg #[x,y],.int .i64 0])) ((V.setCell ⟨R,0,none⟩ x).setCell ⟨R,1,none⟩ y)/\ef w ((V.setCell ⟨R,0,none⟩ x).setCell ⟨R,1,none⟩ y):=by
 subst d e;exact⟨h.2.1.put _ _,⟨b,some ⟨G,0,none⟩,cb,cc,rfl,i.putT h.2.1 (slv _ _ _) (slv _ _ _) (slv _ _ _) _,((r.off _ 0 _ a).off _ 1 _ a).fr,m,ij.at g⟩,o9 h.2.2 c _ _⟩
theorem rG {l:List Int}:Up l n↔(∀x∈l,0<=x/\x<n)/\l.Pairwise (·<·):=by
 constructor
 ·intro h;refine⟨fun x f=>?_,zU.2 fun i j a b c=>h.lt i j b c⟩;obtain⟨i,a,rfl⟩:=jz f;exact h.each i a
 ·rintro⟨d,e⟩;exact⟨fun i a=>d _ (bF a),fun i j b a=>zU.1 e i j al b a⟩
theorem uh {vars:List Int} (h:Up vars n) (v:Int):Up (bS vars v) n:=by
 rw[rG] at h⊢;exact⟨fun x a=>h.1 x (eL.1 a).1,h.2.filter _⟩
theorem NS {vars:List Int} (h:Up vars n):¬v∈ag (bS vars (v:Int)):=fun m=>by
 obtain⟨x,a,e⟩:=ba.1 m;have c:=(rG.1 (uh h v)).1 x a;have b:=(eL.1 a).2;simp at b;omega
theorem ab1 (S vars rest:List Nat) (v x:Nat) (l:List Fr):(xH S vars rest v x l).length=cnt S rest:=by simp[xH]
theorem ald (S vars rest:List Nat) (v x:Nat) (l:List Fr) (h:k<(xH S vars rest v x l).length):(xH S vars rest v x l)[k]=qF (aQ (bD l (pos S (aM (aY S rest k) v x) vars))):=by simp[xH]
theorem uE.shape {W:World} {f:Value} {b:Option Addr} {sizes vars o:List Int} (h:uE W n m f a b ca cb sizes vars o v):∃l,f=.func (.func 208) #[] l:=by
 obtain⟨_,_,_,e,_⟩:=h;exact⟨_,e⟩
theorem uE.top {W:World} {f:Value} {b:Option Addr} {sizes vars e:List Int} (h:uE W n m f a b ca cb sizes vars e v):m<=W.heap.size:=by
 obtain⟨_,_,_,_,_,_,_,_,c,_⟩:=h;exact c
theorem uE.aa {W:World} {f:Value} {b:Option Addr} {sizes vars e:List Int} (h:uE W n m f a b ca cb sizes vars e v) (c:ef W V):uE V n m f a b ca cb sizes vars e v:=h.kept (zt.of_below c h.top)
theorem QW {sizes vars rest:List Int} {x K:Nat} (k:j7 sizes vars m=0) (b:K<cnt (ag sizes) (ag rest)) (c:x<sz (ag sizes) v):pos (ag sizes) (aM (aY (ag sizes) (ag rest) K) v x) (ag vars)<m:=by
 obtain⟨h,d,a⟩:=AO k;rw[a];exact sL _ (aej (fun u=>vK h.pos _ _ u b) c) _
theorem aeX (a b c:Option Addr) (ca cb cc:Nat) (sizes vars:List Int) (l:List Fr) (v x:Nat) (w:World) (hs:aJ w a sizes) (hv:aJ w b vars) (hf:aW w c l) (hn:sizes.length<=140737488355328) (hm:vars.length<=140737488355328) (m:j7 sizes vars l.length=0) (hw:Cw 100000 l) (ah:v<sizes.length) (ai:x<sz (ag sizes) v):
  du 104 #[.slice a sizes.length ca,.agg #[.slice b vars.length cb,.slice c l.length cc],.int .i64 (v:Nat),.int .i64 (x:Nat)] w fun e w'=>uD w.heap.size (bS vars (v:Int)) (xH (ag sizes) (ag vars) (ag (bS vars (v:Int))) v x l) 0 e w'/\ef w w':=by
 obtain⟨S,J,aj⟩:=AO m;have Y:=hid (fun V h=>aiZ a ca sizes v x V h S ah);rw[eD (show 0<=(x:Int)/\(x:Int)<(sz (ag sizes) v:Int) by omega)] at Y;have ak:x<=4:=by have:=S.sz_le v;omega
 have D:=fun V y E=>DR a b c ca cb cc l.length sizes vars V y E hn hm;rw[m] at D;have HC:=hid D;clear D;have h0:(0:Int)<=(v:Int):=al
 have y:(v:Int)<(sizes.length:Int):=al
 have ay:(bS vars (v:Int)).length<=vars.length:=pH _ _;have SI:=J.length;have rR:=S.eight;have P:=hid S;have lQ:=hid J;have O:=hid (uh J (v:Int));have E8:=hid (NS (v:=v) J);have po:=hid (fun K (hK:K<cnt (ag sizes) (ag (bS vars (v:Int))))=>QW m hK ai);have R:=ab1 (ag sizes) (ag vars) (ag (bS vars (v:Int))) v x l;have qo:=hid (fun (k:Nat) (h:k<(xH (ag sizes) (ag vars) (ag (bS vars (v:Int))) v x l).length)=>ald (ag sizes) (ag vars) (ag (bS vars (v:Int))) v x l h);have mq:=hid (fun V h=>QV b cb vars (v:Int) V h al);generalize xH (ag sizes) (ag vars) (ag (bS vars (v:Int))) v x l=F at *;generalize bS vars (v:Int)=rest at *;have ad:=hid (fun V d n y E=>Rl a d b ca n cb sizes rest vars v V y E S J ah);have HF:=hid hf;have HW:=hid hw;have U:=hid R;clear ai m S J aj hf hw R;have r:=hid hs;have A:=hid hv;have H:NR w (((w.alloc (TC (.slice b vars.length cb) (.slice c l.length cc))).alloc (.cells #[.int .i64 (x:Nat)] 3)).alloc (TC (.slice none 0 0) (.slice none 0 0))) w.heap.size (w.heap.size+1+1) (.slice b vars.length cb) (.slice c l.length cc):=⟨((bE.at (w:=w) rfl _ _).alloc _).alloc _,bE.at aE _ _,(((au _ w).alloc (aq _) _).alloc aE _).alloc (by simp;omega) _⟩
 have X:Boxed (((w.alloc (TC (.slice b vars.length cb) (.slice c l.length cc))).alloc (.cells #[.int .i64 (x:Nat)] 3)).alloc (TC (.slice none 0 0) (.slice none 0 0))) (w.heap.size+1) 3 (.int .i64 (x:Nat)):=by
  have h:=(a8 (w.alloc (TC (.slice b vars.length cb) (.slice c l.length cc))) 3 (.int .i64 (x:Nat))).alloc (TC (.slice none 0 0) (.slice none 0 0));rwa [dE] at h
 have s:=H.1.c0;have c1:=H.1.c1;go_enter Tryz.func104,Tryz.ntmps104;go_wp2_with fail
 generalize (((w.alloc (TC (.slice b vars.length cb) (.slice c l.length cc))).alloc (.cells #[.int .i64 (x:Nat)] 3)).alloc (TC (.slice none 0 0) (.slice none 0 0)))=W at *;refine(HC.o _ (r.o.aa H.2.2) (A.o.aa H.2.2)).af ?_;rintro e w1 ⟨rfl,L⟩;replace H:=H.step L;replace X:=aX X L;clear s c1 L;have cx:=X.cell;go_wp2_with fail
 refine(Y.o _ (r.o.aa H.2.2)).af ?_;rintro e w2 ⟨rfl,q⟩;replace H:=H.step q;replace X:=aX X q;clear cx q Y HC;have s:=H.1.c0;go_wp2_with fail
 refine(mq.o _ (A.o.aa H.2.2)).af ?_;rintro e w3 ⟨d,n,rfl,i,mX,M⟩;have Fs:=hid (mX.up H.2.2.size);clear mX;replace H:=H.step M;replace X:=aX X M;clear s M mq;have s:=H.1.c0;go_wp2_with fail
 refine(ad.o _ d n (r.o.aa H.2.2) (A.o.aa H.2.2)).af ?_;rintro e j ⟨f,rfl,z,u⟩;have av:=H.2.1.lt;replace H:=H.step u;replace X:=aX X u;replace i:=i.aa u;obtain⟨t,rfl⟩:=z.shape;have ku:=u.size;clear s u ad;generalize w3.heap.size=n3 at *;have T:ef j (j.alloc (.cells #[.func (.func 208) #[] t] 23)):=(au _ j).alloc (aq _) _;have Z:Boxed (j.alloc (.cells #[.func (.func 208) #[] t] 23)) j.heap.size 23 (.func (.func 208) #[] t):=a8 j _ _;replace H:=H.step T;replace X:=aX X T;replace z:=z.aa T;replace i:=i.aa T;go_wp2_with fail
 clear T;generalize (j.alloc (.cells #[.func (.func 208) #[] t] 23))=w5 at *;generalize j.heap.size=ab at *
 have sZ:=KT a d ca n sizes rest 163 #[.pointer (some ⟨w.heap.size,0,none⟩),.pointer (some ⟨ab,0,none⟩),.pointer (some ⟨w.heap.size+1,0,none⟩)] (enters_of Tryz.func163 ao rfl) F w5 (r.o.aa H.2.2) i P.o O.o U.o (fun k m V g=>by
  rw[qo.o k m];have Q:k<cnt (ag sizes) (ag rest):=by rw[<- U.o];exact m
  have I:=H.2.2.trans (g.af H.2.2.size);refine ale w.heap.size ab (w.heap.size+1) c cc t l k x _ (po.o k Q) V (aU H.1.lt g.size) ((g.cell (p:=⟨w.heap.size,1,none⟩) H.1.lt).trans H.1.c1) (aU Z.lt g.size) (aX Z g).cell (aU X.lt g.size) (aX X g).cell (HF.o.aa I) HW.o ?_;intro V' ae;have q:=g.trans (ae.af g.size);exact((z.aa q).calls (r.o.aa (I.trans (ae.af I.size))) (i.aa q) P.o O.o lQ.o E8.o Q ak))
 have Bp:=hid sZ;clear sZ;refine Bp.o.af ?_;rintro e w6 ⟨G,rfl,hG,an,T⟩;have ax:=H.2.1.lt;replace H:=H.step T;replace i:=i.aa T;obtain⟨k0,k1,f0,f1⟩:=H.2.1.facts;obtain⟨e1,e2,e3⟩:=H.fin al (cb:=n) (cc:=F.length) Fs.o al i an al (.slice d rest.length n) (.slice (some ⟨G,0,none⟩) F.length F.length) rfl rfl;go_wp2;refine cj (e1.result2 rfl _ rfl) rfl ?_;exact⟨e2,e3⟩
def cH (w:World) (B:Nat) (v:Value) (l:List Fr):Prop:=w.ownsRow B 42 3 v l.length (jq l)
theorem cH.empty (w:World) (B:Nat):cH w B (.slice none 0 0) []:=⟨rfl,.inl ⟨rfl,rfl⟩⟩
theorem cH.aa {B:Nat} {v:Value} (h:cH w B v l) (e:ef w w'):cH w' B v l:=by
 refine⟨h.1,h.2.imp id ?_⟩;rintro⟨g,cap,r,b,c,a,d⟩;exact⟨g,cap,r,b,c,(e.block g (cJ.1 a).1).trans a,d⟩
theorem cH.off {B:Nat} {v:Value} (h:cH w B v l) (b j:Nat) (y:Value) (f:b<B):cH (w.setCell ⟨b,j,none⟩ y) B v l:=by
 refine⟨h.1,h.2.imp id ?_⟩;rintro⟨g,cap,r,a,c,d,e⟩;exact⟨g,cap,r,a,c,(fQ w ⟨b,j,none⟩ y g (by show g≠b;omega)).trans d,e⟩
theorem cH.own {B:Nat} {v:Value} (h:cH w B v l):∀k,v.ownBlock=some k ->B<=k:=by
 intro k a;rcases h.2 with ⟨rfl,_⟩ |⟨g,cap,c,rfl,b,_⟩
 ·cases a
 ·cases a;exact b
theorem cH.fr {B:Nat} {v:Value} (h:cH w B v l):∃d f,v=.slice d l.length f/\aW w d l:=by
 rcases h.2 with ⟨b,e⟩ |⟨g,cap,r,b,e,a,q,s,u,o⟩
 ·have:l=[]:=I0.1 e;subst this;exact⟨none,0,b,fun k c=>absurd c aE⟩
 ·refine⟨_,_,b,fun k c=>?_⟩;obtain⟨i,m,n⟩:=KP l k c
  have t:∀j,j<l.length*3 ->r[j]? =(jq l)[j]?:=fun j p=>by
   rw[<- o,pI,aA p,uU]
  refine⟨g,0,rfl,(cJ.1 a).1,?_,?_,?_⟩
  ·rw[bG w g _ _ _ (0,0) a,bB,t _ al];exact i
  ·rw[bG w g _ _ _ (0,0) a,bB,t _ al];exact m
  ·rw[bG w g _ _ _ (0,0) a,bB,t _ al];exact n
theorem cH.slv {B:Nat} {v:Value} (h:cH w B v l):cV v:=by
 obtain⟨d,c,e,_⟩:=h.fr;exact⟨d,_,c,e⟩
theorem abT (l:List Fr) (f:Fr):jq (l++[f])=jq l++[.bool f.1,.string f.2.1,.string f.2.2]:=by
 induction l with
 |nil=>rfl
 |cons x l ih=>simp only[fG,jq,ih]
theorem ad4 {o:Oper} {a:Act} (q:o.guard=none) (s x:Operand)
  (k:o.op=.call {callee:=.builtin .append,args:= #[s,x],argTypes:= #[24,24]}) (base:Nat) (v:Value) (l:List Fr) (f:Fr) (m:a.eval s=v) (y:cH w base v l) (g:Nat) (n:a.eval x=.slice (some ⟨g,0,none⟩) 1 1) (c:aI w g f.1 f.2.1 f.2.2) (D:l.length+1<=100000) (A:base<=w.heap.size)
  (h:∀v' w',cH w' base v' (l++[f]) ->w.grownBy w' v.ownBlock ->wpList Tryz.prog ops Q rest (a.put o.dst v') w'):wpList Tryz.prog ops Q (o::rest) a w:=by
 obtain⟨p,M,z,r,t⟩:=dJ Tryz.infoFrac;refine FH _ q s x 24 k base 42 p (.agg #[.bool false,.string ⟨#[]⟩,.string ⟨#[]⟩]) 3 40 Tryz.underlying24 M z r t rfl bd v l.length _ m y ⟨g,0,none⟩ 1 1 [.bool f.1,.string f.2.1,.string f.2.2] n rfl ?_ ?_ (by unfold maxLen;omega) al A ?_
 ·intro j u b;match j,b with
  |0,b=>cases b;exact c.c0
  |1,b=>cases b;exact c.c1
  |2,b=>cases b;exact c.c2
  |j+3,b=>simp at b
 ·intro u d;simp only[dU,nL,tV] at d;rcases d with rfl |rfl |rfl<;>rfl
 ·intro v' w' e i _;refine h v' w' ?_ i;rw[cH,bK,abT];exact e
theorem K3 {sizes vars:List Int} (h1:fX sizes) (a:Up vars sizes.length):countB sizes vars=true:=by
 rw[countB,kj];constructor
 ·rw[vH,kj,gY];refine⟨⟨h1.one,h1.eight⟩,iQ.2 fun x c=>?_⟩;obtain⟨i,b,rfl⟩:=jz c;rw[Gh,gY];exact h1.each i b
 ·rw[fT,iQ];intro i b;have h:=cI.1 b;rw[oU,gY,getD_eq h];refine⟨(a.each i h).1,(a.each i h).2,fun d=>?_⟩;rw[getD_eq (show i - 1<vars.length by omega)];exact a.lt (i - 1) i h al
variable {R:List (List Fr)}
def gD (w:World) (a:Option Addr) (R:List (List Fr)):Prop:=∀k (h:k<R.length),∃g o b c,a=some ⟨g,o,none⟩/\g<w.heap.size/\w.cell? ⟨g,o+k,none⟩=some (.slice b R[k].length c)/\aW w b R[k]/\R[k].length<=c
theorem gD.aa (h:gD w a R) (d:ef w w'):gD w' a R:=fun k m=>by
 obtain⟨g,o,b,c,f,e,i,j,l⟩:=h k m;exact⟨g,o,b,c,f,aU e d.size,(d.cell (p:=⟨g,o+k,none⟩) e).trans i,j.aa d,l⟩
def gH (l:List Fr) (k i:Nat):List Fr:=(l.drop (i*k)).take k
def lp (S:List Nat) (L:List (List Int)) (R:List (List Fr)) (v:Nat):Int:=
 if (R.getD v []).length=cnt S (ag (L.getD v []))*sz S v then(if ((List.range (cnt S (ag (L.getD v [])))).all fun i=>dt (gH (R.getD v []) (sz S v) i))=true then 0 else 9) else 8
def bH (V:List Vr) (L:List (List Int)) (R:List (List Fr)):Int:=
 if L.length=V.length/\R.length=V.length then(if bZ L=0 then(if oQ V=0 then jr (lp (aw V) L R) V.length else oQ V) else bZ L) else 8
theorem aW.chunk {o:Nat} (h:aW w (some ⟨g,o,none⟩) l) (s:(i+1)*k<=l.length) (r:m=k):aW w (some ⟨g,o+i*k*3,none⟩) (gH l k i)/\(gH l k i).length=m:=by
 have n:(gH l k i).length=k:=by
  rw[gH,eE,nN];have:(i+1)*k=i*k+k:=by rw[fF,jP]
  omega
 refine⟨fun j b=>?_,by rw[n,r]⟩;have e:(i+1)*k=i*k+k:=by rw[fF,jP]
 rw[n] at b;obtain⟨g',o',c,d,f,p,q⟩:=h (i*k+j) al;cases c
 have a:(gH l k i)[j]'(by rw[n];exact b)=l[i*k+j]'al:=by
  simp only[gH,zV,List.getElem_drop]
 refine⟨g,o+i*k*3,rfl,d,?_,?_,?_⟩
 ·rw[a,show o+i*k*3+j*3=o+(i*k+j)*3 by rw[fF];omega];exact f
 ·rw[a,show o+i*k*3+j*3=o+(i*k+j)*3 by rw[fF];omega];exact p
 ·rw[a,show o+i*k*3+j*3=o+(i*k+j)*3 by rw[fF];omega];exact q
theorem akS (l:List Fr) (k i:Nat):fw (gH l k i)<=fw l:=by
 have a:=abM (l.drop (i*k)) k;have h:=Uv (l.take (i*k)) (l.drop (i*k));rw[BB] at h;rw[gH];omega
def pg (w:World) (B:Nat) (v:Value) (l:List ByteArray):Prop:=w.ownsRow B 9 1 v l.length (l.map Value.string)
theorem pg.own {B:Nat} {v:Value} {l:List ByteArray} (h:pg w B v l):∀k,v.ownBlock=some k ->B<=k:=by
 intro k a;rcases h.2 with ⟨rfl,_⟩ |⟨g,cap,c,rfl,b,_⟩
 ·cases a
 ·cases a;exact b
theorem pg.st {B:Nat} {v:Value} {l:List ByteArray} (h:pg w B v l):∃d f,v=.slice d l.length f/\tx w d l:=by
 rcases h.2 with ⟨a,b⟩ |⟨g,cap,r,a,b,c,o,p,q,i⟩
 ·have:l=[]:=I0.1 b;subst this;exact⟨none,0,a,fun k n=>absurd n aE⟩
 ·refine⟨_,_,a,fun j m=>⟨g,0,rfl,(cJ.1 c).1,?_⟩⟩;rw[bB,bG w g j _ _ (0,0) c]
  have e:r[j]? =(r.toList.take (l.length*1))[j]?:=by
   rw[pI,aA al,uU]
  rw[e,i,lU,bj m];rfl
theorem ahA (w:World) (u:ByteArray):(w.alloc (.cells #[.string u] 9)).cell? ⟨w.heap.size,0,none⟩=some (.string u):=(a8 w _ _).cell
variable {wr wr':World}
structure lO (w:World) (a b c:Option Addr) (V:List Vr) (L:List (List Int)) (R:List (List Fr)):Prop where
 vars:vL w a V
 pars:gW w b L
 rows:gD w c R
theorem lO.aa {b c:Option Addr} {V:List Vr} (h:lO w a b c V L R) (d:ef w w'):lO w' a b c V L R:=⟨h.vars.aa d,h.pars.aa d,h.rows.aa d⟩
structure xP (V:List Vr) (L:List (List Int)) (R:List (List Fr)):Prop where
 vars:VSm V
 pars:L.length<=5000/\∀l∈L,l.length<=5000
 rows:R.length<=5000/\∀l∈R,l.length<=5000/\fw l<=10000
def NK (w wr:World) (x y z:Value):Prop:=dQ wr w.heap.size x y z/\ef w wr
theorem NK.step (h:NK w wr x y z) (b:ef wr wr'):NK w wr' x y z:=⟨h.1.aa b h.1.lt,h.2.trans (b.af h.2.size)⟩
theorem NK.grow (h:NK w wr x y z) (b:Below (w.heap.size+1) wr wr'):NK w wr' x y z:=⟨h.1.aa b al,h.2.trans (b.af al)⟩
theorem NK.new (w:World) (x y z:Value):NK w (w.alloc (NC x y z)) x y z:=⟨dQ.at rfl x y z,(au _ w).alloc (aq _) _⟩
theorem ab4 {V:List Vr} (r:L.length=V.length) (g:bZ L=0) (a:oQ V=0):fX (iL (aw V))/\L.length<=8/\∀v (h:v<L.length),Up L[v] L.length:=by
 have o:gB L=true:=by
  rw[bZ] at g;by_cases h:gB L=true
  ·exact h
  ·rw[aD h] at g;exact absurd g bd
 obtain⟨p,k,f,_⟩:=rX o
 have l:∀i,i<V.length ->rF V i=0:=by
  rw[oQ] at a;by_cases h:pR (oW V)=0
  ·rw[aA h] at a;intro i b
   have y:∀ {n:Nat},jr (rF V) n=0 ->∀j,j< n ->rF V j=0:=by
    intro n;induction n with
    |zero=>intro _ j m;omega
    |succ n ih=>
     intro z j m;rw[jr] at z;by_cases e:jr (rF V) n=0
     ·rw[aA e] at z;rcases cT j n with d |d
      ·exact ih e j d
      ·obtain rfl:j=n:=al
       exact z
     ·rw[aD e] at z;exact absurd z e
   exact y a i b
  ·rw[aD h] at a;exact absurd a h
 refine⟨⟨by rw[bI,oT];omega,by rw[bI,oT];omega,fun i b=>?_⟩,k,fun v a=>DU (U6 f a)⟩;rw[bI,oT] at b;have c:=l i b;rw[rF,Un b] at c
 have q:1<=V[i].2.length/\V[i].2.length<=4:=by
  by_cases e:1<=V[i].2.length/\V[i].2.length<=4
  ·exact e
  ·rw[aD e] at c;exact absurd c bd
 have e:(iL (aw V))[i]'(by rw[bI,oT];exact b)=(V[i].2.length:Int):=by simp[iL,aw]
 rw[e];omega
def LK (w wr:World) (x y z:Value):Prop:=NK w wr x y z/\aI wr (w.heap.size+1) false ⟨#[]⟩ ⟨#[]⟩
theorem LK.new (w:World) (x y z:Value):LK w ((w.alloc (NC x y z)).alloc (FC false ⟨#[]⟩ ⟨#[]⟩)) x y z:=⟨(NK.new w x y z).step ((au _ _).alloc (aq _) _),aI.at aE _ _ _⟩
theorem LK.drewN (h:LK w wr x y z) (k:Nat):LK w (wr.drewN k) x y z:=⟨⟨h.1.1,below_drewN h.1.2 k⟩,h.2⟩
theorem agy (p:∀v,sz S v<=4) (f:Nat ->Nat) (h:∀u,f u<sz S u) {P:List Nat} (l:P.length<=8) (i:Nat):pos S f (P.take i)<=65536:=by
 have a:=sL f h (P.take i);have b:=vJ p (vs:=P.take i) (by rw[eE];omega);omega
def qL (S:List Nat) (P:List Nat) (f:Nat ->Nat) (v:Nat):Nat:=pos S f P*sz S v+f v
theorem aad {P:List Nat} (h:∀u,f u<sz S u) (v:Nat):qL S P f v<cnt S P*sz S v:=by
 have a:=sL f h P;have b:=h v;rw[qL]
 calc pos S f P*sz S v+f v<pos S f P*sz S v+sz S v:=al
  _=(pos S f P+1)*sz S v:=by rw[fF,jP]
  _<=cnt S P*sz S v:=lS _ a
theorem aiK (a b c d:Option Addr) (ca cb cc cd v:Nat) (V:List Vr) (L:List (List Int)) (R:List (List Fr)) (A:List Nat) (w:World) (h:lO w a b c V L R) (hA:aJ w d (iL A)) (OS:A.length=V.length) (a7:V.length<=8) (hv:v<V.length) (fp:v<L.length) (qN:v<R.length) (hS:fX (iL (aw V))) (hU:Up L[v] V.length) (ad:R[v].length=cnt (aw V) (ag L[v])*sz (aw V) v) (f:Nat ->Nat) (hf:∀u,f u<sz (aw V) u) (Ts:∀u,u<V.length ->A[u]? =some (f u)):
  du 157 #[.agg #[.slice a V.length ca,.slice b L.length cb,.slice c R.length cc],.int .i64 (v:Nat),.slice d A.length cd] w (eS w (iB (bD R[v] (qL (aw V) (ag L[v]) f v)))):=by
 have hT:=aad (S:=aw V) (P:=ag L[v]) hf v;rw[<- ad] at hT;rw[kS hT];have Q:∀u,sz (aw V) u<=4:=fun u=>by have:=hS.sz_le u;rwa [jC] at this
 have ai:(ag L[v]).length<=8:=by rw[gM];have:=hU.length;omega
 have aE:L[v].length<=8:=by have:=hU.length;omega
 have po:=hid (fun i=>agy Q f hf ai i);have kZ:=hid (fun i (hi:i<(ag L[v]).length)=>agz (aw V) f hi)
 have A6:Hid (pos (aw V) f ((ag L[v]).take L[v].length)=pos (aw V) f (ag L[v])):=by
  show _=_;rw[lT (by rw[gM];omega)]
 have zH:Hid (∀u,f u<4):=fun u=>aU (hf u) (Q u);have ae:=hid Q;have lQ:=hid hU;have r8:=hid (fun u (hu:u<V.length)=>M7 hu);have jc:Hid (∀u (hu:u<V.length),sz (aw V) u=V[u].2.length):=fun u hu=>by rw[sz,M7 hu];rfl
 have zG:=hid Ts;have HI:=hid h;have HA:=hid hA;have av:qL (aw V) (ag L[v]) f v=pos (aw V) f (ag L[v])*sz (aw V) v+f v:=rfl;obtain⟨D,z,bp,cp,rfl,fM,p1,nY⟩:=h.pars v fp;obtain⟨r,s,br,cr,rfl,ax,r1,JP,wV⟩:=h.rows v qN;obtain⟨j,K,rfl,Cr,U,X,Y⟩:=JP _ hT;obtain⟨g,m,bv,cv,rfl,G7, -,E, -, -⟩:=h.vars v hv;obtain⟨O,oa,rfl,mi,y⟩:=hA v (by rw[bI];omega)
 have ea:(iL A)[v]'(by rw[bI];omega)=((f v:Nat):Int):=by
  obtain⟨t,h2⟩:=mH.1 (Ts v hv);simp only[iL,nO,h2]
 rw[ea] at y;rw[<- jc.o v hv] at E;have De:=hid nY;have M:=hid (show _/\_/\_/\_/\_/\_/\_ from ⟨p1,r1,E,y,U,X,Y⟩);have bb:=zH.o v;have Gt:=ae.o v;have JS:=po.o (ag L[v]).length;rw[jR] at JS
 have bf:R[v].length<=262144:=by
  rw[ad];have t:=vJ Q ai;exact aR (iO t Gt) bd
 have aC:=hid wV;generalize hTT:qL (aw V) (ag L[v]) f v=T at *;generalize hfr:R[v][T]=fr at *;obtain⟨fn,I,J⟩:=fr;simp only at M;clear h hA Ts nY JP p1 r1 E y U X Y ad hf Q hS hU ea hTT hfr wV;generalize R[v]=rl at *;generalize L[v]=l at *;have eo:=hid (LK.new w (.slice (some ⟨g,m,none⟩) V.length ca) (.slice (some ⟨D,z,none⟩) L.length cb) (.slice (some ⟨r,s,none⟩) R.length cc));obtain⟨c0,c1,c2⟩:=eo.o.1.1.cells;have p1:=(eo.o.1.2.cell (p:=⟨D,z+v,none⟩) fM).trans M.o.1;go_enter Tryz.func157,Tryz.ntmps157;go_wp2_with fail
 generalize ((w.alloc (NC (.slice (some ⟨g,m,none⟩) V.length ca) (.slice (some ⟨D,z,none⟩) L.length cb) (.slice (some ⟨r,s,none⟩) R.length cc))).alloc (FC false ⟨#[]⟩ ⟨#[]⟩))=w1 at *;clear c0 c1 c2 p1;go_loopw [7,16] (fun kv iv wr=>∃i:Nat,i<=l.length/\iv=.int .i64 i/\kv=.int .i64 (pos (aw V) f ((ag l).take i):Nat)/\Hid (LK w wr (.slice (some ⟨g,m,none⟩) V.length ca) (.slice (some ⟨D,z,none⟩) L.length cb) (.slice (some ⟨r,s,none⟩) R.length cc))) (fun _ iv _=>l.length - (intOf iv).toNat)
 case atStart=>exact⟨0,aV _,rfl,rfl,eo⟩
 case round=>
  obtain⟨i,hi,rfl,rfl,H⟩:=hrel;clear eo;obtain⟨c0,c1,c2⟩:=H.o.1.1.cells;have p1:=(H.o.1.2.cell (p:=⟨D,z+v,none⟩) fM).trans M.o.1;by_cases ab:i<l.length
  ·obtain⟨gl,ol,rfl,cR,l1⟩:=(De.o.aa H.o.1.2) i ab;obtain⟨l6,mR⟩:=lQ.o.nat ab;(have wY:i<(ag l).length:=by rw[gM];exact ab);have dN:=kZ.o i wY;rw[uY ab] at dN;have Eo:=po.o i;rw[<- l6] at l1;generalize l[i].toNat=u at *;obtain⟨a6,bh,bu,cu,ev,aO, -,n2, -, -⟩:=(HI.o.aa H.o.1.2).vars u mR;cases ev;rw[<- jc.o u mR] at n2;obtain⟨aT,bg,an,aS,a2⟩:=(HA.o.aa H.o.1.2) u (by rw[bI];omega);cases an
   have eu:(iL A)[u]'(by rw[bI];omega)=((f u:Nat):Int):=by
    obtain⟨t,h2⟩:=mH.1 (zG.o u mR);simp only[iL,nO,h2]
   rw[eu] at a2;have bc:=zH.o u;have az:=ae.o u;have iN:Hid (pos (aw V) f ((ag l).take (i+1))=pos (aw V) f ((ag l).take i)*sz (aw V) u+f u):=dN;clear dN eu wY l6;generalize xw:pos (aw V) f ((ag l).take (i+1))=P1 at *;generalize pos (aw V) f ((ag l).take i)=F at *;generalize sz (aw V) u=su at *;generalize f u=fu at *;have t:F*su<=65536*4:=iO Eo az
   have ay:IntKind.i64.wrap ((F:Int)*(su:Int))=((F*su:Nat):Int):=by
    rw[fj, <- lW];omega
   have bz:IntKind.i64.wrap (((F*su:Nat):Int)+(fu:Int))=(P1:Int):=by
    rw[fj];have:=iN.o;omega
   generalize F*su=Q0 at *;have eO:=hid xw;clear xw t iN;go_upto_region 5 with fail
   go_quiet (fail)
   have aj:=hid (H.o.drewN nq);generalize wr.drewN nq=w2 at *;go_wp2;go_roundw
   case rel=>exact⟨i+1,al,b5,by rw[eO.o],aj⟩
   case measure=>simp[intOf];omega
  ·obtain rfl:i=l.length:=al
   rw[A6.o];have r1:=(H.o.1.2.cell (p:=⟨r,s+v,none⟩) ax).trans M.o.2.1;have E:=(H.o.1.2.cell (p:=⟨g,m+v*2+1,none⟩) G7).trans M.o.2.2.1;have y:=(H.o.1.2.cell (p:=⟨O,oa+v,none⟩) mi).trans M.o.2.2.2.1;have U:=(H.o.1.2.cell (p:=⟨j,K+T*3,none⟩) Cr).trans M.o.2.2.2.2.1;have X:=(H.o.1.2.cell (p:=⟨j,K+T*3+1,none⟩) Cr).trans M.o.2.2.2.2.2.1;have Y:=(H.o.1.2.cell (p:=⟨j,K+T*3+2,none⟩) Cr).trans M.o.2.2.2.2.2.2;have t:pos (aw V) f (ag l)*sz (aw V) v<=65536*4:=iO JS Gt;generalize pos (aw V) f (ag l)=p at *;generalize sz (aw V) v=k at *;generalize f v=x at *
   have ay:IntKind.i64.wrap ((p:Int)*(k:Int))=((p*k:Nat):Int):=by
    rw[fj, <- lW];omega
   have bz:IntKind.i64.wrap (((p*k:Nat):Int)+(x:Int))=(T:Int):=by
    rw[fj];omega
   generalize p*k=pk at *;clear av t;go_upto_region 7 with fail
   have OE:=H.o;refine gI (S:=fun u=>u.cell? ⟨w.heap.size,2,none⟩=some (.slice (some ⟨r,s,none⟩) R.length cc)/\u.cell? ⟨r,s+v,none⟩=some (.slice (some ⟨j,K,none⟩) rl.length cr)/\u.cell? ⟨w.heap.size,0,none⟩=some (.slice (some ⟨g,m,none⟩) V.length ca)/\u.cell? ⟨g,m+v*2+1,none⟩=some (.slice bv k cv)/\u.cell? ⟨O,oa+v,none⟩=some (.int .i64 (x:Nat))/\u.cell? ⟨j,K+T*3,none⟩=some (.bool fn)/\u.cell? ⟨j,K+T*3+1,none⟩=some (.string I)/\u.cell? ⟨j,K+T*3+2,none⟩=some (.string J)) ao ⟨c2,r1,c0,E,y,U,X,Y⟩ (fun n=>?_);have OE:LK w wr.drew (.slice (some ⟨g,m,none⟩) V.length ca) (.slice (some ⟨D,z,none⟩) L.length cb) (.slice (some ⟨r,s,none⟩) R.length cc):=⟨⟨H.o.1.1,H.o.1.2.drew⟩,H.o.2⟩;clear c0 c1 c2 p1 r1 E y U X Y;generalize wr.drew=u0 at *;refine ar 0 (.pointer (some ⟨w.heap.size,2,none⟩)) ?_;refine ar 1 (.slice (some ⟨r,s,none⟩) R.length cc) ?_;refine ar 2 (.int .i64 (v:Nat)) ?_;refine ar 3 (.pointer (some ⟨r,s+v,none⟩)) ?_;refine ar 4 (.slice (some ⟨j,K,none⟩) rl.length cr) ?_;refine ar 5 (.int .i64 (p:Nat)) ?_;refine ar 6 (.pointer (some ⟨w.heap.size,0,none⟩)) ?_;refine ar 7 (.slice (some ⟨g,m,none⟩) V.length ca) ?_;refine ar 8 (.int .i64 (v:Nat)) ?_;refine ar 9 (.pointer (some ⟨g,m+v*2,none⟩)) ?_;refine ar 10 (.pointer (some ⟨g,m+v*2+1,none⟩)) ?_;refine ar 11 (.slice bv k cv) ?_;refine ar 12 (.int .i64 (k:Nat)) ?_;refine ar 13 (.int .i64 (pk:Nat)) ?_;refine ar 14 (.slice (some ⟨O,oa,none⟩) A.length cd) ?_
   refine ar 15 (.int .i64 (v:Nat)) ?_;refine ar 16 (.pointer (some ⟨O,oa+v,none⟩)) ?_;refine ar 17 (.int .i64 (x:Nat)) ?_;refine ar 18 (.int .i64 (T:Nat)) ?_;refine ar 19 (.pointer (some ⟨j,K+T*3,none⟩)) ?_;refine ar 20 (.agg #[.bool fn,.string I,.string J]) ?_;(try simp only[gE,aP]);obtain⟨k0,k1,k2,f0,f1,f2⟩:=OE.2.facts;(have Z:w.heap.size≠w.heap.size+1:=al);(have S7:r≠w.heap.size+1:=al);(have S6:g≠w.heap.size+1:=al);(have S8:O≠w.heap.size+1:=al);(have q:j≠w.heap.size+1:=al);refine aG [21] (cA ?_ aF);intro K' af;go_simp;have gw:=OE.2.put fn I J;have Kn:=dV OE.1.2 (show w.heap.size<=w.heap.size+1 by omega) (.bool fn) (.string I) (.string J)
   refine af.o _ _ ⟨((dY _ _ _ _ (fun e=>Z (dh Addr.block e).symm)).trans ((dY _ _ _ _ (fun e=>Z (dh Addr.block e).symm)).trans ((dY _ _ _ _ (fun e=>Z (dh Addr.block e).symm)).trans n.1))),((dY _ _ _ _ (fun e=>S7 (dh Addr.block e).symm)).trans ((dY _ _ _ _ (fun e=>S7 (dh Addr.block e).symm)).trans ((dY _ _ _ _ (fun e=>S7 (dh Addr.block e).symm)).trans n.2.1))),((dY _ _ _ _ (fun e=>Z (dh Addr.block e).symm)).trans ((dY _ _ _ _ (fun e=>Z (dh Addr.block e).symm)).trans ((dY _ _ _ _ (fun e=>Z (dh Addr.block e).symm)).trans n.2.2.1))),((dY _ _ _ _ (fun e=>S6 (dh Addr.block e).symm)).trans ((dY _ _ _ _ (fun e=>S6 (dh Addr.block e).symm)).trans ((dY _ _ _ _ (fun e=>S6 (dh Addr.block e).symm)).trans n.2.2.2.1))),((dY _ _ _ _ (fun e=>S8 (dh Addr.block e).symm)).trans ((dY _ _ _ _ (fun e=>S8 (dh Addr.block e).symm)).trans ((dY _ _ _ _ (fun e=>S8 (dh Addr.block e).symm)).trans n.2.2.2.2.1))),((dY _ _ _ _ (fun e=>q (dh Addr.block e).symm)).trans ((dY _ _ _ _ (fun e=>q (dh Addr.block e).symm)).trans ((dY _ _ _ _ (fun e=>q (dh Addr.block e).symm)).trans n.2.2.2.2.2.1))),((dY _ _ _ _ (fun e=>q (dh Addr.block e).symm)).trans ((dY _ _ _ _ (fun e=>q (dh Addr.block e).symm)).trans ((dY _ _ _ _ (fun e=>q (dh Addr.block e).symm)).trans n.2.2.2.2.2.2.1))),((dY _ _ _ _ (fun e=>q (dh Addr.block e).symm)).trans ((dY _ _ _ _ (fun e=>q (dh Addr.block e).symm)).trans ((dY _ _ _ _ (fun e=>q (dh Addr.block e).symm)).trans n.2.2.2.2.2.2.2)))⟩ (fun ah=>?_)
   clear af K' n ah k0 k1 k2 f0 f1 f2;generalize (((u0.setCell ⟨w.heap.size+1,0,none⟩ (.bool fn)).setCell ⟨w.heap.size+1,1,none⟩ (.string I)).setCell ⟨w.heap.size+1,2,none⟩ (.string J))=u9 at *;(try simp only[gE,aP]);refine dS ao ?_ _;go_wp2;refine cj (gw.result rfl _ rfl) rfl ?_;exact⟨rfl,Kn⟩
structure NOK (V:List Vr) (L:List (List Int)) (R:List (List Fr)):Prop where
 len:L.length=V.length
 lenR:R.length=V.length
 n8:V.length<=8
 fine:fX (iL (aw V))
 up:∀v (h:v<L.length),Up L[v] V.length
 rows:∀v (h:v<L.length) (h':v<R.length),R[v].length=cnt (aw V) (ag L[v])*sz (aw V) v
theorem KR {f:Nat ->Int}:∀ {n:Nat},jr f n=0 ->∀j,j< n ->f j=0
 |0,_,j,hj=>al
 |n+1,hz,j,hj=>by
  rw[jr] at hz;by_cases e:jr f n=0
  ·rw[aA e] at hz;rcases cT j n with h |h
   ·exact KR e j h
   ·obtain rfl:j=n:=al
    exact hz
  ·rw[aD e] at hz;exact absurd hz e
theorem kN {V:List Vr} (h:bH V L R=0):NOK V L R:=by
 rw[bH] at h;by_cases a:L.length=V.length/\R.length=V.length
 ·rw[aA a] at h;by_cases b:bZ L=0
  ·rw[aA b] at h;by_cases c:oQ V=0
   ·rw[aA c] at h;obtain⟨g,i,u⟩:=ab4 a.1 b c;refine⟨a.1,a.2,al,g,fun v e=>by rw[<- a.1];exact u v e,fun v e r=>?_⟩;have d:=KR h v al;rw[lp,bY,bj r,bY,bj e] at d;by_cases f:R[v].length=cnt (aw V) (ag L[v])*sz (aw V) v
    ·exact f
    ·simp only[mE] at d;rw[aD f] at d;exact absurd d bd
   ·rw[aD c] at h;exact absurd h c
  ·rw[aD b] at h;exact absurd h b
 ·rw[aD a] at h;exact absurd h bd
def fg (V:List Vr) (L:List (List Int)) (R:List (List Fr)) (f:Nat ->Nat) (v:Nat):Fr:=bD (R.getD v []) (qL (aw V) (ag (L.getD v [])) f v)
def gO (V:List Vr) (L:List (List Int)) (R:List (List Fr)) (f:Nat ->Nat):Nat ->Rat
 |0=>1
 |k+1=>gO V L R f k*aQ (fg V L R f k)
theorem NP {V:List Vr} (h:v<L.length) (a:v<R.length):fg V L R f v=bD R[v] (qL (aw V) (ag L[v]) f v):=by
 rw[fg,bY,bj a,bY,bj h];rfl
theorem aiQ {V:List Vr} (a:NOK V L R) (e:∀u,f u<sz (aw V) u) (w:∀l∈R,fw l<=4200) (d:v<V.length):(fg V L R f v).2.1.size+(fg V L R f v).2.2.size<=4200:=by
 have c:v<L.length:=by rw[a.len];exact d
 have h:v<R.length:=by rw[a.lenR];exact d
 rw[NP c h];have b:=aad (S:=aw V) (P:=ag L[v]) e v;rw[<- a.rows v c h] at b;have g:=amu b;have i:=w R[v] (bF h);omega
theorem LK.step (h:LK w V x y z) (b:ef V V'):LK w V' x y z:=⟨h.1.step b,h.2.aa b h.2.lt⟩
variable {q:Rat}
theorem KQ (h:Fits m q) (a:m<=n):Fits n q:=by
 obtain⟨A,D,b,c,d,e⟩:=h;exact⟨A,D,b,c,aU d (F8 a),aU e (F8 a)⟩
theorem abI (f g:Fr):great f g=f∨great f g=g:=by
 rw[great];by_cases h:gz (aQ f) (aQ g)<0
 ·rw[aA h];exact .inr rfl
 ·rw[aD h];exact .inl rfl
theorem YP (q:Rat):(qF q).2.1.size+(qF q).2.2.size=qw q:=rfl
theorem Zk (m:Bool) (T:Nat ->Fr):∀k,(∀x,x<=k ->(T x).2.1.size+(T x).2.2.size+2<=8192) ->Fits ((k+1)*8192) (aQ (lr m T k))
 |0,h=>KQ (UB _ _ _) (by have:=h 0 (aq _);show (T 0).2.1.size+(T 0).2.2.size+1<=_;omega)
 |k+1,h=>by
  have a:=Zk m T k fun x c=>h x al;have b:Fits 8191 (aQ (T (k+1))):=KQ (UB _ _ _) (by have:=h (k+1) (aq _);omega);rw[lr];cases m with
  |true=>
   rw[aA rfl];rcases abI (lr true T k) (T (k+1)) with e |e
   ·rw[e];exact KQ a al
   ·rw[e];exact KQ b al
  |false=>
   rw[aD bd,mZ];exact KQ (ab2 a b) al
theorem ahj (k:Nat):2*((k+1)*8192)<=2*((k+1+1)*8192):=al
theorem ahi (k:Nat):8192<=2*((k+1+1)*8192):=al
theorem akz {f g:Fr} {A:Nat} (h1:f.2.1.size+f.2.2.size<=A) (h:g.2.1.size+g.2.2.size<=A):(great f g).2.1.size+(great f g).2.2.size<=A:=by
 rcases abI f g with e |e
 ·rw[e];exact h1
 ·rw[e];exact h
theorem RQ (m:Bool) (T:Nat ->Fr):∀k,(∀x,x<=k ->(T x).2.1.size+(T x).2.2.size+2<=8192) ->(lr m T k).2.1.size+(lr m T k).2.2.size<=2*((k+1)*8192)
 |0,h=>by have:=h 0 (aq _);rw[lr];omega
 |k+1,h=>by
  have b:=RQ m T k fun x e=>h x al;have c:=h (k+1) (aq _);have a:=Zk m T (k+1) h;rw[lr] at a⊢;cases m with
  |true=>
   rw[aA rfl];exact akz (aR b (ahj k)) (aR (aR (My _ 2) c) (ahi k))
  |false=>
   rw[aD bd] at a⊢;rw[mZ] at a;have d:=EI a;rw[YP];exact d
def Vd (most:Bool) (pf:Nat):Prop:=(∀args w,(callFunc pf args).run Tryz.prog w=.ok (.enter pf args) w)/\∀(f g:Fr) (V:World),f.2.1.size+f.2.2.size<=100000 ->g.2.1.size+g.2.2.size<=100000 ->du pf #[iB f,iB g] V fun e w'=>e=.returned (iB (if most then great f g else qF (aQ f+aQ g)))/\ef V w'
theorem ag3:Vd false 47:=⟨enters_of Tryz.func47 ao rfl,fun f g V h a=>alu (n:=f.1) (m:=g.1) (x:=f.2.1) (y:=f.2.2) (u:=g.2.1) (v:=g.2.2) (w:=V) (aQ f+aQ g) rfl rfl rfl h a⟩
theorem ag4:Vd true 233:=⟨enters_of Tryz.func233 ao rfl,fun f g V h a=>aky f g V h a⟩
theorem Zm (m:Bool) (s:Nat) (M:Vd m s) (z D E t j:Nat) (a c:Option Addr) (ca cc:Nat) (sizes:List Int) (lb:Array Value) (l:List Fr) (k v n:Nat) (P:Nat ->Nat) (Q:∀x,x< n ->P x<l.length) (cK:1<=n) (mW:n<=4) (gg:v<sizes.length) (y7:sizes[v]=(n:Int)) (w:World)
  (ad:z<w.heap.size) (xh:w.cell? ⟨z,0,none⟩=some (.func (.func s) #[] #[])) (xD:D<w.heap.size) (xs:w.cell? ⟨D,0,none⟩=some (.slice a sizes.length ca)) (Hg:E<w.heap.size) (xv:w.cell? ⟨E,0,none⟩=some (.int .i64 (v:Nat))) (uy:t<w.heap.size) (xc:w.cell? ⟨t,1,none⟩=some (.slice c l.length cc)) (R:j<w.heap.size) (xf:w.cell? ⟨j,0,none⟩=some (.func (.func 208) #[] lb)) (hs:aJ w a sizes) (hf:aW w c l) (h1:Cw 8192 l)
  (Z:∀x,x< n ->∀V,ef w V ->du 208 (#[.int .i64 (k:Nat),.int .i64 (x:Nat)]++lb) V fun e w'=>e=.returned (.int .i64 (P x:Nat))/\ef V w'):
  du 211 #[.int .i64 (k:Nat),.pointer (some ⟨z,0,none⟩),.pointer (some ⟨D,0,none⟩),.pointer (some ⟨E,0,none⟩),.pointer (some ⟨t,0,none⟩),.pointer (some ⟨j,0,none⟩)] w (eS w (iB (qF (aQ (lr m (fun x=>bD l (P x)) (n - 1)))))):=by
 obtain⟨g,o,rfl,hg,O⟩:=hs v gg;rw[y7] at O;have L:∀x,x< n ->(bD l (P x)).2.1.size+(bD l (P x)).2.2.size+2<=8192:=fun x q=>h1 _ (Q x q);have Am:=RQ m (fun x=>bD l (P x)) (n - 1) fun x q=>L x al
 have X:∀W,ef w W ->∀A,A<W.heap.size ->W.cell? ⟨A,0,none⟩=some (.int .i64 (k:Nat)) ->du 212 #[.agg #[.func (.func s) #[] #[]],.int .i64 (n:Nat),.func (.func 213) #[] #[.pointer (some ⟨t,0,none⟩),.pointer (some ⟨j,0,none⟩),.pointer (some ⟨A,0,none⟩)]] W (eS W (iB (lr m (fun x=>bD l (P x)) (n - 1)))):=by
  intro W Y A U xk;refine aiY s 213 #[] _ M.1 (enters_of Tryz.func213 ao rfl) n (fun x=>bD l (P x)) (lr m (fun x=>bD l (P x))) W cK al ?_ ?_ rfl
  ·intro x q V d;have b:=Y.trans (d.af Y.size);exact ahq t j A c cc lb l k x (P x) (Q x q) V (aU uy b.size) ((b.cell (p:=⟨t,1,none⟩) uy).trans xc) (aU R b.size) ((b.cell (p:=⟨j,0,none⟩) R).trans xf) (aU U d.size) ((d.cell (p:=⟨A,0,none⟩) U).trans xk) (hf.aa b) fun V' ae=>Z x q V' (b.trans (ae.af b.size))
  ·intro x q V d;have e1:=RQ m (fun x=>bD l (P x)) x fun y hy=>L y al;have e2:=L (x+1) q;exact M.2 _ _ V al (by show (bD l (P (x+1))).2.1.size+(bD l (P (x+1))).2.2.size<=_;omega)
 have T:=hid X;have HC:=hid (fun V:World=>Qw (w:=V) (aQ (lr m (fun x=>bD l (P x)) (n - 1))) rfl (show (lr m (fun x=>bD l (P x)) (n - 1)).2.1.size+(lr m (fun x=>bD l (P x)) (n - 1)).2.2.size<=100000 by omega));rw[OZ];generalize aQ (lr m (fun x=>bD l (P x)) (n - 1))=r at *;generalize lr m (fun x=>bD l (P x)) (n - 1)=f at *;clear X Am L Z hf hs Q M xc xf;obtain⟨fn,fx,fy⟩:=f;simp only at HC T;have aj:(0:Int)<=(v:Int):=al
 have pT:(v:Int)<(sizes.length:Int):=al
 have i:aI ((w.alloc (.cells #[.int .i64 (k:Nat)] 3)).alloc (FC false ⟨#[]⟩ ⟨#[]⟩)) (w.heap.size+1) false ⟨#[]⟩ ⟨#[]⟩:=aI.at aE _ _ _;have J:Boxed ((w.alloc (.cells #[.int .i64 (k:Nat)] 3)).alloc (FC false ⟨#[]⟩ ⟨#[]⟩)) w.heap.size 3 (.int .i64 (k:Nat)):=(a8 w _ _).alloc _;have b:ef w ((w.alloc (.cells #[.int .i64 (k:Nat)] 3)).alloc (FC false ⟨#[]⟩ ⟨#[]⟩)):=((au _ w).alloc (aq _) _).alloc aE _;go_enter Tryz.func211,Tryz.ntmps211;go_upto_region 1 with fail
 generalize ((w.alloc (.cells #[.int .i64 (k:Nat)] 3)).alloc (FC false ⟨#[]⟩ ⟨#[]⟩))=W at *;replace i:=i.drew;replace b:=b.drew;replace J:Boxed W.drew w.heap.size 3 (.int .i64 (k:Nat)):=J;have ab:∀u,ef w u ->u.cell? ⟨z,0,none⟩=some (.func (.func s) #[] #[])/\u.cell? ⟨D,0,none⟩=some (.slice (some ⟨g,o,none⟩) sizes.length ca)/\u.cell? ⟨E,0,none⟩=some (.int .i64 (v:Nat))/\u.cell? ⟨g,o+v,none⟩=some (.int .i64 (n:Nat)):=fun u h=>⟨(h.cell (p:=⟨z,0,none⟩) ad).trans xh,(h.cell (p:=⟨D,0,none⟩) xD).trans xs,(h.cell (p:=⟨E,0,none⟩) Hg).trans xv,(h.cell (p:=⟨g,_,none⟩) hg).trans O⟩;have HELD:=hid ab;clear ab xh xs xv O;refine gI (S:=fun u=>u.cell? ⟨z,0,none⟩=some (.func (.func s) #[] #[])/\u.cell? ⟨D,0,none⟩=some (.slice (some ⟨g,o,none⟩) sizes.length ca)/\u.cell? ⟨E,0,none⟩=some (.int .i64 (v:Nat))/\u.cell? ⟨g,o+v,none⟩=some (.int .i64 (n:Nat))) ao (HELD.o _ b) (fun I=>?_);generalize W.drew=u0 at *;refine ar 0 (.agg #[.func (.func s) #[] #[]]) ?_;refine ar 1 (.slice (some ⟨g,o,none⟩) sizes.length ca) ?_;refine ar 2 (.int .i64 (v:Nat)) ?_;refine ar 3 (.pointer (some ⟨g,o+v,none⟩)) ?_;refine ar 4 (.int .i64 (n:Nat)) ?_;refine ar 5 (.func (.func 213) #[] #[.pointer (some ⟨t,0,none⟩),.pointer (some ⟨j,0,none⟩),.pointer (some ⟨w.heap.size,0,none⟩)]) ?_;refine aG [6] (cA ?_ aF);intro F K;go_simp;refine(T.o _ b _ J.lt J.cell).af ?_;rintro e u1 ⟨rfl,d⟩;replace i:=i.aa d i.lt;clear J
 replace b:=b.trans (d.af b.size);refine K.o _ _ (HELD.o _ b) (fun H=>?_);clear K F I;have I:=H;clear H d;refine aG [7] (cA ?_ aF);intro F K;go_simp;refine(HC.o _).af ?_;rintro e u2 ⟨rfl,d⟩;replace i:=i.aa d i.lt;replace b:=b.trans (d.af b.size);refine K.o _ _ (HELD.o _ b) (fun H=>?_);clear K F I;have I:=H;clear H d;try simp only[gE,aP]
 obtain⟨k0,k1,k2,f0,f1,f2⟩:=i.facts;refine aG [8] (cA ?_ aF);intro F K;go_simp;have ai:=i.put (bw r) (nu r) (de r);have tq:=dV b (g:=w.heap.size+1) al (.bool (bw r)) (.string (nu r)) (.string (de r));generalize (((u2.setCell ⟨w.heap.size+1,0,none⟩ (.bool (bw r))).setCell ⟨w.heap.size+1,1,none⟩ (.string (nu r))).setCell ⟨w.heap.size+1,2,none⟩ (.string (de r)))=v9 at *;refine K.o _ _ (HELD.o _ tq) (fun _=>dS ao ?_ _);clear K F I;go_wp2;refine cj (ai.result rfl _ rfl) rfl ?_;exact⟨rfl,tq⟩
def OH (w V:World) (s u v x:Value):Prop:=Boxed V w.heap.size 22 s/\NR w V (w.heap.size+1) (w.heap.size+1+1+1) u v/\Boxed V (w.heap.size+1+1) 3 x
theorem OH.step {s u v:Value} (h:OH w V s u v x) (b:ef V V'):OH w V' s u v x:=⟨aX h.1 b,h.2.1.step b,aX h.2.2 b⟩
theorem OH.new (w:World) (s u v x:Value):OH w ((((w.alloc (.cells #[s] 22)).alloc (TC u v)).alloc (.cells #[x] 3)).alloc (TC (.slice none 0 0) (.slice none 0 0))) s u v x:=by
 have a:Boxed (((w.alloc (.cells #[s] 22)).alloc (TC u v)).alloc (.cells #[x] 3)) (w.heap.size+1+1) 3 x:=by
  have h:=a8 ((w.alloc (.cells #[s] 22)).alloc (TC u v)) 3 x;rwa [dE,dE] at h
 exact⟨(((a8 w _ _).alloc _).alloc _).alloc _,⟨((bE.at aE _ _).alloc _).alloc _,bE.at aE _ _,((((au _ w).alloc (aq _) _).alloc aE _).alloc (by simp;omega) _).alloc (by simp;omega) _⟩,a.alloc _⟩
theorem OH.off {s u v:Value} (h:OH w V s u v x) (B j:Nat) (y:Value) (a:w.heap.size+1+1+1<B):OH w (V.setCell ⟨B,j,none⟩ y) s u v x:=⟨ic h.1 B j y al,h.2.1.off B j y al al al,ic h.2.2 B j y al⟩
theorem OH.top {s u v:Value} (h:OH w V s u v x):w.heap.size+1+1+1<V.heap.size:=h.2.1.2.1.lt
theorem RR (S vars rest:List Nat) (v:Nat) (m:Bool) (l:List Fr):(qJ S vars rest v m l).length=cnt S rest:=by simp[qJ]
theorem Zl (S vars rest:List Nat) (v:Nat) (m:Bool) (l:List Fr) (h:k<(qJ S vars rest v m l).length):(qJ S vars rest v m l)[k]=qF (aQ (lr m (fun x=>bD l (pos S (aM (aY S rest k) v x) vars)) (sz S v - 1))):=by simp[qJ]
theorem aeT (a b c:Option Addr) (ca cb cc:Nat) (sizes vars:List Int) (l:List Fr) (v:Nat) (w:World) (hs:aJ w a sizes) (hv:aJ w b vars) (hf:aW w c l) (hn:sizes.length<=140737488355328) (hm:vars.length<=140737488355328) (q:j7 sizes vars l.length=0) (hw:Cw 8192 l) (aj:vars.contains (v:Int)=true) (P:v<sizes.length):
  du 164 #[.slice a sizes.length ca,.agg #[.slice b vars.length cb,.slice c l.length cc],.int .i64 (v:Nat),.bool false] w fun e w'=>uD w.heap.size (bS vars (v:Int)) (qJ (ag sizes) (ag vars) (ag (bS vars (v:Int))) v false l) 0 e w'/\ef w w':=by
 obtain⟨S,r,ak⟩:=AO q;have U:=hid (fun V h=>Jt b cb vars (v:Int) V h hm);rw[aj] at U;have O:=fun V Q R=>DR a b c ca cb cc l.length sizes vars V Q R hn hm;rw[q] at O;have HC:=hid O;clear O;have ax:(bS vars (v:Int)).length<=vars.length:=pH _ _;have SI:=r.length;have rR:=S.eight;have cS:=hid S;have lQ:=hid r;have Y:=hid (uh r (v:Int));have E8:=hid (NS (v:=v) r);have po:=hid (fun K (hK:K<cnt (ag sizes) (ag (bS vars (v:Int)))) x (L:x<sz (ag sizes) v)=>QW q hK L);have fA:=RR (ag sizes) (ag vars) (ag (bS vars (v:Int))) v false l;have qo:=hid (fun (k:Nat) (h:k<(qJ (ag sizes) (ag vars) (ag (bS vars (v:Int))) v false l).length)=>Zl (ag sizes) (ag vars) (ag (bS vars (v:Int))) v false l h);have mq:=hid (fun V h=>QV b cb vars (v:Int) V h al);generalize qJ (ag sizes) (ag vars) (ag (bS vars (v:Int))) v false l=F at *;generalize bS vars (v:Int)=rest at *;have ab:=hid (fun V d s Q R=>Rl a d b ca s cb sizes rest vars v V Q R S r P);have HF:=hid hf;have HW:=hid hw;have fO:=hid fA;have HN:=hid (S.sz_eq P);have uK:=hid (S.sz_le v);have tJ:=hid (nT S.pos v);have EW:=hid P;clear aj q S r ak hf hw fA;have t:=hid hs;have D:=hid hv;have H:=OH.new w (.slice a sizes.length ca) (.slice b vars.length cb) (.slice c l.length cc) (.int .i64 (v:Nat));have n:=H.2.1.1.c0;have c1:=H.2.1.1.c1;have u:=H.1.cell;go_enter Tryz.func164,Tryz.ntmps164;go_wp2_with fail
 generalize ((((w.alloc (.cells #[.slice a sizes.length ca] 22)).alloc (TC (.slice b vars.length cb) (.slice c l.length cc))).alloc (.cells #[.int .i64 (v:Nat)] 3)).alloc (TC (.slice none 0 0) (.slice none 0 0)))=W at *;refine(HC.o _ (t.o.aa H.2.1.2.2) (D.o.aa H.2.1.2.2)).af ?_;rintro e w1 ⟨rfl,ae⟩;replace H:=H.step ae;clear n c1 u ae;have n:=H.2.1.1.c0;have y:=H.2.2.cell;go_wp2_with fail
 refine(U.o _ (D.o.aa H.2.1.2.2)).af ?_;rintro e w2 ⟨rfl,A⟩;replace H:=H.step A;clear n y A U;go_wp2_with fail
 refine(XM _).af ?_;rintro e j ⟨rfl,ah⟩;replace H:=H.step ah;clear ah;have ai:ef j (j.alloc (.cells #[.func (.func 47) #[] #[]] 242)):=(au _ j).alloc (aq _) _;have J:Boxed (j.alloc (.cells #[.func (.func 47) #[] #[]] 242)) j.heap.size 242 (.func (.func 47) #[] #[]):=a8 j _ _;have bT:=H.top;replace H:=H.step ai;clear ai;have n:=H.2.1.1.c0;have y:=H.2.2.cell;go_wp2_with fail
 clear n y;generalize (j.alloc (.cells #[.func (.func 47) #[] #[]] 242))=w5 at *;generalize j.heap.size=X at *;refine(mq.o _ (D.o.aa H.2.1.2.2)).af ?_;rintro e w6 ⟨d,s,rfl,i,mX,T⟩;have Fs:=hid (mX.up H.2.1.2.2.size);clear mX;replace H:=H.step T;replace J:=aX J T;clear T mq;have n:=H.2.1.1.c0;have y:=H.2.2.cell;have u:=H.1.cell;go_wp2_with fail
 refine(ab.o _ d s (t.o.aa H.2.1.2.2) (D.o.aa H.2.1.2.2)).af ?_;rintro e m ⟨f,rfl,M,E⟩;replace H:=H.step E;replace J:=aX J E;replace i:=i.aa E;obtain⟨z,rfl⟩:=M.shape;clear n y u E ab;generalize w6.heap.size=n3 at *;have Z:ef m (m.alloc (.cells #[.func (.func 208) #[] z] 23)):=(au _ m).alloc (aq _) _;have hY:Boxed (m.alloc (.cells #[.func (.func 208) #[] z] 23)) m.heap.size 23 (.func (.func 208) #[] z):=a8 m _ _;replace H:=H.step Z;replace J:=aX J Z;replace M:=M.aa Z;replace i:=i.aa Z;have u:=H.1.cell;go_wp2_with fail
 clear Z u;generalize (m.alloc (.cells #[.func (.func 208) #[] z] 23))=w8 at *;generalize m.heap.size=FD at *
 have sZ:=KT a d ca s sizes rest 211 #[.pointer (some ⟨X,0,none⟩),.pointer (some ⟨w.heap.size,0,none⟩),.pointer (some ⟨w.heap.size+1+1,0,none⟩),.pointer (some ⟨w.heap.size+1,0,none⟩),.pointer (some ⟨FD,0,none⟩)] (enters_of Tryz.func211 ao rfl) F w8 (t.o.aa H.2.1.2.2) i cS.o Y.o fO.o (fun k q V g=>by
  rw[qo.o k q];have dH:k<cnt (ag sizes) (ag rest):=by rw[<- fO.o];exact q
  have I:=H.2.1.2.2.trans (g.af H.2.1.2.2.size);refine Zm false 47 ag3 X w.heap.size (w.heap.size+1+1) (w.heap.size+1) FD a c ca cc sizes z l k v (sz (ag sizes) v) (fun x=>pos (ag sizes) (aM (aY (ag sizes) (ag rest) k) v x) (ag vars)) (fun x L=>po.o k dH x L) tJ.o uK.o EW.o HN.o.symm V (aU J.lt g.size) (aX J g).cell (aU H.1.lt g.size) (aX H.1 g).cell (aU H.2.2.lt g.size) (aX H.2.2 g).cell (aU H.2.1.1.lt g.size) ((g.cell (p:=⟨w.heap.size+1,1,none⟩) H.2.1.1.lt).trans H.2.1.1.c1) (aU hY.lt g.size) (aX hY g).cell (t.o.aa I) (HF.o.aa I) HW.o ?_;intro x L V' ad;have A:=g.trans (ad.af g.size);have h4:=uK.o;exact((M.aa A).calls (t.o.aa (I.trans (ad.af I.size))) (i.aa A) cS.o Y.o lQ.o E8.o dH al))
 have Bp:=hid sZ;clear sZ;refine Bp.o.af ?_;rintro e w9 ⟨G,rfl,hG,an,pZ⟩;have av:=H.top;replace H:=H.step pZ;replace i:=i.aa pZ;obtain⟨k0,k1,f0,f1⟩:=H.2.1.2.1.facts;obtain⟨e1,e2,e3⟩:=H.2.1.fin al (cb:=s) (cc:=F.length) Fs.o al i an al (.slice d rest.length s) (.slice (some ⟨G,0,none⟩) F.length F.length) rfl rfl;go_wp2;refine cj (e1.result2 rfl _ rfl) rfl ?_;exact⟨e2,e3⟩
theorem aeU (a b c:Option Addr) (ca cb cc:Nat) (sizes vars:List Int) (l:List Fr) (v:Nat) (w:World) (hs:aJ w a sizes) (hv:aJ w b vars) (hf:aW w c l) (hn:sizes.length<=140737488355328) (hm:vars.length<=140737488355328) (q:j7 sizes vars l.length=0) (hw:Cw 8192 l) (ai:vars.contains (v:Int)=true) (R:v<sizes.length):
  du 164 #[.slice a sizes.length ca,.agg #[.slice b vars.length cb,.slice c l.length cc],.int .i64 (v:Nat),.bool true] w fun e w'=>uD w.heap.size (bS vars (v:Int)) (qJ (ag sizes) (ag vars) (ag (bS vars (v:Int))) v true l) 0 e w'/\ef w w':=by
 obtain⟨S,r,aj⟩:=AO q;have Y:=hid (fun V h=>Jt b cb vars (v:Int) V h hm);rw[ai] at Y;have Q:=fun V U X=>DR a b c ca cb cc l.length sizes vars V U X hn hm;rw[q] at Q;have HC:=hid Q;clear Q;have av:(bS vars (v:Int)).length<=vars.length:=pH _ _;have SI:=r.length;have rR:=S.eight;have cS:=hid S;have lQ:=hid r;have C7:=hid (uh r (v:Int));have E8:=hid (NS (v:=v) r);have po:=hid (fun K (hK:K<cnt (ag sizes) (ag (bS vars (v:Int)))) x (O:x<sz (ag sizes) v)=>QW q hK O);have fA:=RR (ag sizes) (ag vars) (ag (bS vars (v:Int))) v true l;have qo:=hid (fun (k:Nat) (h:k<(qJ (ag sizes) (ag vars) (ag (bS vars (v:Int))) v true l).length)=>Zl (ag sizes) (ag vars) (ag (bS vars (v:Int))) v true l h);have mq:=hid (fun V h=>QV b cb vars (v:Int) V h al);generalize qJ (ag sizes) (ag vars) (ag (bS vars (v:Int))) v true l=F at *;generalize bS vars (v:Int)=rest at *;have ab:=hid (fun V d s U X=>Rl a d b ca s cb sizes rest vars v V U X S r R);have HF:=hid hf;have HW:=hid hw;have fO:=hid fA;have HN:=hid (S.sz_eq R);have uK:=hid (S.sz_le v);have tJ:=hid (nT S.pos v);have EW:=hid R;clear ai q S r aj hf hw fA;have u:=hid hs;have I:=hid hv;have H:=OH.new w (.slice a sizes.length ca) (.slice b vars.length cb) (.slice c l.length cc) (.int .i64 (v:Nat));have n:=H.2.1.1.c0;have c1:=H.2.1.1.c1;have y:=H.1.cell;go_enter Tryz.func164,Tryz.ntmps164;go_wp2_with fail
 generalize ((((w.alloc (.cells #[.slice a sizes.length ca] 22)).alloc (TC (.slice b vars.length cb) (.slice c l.length cc))).alloc (.cells #[.int .i64 (v:Nat)] 3)).alloc (TC (.slice none 0 0) (.slice none 0 0)))=W at *;refine(HC.o _ (u.o.aa H.2.1.2.2) (I.o.aa H.2.1.2.2)).af ?_;rintro e w1 ⟨rfl,ae⟩;replace H:=H.step ae;clear n c1 y ae;have n:=H.2.1.1.c0;have z:=H.2.2.cell;go_wp2_with fail
 refine(Y.o _ (I.o.aa H.2.1.2.2)).af ?_;rintro e w2 ⟨rfl,D⟩;replace H:=H.step D;clear n z D Y;go_wp2_with fail
 refine(XM _).af ?_;rintro e j ⟨rfl,ah⟩;replace H:=H.step ah;clear ah;have t:ef j (j.alloc (.cells #[.func (.func 47) #[] #[]] 242)):=(au _ j).alloc (aq _) _;have J:Boxed (j.alloc (.cells #[.func (.func 47) #[] #[]] 242)) j.heap.size 242 (.func (.func 47) #[] #[]):=a8 j _ _;have bT:=H.top;replace H:=H.step t;clear t;go_wp2_with fail
 generalize (j.alloc (.cells #[.func (.func 47) #[] #[]] 242))=ax at *;generalize j.heap.size=E at *;refine(akx _).af ?_;rintro e w4 ⟨rfl,t⟩;replace H:=H.step t;replace J:=aX J t;clear t;have j0:=J.cell;have j1:=J.frozen;replace H:=H.off E 0 (.func (.func 233) #[] #[]) bT;have n:=H.2.1.1.c0;have z:=H.2.2.cell;replace J:=J.set (.func (.func 233) #[] #[]);go_wp2_with fail
 clear j0 j1 n z;generalize (w4.setCell ⟨E,0,none⟩ (.func (.func 233) #[] #[]))=w5 at *;refine(mq.o _ (I.o.aa H.2.1.2.2)).af ?_;rintro e w6 ⟨d,s,rfl,i,mX,T⟩;have Fs:=hid (mX.up H.2.1.2.2.size);clear mX;replace H:=H.step T;replace J:=aX J T;clear T mq;have n:=H.2.1.1.c0;have z:=H.2.2.cell;have y:=H.1.cell;go_wp2_with fail
 refine(ab.o _ d s (u.o.aa H.2.1.2.2) (I.o.aa H.2.1.2.2)).af ?_;rintro e m ⟨f,rfl,P,L⟩;replace H:=H.step L;replace J:=aX J L;replace i:=i.aa L;obtain⟨A,rfl⟩:=P.shape;clear n z y L ab;generalize w6.heap.size=n3 at *;have Z:ef m (m.alloc (.cells #[.func (.func 208) #[] A] 23)):=(au _ m).alloc (aq _) _;have hY:Boxed (m.alloc (.cells #[.func (.func 208) #[] A] 23)) m.heap.size 23 (.func (.func 208) #[] A):=a8 m _ _;replace H:=H.step Z;replace J:=aX J Z;replace P:=P.aa Z;replace i:=i.aa Z;have y:=H.1.cell;go_wp2_with fail
 clear Z y;generalize (m.alloc (.cells #[.func (.func 208) #[] A] 23))=w8 at *;generalize m.heap.size=FD at *
 have sZ:=KT a d ca s sizes rest 211 #[.pointer (some ⟨E,0,none⟩),.pointer (some ⟨w.heap.size,0,none⟩),.pointer (some ⟨w.heap.size+1+1,0,none⟩),.pointer (some ⟨w.heap.size+1,0,none⟩),.pointer (some ⟨FD,0,none⟩)] (enters_of Tryz.func211 ao rfl) F w8 (u.o.aa H.2.1.2.2) i cS.o C7.o fO.o (fun k q V g=>by
  rw[qo.o k q];have dH:k<cnt (ag sizes) (ag rest):=by rw[<- fO.o];exact q
  have M:=H.2.1.2.2.trans (g.af H.2.1.2.2.size);refine Zm true 233 ag4 E w.heap.size (w.heap.size+1+1) (w.heap.size+1) FD a c ca cc sizes A l k v (sz (ag sizes) v) (fun x=>pos (ag sizes) (aM (aY (ag sizes) (ag rest) k) v x) (ag vars)) (fun x O=>po.o k dH x O) tJ.o uK.o EW.o HN.o.symm V (aU J.lt g.size) (aX J g).cell (aU H.1.lt g.size) (aX H.1 g).cell (aU H.2.2.lt g.size) (aX H.2.2 g).cell (aU H.2.1.1.lt g.size) ((g.cell (p:=⟨w.heap.size+1,1,none⟩) H.2.1.1.lt).trans H.2.1.1.c1) (aU hY.lt g.size) (aX hY g).cell (u.o.aa M) (HF.o.aa M) HW.o ?_;intro x O V' ad;have D:=g.trans (ad.af g.size);have h4:=uK.o;exact((P.aa D).calls (u.o.aa (M.trans (ad.af M.size))) (i.aa D) cS.o C7.o lQ.o E8.o dH al))
 have Bp:=hid sZ;clear sZ;refine Bp.o.af ?_;rintro e w9 ⟨G,rfl,hG,ak,pZ⟩;have an:=H.top;replace H:=H.step pZ;replace i:=i.aa pZ;obtain⟨k0,k1,f0,f1⟩:=H.2.1.2.1.facts;obtain⟨e1,e2,e3⟩:=H.2.1.fin al (cb:=s) (cc:=F.length) Fs.o al i ak al (.slice d rest.length s) (.slice (some ⟨G,0,none⟩) F.length F.length) rfl rfl;go_wp2;refine cj (e1.result2 rfl _ rfl) rfl ?_;exact⟨e2,e3⟩
theorem YA:∀ {a b:List Int},a.Pairwise (·<·) ->b.Pairwise (·<·) ->(∀x,x∈a↔x∈b) ->a=b
 |[],[],_,_,_=>rfl
 |[],y::b,_,_,h=>absurd ((h y).2 dp) aE
 |x::a,[],_,_,h=>absurd ((h x).1 dp) aE
 |x::a,y::b,ha,hb,h=>by
  rw[List.pairwise_cons] at ha hb
  have e:x=y:=by
   have c:=(h x).1 dp;have d:=(h y).2 dp;rw[dU] at c d;rcases c with c |c
   ·exact c
   ·rcases d with d |d
    ·exact d.symm
    ·have:=hb.1 x c;have:=ha.1 y d;omega
  subst e;rw[YA ha.2 hb.2 fun z=>?_];constructor
  ·intro f;have c:=(h z).1 (dF _ f);have:=ha.1 z f;rw[dU] at c;rcases c with c |c
   ·omega
   ·exact c
  ·intro f;have c:=(h z).2 (dF _ f);have:=hb.1 z f;rw[dU] at c;rcases c with c |c
   ·omega
   ·exact c
theorem acB {d:Array Int} (s:∀i j,i<=j ->j<d.size ->d[i]!<=d[j]!):∀m,m<=d.size ->(compactUpTo d m).Pairwise (·<·)/\∀x,x∈compactUpTo d m↔∃j,j<m/\d[j]! =x
 |0,_=>⟨by simp[compactUpTo],fun x=>by simp[compactUpTo]⟩
 |m+1,hm=>by
  obtain⟨c,b⟩:=acB s m al;rw[compactUpTo_succ];by_cases k:keeps d m=true
  ·rw[aA k];constructor
   ·rw[List.pairwise_append];refine⟨c,aE,fun x g y f=>?_⟩;obtain⟨j,a,rfl⟩:=(b x).1 g;rw[dT] at f;subst f;rw[keeps,gY] at k;rcases k with k |k
    ·omega
    ·have n:=s j (m - 1) al al;have o:=s (m - 1) m al al;omega
   ·intro x;rw[ck,b,dT];constructor
    ·rintro(⟨j,a,rfl⟩ |rfl)
     ·exact⟨j,al,rfl⟩
     ·exact⟨m,al,rfl⟩
    ·rintro⟨j,a,rfl⟩;by_cases e:j=m
     ·exact .inr (by rw[e])
     ·exact .inl ⟨j,al,rfl⟩
  ·rw[aD k,BP];refine⟨c,fun x=>?_⟩;rw[b];have H:¬(m=0∨d[m]!≠d[m - 1]!):=fun h=>k (by rw[keeps,gY];exact h);have p:m≠0:=fun h=>H (.inl h);have l:d[m]! =d[m - 1]!:=I6 fun h=>H (.inr h);constructor
   ·rintro⟨j,a,rfl⟩;exact⟨j,al,rfl⟩
   ·rintro⟨j,a,rfl⟩;by_cases e:j=m
    ·exact⟨m - 1,al,by rw[e,l]⟩
    ·exact⟨j,al,rfl⟩
def kr (la lb:List Int):List Int:=Lib.compact ((la++lb).mergeSort fun x y=>decide (x<=y))
theorem Jl (la lb:List Int):(kr la lb).Pairwise (·<·)/\∀x,x∈kr la lb↔x∈la∨x∈lb:=by
 have p:((la++lb).mergeSort fun x y=>decide (x<=y)).Pairwise (fun x y=>decide (x<=y)=true):=List.pairwise_mergeSort (fun a b c d f=>by simp at d f⊢;omega) (fun a b=>by simp;omega) _;have m:∀x,x∈((la++lb).mergeSort fun x y=>decide (x<=y))↔x∈la∨x∈lb:=fun x=>by rw[List.mem_mergeSort,ck]
 rw[kr];generalize ((la++lb).mergeSort fun x y=>decide (x<=y))=s at p m
 have g:∀i j,i<=j ->j<s.toArray.size ->s.toArray[i]!<=s.toArray[j]!:=fun i j n h=>by
  have l:j<s.length:=by simpa using h
  rw[IE s.toArray i al,IE s.toArray j h];by_cases e:i=j
  ·subst e;exact Int.le_refl _
  ·have:=zU.1 p i j al l al;simpa using this
 obtain⟨d,f⟩:=acB g s.toArray.size (aq _);have e:Lib.compact s=compactUpTo s.toArray s.toArray.size:=by rw[Lib.compact];simp
 rw[e];refine⟨d,fun x=>?_⟩;rw[f, <- m];constructor
 ·rintro⟨j,h,rfl⟩;rw[IE s.toArray j h];simp
 ·intro k;obtain⟨j,h,rfl⟩:=jz k;exact⟨j,by simpa using h,by rw[IE s.toArray j (by simpa using h)];simp⟩
theorem aeD:kr [] []=[]:=List.eq_nil_iff_forall_not_mem.2 fun x h=>by have:=((Jl [] []).2 x).1 h;simp at this
theorem ai4 {k:Int} {l:List Int}:wP k l=true↔k∈l:=by simp[wP]
theorem FZ {lb:List Int} (b:Up la n) (c:Up lb n):Up (kr la lb) n:=by
 obtain⟨h,a⟩:=Jl la lb;exact rG.2 ⟨fun x d=>((a x).1 d).elim ((rG.1 b).1 x) ((rG.1 c).1 x),h⟩
theorem aeP (a b:Option Addr) (ca cb:Nat) (la lb:List Int) (w:World) (E:aJ w a la) (F:aJ w b lb) (P:a=none ->ca=0) (Q:b=none ->cb=0) (ir:la.length<=1000) (kx:lb.length<=1000):
  du 214 #[.slice a la.length ca,.slice b lb.length cb] w fun e w'=>∃(d:Option Addr) (D:Nat),e=.returned (.slice d (kr la lb).length D)/\aJ w' d (kr la lb)/\ij w.heap.size d D/\ef w w':=by
 obtain⟨L,m⟩:∃L,L=kr la lb:=⟨_,rfl⟩;rw[<- m];have H:=hid m;have z:ef w (w.alloc (.cells #[.slice a la.length ca,.slice b lb.length cb] 22)):=(au _ w).alloc (aq _) _;have A:(w.alloc (.cells #[.slice a la.length ca,.slice b lb.length cb] 22)).heap[w.heap.size]? =some (.cells #[.slice a la.length ca,.slice b lb.length cb] 22 (0,0)):=dB _ _;have Ml:=hid (afo w.heap.size a b ca cb la lb (w.alloc (.cells #[.slice a la.length ca,.slice b lb.length cb] 22)) aE (by rw[bG _ _ _ _ _ (0,0) A];rfl) (by rw[bG _ _ _ _ _ (0,0) A];rfl) (E.aa z) (F.aa z) P Q ir kx);clear m E F P Q A;go_enter Tryz.func214,Tryz.ntmps214;go_wp2_with fail
 generalize (w.alloc (.cells #[.slice a la.length ca,.slice b lb.length cb] 22))=W at *;refine Ml.o.af ?_;rintro e f ⟨v,rfl,I,R⟩;have u:=z.trans (R.af z.size);have ak:=z.size;rcases I.cases with ⟨rfl,V⟩ |⟨g,cap,rfl,aj,p,ai,ae,r⟩
 ·have X:L=[]:=by
   have i:la=[]:=(List.append_eq_nil_iff.1 V).1;have l:lb=[]:=(List.append_eq_nil_iff.1 V).2;rw[H.o,i,l,aeD]
  subst X;go_wp2_with fail
  refine(Tryz.slices_Sort_int_none none 0 _).af ?_;rintro e h ⟨rfl,rfl⟩;go_wp2_with fail
  refine(Tryz.slices_Compact_int_empty none 0 _).af ?_;rintro e w3 ⟨rfl,rfl⟩;go_wp2;go_ret;exact⟨none,0,rfl,fun k hk=>absurd hk aE,ij.nil _,u⟩
 ·have dD:(la++lb).length<=2000:=by rw[bK];omega
  have K:=Tryz.slices_Sort_int g 0 cap (la++lb) f r p al;have U:((la++lb).mergeSort fun x y=>decide (x<=y)).length=(la++lb).length:=MD _;have ah:=Lib.compact_length_le ((la++lb).mergeSort fun x y=>decide (x<=y));rw[<- show kr la lb=Lib.compact ((la++lb).mergeSort fun x y=>decide (x<=y)) from rfl, <- H.o] at ah;have Vp:=hid K;have ad:Hid (Lib.compact ((la++lb).mergeSort fun x y=>decide (x<=y))=L):=H.o.symm;generalize ((la++lb).mergeSort fun x y=>decide (x<=y))=s at *;have Z:=hid r;clear K r I ae R;generalize hLL:(la++lb).length=n at *;go_wp2_with fail
  refine Vp.o.af ?_;rintro e h ⟨rfl,q,c,rfl⟩;have S:s.toArray.size=(la++lb).toArray.size:=by simp;rw[U, <- hLL];simp
  have J:Holds (Value.int .i64) (grow (putRow (Value.int .i64) (Sort.ahead f q) g 0 s.toArray) c) g 0 s.toArray:=fun j t=>by
   obtain⟨i,l⟩:=holds_putRow (Value.int .i64) (Sort.ahead f q) g 0 _ s.toArray Z.o S j t;(have M:g<(putRow (Value.int .i64) (Sort.ahead f q) g 0 s.toArray).heap.size:=by rw[size_putRow];exact p);refine⟨(cell?_grow _ _ _ M).trans i,?_⟩;rw[frozen?_grow _ _ _ M];exact l
  have Ka:g<(grow (putRow (Value.int .i64) (Sort.ahead f q) g 0 s.toArray) c).heap.size:=aU p (Mt (w:=f) (g:=g) (n:=q) (os:=c) s.toArray).size;have O:=UU (n:=q) (os:=c) s.toArray u u.size (show w.heap.size<=g by omega);generalize grow (putRow (Value.int .i64) (Sort.ahead f q) g 0 s.toArray) c=h at *;have T:=Tryz.slices_Compact_int g 0 cap s h J al al;rw[U,ad.o] at T;have ab:=hid T;have Im:=hid J;clear T J S;go_wp2_with fail
  refine ab.o.af ?_;rintro e w3 ⟨rfl,q2,rfl⟩;go_wp2;go_ret
  have Y:(L++List.replicate (n - L.length) 0).toArray.size=s.toArray.size:=by
   simp;omega
  exact⟨some ⟨g,0,none⟩,cap,rfl,GW (holds_putRow (Value.int .i64) (Sort.ahead h q2) g 0 s.toArray _ Im.o Y) (by rw[size_putRow];exact Ka) (fun j t=>⟨by simp;omega,by simp[sH,t]⟩),ij.at al,UW _ O O.size al⟩
theorem agv (l F m s:Nat) (c d:Option Addr) (ca cb:Nat) (t x:Array Value) (la lb:List Fr) (k P Q:Nat) (hP:P<la.length) (hQ:Q<lb.length) (w:World)
  (ad:l<w.heap.size) (xa:w.cell? ⟨l,1,none⟩=some (.slice c la.length ca)) (bR:F<w.heap.size) (ya:w.cell? ⟨F,0,none⟩=some (.func (.func 232) #[] t)) (ae:m<w.heap.size) (xb:w.cell? ⟨m,1,none⟩=some (.slice d lb.length cb)) (bW:s<w.heap.size) (yb:w.cell? ⟨s,0,none⟩=some (.func (.func 232) #[] x)) (ha:aW w c la) (b:aW w d lb) (wa:Cw 100000 la) (wb:Cw 100000 lb)
  (h1:∀V,ef w V ->du 232 (#[.int .i64 (k:Nat)]++t) V fun e w'=>e=.returned (.int .i64 (P:Nat))/\ef V w')
  (h2:∀V,ef w V ->du 232 (#[.int .i64 (k:Nat)]++x) V fun e w'=>e=.returned (.int .i64 (Q:Nat))/\ef V w'):
  du 215 #[.int .i64 (k:Nat),.pointer (some ⟨l,0,none⟩),.pointer (some ⟨F,0,none⟩),.pointer (some ⟨m,0,none⟩),.pointer (some ⟨s,0,none⟩)] w (eS w (iB (qF (aQ (bD la P)*aQ (bD lb Q))))):=by
 obtain⟨g,o,rfl,hg,R,T,U⟩:=ha P hP;obtain⟨h,p,rfl,hh,X,Y,Z⟩:=b Q hQ;have N8:=wa P hP;have GL:=wb Q hQ;rw[<- kS hP] at R T U;rw[<- kS hQ] at X Y Z;have HC:=hid (fun V:World=>KW (w:=V) (aQ (bD la P)*aQ (bD lb Q)) rfl rfl rfl (show (bD la P).2.1.size+(bD la P).2.2.size<=100000 by omega) (show (bD lb Q).2.1.size+(bD lb Q).2.2.size<=100000 by omega));rw[OZ];have H1:=hid h1;have H2:=hid h2;generalize aQ (bD la P)*aQ (bD lb Q)=r at *;clear ha b h1 h2 N8 GL wa wb;generalize bD la P=f at *;generalize bD lb Q=f' at *;obtain⟨xn,xx,xy⟩:=f;obtain⟨yn,yx,yy⟩:=f';simp only at R T U X Y Z HC;have i:aI (w.alloc (FC false ⟨#[]⟩ ⟨#[]⟩)) w.heap.size false ⟨#[]⟩ ⟨#[]⟩:=aI.new w _ _ _;have a:ef w (w.alloc (FC false ⟨#[]⟩ ⟨#[]⟩)):=(au _ w).alloc (aq _) _;go_enter Tryz.func215,Tryz.ntmps215;go_upto_region 1 with fail
 generalize (w.alloc (FC false ⟨#[]⟩ ⟨#[]⟩))=W at *;replace i:=i.drew;replace a:=a.drew;have ab:∀u,ef w u ->u.cell? ⟨l,1,none⟩=some (.slice (some ⟨g,o,none⟩) la.length ca)/\u.cell? ⟨F,0,none⟩=some (.func (.func 232) #[] t)/\u.cell? ⟨m,1,none⟩=some (.slice (some ⟨h,p,none⟩) lb.length cb)/\u.cell? ⟨s,0,none⟩=some (.func (.func 232) #[] x)/\u.cell? ⟨g,o+P*3,none⟩=some (.bool xn)/\u.cell? ⟨g,o+P*3+1,none⟩=some (.string xx)/\u.cell? ⟨g,o+P*3+2,none⟩=some (.string xy)/\u.cell? ⟨h,p+Q*3,none⟩=some (.bool yn)/\u.cell? ⟨h,p+Q*3+1,none⟩=some (.string yx)/\u.cell? ⟨h,p+Q*3+2,none⟩=some (.string yy):=fun u e=>⟨(e.cell (p:=⟨l,1,none⟩) ad).trans xa,(e.cell (p:=⟨F,0,none⟩) bR).trans ya,(e.cell (p:=⟨m,1,none⟩) ae).trans xb,(e.cell (p:=⟨s,0,none⟩) bW).trans yb,(e.cell (p:=⟨g,_,none⟩) hg).trans R,(e.cell (p:=⟨g,_,none⟩) hg).trans T,(e.cell (p:=⟨g,_,none⟩) hg).trans U,(e.cell (p:=⟨h,_,none⟩) hh).trans X,(e.cell (p:=⟨h,_,none⟩) hh).trans Y,(e.cell (p:=⟨h,_,none⟩) hh).trans Z⟩;have HELD:=hid ab;clear ab R T U X Y Z xa ya xb yb
 refine gI (S:=fun u=>u.cell? ⟨l,1,none⟩=some (.slice (some ⟨g,o,none⟩) la.length ca)/\u.cell? ⟨F,0,none⟩=some (.func (.func 232) #[] t)/\u.cell? ⟨m,1,none⟩=some (.slice (some ⟨h,p,none⟩) lb.length cb)/\u.cell? ⟨s,0,none⟩=some (.func (.func 232) #[] x)/\u.cell? ⟨g,o+P*3,none⟩=some (.bool xn)/\u.cell? ⟨g,o+P*3+1,none⟩=some (.string xx)/\u.cell? ⟨g,o+P*3+2,none⟩=some (.string xy)/\u.cell? ⟨h,p+Q*3,none⟩=some (.bool yn)/\u.cell? ⟨h,p+Q*3+1,none⟩=some (.string yx)/\u.cell? ⟨h,p+Q*3+2,none⟩=some (.string yy)) ao (HELD.o _ a) (fun q=>?_);generalize W.drew=u0 at *;refine ar 0 (.pointer (some ⟨l,1,none⟩)) ?_;try simp only[gE,aP]
 refine ed 1 (.slice (some ⟨g,o,none⟩) la.length ca) ?_ ?_
 ·intro M O;obtain⟨y,z,A,D,E,H,I,J,L,v⟩:=O;go_simp
 try simp only[gE,aP]
 refine ed 2 (.func (.func 232) #[] t) ?_ ?_
 ·intro M O;obtain⟨y,z,A,D,E,H,I,J,L,v⟩:=O;go_simp
 refine ar 3 (.int .i64 (k:Nat)) ?_;refine ar 7 (.pointer (some ⟨m,1,none⟩)) ?_;try simp only[gE,aP]
 refine ed 8 (.slice (some ⟨h,p,none⟩) lb.length cb) ?_ ?_
 ·intro M O;obtain⟨y,z,A,D,E,H,I,J,L,v⟩:=O;go_simp
 try simp only[gE,aP]
 refine ed 9 (.func (.func 232) #[] x) ?_ ?_
 ·intro M O;obtain⟨y,z,A,D,E,H,I,J,L,v⟩:=O;go_simp
 refine ar 10 (.int .i64 (k:Nat)) ?_;refine aG [4] (cA ?_ aF);intro n K;go_simp;refine(H1.o _ a).af ?_;rintro e u1 ⟨rfl,b⟩;replace i:=i.aa b i.lt;replace a:=a.trans (b.af a.size);refine K.o _ _ (HELD.o _ a) (fun j=>?_);clear K n q;have q:=j;clear j b;refine ar 5 (.pointer (some ⟨g,o+P*3,none⟩)) ?_;try simp only[gE,aP]
 refine ed 6 (.agg #[.bool xn,.string xx,.string xy]) ?_ ?_
 ·intro M O;obtain⟨y,z,A,D,E,H,I,J,L,v⟩:=O;go_simp
 refine aG [11] (cA ?_ aF);intro n K;go_simp;refine(H2.o _ a).af ?_;rintro e u2 ⟨rfl,b⟩;replace i:=i.aa b i.lt;replace a:=a.trans (b.af a.size);refine K.o _ _ (HELD.o _ a) (fun j=>?_);clear K n q;have q:=j;clear j b;refine ar 12 (.pointer (some ⟨h,p+Q*3,none⟩)) ?_;try simp only[gE,aP]
 refine ed 13 (.agg #[.bool yn,.string yx,.string yy]) ?_ ?_
 ·intro M O;obtain⟨y,z,A,D,E,H,I,J,L,v⟩:=O;go_simp
 refine aG [14] (cA ?_ aF);intro n K;go_simp;refine(HC.o _).af ?_;rintro e u3 ⟨rfl,b⟩;replace i:=i.aa b i.lt;replace a:=a.trans (b.af a.size);refine K.o _ _ (HELD.o _ a) (fun j=>?_);clear K n q;have q:=j;clear j b;try simp only[gE,aP]
 obtain⟨k0,k1,k2,f0,f1,f2⟩:=i.facts;refine aG [15] (cA ?_ aF);intro n K;go_simp;have ai:=i.put (bw r) (nu r) (de r);have tq:=dV a (g:=w.heap.size) (aq _) (.bool (bw r)) (.string (nu r)) (.string (de r));generalize (((u3.setCell ⟨w.heap.size,0,none⟩ (.bool (bw r))).setCell ⟨w.heap.size,1,none⟩ (.string (nu r))).setCell ⟨w.heap.size,2,none⟩ (.string (de r)))=v9 at *;refine K.o _ _ (HELD.o _ tq) (fun _=>dS ao ?_ _);clear K n q;go_wp2;refine cj (ai.result rfl _ rfl) rfl ?_;exact⟨rfl,tq⟩
variable {j:Nat}
def Vc (w:World) (g:Nat) (x y z t:Value):Prop:=w.heap[g]? =some (.cells #[x,y,z,t] 49 (0,0))
theorem Vc.lt {t:Value} (h:Vc w g x y z t):g<w.heap.size:=(cJ.1 h).1
def PH (w V:World) (x y z t:Value):Prop:=bE V w.heap.size x y/\bE V (w.heap.size+1) z t/\bE V (w.heap.size+1+1) (.slice none 0 0) (.slice none 0 0)/\Vc V (w.heap.size+1+1+1) x y z t/\ef w V
theorem PH.step {t:Value} (h:PH w V x y z t) (b:ef V V'):PH w V' x y z t:=⟨h.1.aa b h.1.lt,h.2.1.aa b h.2.1.lt,h.2.2.1.aa b h.2.2.1.lt,(b.block _ h.2.2.2.1.lt).trans h.2.2.2.1,h.2.2.2.2.trans (b.af h.2.2.2.2.size)⟩
theorem PH.drew {t:Value} (h:PH w V x y z t):PH w V.drew x y z t:=⟨h.1,h.2.1,h.2.2.1,h.2.2.2.1,h.2.2.2.2.drew⟩
theorem PH.new (w:World) (x y z t:Value):PH w ((((w.alloc (TC x y)).alloc (TC z t)).alloc (TC (.slice none 0 0) (.slice none 0 0))).alloc (.cells #[x,y,z,t] 49)) x y z t:=by
 refine⟨((bE.at rfl _ _).alloc _ |>.alloc _).alloc _,((bE.at aE _ _).alloc _).alloc _,(bE.at aE _ _).alloc _,?_,((((au _ w).alloc (aq _) _).alloc aE _).alloc (by simp;omega) _).alloc (by simp;omega) _⟩;have h:=dB (((w.alloc (TC x y)).alloc (TC z t)).alloc (TC (.slice none 0 0) (.slice none 0 0))) (.cells #[x,y,z,t] 49);rw[dE,dE,dE] at h;exact h
theorem PH.row {t:Value} (h:PH w V x y z t):(V.cell? ⟨w.heap.size+1+1+1,0,none⟩=some x/\V.cell? ⟨w.heap.size+1+1+1,1,none⟩=some y)/\V.cell? ⟨w.heap.size+1+1+1,2,none⟩=some z/\V.cell? ⟨w.heap.size+1+1+1,3,none⟩=some t:=by
 refine⟨⟨?_,?_⟩,?_,?_⟩<;>(rw[bG _ _ _ _ _ (0,0) h.2.2.2.1];rfl)
theorem Gj {B b:Nat} {t:TypeId} (h:Boxed V B t .nilFunc) (a:V.cell? ⟨b,j,none⟩=some x) (n:x≠.nilFunc):b≠B:=fun e=>by
 subst e;rw[bG V b j _ _ (0,0) h] at a;match j with
 |0=>simp at a;exact n a.symm
 |j+1=>simp at a
theorem SA {B:Nat} {t:TypeId} {c:Option Addr} {l:List Int} (h:Boxed V B t .nilFunc) (i:aJ V c l) (y:Value):aJ (V.setCell ⟨B,0,none⟩ y) c l:=fun k b=>by
 obtain⟨g,o,rfl,d,a⟩:=i k b;have n:=Gj h a aE;exact⟨g,o,rfl,aU d (kh V _ _).size,(dY _ _ _ _ (fun e=>n (dh Addr.block e).symm)).trans a⟩
theorem nk.nil {B:Nat} {t:TypeId} {f:Value} {b:Option Addr} {sizes vars o:List Int} (h:nk V n m f a b ca cb sizes vars o) (d:Boxed V B t .nilFunc) (y:Value):nk (V.setCell ⟨B,0,none⟩ y) n m f a b ca cb sizes vars o:=by
 obtain⟨v,s,k,g,l,p,c,A,M,q,u,w,z⟩:=h;have r:∀(b j:Nat) (x:Value),V.cell? ⟨b,j,none⟩=some x ->x≠.nilFunc ->(V.setCell ⟨B,0,none⟩ y).cell? ⟨b,j,none⟩=some x:=fun b j x i c=>(dY _ _ _ _ (fun e=>Gj d i c (dh Addr.block e).symm)).trans i;exact⟨v,s,k,g,l,p,c,A,aR M (kh V _ _).size,r _ _ _ q aE,r _ _ _ u aE,r _ _ _ w aE,SA d z y⟩
theorem PH.nil {t:Value} {B:Nat} {f:TypeId} (h:PH w V x y z t) (d:cV x) (e:cV z) (b:Boxed V B f .nilFunc) (c:w.heap.size<=B) (u:Value):PH w (V.setCell ⟨B,0,none⟩ u) x y z t:=by
 obtain⟨g,n,j,rfl⟩:=d;obtain⟨i,l,k,rfl⟩:=e;have a:=h.row.1.1;exact⟨h.1.off B 0 u (Gj b h.1.c0 aE),h.2.1.off B 0 u (Gj b h.2.1.c0 aE),h.2.2.1.off B 0 u (Gj b h.2.2.1.c0 aE),(fQ V ⟨B,0,none⟩ u _ (Gj b a aE)).trans h.2.2.2.1,h.2.2.2.2.setCell (p:=⟨B,0,none⟩) c u⟩
theorem YU (S a b U:List Nat) (la lb:List Fr):(uZ S a b U la lb).length=cnt S U:=by simp[uZ]
theorem agu (S a b U:List Nat) (la lb:List Fr) (h:k<(uZ S a b U la lb).length):(uZ S a b U la lb)[k]=qF (aQ (bD la (pos S (aY S U k) a))*aQ (bD lb (pos S (aY S U k) b))):=by simp[uZ]
theorem Ya {sizes vars U:List Int} {K:Nat} (k:j7 sizes vars m=0) (b:K<cnt (ag sizes) (ag U)):pos (ag sizes) (aY (ag sizes) (ag U) K) (ag vars)<m:=by
 obtain⟨h,c,a⟩:=AO k;rw[a];exact sL _ (fun u=>vK h.pos _ _ u b) _
theorem aeS (a b c X c':Option Addr) (ca cb cc Y qX:Nat) (sizes F I:List Int) (la lb:List Fr) (w:World) (hs:aJ w a sizes) (qM:aJ w b F) (uj:aJ w X I) (aE:aW w c la) (aO:aW w c' lb) (hn:sizes.length<=140737488355328) (bk:F.length<=140737488355328) (bl:I.length<=140737488355328) (ax:b=none ->cb=0) (Cz:X=none ->Y=0) (ai:j7 sizes F la.length=0) (aj:j7 sizes I lb.length=0) (Gz:Cw 100000 la) (Gy:Cw 100000 lb):
  du 165 #[.slice a sizes.length ca,.agg #[.slice b F.length cb,.slice c la.length cc],.agg #[.slice X I.length Y,.slice c' lb.length qX]] w fun e w'=>uD w.heap.size (kr F I) (uZ (ag sizes) (ag F) (ag I) (ag (kr F I)) la lb) 0 e w'/\ef w w':=by
 obtain⟨aS,l8, -⟩:=AO ai;obtain⟨-,Eg, -⟩:=AO aj;obtain⟨R,jZ,an⟩:∃R:Nat ->Int,R 0=j7 sizes F la.length/\R 1=j7 sizes I lb.length:=⟨fun i=>if i=0 then j7 sizes F la.length else j7 sizes I lb.length,rfl,rfl⟩
 have a6:Hid (∀i,i< 2 ->R i=0):=by
  intro i t;by_cases h:i=0
  ·subst h;rw[jZ];exact ai
  ·obtain rfl:i=1:=al
   rw[an];exact aj
 have rR:=aS.eight;have ir:=l8.length;have kx:=Eg.length;have EX:=hid (fun V h1 h2=>aeP b X cb Y F I V h1 h2 ax Cz al al);have A6:=hid (fun K (hK:K<cnt (ag sizes) (ag (kr F I)))=>Ya ai hK);have pw:=hid (fun K (hK:K<cnt (ag sizes) (ag (kr F I)))=>Ya aj hK);have fO:=hid (YU (ag sizes) (ag F) (ag I) (ag (kr F I)) la lb);have qo:=hid (fun (k:Nat) (h:k<(uZ (ag sizes) (ag F) (ag I) (ag (kr F I)) la lb).length)=>agu (ag sizes) (ag F) (ag I) (ag (kr F I)) la lb h);have r7:=hid (FZ l8 Eg);generalize uZ (ag sizes) (ag F) (ag I) (ag (kr F I)) la lb=FL at *;generalize kr F I=U at *;have Lv:=hid (fun V d J h1 h2=>Rk a d b ca J cb sizes U F V h1 h2 aS l8);have xW:=hid (fun V d J h1 h2=>Rk a d X ca J Y sizes U I V h1 h2 aS Eg);have cS:=hid aS;have a7:=hid l8;have bb:=hid Eg;have zG:=hid aE;have Dn:=hid aO;have Px:=hid Gz;have Lp:=hid Gy;clear ai aj aS l8 Eg aE aO Gz Gy ax Cz
 have a1:∀i,i< 2 ->∃(p q:Option Addr) (n m cp cq:Nat) (r:Int),(∀V,PH w V (.slice b F.length cb) (.slice c la.length cc) (.slice X I.length Y) (.slice c' lb.length qX) ->V.cell? ⟨w.heap.size+1+1+1,i*2,none⟩=some (.slice p n cp)/\V.cell? ⟨w.heap.size+1+1+1,i*2+1,none⟩=some (.slice q m cq))/\(∀V,ef w V ->du 65 #[.slice a sizes.length ca,.agg #[.slice p n cp,.slice q m cq]] V fun e w'=>e=.returned (.int .i64 r)/\ef V w')/\R i=r:=by
  intro i t;by_cases h:i=0
  ·subst h;exact⟨b,c,F.length,la.length,cb,cc,_,fun V h=>h.row.1,fun V h=>DR a b c ca cb cc la.length sizes F V (hs.aa h) (qM.aa h) hn bk,jZ⟩
  ·obtain rfl:i=1:=al
   exact⟨X,c',I.length,lb.length,Y,qX,_,fun V h=>h.row.2,fun V h=>DR a X c' ca Y qX lb.length sizes I V (hs.aa h) (uj.aa h) hn bl,an⟩
 have vS:=hid a1;have L:=hid hs;have Hz:=hid qM;have vP:=hid uj;clear a1 jZ an hs qM uj;have H:=PH.new w (.slice b F.length cb) (.slice c la.length cc) (.slice X I.length Y) (.slice c' lb.length qX);have c0:=H.1.c0;have c1:=H.1.c1;have c2:=H.2.1.c0;have c3:=H.2.1.c1;go_enter Tryz.func165,Tryz.ntmps165;go_wp2_with fail
 generalize ((((w.alloc (TC (.slice b F.length cb) (.slice c la.length cc))).alloc (TC (.slice X I.length Y) (.slice c' lb.length qX))).alloc (TC (.slice none 0 0) (.slice none 0 0))).alloc (.cells #[.slice b F.length cb,.slice c la.length cc,.slice X I.length Y,.slice c' lb.length qX] 49))=W at *;have av:=hid H;clear c0 c1 c2 c3 H;go_loopw [18] (fun iv wr=>∃i:Nat,i<=2/\iv=.int .i64 i/\Hid (∀j,j< i ->R j=0)/\Hid (PH w wr (.slice b F.length cb) (.slice c la.length cc) (.slice X I.length Y) (.slice c' lb.length qX))) (fun iv _=>2 - (intOf iv).toNat)
 case atStart=>exact⟨0,al,rfl,fun j hj=>absurd hj al,av⟩
 case round=>
  obtain⟨i,t,rfl,HZ,HP⟩:=hrel;clear av;by_cases aT:i<2
  ·obtain⟨p,q,n,m,cp,cq,r,aC,az,hr⟩:=vS.o i aT;obtain⟨d0,d1⟩:=aC _ HP.o;have gC:=hid az;have HR:=hid hr;clear aC az hr;have ad:ef wr (wr.alloc (TC (.slice p n cp) (.slice q m cq))):=(au _ wr).alloc (aq _) _;have hx:=bE.at (w:=wr) rfl (.slice p n cp) (.slice q m cq);have e0:=hx.c0;have e1:=hx.c1;go_wp2_with fail
   replace HP:=hid (HP.o.step ad);clear d0 d1 e0 e1 ad;generalize (wr.alloc (TC (.slice p n cp) (.slice q m cq)))=w2 at *;refine(gC.o _ HP.o.2.2.2.2).af ?_;rintro e w3 ⟨rfl,ay⟩;replace HP:=hid (HP.o.step ay);clear ay hx;by_cases El:r=0
   ·subst El;go_wp2;go_roundw
    case rel=>exact⟨i+1,al,b5,fun j hj=>by
      by_cases e:j=i
      ·rw[e];exact HR.o
      ·exact HZ.o j al,HP⟩
    case measure=>simp[intOf];omega
   ·have ux:=a6.o i aT;rw[HR.o] at ux;exact absurd ux El
  ·obtain rfl:i=2:=al
   have H:=HP.o;have c0:=H.1.c0;have c2:=H.2.1.c0;clear HP HZ vS;go_wp2_with fail
   refine(EX.o _ (Hz.o.aa H.2.2.2.2) (vP.o.aa H.2.2.2.2)).af ?_;rintro e w1 ⟨d,J,rfl,t,mX,ad⟩;have Fs:=hid (mX.up H.2.2.2.2.size);clear mX;replace H:=H.step ad;clear c0 c2 ad;go_upto_region 9 with fail
   replace H:=H.drew;replace t:aJ w1.drew d U:=t;refine gI (S:=fun u=>u.cell? ⟨w.heap.size,0,none⟩=some (.slice b F.length cb)/\u.cell? ⟨w.heap.size+1,0,none⟩=some (.slice X I.length Y)) ao ⟨H.1.c0,H.2.1.c0⟩ (fun z=>?_);generalize w1.drew=T at *;refine ar 0 (.slice a sizes.length ca) ?_;refine ar 1 (.slice d U.length J) ?_;refine ar 2 (.pointer (some ⟨w.heap.size,0,none⟩)) ?_;refine ar 3 (.slice b F.length cb) ?_;refine ar 5 (.slice a sizes.length ca) ?_;refine ar 6 (.slice d U.length J) ?_;refine ar 7 (.pointer (some ⟨w.heap.size+1,0,none⟩)) ?_;refine ar 8 (.slice X I.length Y) ?_;refine aG [4,10,11] (cA ?_ (cA ?_ (cA ?_ aF)))
   focus
    intro y l;go_simp;refine(Lv.o _ d J (L.o.aa H.2.2.2.2) (Hz.o.aa H.2.2.2.2)).af ?_;rintro e u1 ⟨f,rfl,x,g⟩;obtain⟨Z,rfl⟩:=x.shape;replace H:=H.step g;replace t:=t.aa g;refine l.o _ _ ⟨H.1.c0,H.2.1.c0⟩ (fun s=>?_);clear l y z;have z:=s;clear s g;generalize T.heap.size=na at x;generalize u1.heap.size=ma at x;refine aG [9,10,11] (cA ?_ (cA ?_ (cA ?_ aF)))
    focus
     intro y l;go_simp;refine(xW.o _ d J (L.o.aa H.2.2.2.2) (vP.o.aa H.2.2.2.2)).af ?_;rintro e u2 ⟨f,rfl,A,g⟩;obtain⟨O,rfl⟩:=A.shape;replace H:=H.step g;replace t:=t.aa g;replace x:=x.aa g;refine l.o _ _ ⟨H.1.c0,H.2.1.c0⟩ (fun s=>?_);clear l y z;have z:=s;clear s g;generalize u1.heap.size=nb at A;generalize u2.heap.size=mb at A;refine aG [10,11] (cA ?_ (cA ?_ aF))
     focus
      intro y l;go_simp;have g:ef u2 (u2.alloc (.cells #[.nilFunc] 238)):=(au _ u2).alloc (aq _) _;have D:Boxed (u2.alloc (.cells #[.nilFunc] 238)) u2.heap.size 238 .nilFunc:=a8 u2 _ _;have cC:=H.2.2.2.2.size;replace H:=H.step g;replace t:=t.aa g;replace x:=x.aa g;replace A:=A.aa g;refine l.o _ _ ⟨H.1.c0,H.2.1.c0⟩ (fun s=>?_);clear l y z;have z:=s;clear s g;generalize (u2.alloc (.cells #[.nilFunc] 238))=v at *;generalize u2.heap.size=M at *;refine aG [11] (cA ?_ aF);intro y l;go_simp;have g:ef v (v.alloc (.cells #[.nilFunc] 238)):=(au _ v).alloc (aq _) _;have E:Boxed (v.alloc (.cells #[.nilFunc] 238)) v.heap.size 238 .nilFunc:=a8 v _ _;have tZ:=H.2.2.2.2.size;(have ne:M≠v.heap.size:=by have:=D.lt;omega);replace H:=H.step g;replace t:=t.aa g;replace x:=x.aa g;replace A:=A.aa g;replace D:=aX D g;refine l.o _ _ ⟨H.1.c0,H.2.1.c0⟩ (fun s=>?_);clear l y z;have z:=s;clear s g;generalize (v.alloc (.cells #[.nilFunc] 238))=Q at *;generalize v.heap.size=P at *
     rotate_left
     focus
      intro y l;go_simp;have g:ef u2 (u2.alloc (.cells #[.nilFunc] 238)):=(au _ u2).alloc (aq _) _;have E:Boxed (u2.alloc (.cells #[.nilFunc] 238)) u2.heap.size 238 .nilFunc:=a8 u2 _ _;have tZ:=H.2.2.2.2.size;replace H:=H.step g;replace t:=t.aa g;replace x:=x.aa g;replace A:=A.aa g;refine l.o _ _ ⟨H.1.c0,H.2.1.c0⟩ (fun s=>?_);clear l y z;have z:=s;clear s g;generalize (u2.alloc (.cells #[.nilFunc] 238))=v at *;generalize u2.heap.size=P at *;refine aG [10] (cA ?_ aF);intro y l;go_simp;have g:ef v (v.alloc (.cells #[.nilFunc] 238)):=(au _ v).alloc (aq _) _;have D:Boxed (v.alloc (.cells #[.nilFunc] 238)) v.heap.size 238 .nilFunc:=a8 v _ _;have cC:=H.2.2.2.2.size;(have ne:P≠v.heap.size:=by have:=E.lt;omega);replace H:=H.step g;replace t:=t.aa g;replace x:=x.aa g;replace A:=A.aa g;replace E:=aX E g;refine l.o _ _ ⟨H.1.c0,H.2.1.c0⟩ (fun s=>?_);clear l y z;have z:=s;clear s g;generalize (v.alloc (.cells #[.nilFunc] 238))=Q at *;generalize v.heap.size=M at *
    rotate_left 2
    focus
     intro y l;go_simp;have g:ef u1 (u1.alloc (.cells #[.nilFunc] 238)):=(au _ u1).alloc (aq _) _;have D:Boxed (u1.alloc (.cells #[.nilFunc] 238)) u1.heap.size 238 .nilFunc:=a8 u1 _ _;have cC:=H.2.2.2.2.size;replace H:=H.step g;replace t:=t.aa g;replace x:=x.aa g;refine l.o _ _ ⟨H.1.c0,H.2.1.c0⟩ (fun s=>?_);clear l y z;have z:=s;clear s g;generalize (u1.alloc (.cells #[.nilFunc] 238))=u2 at *;generalize u1.heap.size=M at *;refine aG [9,11] (cA ?_ (cA ?_ aF))
     focus
      intro y l;go_simp;refine(xW.o _ d J (L.o.aa H.2.2.2.2) (vP.o.aa H.2.2.2.2)).af ?_;rintro e v ⟨f,rfl,A,g⟩;obtain⟨O,rfl⟩:=A.shape;replace H:=H.step g;replace t:=t.aa g;replace x:=x.aa g;replace D:=aX D g;refine l.o _ _ ⟨H.1.c0,H.2.1.c0⟩ (fun s=>?_);clear l y z;have z:=s;clear s g;generalize u2.heap.size=nb at A;generalize v.heap.size=mb at A;refine aG [11] (cA ?_ aF);intro y l;go_simp;have g:ef v (v.alloc (.cells #[.nilFunc] 238)):=(au _ v).alloc (aq _) _;have E:Boxed (v.alloc (.cells #[.nilFunc] 238)) v.heap.size 238 .nilFunc:=a8 v _ _;have tZ:=H.2.2.2.2.size;(have ne:M≠v.heap.size:=by have:=D.lt;omega);replace H:=H.step g;replace t:=t.aa g;replace x:=x.aa g;replace A:=A.aa g;replace D:=aX D g;refine l.o _ _ ⟨H.1.c0,H.2.1.c0⟩ (fun s=>?_);clear l y z;have z:=s;clear s g;generalize (v.alloc (.cells #[.nilFunc] 238))=Q at *;generalize v.heap.size=P at *
     rotate_left
     focus
      intro y l;go_simp;have g:ef u2 (u2.alloc (.cells #[.nilFunc] 238)):=(au _ u2).alloc (aq _) _;have E:Boxed (u2.alloc (.cells #[.nilFunc] 238)) u2.heap.size 238 .nilFunc:=a8 u2 _ _;have tZ:=H.2.2.2.2.size;(have ne:M≠u2.heap.size:=by have:=D.lt;omega);replace H:=H.step g;replace t:=t.aa g;replace x:=x.aa g;replace D:=aX D g;refine l.o _ _ ⟨H.1.c0,H.2.1.c0⟩ (fun s=>?_);clear l y z;have z:=s;clear s g;generalize (u2.alloc (.cells #[.nilFunc] 238))=v at *;generalize u2.heap.size=P at *;refine aG [9] (cA ?_ aF);intro y l;go_simp;refine(xW.o _ d J (L.o.aa H.2.2.2.2) (vP.o.aa H.2.2.2.2)).af ?_;rintro e Q ⟨f,rfl,A,g⟩;obtain⟨O,rfl⟩:=A.shape;replace H:=H.step g;replace t:=t.aa g;replace x:=x.aa g;replace D:=aX D g;replace E:=aX E g;refine l.o _ _ ⟨H.1.c0,H.2.1.c0⟩ (fun s=>?_);clear l y z;have z:=s;clear s g;generalize v.heap.size=nb at A;generalize Q.heap.size=mb at A
    rotate_left 2
    focus
     intro y l;go_simp;have g:ef u1 (u1.alloc (.cells #[.nilFunc] 238)):=(au _ u1).alloc (aq _) _;have E:Boxed (u1.alloc (.cells #[.nilFunc] 238)) u1.heap.size 238 .nilFunc:=a8 u1 _ _;have tZ:=H.2.2.2.2.size;replace H:=H.step g;replace t:=t.aa g;replace x:=x.aa g;refine l.o _ _ ⟨H.1.c0,H.2.1.c0⟩ (fun s=>?_);clear l y z;have z:=s;clear s g;generalize (u1.alloc (.cells #[.nilFunc] 238))=u2 at *;generalize u1.heap.size=P at *;refine aG [9,10] (cA ?_ (cA ?_ aF))
     focus
      intro y l;go_simp;refine(xW.o _ d J (L.o.aa H.2.2.2.2) (vP.o.aa H.2.2.2.2)).af ?_;rintro e v ⟨f,rfl,A,g⟩;obtain⟨O,rfl⟩:=A.shape;replace H:=H.step g;replace t:=t.aa g;replace x:=x.aa g;replace E:=aX E g;refine l.o _ _ ⟨H.1.c0,H.2.1.c0⟩ (fun s=>?_);clear l y z;have z:=s;clear s g;generalize u2.heap.size=nb at A;generalize v.heap.size=mb at A;refine aG [10] (cA ?_ aF);intro y l;go_simp;have g:ef v (v.alloc (.cells #[.nilFunc] 238)):=(au _ v).alloc (aq _) _;have D:Boxed (v.alloc (.cells #[.nilFunc] 238)) v.heap.size 238 .nilFunc:=a8 v _ _;have cC:=H.2.2.2.2.size;(have ne:P≠v.heap.size:=by have:=E.lt;omega);replace H:=H.step g;replace t:=t.aa g;replace x:=x.aa g;replace A:=A.aa g;replace E:=aX E g;refine l.o _ _ ⟨H.1.c0,H.2.1.c0⟩ (fun s=>?_);clear l y z;have z:=s;clear s g;generalize (v.alloc (.cells #[.nilFunc] 238))=Q at *;generalize v.heap.size=M at *
     rotate_left
     focus
      intro y l;go_simp;have g:ef u2 (u2.alloc (.cells #[.nilFunc] 238)):=(au _ u2).alloc (aq _) _;have D:Boxed (u2.alloc (.cells #[.nilFunc] 238)) u2.heap.size 238 .nilFunc:=a8 u2 _ _;have cC:=H.2.2.2.2.size;(have ne:P≠u2.heap.size:=by have:=E.lt;omega);replace H:=H.step g;replace t:=t.aa g;replace x:=x.aa g;replace E:=aX E g;refine l.o _ _ ⟨H.1.c0,H.2.1.c0⟩ (fun s=>?_);clear l y z;have z:=s;clear s g;generalize (u2.alloc (.cells #[.nilFunc] 238))=v at *;generalize u2.heap.size=M at *;refine aG [9] (cA ?_ aF);intro y l;go_simp;refine(xW.o _ d J (L.o.aa H.2.2.2.2) (vP.o.aa H.2.2.2.2)).af ?_;rintro e Q ⟨f,rfl,A,g⟩;obtain⟨O,rfl⟩:=A.shape;replace H:=H.step g;replace t:=t.aa g;replace x:=x.aa g;replace D:=aX D g;replace E:=aX E g;refine l.o _ _ ⟨H.1.c0,H.2.1.c0⟩ (fun s=>?_);clear l y z;have z:=s;clear s g;generalize v.heap.size=nb at A;generalize Q.heap.size=mb at A
   rotate_left 6
   focus
    intro y l;go_simp;have g:ef T (T.alloc (.cells #[.nilFunc] 238)):=(au _ T).alloc (aq _) _;have D:Boxed (T.alloc (.cells #[.nilFunc] 238)) T.heap.size 238 .nilFunc:=a8 T _ _;have cC:=H.2.2.2.2.size;replace H:=H.step g;replace t:=t.aa g;refine l.o _ _ ⟨H.1.c0,H.2.1.c0⟩ (fun s=>?_);clear l y z;have z:=s;clear s g;generalize (T.alloc (.cells #[.nilFunc] 238))=u1 at *;generalize T.heap.size=M at *;refine aG [4,11] (cA ?_ (cA ?_ aF))
    focus
     intro y l;go_simp;refine(Lv.o _ d J (L.o.aa H.2.2.2.2) (Hz.o.aa H.2.2.2.2)).af ?_;rintro e u2 ⟨f,rfl,x,g⟩;obtain⟨Z,rfl⟩:=x.shape;replace H:=H.step g;replace t:=t.aa g;replace D:=aX D g;refine l.o _ _ ⟨H.1.c0,H.2.1.c0⟩ (fun s=>?_);clear l y z;have z:=s;clear s g;generalize u1.heap.size=na at x;generalize u2.heap.size=ma at x;refine aG [9,11] (cA ?_ (cA ?_ aF))
     focus
      intro y l;go_simp;refine(xW.o _ d J (L.o.aa H.2.2.2.2) (vP.o.aa H.2.2.2.2)).af ?_;rintro e v ⟨f,rfl,A,g⟩;obtain⟨O,rfl⟩:=A.shape;replace H:=H.step g;replace t:=t.aa g;replace x:=x.aa g;replace D:=aX D g;refine l.o _ _ ⟨H.1.c0,H.2.1.c0⟩ (fun s=>?_);clear l y z;have z:=s;clear s g;generalize u2.heap.size=nb at A;generalize v.heap.size=mb at A;refine aG [11] (cA ?_ aF);intro y l;go_simp;have g:ef v (v.alloc (.cells #[.nilFunc] 238)):=(au _ v).alloc (aq _) _;have E:Boxed (v.alloc (.cells #[.nilFunc] 238)) v.heap.size 238 .nilFunc:=a8 v _ _;have tZ:=H.2.2.2.2.size;(have ne:M≠v.heap.size:=by have:=D.lt;omega);replace H:=H.step g;replace t:=t.aa g;replace x:=x.aa g;replace A:=A.aa g;replace D:=aX D g;refine l.o _ _ ⟨H.1.c0,H.2.1.c0⟩ (fun s=>?_);clear l y z;have z:=s;clear s g;generalize (v.alloc (.cells #[.nilFunc] 238))=Q at *;generalize v.heap.size=P at *
     rotate_left
     focus
      intro y l;go_simp;have g:ef u2 (u2.alloc (.cells #[.nilFunc] 238)):=(au _ u2).alloc (aq _) _;have E:Boxed (u2.alloc (.cells #[.nilFunc] 238)) u2.heap.size 238 .nilFunc:=a8 u2 _ _;have tZ:=H.2.2.2.2.size;(have ne:M≠u2.heap.size:=by have:=D.lt;omega);replace H:=H.step g;replace t:=t.aa g;replace x:=x.aa g;replace D:=aX D g;refine l.o _ _ ⟨H.1.c0,H.2.1.c0⟩ (fun s=>?_);clear l y z;have z:=s;clear s g;generalize (u2.alloc (.cells #[.nilFunc] 238))=v at *;generalize u2.heap.size=P at *;refine aG [9] (cA ?_ aF);intro y l;go_simp;refine(xW.o _ d J (L.o.aa H.2.2.2.2) (vP.o.aa H.2.2.2.2)).af ?_;rintro e Q ⟨f,rfl,A,g⟩;obtain⟨O,rfl⟩:=A.shape;replace H:=H.step g;replace t:=t.aa g;replace x:=x.aa g;replace D:=aX D g;replace E:=aX E g;refine l.o _ _ ⟨H.1.c0,H.2.1.c0⟩ (fun s=>?_);clear l y z;have z:=s;clear s g;generalize v.heap.size=nb at A;generalize Q.heap.size=mb at A
    rotate_left 2
    focus
     intro y l;go_simp;have g:ef u1 (u1.alloc (.cells #[.nilFunc] 238)):=(au _ u1).alloc (aq _) _;have E:Boxed (u1.alloc (.cells #[.nilFunc] 238)) u1.heap.size 238 .nilFunc:=a8 u1 _ _;have tZ:=H.2.2.2.2.size;(have ne:M≠u1.heap.size:=by have:=D.lt;omega);replace H:=H.step g;replace t:=t.aa g;replace D:=aX D g;refine l.o _ _ ⟨H.1.c0,H.2.1.c0⟩ (fun s=>?_);clear l y z;have z:=s;clear s g;generalize (u1.alloc (.cells #[.nilFunc] 238))=u2 at *;generalize u1.heap.size=P at *;refine aG [4] (cA ?_ aF);intro y l;go_simp;refine(Lv.o _ d J (L.o.aa H.2.2.2.2) (Hz.o.aa H.2.2.2.2)).af ?_;rintro e v ⟨f,rfl,x,g⟩;obtain⟨Z,rfl⟩:=x.shape;replace H:=H.step g;replace t:=t.aa g;replace D:=aX D g;replace E:=aX E g;refine l.o _ _ ⟨H.1.c0,H.2.1.c0⟩ (fun s=>?_);clear l y z;have z:=s;clear s g;generalize u2.heap.size=na at x;generalize v.heap.size=ma at x;refine aG [9] (cA ?_ aF);intro y l;go_simp;refine(xW.o _ d J (L.o.aa H.2.2.2.2) (vP.o.aa H.2.2.2.2)).af ?_;rintro e Q ⟨f,rfl,A,g⟩;obtain⟨O,rfl⟩:=A.shape;replace H:=H.step g;replace t:=t.aa g;replace x:=x.aa g;replace D:=aX D g;replace E:=aX E g;refine l.o _ _ ⟨H.1.c0,H.2.1.c0⟩ (fun s=>?_);clear l y z;have z:=s;clear s g;generalize v.heap.size=nb at A;generalize Q.heap.size=mb at A
   rotate_left 3
   focus
    intro y l;go_simp;have g:ef T (T.alloc (.cells #[.nilFunc] 238)):=(au _ T).alloc (aq _) _;have E:Boxed (T.alloc (.cells #[.nilFunc] 238)) T.heap.size 238 .nilFunc:=a8 T _ _;have tZ:=H.2.2.2.2.size;replace H:=H.step g;replace t:=t.aa g;refine l.o _ _ ⟨H.1.c0,H.2.1.c0⟩ (fun s=>?_);clear l y z;have z:=s;clear s g;generalize (T.alloc (.cells #[.nilFunc] 238))=u1 at *;generalize T.heap.size=P at *;refine aG [4,10] (cA ?_ (cA ?_ aF))
    focus
     intro y l;go_simp;refine(Lv.o _ d J (L.o.aa H.2.2.2.2) (Hz.o.aa H.2.2.2.2)).af ?_;rintro e u2 ⟨f,rfl,x,g⟩;obtain⟨Z,rfl⟩:=x.shape;replace H:=H.step g;replace t:=t.aa g;replace E:=aX E g;refine l.o _ _ ⟨H.1.c0,H.2.1.c0⟩ (fun s=>?_);clear l y z;have z:=s;clear s g;generalize u1.heap.size=na at x;generalize u2.heap.size=ma at x;refine aG [9,10] (cA ?_ (cA ?_ aF))
     focus
      intro y l;go_simp;refine(xW.o _ d J (L.o.aa H.2.2.2.2) (vP.o.aa H.2.2.2.2)).af ?_;rintro e v ⟨f,rfl,A,g⟩;obtain⟨O,rfl⟩:=A.shape;replace H:=H.step g;replace t:=t.aa g;replace x:=x.aa g;replace E:=aX E g;refine l.o _ _ ⟨H.1.c0,H.2.1.c0⟩ (fun s=>?_);clear l y z;have z:=s;clear s g;generalize u2.heap.size=nb at A;generalize v.heap.size=mb at A;refine aG [10] (cA ?_ aF);intro y l;go_simp;have g:ef v (v.alloc (.cells #[.nilFunc] 238)):=(au _ v).alloc (aq _) _;have D:Boxed (v.alloc (.cells #[.nilFunc] 238)) v.heap.size 238 .nilFunc:=a8 v _ _;have cC:=H.2.2.2.2.size;(have ne:P≠v.heap.size:=by have:=E.lt;omega);replace H:=H.step g;replace t:=t.aa g;replace x:=x.aa g;replace A:=A.aa g;replace E:=aX E g;refine l.o _ _ ⟨H.1.c0,H.2.1.c0⟩ (fun s=>?_);clear l y z;have z:=s;clear s g;generalize (v.alloc (.cells #[.nilFunc] 238))=Q at *;generalize v.heap.size=M at *
     rotate_left
     focus
      intro y l;go_simp;have g:ef u2 (u2.alloc (.cells #[.nilFunc] 238)):=(au _ u2).alloc (aq _) _;have D:Boxed (u2.alloc (.cells #[.nilFunc] 238)) u2.heap.size 238 .nilFunc:=a8 u2 _ _;have cC:=H.2.2.2.2.size;(have ne:P≠u2.heap.size:=by have:=E.lt;omega);replace H:=H.step g;replace t:=t.aa g;replace x:=x.aa g;replace E:=aX E g;refine l.o _ _ ⟨H.1.c0,H.2.1.c0⟩ (fun s=>?_);clear l y z;have z:=s;clear s g;generalize (u2.alloc (.cells #[.nilFunc] 238))=v at *;generalize u2.heap.size=M at *;refine aG [9] (cA ?_ aF);intro y l;go_simp;refine(xW.o _ d J (L.o.aa H.2.2.2.2) (vP.o.aa H.2.2.2.2)).af ?_;rintro e Q ⟨f,rfl,A,g⟩;obtain⟨O,rfl⟩:=A.shape;replace H:=H.step g;replace t:=t.aa g;replace x:=x.aa g;replace D:=aX D g;replace E:=aX E g;refine l.o _ _ ⟨H.1.c0,H.2.1.c0⟩ (fun s=>?_);clear l y z;have z:=s;clear s g;generalize v.heap.size=nb at A;generalize Q.heap.size=mb at A
    rotate_left 2
    focus
     intro y l;go_simp;have g:ef u1 (u1.alloc (.cells #[.nilFunc] 238)):=(au _ u1).alloc (aq _) _;have D:Boxed (u1.alloc (.cells #[.nilFunc] 238)) u1.heap.size 238 .nilFunc:=a8 u1 _ _;have cC:=H.2.2.2.2.size;(have ne:P≠u1.heap.size:=by have:=E.lt;omega);replace H:=H.step g;replace t:=t.aa g;replace E:=aX E g;refine l.o _ _ ⟨H.1.c0,H.2.1.c0⟩ (fun s=>?_);clear l y z;have z:=s;clear s g;generalize (u1.alloc (.cells #[.nilFunc] 238))=u2 at *;generalize u1.heap.size=M at *;refine aG [4] (cA ?_ aF);intro y l;go_simp;refine(Lv.o _ d J (L.o.aa H.2.2.2.2) (Hz.o.aa H.2.2.2.2)).af ?_;rintro e v ⟨f,rfl,x,g⟩;obtain⟨Z,rfl⟩:=x.shape;replace H:=H.step g;replace t:=t.aa g;replace D:=aX D g;replace E:=aX E g;refine l.o _ _ ⟨H.1.c0,H.2.1.c0⟩ (fun s=>?_);clear l y z;have z:=s;clear s g;generalize u2.heap.size=na at x;generalize v.heap.size=ma at x;refine aG [9] (cA ?_ aF);intro y l;go_simp;refine(xW.o _ d J (L.o.aa H.2.2.2.2) (vP.o.aa H.2.2.2.2)).af ?_;rintro e Q ⟨f,rfl,A,g⟩;obtain⟨O,rfl⟩:=A.shape;replace H:=H.step g;replace t:=t.aa g;replace x:=x.aa g;replace D:=aX D g;replace E:=aX E g;refine l.o _ _ ⟨H.1.c0,H.2.1.c0⟩ (fun s=>?_);clear l y z;have z:=s;clear s g;generalize v.heap.size=nb at A;generalize Q.heap.size=mb at A
   all_goals
    have bc:=D.cell;have bf:=D.frozen;refine aG [12] (cA ?_ aF);intro y l;go_simp;replace H:=H.nil (slv _ _ _) (slv _ _ _) D cC (.func (.func 232) #[] Z);replace t:=SA D t (.func (.func 232) #[] Z);replace x:=x.nil D (.func (.func 232) #[] Z);replace A:=A.nil D (.func (.func 232) #[] Z);replace E:=ic E M 0 (.func (.func 232) #[] Z) al;replace D:=D.set (.func (.func 232) #[] Z);clear bc bf;generalize (Q.setCell ⟨M,0,none⟩ (.func (.func 232) #[] Z))=v1 at *;refine l.o _ _ ⟨H.1.c0,H.2.1.c0⟩ (fun s=>?_);clear l y z;have z:=s;clear s;have bd:=E.cell;have bg:=E.frozen;refine aG [13] (cA ?_ aF);intro y l;go_simp;replace H:=H.nil (slv _ _ _) (slv _ _ _) E tZ (.func (.func 232) #[] O);replace t:=SA E t (.func (.func 232) #[] O);replace x:=x.nil E (.func (.func 232) #[] O);replace A:=A.nil E (.func (.func 232) #[] O);replace D:=ic D P 0 (.func (.func 232) #[] O) al;replace E:=E.set (.func (.func 232) #[] O);clear bd bg;generalize (v1.setCell ⟨P,0,none⟩ (.func (.func 232) #[] O))=v2 at *;refine l.o _ _ ⟨H.1.c0,H.2.1.c0⟩ (fun _=>dS ao ?_ _);clear l y z;go_wp2_with fail
    have sZ:=KT a d ca J sizes U 215 #[.pointer (some ⟨w.heap.size,0,none⟩),.pointer (some ⟨M,0,none⟩),.pointer (some ⟨w.heap.size+1,0,none⟩),.pointer (some ⟨P,0,none⟩)] (enters_of Tryz.func215 ao rfl) FL v2 (L.o.aa H.2.2.2.2) t cS.o r7.o fO.o (fun k hk V g=>by
     rw[qo.o k hk];(have dH:k<cnt (ag sizes) (ag U):=by rw[<- fO.o];exact hk);have hB:=H.2.2.2.2.trans (g.af H.2.2.2.2.size);refine agv w.heap.size M (w.heap.size+1) P c c' cc qX Z O la lb k _ _ (A6.o k dH) (pw.o k dH) V (aU H.1.lt g.size) ((g.cell (p:=⟨w.heap.size,1,none⟩) H.1.lt).trans H.1.c1) (aU D.lt g.size) (aX D g).cell (aU H.2.1.lt g.size) ((g.cell (p:=⟨w.heap.size+1,1,none⟩) H.2.1.lt).trans H.2.1.c1) (aU E.lt g.size) (aX E g).cell (zG.o.aa hB) (Dn.o.aa hB) Px.o Lp.o ?_ ?_
     ·intro V' ab;have ae:=g.trans (ab.af g.size);exact(x.aa ae).calls (L.o.aa (hB.trans (ab.af hB.size))) (t.aa ae) cS.o r7.o a7.o dH
     ·intro V' ab;have ae:=g.trans (ab.af g.size);exact(A.aa ae).calls (L.o.aa (hB.trans (ab.af hB.size))) (t.aa ae) cS.o r7.o bb.o dH)
    have Bp:=hid sZ;clear sZ;refine Bp.o.af ?_;rintro e w9 ⟨G,rfl,hG,bm,pZ⟩;have bo:=H.2.2.1.lt;replace H:=H.step pZ;replace t:=t.aa pZ;have bh:NR w w9 w.heap.size (w.heap.size+1+1) (.slice b F.length cb) (.slice c la.length cc):=⟨H.1,H.2.2.1,H.2.2.2.2⟩;obtain⟨k0,k1,f0,f1⟩:=H.2.2.1.facts;obtain⟨e1,e2,e3⟩:=bh.fin al (cb:=J) (cc:=FL.length) Fs.o al t bm al (.slice d U.length J) (.slice (some ⟨G,0,none⟩) FL.length FL.length) rfl rfl;go_wp2;refine cj (e1.result2 rfl _ rfl) rfl ?_;exact⟨e2,e3⟩
variable {u:Nat}
theorem yN (S:List Nat) {g:Nat ->Nat}:∀ {vs:List Nat},(∀u∈vs,f u=g u) ->pos S f vs=pos S g vs:=by
 intro vs h
 have e:∀(vs:List Nat) (k:Nat),(∀u∈vs,f u=g u) ->vs.foldl (fun k v=>k*sz S v+f v) k=vs.foldl (fun k v=>k*sz S v+g v) k:=by
  intro vs;induction vs with
  |nil=>intro k _;rfl
  |cons v vs ih=>
   intro k h;rw[BH,BH,h v dp,ih _ fun u a=>h u (dF _ a)]
 exact e vs 0 h
theorem YW (S:List Nat) (f:Nat ->Nat) (v:Nat) (vs:List Nat):pos S f (v::vs)=f v*cnt S vs+pos S f vs:=by
 show vs.foldl (fun k v=>k*sz S v+f v) (0*sz S v+f v)=_;rw[O0 S f vs,jO,bB]
theorem EN (p:Pos S) (h:∀u,f u<sz S u):∀ {vs:List Nat},vs.Nodup ->∀u∈vs,aY S vs (pos S f vs) u=f u
 |[],_,u,hu=>by cases hu
 |v::vs,hn,u,hu=>by
  rw[pG] at hn;have l:=sL f h vs;have c:=K4 p vs;rw[YW,aY];by_cases e:u=v
  ·rw[aA e,e,dK,Nat.mul_add_div c,yr l,gK]
  ·rw[aD e,dK,Nat.mul_add_mod,kI l];exact EN p h hn.2 u ((dU.1 hu).resolve_left e)
theorem Pg (g:Nat ->Fr) (h:k<n):bD ((List.range n).map g) k=g k:=by
 rw[kS (by simpa using h)];simp
def DW (most:Bool) (p q:Rat):Rat:=if most then(if p<q then q else p) else p+q
def jT (most:Bool) (g:Nat ->Rat):Nat ->Rat
 |0=>g 0
 |k+1=>DW most (jT most g k) (g (k+1))
theorem acE:gz p q<0↔p<q:=by
 rw[gz];by_cases h:p<q
 ·rw[aA h];exact⟨fun _=>h,fun _=>bd⟩
 ·rw[aD h];by_cases e:p=q
  ·rw[aA e];exact⟨fun h=>absurd h bd,fun a=>absurd a h⟩
  ·rw[aD e];exact⟨fun h=>absurd h bd,fun a=>absurd a h⟩
theorem abQ (m:Bool) (T:Nat ->Fr):∀k,aQ (lr m T k)=jT m (fun x=>aQ (T x)) k
 |0=>rfl
 |k+1=>by
  rw[lr,jT, <- abQ m T k];cases m with
  |false=>simp only[DW,Bool.false_eq_true,if_false];exact mZ _
  |true=>
   simp only[DW,zN,great];by_cases h:gz (aQ (lr true T k)) (aQ (T (k+1)))<0
   ·rw[aA h,aA (acE.1 h)]
   ·rw[aD h,aD fun e=>h (acE.2 e)]
theorem Nv (m:Bool) {g h:Nat ->Rat}:∀ {k:Nat},(∀x,x<=k ->g x=h x) ->jT m g k=jT m h k
 |0,e=>e 0 (aq _)
 |k+1,e=>by rw[jT,jT,Nv m fun x a=>e x al,e (k+1) (aq _)]
theorem MT (f:Nat ->Nat) (x y:Nat) (h:u≠v):aM (aM f v x) u y=aM (aM f u y) v x:=by
 funext z
 simp only[aM];by_cases e:z=u
 ·rw[aA e,aD al,aA e]
 ·rw[aD e,aD e]
theorem Zg {vars rest:List Nat} (p:Pos S) (r:rest.Nodup) (b:∀u∈vars,u=v∨u∈rest) (m:Bool) (l:List Fr) (h:∀u,f u<sz S u):
  aQ (bD (qJ S vars rest v m l) (pos S f rest))=jT m (fun x=>aQ (bD l (pos S (aM f v x) vars))) (sz S v - 1):=by
 rw[qJ,Pg _ (sL f h rest),mZ,abQ];refine Nv m fun x _=>?_;rw[yN S (f:=aM (aY S rest (pos S f rest)) v x) (g:=aM f v x)];intro u a;simp only[aM];by_cases e:u=v
 ·rw[aA e,aA e]
 ·rw[aD e,aD e];exact EN p h r u ((b u a).resolve_left e)
theorem agt {v b U:List Nat} (p:Pos S) (r:U.Nodup) (q:∀u∈v,u∈U) (j:∀u∈b,u∈U) (la lb:List Fr) (h:∀u,f u<sz S u):
  aQ (bD (uZ S v b U la lb) (pos S f U))=aQ (bD la (pos S f v))*aQ (bD lb (pos S f b)):=by
 rw[uZ,Pg _ (sL f h U),mZ,yN S (f:=aY S U (pos S f U)) (g:=f) fun u a=>EN p h r u (q u a),yN S (f:=aY S U (pos S f U)) (g:=f) fun u a=>EN p h r u (j u a)]
def Sml (s:Nat) (l:List Fr):Prop:=∀f∈l,∃q,f=qF q/\qw q<=s
structure TL (sizes vars:List Int) (l:List Fr) (s:Nat):Prop where
 up:Up vars sizes.length
 len:l.length=cnt (ag sizes) (ag vars)
 sml:Sml s l
theorem aiF {l:List Int} {x v:Int}:x∈bS l v↔x∈l/\x≠v:=by simp[bS]
theorem B6 {vars:List Int} (h:Up vars n) (u:Nat):∀x∈ag vars,x=u∨x∈ag (bS vars (u:Int)):=by
 intro x b;obtain⟨y,a,rfl⟩:=ba.1 b;have c:=(rG.1 h).1 y a;by_cases e:y=(u:Int)
 ·left;omega
 ·exact .inr (ba.2 ⟨y,aiF.2 ⟨a,e⟩,rfl⟩)
theorem ahM (t a:Nat) (c:Option Addr) (cc:Nat) (l:List Fr) (s:Rat) (k:Nat) (Q:k<l.length) (w:World) (R:t<w.heap.size) (J:w.cell? ⟨t,1,none⟩=some (.slice c l.length cc)) (A:aI w a (bw s) (nu s) (de s)) (H:aW w c l) (h1:l[k].2.1.size+l[k].2.2.size<=100000) (F:(nu s).size+(de s).size<=100000):
  du 67 #[.int .i64 (k:Nat),.pointer (some ⟨t,0,none⟩),.pointer (some ⟨a,0,none⟩)] w (eS w (iB (qF (aQ l[k]*s)))):=by
 obtain⟨g,o,rfl,z,j,m,n⟩:=H k Q;have HC:=hid (fun V:World=>KW (w:=V) (aQ l[k]*s) rfl (ji s) rfl h1 F);rw[OZ];generalize aQ l[k]*s=r at *;clear H h1 F;generalize l[k]=f at *;obtain⟨fn,x,y⟩:=f;simp only at j m n HC;obtain⟨L,M,O, -⟩:=A.facts;have D:=A.lt;clear A;have d:aI (w.alloc (FC false ⟨#[]⟩ ⟨#[]⟩)) w.heap.size false ⟨#[]⟩ ⟨#[]⟩:=aI.new w _ _ _;have b:ef w (w.alloc (FC false ⟨#[]⟩ ⟨#[]⟩)):=(au _ w).alloc (aq _) _;go_enter Tryz.func67,Tryz.ntmps67;go_upto_region 1 with fail
 generalize (w.alloc (FC false ⟨#[]⟩ ⟨#[]⟩))=W at *;replace d:=d.drew;replace b:=b.drew;have P:∀u,ef w u ->u.cell? ⟨t,1,none⟩=some (.slice (some ⟨g,o,none⟩) l.length cc)/\u.cell? ⟨g,o+k*3,none⟩=some (.bool fn)/\u.cell? ⟨g,o+k*3+1,none⟩=some (.string x)/\u.cell? ⟨g,o+k*3+2,none⟩=some (.string y)/\u.cell? ⟨a,0,none⟩=some (.bool (bw s))/\u.cell? ⟨a,1,none⟩=some (.string (nu s))/\u.cell? ⟨a,2,none⟩=some (.string (de s)):=fun u h=>⟨(h.cell (p:=⟨t,1,none⟩) R).trans J,(h.cell (p:=⟨g,_,none⟩) z).trans j,(h.cell (p:=⟨g,_,none⟩) z).trans m,(h.cell (p:=⟨g,_,none⟩) z).trans n,(h.cell (p:=⟨a,0,none⟩) D).trans L,(h.cell (p:=⟨a,1,none⟩) D).trans M,(h.cell (p:=⟨a,2,none⟩) D).trans O⟩;have HELD:=hid P;clear P j m n L M O J;refine gI (S:=fun u=>u.cell? ⟨t,1,none⟩=some (.slice (some ⟨g,o,none⟩) l.length cc)/\u.cell? ⟨g,o+k*3,none⟩=some (.bool fn)/\u.cell? ⟨g,o+k*3+1,none⟩=some (.string x)/\u.cell? ⟨g,o+k*3+2,none⟩=some (.string y)/\u.cell? ⟨a,0,none⟩=some (.bool (bw s))/\u.cell? ⟨a,1,none⟩=some (.string (nu s))/\u.cell? ⟨a,2,none⟩=some (.string (de s))) ao (HELD.o _ b) (fun q=>?_);generalize W.drew=u0 at *;refine ar 0 (.pointer (some ⟨t,1,none⟩)) ?_;refine ar 1 (.slice (some ⟨g,o,none⟩) l.length cc) ?_;refine ar 2 (.int .i64 (k:Nat)) ?_;refine ar 3 (.pointer (some ⟨g,o+k*3,none⟩)) ?_;refine ar 4 (.agg #[.bool fn,.string x,.string y]) ?_;refine ar 5 (.agg #[.bool (bw s),.string (nu s),.string (de s)]) ?_
 refine aG [6] (cA ?_ aF);intro i K;go_simp;refine(HC.o _).af ?_;rintro e u1 ⟨rfl,v⟩;replace d:=d.aa v d.lt;replace b:=b.trans (v.af b.size);refine K.o _ _ (HELD.o _ b) (fun E=>?_);clear K i q;have q:=E;clear E v;try simp only[gE,aP]
 obtain⟨Z,k1,k2,U,X,Y⟩:=d.facts;refine aG [7] (cA ?_ aF);intro i K;go_simp;have T:=d.put (bw r) (nu r) (de r);have I:=dV b (g:=w.heap.size) (aq _) (.bool (bw r)) (.string (nu r)) (.string (de r));generalize (((u1.setCell ⟨w.heap.size,0,none⟩ (.bool (bw r))).setCell ⟨w.heap.size,1,none⟩ (.string (nu r))).setCell ⟨w.heap.size,2,none⟩ (.string (de r)))=v9 at *;refine K.o _ _ (HELD.o _ I) (fun _=>dS ao ?_ _);clear K i q;go_wp2;refine cj (T.result rfl _ rfl) rfl ?_;exact⟨rfl,I⟩
end Go.Proofs.YtdmdhjmcoijpaaaGreatDoor
