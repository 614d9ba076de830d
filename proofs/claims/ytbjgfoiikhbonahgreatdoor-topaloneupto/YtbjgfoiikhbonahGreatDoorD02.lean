import Derived.Test.YtbjgfoiikhbonahGreatDoorD01
import Derived.SizedLaws
import Derived.Deep.SlicePairs
import Derived.Deep.MidRow
import Derived.Laws.StructEq
import Derived.Deep.Cut
import Derived.Maps.AppendAt
set_option linter.unusedVariables false
set_option linter.unusedSimpArgs false
set_option maxRecDepth 100000
set_option maxHeartbeats 4000000
namespace Go.Proofs.YtbjgfoiikhbonahGreatDoor
open Go.ChangeShapes Go.WideShapes Go.ChangeAt Go.RowKit Go.Proofs.Tryz
open Value (int)
open IntKind (i64)
variable {B P R W c g i j k n r x:Nat}{T:TypeId}{a b:Int}{o:Oper}{ps:List (Int×Int)}{v:Value}{w w':World}{zs:List Int}
open Go.ChangeMaps (open_string shut_string)
def AbI:List Int:=[1000,1189,1414,1681,2000,2378,2828,3363,4000]
def Jm (p:Nat):Nat->Int
 | 0=>0
 | k+1=>Jm p k+if p / 2 ^ k % 2=1 then AbI.getD k 0 else 0
def JA (p:Nat):Int:=Jm p 9
def btr (i j:Nat):Bool:=decide (JA j<JA i\/JA i=JA j/\j<i)
def YX (i m:Nat):Nat:=((List.range m).filter (fun j=>btr j i)).length
def QB (n k i:Nat):Bool:=decide (YX i n<k)
def Fl (n k:Nat):List Nat:=(List.range n).filter (QB n k)
theorem Ta(i:Nat):btr i i=false:=by simp[btr]
theorem VI(h:btr i j=true):btr j i=false:=by
 simp only[btr,Bq,DM]at*;omega
theorem Aft(h:btr i j=true)(d:btr j k=true):btr i k=true:=by
 simp only[btr,Bq]at*;omega
theorem VJ(h:i≠j):btr i j=true\/btr j i=true:=by
 simp only[btr,Bq]at*;omega
theorem Aeu(h:btr i j=false)(d:btr j k=false):btr i k=false:=by
 simp only[btr,DM]at*;omega
theorem Sa{α:Type}(p:α->Bool):∀(l:List α) (k:Nat),(∀i (h:i<l.length),p l[i]=decide (i<k))->l.filter p=l.take k
 | [],_,_=>by simp
 | x::l,0,h=>by
  have d:p x=false:=h 0 (by simp);rw[Dl,d,C0];simp only[Ct,AV,Dm];intro y e;obtain⟨i,hi,rfl⟩:=A5 e;have:=h (i+1) (by simp;omega)
  simpa using this
 | x::l,k+1,h=>by
  have d:p x=true:=(h 0 (by simp)).trans (by simp);rw[Dl,d,Ab rfl,List.take_succ_cons,Sa p l k]
  grind
theorem AeY:∀(l:List Nat) (i:Nat) (h:i<l.length),l.Pairwise (fun a b=>btr a b=true)->(l.filter (fun j=>btr j l[i])).length=i
 | x::l,0,_,hp=>by
  rw[CN]at hp;rw[List.getElem_cons_zero,Dl,Ta];simp only[Ct,AV,DN,Dm];intro y d;simp[VI (hp.1 y d)]
 | x::l,i+1,h,hp=>by
  rw[CN]at hp;have hi:i<l.length:=by simpa using h
  have e:=AeY l i hi hp.2
  grind
def Hv (n:Nat):List Nat:=(List.range n).mergeSort fun x y=>!btr y x
theorem Nn(n:Nat):(Hv n).Perm (List.range n):=Eo _ _
theorem X8(n:Nat):(Hv n).Pairwise (fun a b=>btr a b=true):=by
 have e:(Hv n).Pairwise (fun a b=>(!btr b a)=true):=Ep (le:=fun x y=>!btr y x)
  (fun a b c h d=>by simp only[Bool.not_eq_true']at*;exact Aeu d h)
  (fun a b=>by
   cases h:btr b a with
   | false=>rfl
   | true=>simp[VI h]) _
 have f:(Hv n).Nodup:=(Nn n).nodup_iff.2 List.nodup_range;refine(e.and f).imp ?_
 grind [VJ]
theorem Adh(n k:Nat):(Hv n).take k=(Hv n).filter (QB n k):=by
 refine(Sa _ _ _ fun i hi=>?_).symm;have e:=AeY (Hv n) i hi (X8 n);have d:((Hv n).filter (fun j=>btr j (Hv n)[i])).length=YX (Hv n)[i] n:=((Nn n).filter _).length_eq;unfold QB;rw[<-d,e]
theorem Pt(n k:Nat):(Fl n k).Pairwise (fun a b=>a<b):=List.pairwise_lt_range.filter _
def Lt (l:List Nat):List Int:=l.map fun x:Nat=>(x:Int)
theorem JF(l:List Nat):(Lt l).length=l.length:=by simp[Lt]
theorem XJ(l:List Nat)(j:Nat):(Lt l).getD j 0=((l.getD j 0:Nat):Int):=by
 unfold Lt List.getD
 grind
theorem Uf(n k:Nat):(Lt ((Hv n).take k)).mergeSort (fun x y=>decide (x<=y))=Lt (Fl n k):=by
 unfold Lt;refine List.Perm.eq_of_pairwise (le:=fun x y=>x<=y) (fun a b _ _ h d=>by omega) ?_ ?_ ((Eo _ _).trans ?_)
 ·have:=Ep (le:=fun x y:Int=>decide (x<=y)) (fun a b c h d=>by simp at*;omega) (fun a b=>by simp;omega) (((Hv n).take k).map fun x:Nat=>(x:Int))
  simpa using this
 ·rw[List.pairwise_map];exact(Pt n k).imp fun h=>by omega
 ·rw[Adh];exact((Nn n).filter _).map _
theorem QL(n:Nat):(Hv n).length=n:=by rw[(Nn n).length_eq,C1]
theorem KD(h:k<=n):(Fl n k).length=k:=by
 have:=congrArg List.length (Uf n k);rw[List.length_mergeSort,JF,JF,Ay,QL]at this;omega
theorem Wp(h:x∈Fl n k):x<n:=by
 have:=(List.mem_filter.1 h).1
 simpa using this
theorem Alu(l:List Int)(h:j<l.length):l.getD j 0=l[j]:=by simp[List.getD,h]
def Iq (n:Nat)(P:List Nat)(b:List Int):Nat->List Int
 | 0=>List.replicate n 0
 | i+1=>(Iq n P b i).set (P.getD i 0) (b.getD i 0)
theorem My(n:Nat)(P:List Nat)(b:List Int):∀i,(Iq n P b i).length=n:=by intro a;induction a<;>grind [Iq]
theorem SE(n:Nat)(P:List Nat)(b:List Int)(d:∀j,0<=b.getD j 0/\b.getD j 0<=1):∀i,∀x∈Iq n P b i,0<=x/\x<=1:=by intro a;induction a<;>grind [Iq]
def NJ (P:List Nat)(u:List Int):List Int:=P.map fun p=>u.getD p 0
def KY (P:List Nat)(fd:List Int)(first:Nat)(u:List Int):List Int:=
 (List.range fd.length).map fun j=>if first<=P.getD j 0/\P.getD j 0<first+u.length/\u.getD (P.getD j 0-first) 0=1 then 1 else fd.getD j 0
theorem Aee(P:List Nat)(fd:List Int)(first:Nat)(u:List Int):(KY P fd first u).length=fd.length:=by simp[KY]
theorem Aed(P:List Nat)(fd:List Int)(first:Nat)(u:List Int)(h:j<fd.length):
 (KY P fd first u).getD j 0=if first<=P.getD j 0/\P.getD j 0<first+u.length/\u.getD (P.getD j 0-first) 0=1 then 1 else fd.getD j 0:=by
 simp[KY,List.getD,h]
theorem Aec(P:List Nat)(fd:List Int)(first:Nat)(u v:List Int):KY P (KY P fd first u) (first+u.length) v=KY P fd first (u++v):=by simp_all[KY];grind
theorem AbH(P:List Nat)(fd:List Int)(first:Nat)(x:Int)(h:x=0):KY P fd first [x]=fd:=by
 subst h;refine AW (by simp[KY]) fun j d e=>?_
 grind [Aed,KY]
theorem AmB(P:List Nat)(d:P.Pairwise (fun x y=>x<y))(fd:List Int)(s:fd.length=P.length)(i:Nat)(hi:i<P.length):KY P fd (P.getD i 0) [1]=fd.set i 1:=by
 refine AW (by simp[KY]) fun j p q=>?_
 have f:j<fd.length:=by simpa using q
 have e1:=Aed P fd (P.getD i 0) [1] f;have e2:(KY P fd (P.getD i 0) [1]).getD j 0=(KY P fd (P.getD i 0) [1])[j]:=Alu _ p;have e3:fd.getD j 0=fd[j]:=by simp[List.getD,f]
 rw[<-e2,e1,B4,e3];have l:P.getD i 0=P[i]:=by simp[List.getD,hi]
 have m:P.getD j 0=P[j]:=by grind
 by_cases e:i=j
 ·grind
 ·rw[Aa e,Aa];rintro⟨a,b,_⟩;rw[l,m]at a b;simp at b
  rcases Nat.lt_or_gt_of_ne e with h | h
  ·have:=(List.pairwise_iff_getElem.1 d) i j hi (by omega) h;omega
  ·have:=(List.pairwise_iff_getElem.1 d) j i (by omega) hi h;omega
theorem AmA(P:List Nat)(k:Nat)(d:P.length=k)(u:List Int)(l:∀j,0<=u.getD j 0/\u.getD j 0<=1)(h:∀x∈P,x<u.length):KY P (List.replicate k 0) 0 u=NJ P u:=by
 refine AW (by simp[KY,NJ,d]) fun j e f=>?_
 grind [NJ,Aed,KY]
theorem Ao3(k:Nat)(h:k<9):1000<=AbI.getD k 0/\AbI.getD k 0<=4000:=by
 have:k=0\/k=1\/k=2\/k=3\/k=4\/k=5\/k=6\/k=7\/k=8:=by omega
 rcases this with rfl | rfl | rfl | rfl | rfl | rfl | rfl | rfl | rfl<;>decide
theorem U2(p:Nat):∀k,k<=9->0<=Jm p k/\Jm p k<=4000*k
 | 0,_=>by simp[Jm]
 | k+1,h=>by
  have d:=U2 p k (by omega);have t:=Ao3 k (by omega);rw[Jm]
  split<;>omega
theorem Tryz.own:ownKnob prog.godebug=none:=by kernel_rfl
structure Setg where
 code:Int
 size:Int
 order:Int
 seed:Int
 count:Int
def Setg.val(S:Setg):Value:=.agg #[int i64 S.code,int i64 S.size,int i64 S.order,int i64 S.seed,int i64 S.count]
def AnO (S:Setg)(bytes:Int):Bool:=decide (0<=bytes/\bytes<=40/\(S.code=0\/S.code=1)/\(S.order=2\/S.order=4\/S.order=6)/\0<=S.seed/\S.seed<2147483648)
def AnP (S:Setg):Bool:=decide (S.order<=S.count/\S.count<=4096/\S.count % S.order=0/\(S.code=0->S.size=0)/\(S.code=1->Np S.size=true))
def RE (S:Setg)(bytes:Int):Int:=if AnO S bytes && AnP S then (if decide (S.code=1/\S.size<8*bytes+24) then 2 else 0) else 1
def Ij (S:Setg)(bytes:Int):Int:=if S.code=0 then 3*(8*bytes+24)+18 else S.size
theorem AjY(h:a=b):Ending.returned (int i64 a)=.returned (int i64 b):=by rw[h]
def Iz (ps:List (Int×Int)):List Value:=ps.flatMap fun p=>[int i64 p.1,int i64 p.2]
theorem Vb(ps:List (Int×Int)):(Iz ps).length=2*ps.length:=by
 induction ps with
 | nil=>rfl
 | cons p ps ih=>
  grind [Iz]
theorem AfE(ps:List (Int×Int)):∀i,i<ps.length->(Iz ps)[i*2]?=some (int i64 (ps.getD i (0,0)).1)/\(Iz ps)[i*2+1]?=some (int i64 (ps.getD i (0,0)).2):=by
 induction ps with
 | nil=>intro i hi;simp at hi
 | cons p ps ih=>
  intro i hi;have e:Iz (p::ps)=int i64 p.1:: int i64 p.2::Iz ps:=rfl
  grind
theorem Ti(p:Int×Int):∀(ps:List (Int×Int)) (i:Nat),i<ps.length->Iz (ps.set i p)=((Iz ps).set (i*2) (int i64 p.1)).set (i*2+1) (int i64 p.2)
 | [],i,hi=>by simp at hi
 | q::ps,0,_=>rfl
 | q::ps,i+1,hi=>by
  have d:=Ti p ps i (by simpa using hi);have e:∀(r:Int×Int) rs,Iz (r::rs)=int i64 r.1:: int i64 r.2::Iz rs:=fun _ _=>rfl
  grind
theorem Y8(n:Nat):Iz (List.replicate n (0,0))=List.replicate (n*2) (int i64 0):=by
 induction n with
 | zero=>rfl
 | succ n ih=>
  grind [Iz]
def OwnT (T:TypeId)(w:World)(B:Nat)(v:Value)(ps:List (Int×Int)):Prop:=w.ownsRow B T 2 v ps.length (Iz ps)
theorem OwnT.below(h:OwnT T w B v ps)(s:Below w.heap.size w w'):OwnT T w' B v ps:=by
 refine⟨h.1,?_⟩
 rcases h.2 with f | ⟨g,d,cur,l,m,p,q⟩
 ·exact .inl f
 ·have e:g<w.heap.size:=by grind
  exact .inr ⟨g,d,cur,l,m,(s.block g e).trans p,q⟩
theorem OwnT.mono{e:Nat}(h:OwnT T w B v ps)(q:e<=B):OwnT T w e v ps:=by
 refine⟨h.1,?_⟩
 rcases h.2 with f | ⟨g,d,cur,l,p,m⟩
 ·exact .inl f
 ·exact .inr ⟨g,d,cur,l,by omega,m⟩
def FI:Nat->List (List Int)
 | 0=>[[]]
 | k+1=>(FI k).flatMap fun l=>[l++[0],l++[1]]
def Sh (LL:List (List Int))(i:Nat):List (List Int):=(LL.take i).flatMap fun l=>[l++[0],l++[1]]
theorem AcG{d:List (List Int)}(h:i<d.length):Sh d (i+1)=Sh d i++[d.getD i []++[0],d.getD i []++[1]]:=by
 unfold Sh;rw[Bu h,Bd];simp[List.getD,h]
theorem Aga(d:List (List Int)):Sh d d.length=d.flatMap fun l=>[l++[0],l++[1]]:=by simp[Sh]
theorem XD(d:List (List Int))(i:Nat)(h:i<=d.length):(Sh d i).length=2*i:=by
 induction i with
 | zero=>simp[Sh]
 | succ i ih=>rw[AcG (by omega),Ai,ih (by omega)];simp;omega
theorem AbN(k:Nat):FI (k+1)=Sh (FI k) (FI k).length:=(Aga _).symm
theorem Vw(k:Nat):(FI k).length=2 ^ k:=by
 induction k with
 | zero=>rfl
 | succ k ih=>rw[AbN,XD _ _ (Ac _),ih,Dk];omega
theorem Acn(d:List (List Int))(c:List Int)(x:Int)(f:x=0\/x=1):(d.flatMap fun l=>[l++[0],l++[1]]).count (c++[x])=d.count c:=by
 induction d with
 | nil=>rfl
 | cons l d ih=>
  rw[Do,List.count_append,ih,DQ (l:=d)];have e:List.count (c++[x]) [l++[0],l++[1]]=if l==c then 1 else 0:=by
   rw[DQ,DQ,List.count_nil]
   by_cases h:l=c
   ·subst h
    rcases f with rfl | rfl
    ·simp
    ·simp
   ·simp[h]
  rw[e];omega
theorem AbP:∀{c:List Int},c.length=k->(∀x∈c,x=0\/x=1)->(FI k).count c=1:=by
 induction k with
 | zero=>intro c h _;rw[Cp h];rfl
 | succ k ih=>
  intro c h e;have d:c≠[]:=by rintro rfl;simp at h
  obtain⟨l,x,rfl⟩:∃l x,c=l++[x]:=⟨c.dropLast,c.getLast d,(List.dropLast_concat_getLast d).symm⟩;rw[FI,Acn _ _ _ (e x (by simp))];exact ih (by simpa using h) (fun y f=>e y (by simp[f]))
def Ae3 (l:List Int)(first:Nat):Nat->Int
 | 0=>0
 | r+1=>if l.getD (l.length-2+first-2*r) 0=1 then -(if r=0 then 1 else 2*(r:Int)-Ae3 l first r) else (if r=0 then 1 else 2*(r:Int)-Ae3 l first r)
def Oa (p q:Int×Int):Int:=(p.1-q.1)*(p.1-q.1)+(p.2-q.2)*(p.2-q.2)
def Pts (w:World)(a:Option Addr)(ps:List (Int×Int)):Prop:=ps≠[]->∃b off,a=some ⟨b,off,none⟩/\∀i,i<ps.length->w.cell? ⟨b,off+i*2,none⟩=some (int i64 (ps.getD i (0,0)).1)/\w.cell? ⟨b,off+i*2+1,none⟩=some (int i64 (ps.getD i (0,0)).2)
theorem Pts.at{w:World}{a:Option Addr}{ps:List (Int×Int)}(h:Pts w a ps){i:Nat}(hi:i<ps.length):∃b off,a=some ⟨b,off,none⟩/\∀i,i<ps.length->w.cell? ⟨b,off+i*2,none⟩=some (int i64 (ps.getD i (0,0)).1)/\w.cell? ⟨b,off+i*2+1,none⟩=some (int i64 (ps.getD i (0,0)).2):=
 h (by rintro rfl;simp at hi)
theorem Pts.below{a:Option Addr}(h:Pts w a ps)(l:Below w.heap.size w w'):Pts w' a ps:=by
 intro e;obtain⟨b,f,rfl,d⟩:=h e;exact⟨b,f,rfl,fun i hi=>⟨(l.cell (Aj w _ (d i hi).1)).trans (d i hi).1,(l.cell (Aj w _ (d i hi).2)).trans (d i hi).2⟩⟩
def Aob (M:Int)(ps:List (Int×Int)):Prop:=∀i,(-M<=(ps.getD i (0,0)).1/\(ps.getD i (0,0)).1<=M)/\ -M<=(ps.getD i (0,0)).2/\(ps.getD i (0,0)).2<=M
theorem Tryz.AoC:(prog.info? 335).map (fun i=>(i.zero,i.size,i.bytes))=some (some (.agg #[int i64 0,int i64 0]),2,16):=by kernel_rfl
theorem Tryz.AoZ:(prog.info? 335).map (·.size)=some 2:=by kernel_rfl
def PArr (w:World)(g:Nat)(ps:List (Int×Int)):Prop:=w.heap[g]?=some (.cells (Iz ps).toArray 335 (0,0))
theorem PArr.cells(h:PArr w g ps)(hi:i<ps.length):w.cell? ⟨g,i*2,none⟩=some (int i64 (ps.getD i (0,0)).1)/\w.cell? ⟨g,i*2+1,none⟩=some (int i64 (ps.getD i (0,0)).2):=by
 have:=AfE ps i hi;rw[Al w g _ _ _ (0,0) h,Al w g _ _ _ (0,0) h]
 simpa using this
theorem PArr.free(h:PArr w g ps)(j:Nat):w.frozen? ⟨g,j,none⟩=false:=Bz w g j _ _ h
theorem PArr.set(h:PArr w g ps)(hi:i<ps.length)(p:Int×Int):PArr (w.setCells g (i*2) [int i64 p.1,int i64 p.2]) g (ps.set i p):=by
 unfold PArr
 show((w.setCell ⟨g,i*2,none⟩ (int i64 p.1)).setCell ⟨g,i*2+1,none⟩ (int i64 p.2)).heap[g]?=_;have d:=BK w g (i*2) _ _ (int i64 p.1) h;rw[BK _ g (i*2+1) _ _ (int i64 p.2) d,Ti p ps i hi];simp
theorem PArr.below(h:PArr w g ps)(d:Below B w w')(hg:g<B):PArr w' g ps:=(d.block g hg).trans h
theorem PArr.lt(h:PArr w g ps):g<w.heap.size:=by grind [PArr]
theorem PArr.Apq(h:PArr w g ps)(d:B<=g)(e:ps.length=n)(f:n<=maxLen):w.ownsRow B 335 2 (.slice (some ⟨g,0,none⟩) n n) n (Iz ps):=by
 subst e;have l:=Vb ps;refine⟨by omega,.inr ⟨g,_,_,rfl,d,h,Ac _,f,by simp;omega,?_⟩⟩
 grind
theorem U4{ops:Array Oper}{d:List Oper}{a:Act}{Q:Exit->Act->World->Prop}(N:Nat)(p:o.guard=none)(l c:Operand)
 (G:o.op=Op.makeSlice 288 l c) (x y:Int) (F:a.eval l=int i64 x) (C:a.eval c=int i64 y) (H:x=(N:Int)) (I:y=(N:Int)) (M:N<=1000000)
 (h:∀w',PArr w' w.heap.size (List.replicate N (0,0))->Below w.heap.size w w'->wpList prog ops Q d (a.put o.dst (.slice (some ⟨w.heap.size,0,none⟩) N N)) w'):
 wpList prog ops Q (o::d) a w:=by
 obtain⟨J,hi,q,s,t⟩:=As Tryz.AoC;refine CK w p l c 288 G w.heap.size 335 J (.agg #[int i64 0,int i64 0]) 2 underlying288 hi q s i64 i64 x y N F C H I (by rw[t];omega) (by unfold maxLen;omega) (Ac _) fun w' u f=>?_
 have A:=(Ad w.heap.size w).grown f (Ac _) (by intro k E;cases E);refine h w' ?_ A;have e:(madeCells (Value.cells (.agg #[int i64 0,int i64 0])) (N*2)).toList=List.replicate (N*2) (int i64 0):=by
  refine AW (by simp[madeCells]) fun i S U=>?_
  have f:i % 2=0\/i % 2=1:=by omega
  rcases f with f | f<;>simp[madeCells,Value.cells,f]
 rw[e]at u
 rcases u.2 with⟨m,_⟩ | ⟨K,z,cur,m,L,hg,_,O,D,ht⟩
 ·simp at m
 ·simp only[Aq,Bl,BI,BJ]at m;obtain⟨rfl,_,rfl⟩:=m;unfold PArr;rw[hg,Y8,<-ht,Aw (by simp;omega)]
theorem AdI{ρ:Operand->Value}(w:World){x y:Operand}{p:Int×Int}(m:o.op=.store 335 x y)(h:ρ x=.pointer (some ⟨g,i*2,none⟩))(f:ρ y=.agg #[int i64 p.1,int i64 p.2])(d:PArr w g ps)(hi:i<ps.length):(execOp ρ o).run prog w=.ok .skip (w.setCells g (i*2) [int i64 p.1,int i64 p.2]):=by
 have ht:w.there g (i*2) 2:=by
  intro j q;have e:=d.cells hi;have l:j=0\/j=1:=by omega
  rcases l with rfl | rfl
  ·rw[Bh,e.1];exact⟨rfl,d.free _⟩
  ·rw[e.2];exact⟨rfl,d.free _⟩
 have:=run_storeAt_mid (P:=prog) w g (i*2) 335 #[int i64 p.1,int i64 p.2] ht Tryz.AoZ (by simp;exact⟨rfl,rfl⟩);unfold execOp;simp only[m,h,f];simp[this,Result.andThen]
def KR (s:ByteArray)(j:Nat):Int:=if h:j<s.size then (s[j].toNat:Int) else 0
def NW (s:ByteArray)(i:Nat):Int:=KR s (i / 8) / 2 ^ (7-i % 8) % 2
theorem VN(s:ByteArray)(j:Nat)(h:j<s.size):KR s j=(s[j].toNat:Int):=by simp[KR,h]
theorem AfB(s:ByteArray)(j:Nat):0<=KR s j/\KR s j<=255:=by
 unfold KR
 split
 ·have:=s[j].toNat_lt;omega
 ·omega
theorem Aiq(s:ByteArray)(i:Nat):0<=NW s i/\NW s i<=1:=by unfold NW;omega
theorem Ae9{k:IntKind}(h:a=b):Value.int k a=Value.int k b:=by rw[h]
def Fh (s:ByteArray)(n:Nat):List Int:=(List.range n).map (NW s)
def Gw (s:ByteArray)(n:Int):Int:=if n<0\/8*(s.size:Int)<n then 1 else if 4096<n then 2 else 0
def IZ (s:ByteArray)(n:Int):List Int:=if Gw s n=0 then Fh s n.toNat else []
theorem Vt(s:ByteArray)(n:Nat):Fh s (n+1)=Fh s n++[NW s n]:=by simp[Fh,Az]
theorem Gx(s:ByteArray)(n:Nat):(Fh s n).length=n:=by simp[Fh]
theorem Wo(d:k<=n)(hi:i<k):(Fl n k).getD i 0<n:=by
 have f:=KD d;have e:(Fl n k).getD i 0=(Fl n k)[i]:=by simp[List.getD,f,hi]
 rw[e];exact Wp (A4 _)
def Is (zs:List Int)(j:Int):Int:=if j<0 then 0 else zs.getD j.toNat 0
theorem Gj(h:Bits zs)(j:Int):0<=Is zs j/\Is zs j<=1:=by
 unfold Is
 split
 ·omega
 ·exact h _
def UQ (zs:List Int)(i:Nat):List Int:=
 [(Is zs i+Is zs (i-1)+Is zs (i-2)+Is zs (i-3)+Is zs (i-6)) % 2,(Is zs i+Is zs (i-2)+Is zs (i-3)+Is zs (i-5)+Is zs (i-6)) % 2,(Is zs i+Is zs (i-1)+Is zs (i-2)+Is zs (i-4)+Is zs (i-6)) % 2]
def Gz (zs:List Int):Nat->List Int
 | 0=>[]
 | i+1=>Gz zs i++UQ zs i
theorem JS(zs:List Int):∀i,(Gz zs i).length=3*i:=by intro a;induction a<;>grind [Gz,UQ]
def fed (W r x:Nat):Nat:=(r*2) ^^^ (x*2 ^ W)
def step (W P r x:Nat):Nat:=if fed W r x / 2 ^ W % 2=1 then fed W r x ^^^ P else fed W r x
structure Div(W P:Nat):Prop where
 pos:1<=W
 top:P.testBit W=true
 low:P.testBit 0=true
 lt:P<2 ^ (W+1)
theorem Vr(r p:Nat):(r*2).testBit p=(decide (0<p) && r.testBit (p-1)):=by
 cases p with
 | zero=>simp
 | succ p=>rw[Dp,Nat.testBit_succ];simp
theorem Ad5(x W p:Nat)(d:x<=1):(x*2 ^ W).testBit p=(decide (p=W) && decide (x=1)):=by
 rcases (show x=0\/x=1 by omega)with rfl | rfl
 ·simp
 grind
theorem AeC(W r x p:Nat)(d:x<=1):(fed W r x).testBit p=((decide (0<p) && r.testBit (p-1)) ^^ (decide (p=W) && decide (x=1))):=by
 unfold fed;rw[Eq,Vr,Ad5 x W p d]
def Yw (W r x:Nat):Bool:=r.testBit (W-1) ^^ decide (x=1)
theorem Alt(W r x:Nat)(d:1<=W)(e:x<=1):(fed W r x).testBit W=Yw W r x:=by grind [fed,Yw,AeC]
theorem Aky(d:Div W P)(r x p:Nat)(e:x<=1):(step W P r x).testBit p=((fed W r x).testBit p ^^ (Yw W r x && P.testBit p)):=by
 have ht:=Alt W r x d.pos e
 grind [step,fed,Yw]
theorem Amn(d:Div W P)(r x:Nat)(l:r<2 ^ W)(e:x<=1):step W P r x<2 ^ W:=by
 apply Nat.lt_pow_two_of_testBit;intro p f;rw[Aky d r x p e,AeC W r x p e]
 rcases DR f with rfl | h
 ·have:decide (0<W)=true:=by have:=d.pos;simp;omega
  rw[d.top];simp[Yw,this]
 ·have m:r.testBit (p-1)=false:=Er (AI l (BC (by decide) (by omega)));have q:P.testBit p=false:=Er (AI d.lt (BC (by decide) (by omega)))
  grind
def crc (W P:Nat)(zs:List Int):Nat:=zs.foldl (fun r x=>step W P r x.toNat) 0
theorem AiH(W P:Nat)(zs:List Int)(x:Int):crc W P (zs++[x])=step W P (crc W P zs) x.toNat:=by simp[crc]
theorem Zp(W P:Nat)(zs:List Int)(k:Nat)(d:k<zs.length):crc W P (zs.take (k+1))=step W P (crc W P (zs.take k)) (zs.getD k 0).toNat:=by
 rw[Bu d,AiH];simp[List.getD,d]
theorem VG(h:Bits zs)(m:Nat):Bits (zs.take m):=by simp_all[Bits];grind
theorem Aco{W P:Nat}(d:Div W P){zs:List Int}(h:Bits zs):∀k,crc W P (zs.take k)<2 ^ W
 | 0=>by simp[crc];exact DS (by decide)
 | k+1=>by
  by_cases e:k<zs.length
  ·rw[Zp W P zs k e];exact Amn d _ _ (Aco d h k) (by have:=h k;omega)
  ·have:zs.take (k+1)=zs.take k:=by rw[Aw (by omega),Aw (by omega)]
   rw[this];exact Aco d h k
def b2i (b:Bool):Int:=if b then 1 else 0
theorem AbZ(b:Bool):0<=b2i b/\b2i b<=1:=by cases b<;>simp[b2i]
def MX (W P:Nat)(zs:List Int)(k:Nat):List Int:=(List.range k).map fun i=>b2i ((crc W P zs).testBit (W-1-i))
def RK (W P:Nat)(zs:List Int):List Int:=MX W P zs W
theorem Q7(W P:Nat)(zs:List Int)(k:Nat):(MX W P zs k).length=k:=by simp[MX]
theorem KL(W P:Nat)(zs:List Int):(RK W P zs).length=W:=Q7 _ _ _ _
theorem AdX(W P:Nat)(zs:List Int)(k:Nat):MX W P zs (k+1)=MX W P zs k++[b2i ((crc W P zs).testBit (W-1-k))]:=by simp[MX,Az]
def turned(W:Nat)(D:List Int)(i m j:Nat):Bool:=(D.take m).any fun d=>decide ((i:Int)+W-d=j)
theorem Mi(h:W<=24):(2:Nat) ^ W<=16777216:=by
 have:=BC (n:=2) (by decide) h
 simpa using this
theorem Anb(f:W<=24)(l:r<16777216)(h:x<=1):fed W r x<4294967296:=by
 have d:r*2<2 ^ 32:=by omega
 have e:x*2 ^ W<2 ^ 32:=by
  have:=Mi f;have:x*2 ^ W<=1*2 ^ W:=BM _ h;omega
 exact CO d e
theorem Als{q y:Int}(e:W<=24)(l:r<16777216)(h:x<=1)(f:q=r)(m:y=x):bits .xor .u32 (q*2) (y*2 ^ W % 4294967296)=((fed W r x:Nat):Int):=by
 have d:x*2 ^ W<4294967296:=by
  have:=Mi e;have:x*2 ^ W<=1*2 ^ W:=BM _ h;omega
 have e1:q*2=((r*2:Nat):Int):=by rw[f];omega
 have e2:y*2 ^ W % 4294967296=((x*2 ^ W:Nat):Int):=by
  grind
 rw[e1,e2,Cu _ _ (by omega) d];rfl
theorem Amu(F W:Nat)(hF:F<4294967296):(bits .and .u32 ((F:Int) / 2 ^ W) 1==1)=decide (F / 2 ^ W % 2=1):=by
 have e:((F:Int) / 2 ^ W)=((F / 2 ^ W:Nat):Int):=by simp
 have d:F / 2 ^ W<4294967296:=B5 (C3 _ _) hF;rw[e,show(1:Int)=((1:Nat):Int)from rfl,DT _ _ d (by decide),Dq];rw[Dr];simp;omega
theorem Alp{F:Nat}(d:W<=24)(h:R<16777216)(hF:F<4294967296):bits .xor .u32 (F:Int) (bits .or .u32 (2 ^ W % 4294967296) R)=((F ^^^ (2 ^ W ||| R):Nat):Int):=by
 have l:=Mi d;have e:(2:Int) ^ W % 4294967296=((2 ^ W:Nat):Int):=by
  grind
 have f:2 ^ W ||| R<2 ^ 32:=Nat.or_lt_two_pow (by omega) (by omega);rw[e,u32_or_nat _ _ (by omega) (by omega),Cu _ _ hF (by omega)]
theorem Akg(r e:Nat)(f:r<16777216):bits .and .u32 ((r:Int) / 2 ^ e) 1=b2i (r.testBit e):=by
 have e1:((r:Int) / 2 ^ e)=((r / 2 ^ e:Nat):Int):=by simp
 have d:r / 2 ^ e<4294967296:=B5 (C3 _ _) (by omega);rw[e1,show(1:Int)=((1:Nat):Int)from rfl,DT _ _ d (by decide),Dq,Nat.testBit_eq_decide_div_mod_eq]
 grind [b2i]
theorem Amp(W R:Nat)(zs:List Int)(k:Nat)(q:Int)(h:k<W)(d:q=(crc W (2 ^ W ||| R) zs:Nat))(e:q<16777216):
 (MX W (2 ^ W ||| R) zs k++List.replicate (W-k) 0).set k (bits .and .u32 (q / 2 ^ (W-1-k)) 1 % 256)=MX W (2 ^ W ||| R) zs (k+1)++List.replicate (W-(k+1)) 0:=by
 have f:=AbZ ((crc W (2 ^ W ||| R) zs).testBit (W-1-k));rw[show W-k=(W-(k+1))+1 from by omega,KI _ _ _ _ (Q7 _ _ _ k),AdX,d,Akg _ _ (by omega)]
 grind
theorem Yt(W:Nat)(R:Nat)(zs:List Int)(a:Option Addr)(c:Nat)(w:World)(ha:Rd .u8 w a zs)(hb:Bits zs)(hz:zs.length<=4096)(hD:Div W (2 ^ W ||| R))(ac:1<=W)(U:W<=24)(hR:R<16777216):
 Calls prog 224 #[.agg #[int i64 W,int .u32 R],.slice a zs.length c] w fun e w'=>∃v,e=.returned v/\Own w' w.heap.size v (RK W (2 ^ W ||| R) zs)/\Below w.heap.size w w':=by
 have hp:=Mi U;have Z:Hid (2 ^ W<=16777216):=hp;clear hp;go_enter func224,ntmps224;go_wp2
 go_loopw [5,12] (fun l i wr=>∃k:Nat,∃q:Int,k<=zs.length/\i=int i64 k/\0<=q/\q<16777216/\l=int .u32 q/\Hid (q=(crc W (2 ^ W ||| R) (zs.take k):Nat))/\wr.cell? ⟨w.heap.size,0,none⟩=some (int i64 W)/\wr.cell? ⟨w.heap.size,1,none⟩=some (int .u32 R)/\w.heap.size<wr.heap.size/\Below w.heap.size w wr) (fun _ i _=>zs.length-(intOf i).toNat)
 case atStart=>exact⟨0,0,Af _,rfl,by omega,by omega,rfl,by unfold Hid;simp[crc],by simp,by simp,by simp,(Ad _ _).alloc (Ac _) _⟩
 case round=>
  obtain⟨k,q,hk,rfl,ad,Y,rfl,O,z,G,J,h⟩:=hrel
  by_cases H:k<zs.length
  ·obtain⟨b1,o1,rfl,Q⟩:=(ha.below h).at H;have g1:=Q k H;have hx:=hb k;clear Q;obtain⟨x,F⟩:=E7 (zs.getD k 0);rw[<-F]at g1 hx;obtain⟨r,V⟩:=E7 (crc W (2 ^ W ||| R) (zs.take k));have I:q=(r:Int):=by rw[V];exact O.out
   have E:r<16777216:=by omega
   have C:=Als (W:=W) (r:=r) (x:=x.toNat) (q:=q) (y:=x) U E (by omega) I (by omega);have D:=Anb (W:=W) (r:=r) (x:=x.toNat) U E (by omega);have K:=Amu _ W D;have A:=Alp (W:=W) (R:=R) U hR D;have d:crc W (2 ^ W ||| R) (zs.take (k+1))=step W (2 ^ W ||| R) r x.toNat:=by rw[Zp _ _ zs k H,<-V,F]
   have m:step W (2 ^ W ||| R) r x.toNat<2 ^ W:=d▸Aco hD hb (k+1);rw[<-C]at K A;unfold step at d m
   by_cases L:fed W r x.toNat / 2 ^ W % 2=1
   ·rw[Ab L]at d m;rw[Ag L]at K;have N:Hid (crc W (2 ^ W ||| R) (zs.take (k+1))<16777216/\bits .xor .u32 (bits .xor .u32 (q*2) (x*2 ^ W % 4294967296)) (bits .or .u32 (2 ^ W % 4294967296) R)=(crc W (2 ^ W ||| R) (zs.take (k+1)):Nat)):=⟨by rw[d];have:=Z.out;omega,by rw[A,d]⟩;clear A d m L D C I F V O E;go_wp2
    go_quiet (fail);go_wp2
    go_roundw
    case rel=>exact⟨k+1,_,by omega,by go_num,Es _,by have:=N.out.1;omega,Ae9 N.out.2,rfl,z,G,J,below_drewN h _⟩
    case measure=>simp[intOf];omega
   ·rw[Aa L]at d m;rw[Ae L]at K;have N:Hid (crc W (2 ^ W ||| R) (zs.take (k+1))<16777216/\bits .xor .u32 (q*2) (x*2 ^ W % 4294967296)=(crc W (2 ^ W ||| R) (zs.take (k+1)):Nat)):=⟨by rw[d];have:=Z.out;omega,by rw[C,d]⟩;clear A d m L D C I F V O E;go_wp2
    go_roundw
    case rel=>exact⟨k+1,_,by omega,by go_num,Es _,by have:=N.out.1;omega,Ae9 N.out.2,rfl,z,G,J,h⟩
    case measure=>simp[intOf];omega
  ·obtain rfl:k=zs.length:=by omega
   rw[Et]at O;obtain⟨M,rfl⟩:=E7 (wr:World)
   go_wp2_with(at_make;refine FH M.heap.size M W rfl _ _ rfl _ _ rfl rfl rfl rfl (by omega) (Ad _ _) (Ac _) ?_);intro w1 u t ab;go_wp2
   go_loopw [44] (fun i wr=>∃k:Nat,k<=W/\i=int i64 k/\Own wr M.heap.size (.slice (some ⟨M.heap.size,0,none⟩) W W) (MX W (2 ^ W ||| R) zs k++List.replicate (W-k) 0)/\Below M.heap.size M wr) (fun i _=>W-(intOf i).toNat)
   case atStart=>exact⟨0,Af _,rfl,u,t⟩
   case round=>
    clear u t;obtain⟨k,hk,rfl,f,s⟩:=hrel;have aa:=(s.cell (p:=⟨w.heap.size,0,none⟩) J).trans z
    by_cases S:k<W
    ·have X:(MX W (2 ^ W ||| R) zs k++List.replicate (W-k) 0).length=W:=f.len;have hc:=f.cell (i:=k) (by omega);have hf:=f.free k;clear X z G;go_wp2
     go_roundw
     case rel=>exact⟨k+1,by omega,by go_num,Amp W R zs k q S O.out Y▸f.set k _,s.setCell (Ac _) _⟩
     case measure=>simp[intOf];omega
    ·go_wp2;go_ret;obtain rfl:k=W:=by omega
     rw[Bm,C4,AA]at f;exact⟨_,rfl,f.mono h.size,Fr h s⟩
def kW (k:Int):Nat:=if k=0 then 6 else if k=1 then 11 else if k=2 then 16 else if k=3 then 24 else 0
def kR (k:Int):Nat:=if k=0 then 33 else if k=1 then 1569 else if k=2 then 4129 else if k=3 then 8801531 else 0
def kP (k:Int):Nat:=2 ^ kW k ||| kR k
def Jr (k:Int):Bool:=decide (0<=k/\k<=3)
theorem TP{k:Int}(h:Jr k=true):k=0\/k=1\/k=2\/k=3:=by
 simp[Jr]at h;omega
theorem Oi{k:Int}(h:Jr k=true):Div (kW k) (kP k)/\1<=kW k/\kW k<=24/\kR k<16777216:=by
 rcases TP h with rfl | rfl | rfl | rfl
 ·exact⟨⟨by decide,by decide,by decide,by decide⟩,by decide,by decide,by decide⟩
 ·exact⟨⟨by decide,by decide,by decide,by decide⟩,by decide,by decide,by decide⟩
 ·exact⟨⟨by decide,by decide,by decide,by decide⟩,by decide,by decide,by decide⟩
 ·exact⟨⟨by decide,by decide,by decide,by decide⟩,by decide,by decide,by decide⟩
theorem Zw(k:Int)(w:World)(h:Jr k=true):
 Calls prog 255 #[int i64 k] w fun e w'=>e=.returned (.tuple #[.agg #[int i64 (kW k),int .u32 (kR k)],int i64 0])/\Below w.heap.size w w':=by
 rcases TP h with rfl | rfl | rfl | rfl
 all_goals
  clear h;go_enter func255,ntmps255;go_wp2
 ·exact Ah (v:=.tuple #[.agg #[int i64 6,int .u32 33],int i64 0]) (by simp[results,results255,go_sem]) rfl ⟨rfl,(Ad _ _).alloc (Ac _) _⟩
 ·exact Ah (v:=.tuple #[.agg #[int i64 11,int .u32 1569],int i64 0]) (by simp[results,results255,go_sem]) rfl ⟨rfl,(Ad _ _).alloc (Ac _) _⟩
 ·exact Ah (v:=.tuple #[.agg #[int i64 16,int .u32 4129],int i64 0]) (by simp[results,results255,go_sem]) rfl ⟨rfl,(Ad _ _).alloc (Ac _) _⟩
 ·exact Ah (v:=.tuple #[.agg #[int i64 24,int .u32 8801531],int i64 0]) (by simp[results,results255,go_sem]) rfl ⟨rfl,(Ad _ _).alloc (Ac _) _⟩
theorem Ais{w1:World}{x y:Value}(e:Below (w.alloc (.cells #[x,y] T)).heap.size (w.alloc (.cells #[x,y] T)) w1):
 w1.cell? ⟨w.heap.size,0,none⟩=some x/\w1.cell? ⟨w.heap.size,1,none⟩=some y/\w1.frozen? ⟨w.heap.size,0,none⟩=false/\w1.frozen? ⟨w.heap.size,1,none⟩=false/\w.heap.size<w1.heap.size:=by
 have d:w.heap.size<(w.alloc (.cells #[x,y] T)).heap.size:=by simp
 refine⟨(e.cell (p:=⟨w.heap.size,0,none⟩) d).trans ?_,(e.cell (p:=⟨w.heap.size,1,none⟩) d).trans ?_,(e.frozen (p:=⟨w.heap.size,0,none⟩) d).trans ?_,(e.frozen (p:=⟨w.heap.size,1,none⟩) d).trans ?_,AI d e.size⟩
 ·rw[Al _ _ _ _ _ _ (Am w _)];rfl
 ·rw[Al _ _ _ _ _ _ (Am w _)];rfl
 ·exact Bz _ _ _ _ _ (Am w _)
 ·exact Bz _ _ _ _ _ (Am w _)
def Lq (zs:List Int)(k:Int):Int:=if F6 zs=0 then (if Jr k then 0 else 1) else F6 zs
theorem KE(zs:List Int)(k:Int)(a:Option Addr)(c:Nat)(w:World)(p:Rd .u8 w a zs)(q:zs.length<=maxLen)(l:F6 zs=0)(h:Jr k=true):
 Calls prog 223 #[.slice a zs.length c,int i64 k] w fun e w'=>e=.returned (.tuple #[.agg #[int i64 (kW k),int .u32 (kR k)],int i64 0])/\Below w.heap.size w w':=by
 have m:Hid (F6 zs=0):=l;clear l;go_enter func223,ntmps223
 go_wp2_with fail;refine(IP zs a c _ (p.below ((Ad _ _).alloc (Ac _) _)) q).mono ?_;rintro e w1 ⟨rfl,rfl⟩;rw[m.out]
 go_wp2_with fail;refine(Zw k _ h).mono ?_;rintro e w1 ⟨rfl,d⟩;obtain⟨s,t,u,y,z⟩:=Ais d;have f:Below w.heap.size w w1:=Fr ((Ad _ _).alloc (Ac _) _) d;clear d;go_wp2;exact Ah (v:=.tuple #[.agg #[int i64 (kW k),int .u32 (kR k)],int i64 0]) (by simp[results,results223,go_sem,s,t]) rfl ⟨rfl,(f.setCell (Ac _) _).setCell (Ac _) _⟩
theorem MI{k:Int}(h:Lq zs k=0):F6 zs=0/\Jr k=true:=by grind [Lq,F6,Jr]
def Ko (zs:List Int)(k:Int):List Int:=RK (kW k) (kP k) zs
theorem AnY(zs:List Int)(k:Int)(a:Option Addr)(c:Nat)(w:World)(y:Rd .u8 w a zs)(z:Bytes zs)(h:Lq zs k=0):
 Calls prog 253 #[.slice a zs.length c,int i64 k] w fun e w'=>∃v,e=.returned (.tuple #[v,int i64 0])/\Own w' w.heap.size v (Ko zs k)/\Below w.heap.size w w':=by
 obtain⟨l,t⟩:=MI h;obtain⟨u,m,E,D⟩:=Oi t;have F:Bits zs:=fun j=>⟨(z.at j).1,(IA l).1 j⟩
 have G:=(IA l).2;have A:Hid (F6 zs=0):=l;have C:Hid (Jr k=true):=t;clear h z l t;unfold Ko kP;unfold kP at u;go_enter func253,ntmps253
 go_wp2_with fail;refine(KE zs k a c _ y (by unfold maxLen;omega) A.out C.out).mono ?_;rintro e w1 ⟨rfl,d⟩;have p:=y.below d
 go_wp2_with fail;refine(Yt (kW k) (kR k) zs a c _ (p.below ((Ad _ _).alloc (Ac _) _)) F G u m E D).mono ?_;rintro e w2 ⟨v,rfl,f,q⟩;have s:=Fr d (Fr ((Ad _ _).alloc (Ac _) _) q);go_wp2
 go_ret2;refine⟨v,rfl,f.mono ?_,s⟩;have:=d.size;simp;omega
def AoN (r:Nat):Nat:=(r / 8 ^^^ r) % 2
def AoO (r:Nat):Nat:=(r / 8 ^^^ r / 4 ^^^ r / 2 ^^^ r) % 2
def Akw (r:Nat):Nat:=r / 2 ||| AoN r*2 ^ 30
def Akx (r:Nat):Nat:=r / 2 ||| AoO r*2 ^ 30
def Adx:Nat->Nat
 | 0=>1
 | t+1=>Akw (Adx t)
def Ady (s:Nat):Nat->Nat
 | 0=>s
 | t+1=>Akx (Ady s t)
theorem Vs(x:Nat):x.testBit 0=decide (x % 2=1):=by simp[Nat.testBit_zero]
theorem AeX(r x:Nat)(d:r<2 ^ 31)(e:x<=1):(r / 2 ||| x*2 ^ 30)<2 ^ 31:=by
 apply Nat.or_lt_two_pow
 ·omega
 grind
theorem Yf:∀t,Adx t<2 ^ 31
 | 0=>by decide
 | t+1=>AeX _ _ (Yf t) (by unfold AoN;omega)
theorem Yg(s:Nat)(d:s<2 ^ 31):∀t,Ady s t<2 ^ 31
 | 0=>d
 | t+1=>AeX _ _ (Yg s d t) (by unfold AoO;omega)
def Aph (t:Nat):Bool:=(Adx t).testBit 0
def Api (s t:Nat):Bool:=(Ady s t).testBit 0
def XY (s i:Nat):Int:=b2i (Aph (1600+i) ^^ Api s (1600+i))
def FG (s n:Nat):List Int:=(List.range n).map (XY s)
theorem Lv(s n:Nat):(FG s n).length=n:=by simp[FG]
theorem XZ(s n:Nat):FG s (n+1)=FG s n++[XY s n]:=by simp[FG,Az]
theorem Own.other{N:Nat}{L:List Int}(h:Own w B (.slice (some ⟨g,0,none⟩) N c) L)(d i:Nat)(u:Value)(e:g≠d):Own (w.setCell ⟨d,i,none⟩ u) B (.slice (some ⟨g,0,none⟩) N c) L:=
 ownsRow_setCell_other h (a:=⟨d,i,none⟩) (by simpa [Value.ownBlock]using e) u
def L5:List Nat:=[0,4,2,6,1,5,3,7]
def Ho (n c r:Nat):List Nat:=((List.range r).filter fun s=>decide (8*s+c<n)).map fun s=>8*s+c
def Ux (n:Nat):Nat:=(n+7) / 8
def K1 (n k:Nat):List Nat:=(L5.take k).flatMap fun c=>Ho n c (Ux n)
def Lx (n:Nat):List Nat:=K1 n 8
def IF (l:List Nat):List Int:=l.map fun x:Nat=>(x:Int)
theorem AfQ(h:8*r+c<n):Ho n c (r+1)=Ho n c r++[8*r+c]:=by
 unfold Ho;rw[Az,BS,AR];simp[h]
theorem AiD(h:¬8*r+c<n):Ho n c (r+1)=Ho n c r:=by
 unfold Ho;rw[Az,BS,AR];simp[h]
theorem Ue(h:k<8):K1 n (k+1)=K1 n k++Ho n (L5.getD k 0) (Ux n):=by
 unfold K1;have d:k<L5.length:=h;rw[Bu d,Bd]
 grind
theorem All(h:k<8):L5.getD k 0<8:=by
 have:k=0\/k=1\/k=2\/k=3\/k=4\/k=5\/k=6\/k=7:=by omega
 rcases this with rfl | rfl | rfl | rfl | rfl | rfl | rfl | rfl<;>decide
theorem Xl(n c:Nat)(h:r<=R):Ho n c r <+:Ho n c R:=by
 unfold Ho;obtain⟨d,rfl⟩:∃d,R=r+d:=⟨R-r,by omega⟩;rw[List.range_add,BS,AR];exact List.prefix_append _ _
theorem Acl(h:r<=R)(d:¬8*r+c<n):Ho n c R=Ho n c r:=by
 induction R with
 | zero=>grind
 | succ R ih=>
  grind [AiD]
theorem X7(n k:Nat):K1 n k <+:Lx n:=by
 unfold Lx K1;have e:L5.take 8=L5.take k++(L5.drop k):=by rw[Cs];rfl
 grind
theorem Adg(d:k<8)(e:r<=Ux n):K1 n k++Ho n (L5.getD k 0) r <+:Lx n:=by
 refine List.IsPrefix.trans ?_ (X7 n (k+1));rw[Ue d];exact(List.prefix_append_right_inj _).2 (Xl n _ e)
theorem O0(d:c<8):x∈Ho n c r↔x<n/\x % 8=c/\x / 8<r:=by simp_all[Ho];grind
theorem Z6:x∈Lx n↔x<n:=by
 unfold Lx K1;simp only[Ce]
 constructor
 ·rintro⟨c,e,f⟩;have d:c<8:=by
   have:∀c∈L5.take 8,c<8:=by decide
   exact this c e
  exact((O0 d).1 f).1
 ·intro h;have l:x % 8∈L5.take 8:=by
   have:∀r:Fin 8,r.val∈L5.take 8:=by decide
   exact this ⟨x % 8,AZ _ (by omega)⟩
  grind [O0,Ux]
theorem Zl(n c r:Nat):(Ho n c r).Nodup:=by
 have h:(Ho n c r).Pairwise (fun a b=>a<b):=by
  unfold Ho;rw[List.pairwise_map];exact(List.pairwise_lt_range.filter _).imp fun h=>by omega
 exact h.imp fun h=>by omega
theorem Adf(n:Nat):(Lx n).Nodup:=by
 unfold Lx K1;rw[List.nodup_iff_pairwise_ne]at*;refine List.pairwise_flatMap.2 ⟨fun c _=>Zl n c _,?_⟩;have f:∀c∈L5.take 8,c<8:=by decide
 have hd:(L5.take 8).Pairwise (fun a b=>a≠b):=by decide
 refine List.Pairwise.imp_of_mem (fun {a b} h l d x m y p e=>?_) hd
 grind [O0]
theorem AgR(n:Nat):(Lx n).Perm (List.range n):=by grind [Lx,Adf,Z6]
theorem Oq(n:Nat):(Lx n).length=n:=by rw[(AgR n).length_eq,C1]
theorem Nh(a b:List Nat):IF (a++b)=IF a++IF b:=by simp[IF]
theorem QA(a:List Nat):(IF a).length=a.length:=by simp[IF]
theorem Ai8(l:List Nat)(j:Nat):(IF l).getD j 0=((l.getD j 0:Nat):Int):=by
 unfold IF List.getD
 grind
def LO (v:Int):Bool:=decide (0<=v/\v<=3)
def Gi (n v i:Nat):Nat:=(Lx n).getD ((n*v / 4+i) % n) 0
def I9 (n v c:Nat):List Nat:=(List.range c).map (Gi n v)
theorem Aay{v:Nat}(h:1<=n):Gi n v i<n:=by
 unfold Gi;have d:(n*v / 4+i) % n<(Lx n).length:=by rw[Oq];exact AZ _ (by omega)
 have e:(Lx n).getD ((n*v / 4+i) % n) 0=(Lx n)[(n*v / 4+i) % n]:=by simp[List.getD,d]
 rw[e];exact Z6.1 (A4 d)
def Od (s:List Int)(ps:List Nat)(xs:List Int):Nat->List Int
 | 0=>s
 | k+1=>(Od s ps xs k).set (ps.getD k 0) ((Od s ps xs k).getD (ps.getD k 0) 0+xs.getD k 0)
theorem Pj(s:List Int)(ps:List Nat)(xs:List Int)(k:Nat):(Od s ps xs k).length=s.length:=by
 induction k with
 | zero=>rfl
 | succ k ih=>rw[Od,An,ih]
end Go.Proofs.YtbjgfoiikhbonahGreatDoor
