import Derived.Test.YtbjgfoiikhbonahGreatDoorA03
import Derived.Deep.OwnRows
set_option linter.unusedVariables false
set_option linter.unusedSimpArgs false
set_option maxRecDepth 100000
set_option maxHeartbeats 4000000
namespace Go.Proofs.YtbjgfoiikhbonahGreatDoor
open Go.ChangeShapes Go.WideShapes Go.ChangeAt Go.RowKit Go.Shelf Go.Proofs.Tryz
open Go renaming World->A
open Value renaming int->C,pointer->I
open Option renaming some->D,none->E
open Bool renaming false->H,true->J
open Ending renaming returned->M
open IntKind renaming i64->O
variable {B K N c g h i id j k m n s:Nat}{L a b l:List Int}{P:Program}{Q:Exit->Act->A->Prop}{R:Ending->A->Prop}{f ρ:Operand->Value}{l0:List Value}{o:Oper}{ops:Array Oper}{p q v:Value}{ps:List (Int×Int)}{ts:Array TypeId}{us:Array Value}{w w':A}{x y:Operand}{xs:Array Operand}
theorem Nr(k:Nat)(s0:Nat)(v0:Value)(d:List (Nat×Value))(reads:List (List Nat))(t:List Nat)(wr:A)(hm:P.follows .mixedOrders=J)(hn:ops.size=k+1)
 (ab:0+1+d.length=k) (ac:(((s0,v0)::d).map (·.1)).Nodup) (aa:(((s0,v0)::d).all fun q=>decide (q.1<l0.length))=J)
 (r:((List.range k).all fun i=>(reads.getD i []).all fun s=>(List.range k).all fun j=>((((s0,undef)::d).getD j (0,undef)).1 !=s) || Ff ops i j)=J) (G:((List.range (k+1)).all fun i=>Gt ops i)=J)
 (ad:((List.range k).all fun i=>(reads.getD i []).all fun s=>decide (s<l0.length))=J)
 (S:((List.range k).all fun j=>decide (j<t.getD j 0) && (decide (t.getD j 0<=k) && Ff ops (t.getD j 0) j))=J)
 (F:∀i,i<k->∀(a:Act) (w:A),Below wr.heap.size wr w->(∀s∈reads.getD i [],a.eval (.tmp s)=lkp l0 ((s0,v0)::d) s)->∀(Q:Exit->Act->A->Prop) (K:Act->A->Prop),(∀w',w.grownBy w' E->K (a.put (D (((s0,v0)::d).getD i (0,undef)).1) (((s0,v0)::d).getD i (0,undef)).2) w')->wpOp P ops Q i K a w)
 (z:∀w,Below wr.heap.size wr w->LI P ops Q [k] {tmps:=(Ft l0 ((s0,v0)::d)).toArray,defers:=[]} w):
 (Code.region id ops J).wp P Q {tmps:=l0.toArray,defers:=[]} wr:=by
 refine QS (k+1) k 0 [] s0 d reads t (fun x _=>x=v0) wr hm hn (by omega) rfl ab ac aa r G ad S ?_ (fun _ _ _ h _=>h) ?_ ?_
 ·grind
 ·intro i hi x a w T hx hr Q K ae hK;refine F i hi a w T (fun s hs=>?_) Q K (fun w' hg=>?_)
  ·rw[hr s hs]
   by_cases e:s=s0
   ·subst e;rw[hx hs];rfl
   ·exact AlI s0 d x v0 [] s e
  grind
 ·intro x w T hx;subst hx;rw[show k+1-k=1 by omega];exact z w T
theorem Fb(w:A):w.grownBy w E:=⟨rfl,rfl,rfl,Ac _,fun _ _ _=>rfl⟩
theorem AjC{f:Nat}{a:Act}{K:Act->A->Prop}(hi:ops[i]?=D o){F:Oper}{want:Bool}(hg:o.guard=D (j,want))(S:ops[j]?=D F)(hd:F.dst=D s)(T:a.eval (.tmp s)=.bool want)(z:o.op=.call {callee:=.value (.func f),args:=xs,argTypes:=ts})
 (he:Enters prog f) (hx:xs.map a.eval=us) (hc:Calls prog f us w R) (hR:∀e w',R e w'->∃r,e= M r/\K (a.put o.dst r) w'):wpOp prog ops Q i K a w:=by
 unfold wpOp;rw[hi];have hw:=WS hg S hd T;simp only[hw,AP,Oper.wp]
 left;have d:(execOp a.eval o).run prog w=.ok (.enter f us) w:=by
  unfold execOp;simp only[z];have:=he us w;have t:a.eval (.func f)=.func (.func f) #[] #[]:=rfl;simp[resolve,invoke,hx,t,Deferred.ofValue,this]
 rw[d,DV];refine hc.mono fun e w' h=>?_
 obtain⟨r,rfl,G⟩:=hR e w' h;exact G
theorem FM{f:Nat}{a:Act}{K:Act->A->Prop}(hi:ops[i]?=D o)(hg:o.guard=E)(z:o.op=.call {callee:=.value (.func f),args:=xs,argTypes:=ts})
 (he:Enters prog f) (hx:xs.map a.eval=us) (hc:Calls prog f us w R) (hR:∀e w',R e w'->∃r,e= M r/\K (a.put o.dst r) w'):wpOp prog ops Q i K a w:=by
 unfold wpOp;rw[hi];have G:Region.wanted o (yielded ops a.tmps)=J:=by simp[Region.wanted,hg]
 simp only[G,AP,Oper.wp]
 left;have d:(execOp a.eval o).run prog w=.ok (.enter f us) w:=by
  unfold execOp;simp only[z];have:=he us w;have t:a.eval (.func f)=.func (.func f) #[] #[]:=rfl;simp[resolve,invoke,hx,t,Deferred.ofValue,this]
 rw[d,DV];refine hc.mono fun e w' h=>?_
 obtain⟨r,rfl,F⟩:=hR e w' h;exact F
theorem G5(w:A)(d:o.op=.assign x)(h:ρ x=v):(execOp ρ o).run P w=.ok (.value v) w:=by
 unfold execOp;simp only[d,h];simp[go_sem]
theorem Ie(w:A){a:Addr}(d:o.op=.nilCheck x)(h:ρ x= I (D a)):(execOp ρ o).run P w=.ok (.value (I (D a))) w:=by
 unfold execOp;simp only[d,h];simp[go_sem]
theorem Oj(d:f x=p)(e:f y=q):(#[x,y]:Array Operand).map f=#[p,q]:=by simp[d,e]
theorem Z5{z:Operand}{r:Value}(d:f x=p)(e:f y=q)(t:f z=r):(#[x,y,z]:Array Operand).map f=#[p,q,r]:=by simp[d,e,t]
def AbT (Rs:List (Value->A->Prop))(j:Nat):Value->A->Prop:=Rs.getD j fun _ _=>True
def MB (R:Value->A->Prop):Prop:=∀x w w',R x w->w.grownBy w' E->R x w'
theorem Ahk{d:List (Value->A->Prop)}(h:∀R∈d,MB R)(j:Nat)(x:Value)(w w':A)(t:AbT d j x w)(hg:w.grownBy w' E):AbT d j x w':=by
 unfold AbT at*
 by_cases r:j<d.length
 ·have e:d.getD j (fun _ _=>True)=d[j]:=by simp[List.getD,r]
  rw[e]at t ⊢;exact h _ (A4 r) x w w' t hg
 grind
theorem GJ(h:w.grownBy w' E):Below w.heap.size w w':=⟨h.os,h.tape,h.output,h.size,fun k d=>h.block k d (fun e=>by cases e)⟩
theorem II(n k:Nat)(d:List Nat)(reads:List (List Nat))(t:List Nat)(Rs:List (Value->A->Prop))(wr:A)(hm:P.follows .mixedOrders=J)(hn:ops.size=n)(ad:k<n)
 (ac:d.length=k) (ae:d.Nodup) (ab:(d.all fun s=>decide (s<l0.length))=J)
 (r:((List.range k).all fun i=>(reads.getD i []).all fun s=>(List.range k).all fun j=>(d.getD j 0 !=s) || Ff ops i j)=J) (T:((List.range n).all fun i=>Gt ops i)=J)
 (af:((List.range k).all fun i=>(reads.getD i []).all fun s=>decide (s<l0.length))=J)
 (aa:((List.range k).all fun j=>decide (j<t.getD j 0) && (decide (t.getD j 0<=k) && Ff ops (t.getD j 0) j))=J) (S:((List.range n).all fun i=>decide (i<=k) || Ff ops i (i-1))=J)
 (F:∀R∈Rs,MB R)
 (G:∀i,i<k->∀(σ:Nat->Value) (a:Act) (w:A),Below wr.heap.size wr w->(∀j,j<k->Ff ops i j=J->AbT Rs j (σ j) w)->(∀s∈reads.getD i [],a.eval (.tmp s)=lkp l0 (tbS d k σ) s)->∀(Q:Exit->Act->A->Prop) (K:Act->A->Prop),(∀x w',w.grownBy w' E->AbT Rs i x w'->K (a.put (D (d.getD i 0)) x) w')->wpOp P ops Q i K a w)
 (z:∀(σ:Nat->Value) w,Below wr.heap.size wr w->(∀j,j<k->AbT Rs j (σ j) w)->LI P ops Q (List.range' k (n-k)) {tmps:=(Ft l0 (tbS d k σ)).toArray,defers:=[]} w):
 (Code.region id ops J).wp P Q {tmps:=l0.toArray,defers:=[]} wr:=
 Ut n k d reads t (fun j σ w=>AbT Rs j (σ j) w) wr hm hn ad ac ae ab r T af aa S
  (fun j _ σ σ' w he h=>by grind) (fun j σ w w' h hg=>Ahk F j (σ j) w w' h hg)
  (fun i hi σ a w hb hp hr Q K hK=>G i hi σ a w hb hp hr Q K (fun x w' hg hx=>hK x w' hg (fun σ' _ e=>by grind))) z
def eqR (v:Value):Value->A->Prop:=fun x _=>x=v
theorem Lp(v:Value):MB (eqR v):=fun _ _ _ h _=>h
theorem G6(w:A){d:Array Value}(e:o.op=.extract x i)(h:ρ x=.tuple d)(r:d[i]?=D v):(execOp ρ o).run P w=.ok (.value v) w:=by
 unfold execOp;simp only[e,h];simp[go_sem,r]
theorem AeS(d:f x=p):(#[x]:Array Operand).map f=#[p]:=by simp[d]
theorem Qz(w:A)(o:Obj):w.grownBy (w.alloc o) E:=⟨rfl,rfl,rfl,by simp,fun k d _=>Bc _ _ _ d⟩
theorem Aak{a:Act}{K:Act->A->Prop}(hi:ops[i]?=D o)(hg:o.guard=E)
 (d:(execOp a.eval o).run P w=.ok .skip w') (e:K (a.put o.dst undef) w'):wpOp P ops Q i K a w:=by
 unfold wpOp;rw[hi];have r:Region.wanted o (yielded ops a.tmps)=J:=by simp[Region.wanted,hg]
 simp only[r,AP,Oper.wp]
 left;rw[d];exact e
theorem UA(w:A)(d:o.op=.fieldAddr 286 x 0)(h:ρ x= I (D ⟨g,s,E⟩)):(execOp ρ o).run prog w=.ok (.value (I (D ⟨g,s,E⟩))) w:=by
 unfold execOp;simp only[d,h];simp[go_sem]
theorem Aba(w:A)(d:o.op=.fieldAddr 286 x 1)(h:ρ x= I (D ⟨g,s,E⟩)):(execOp ρ o).run prog w=.ok (.value (I (D ⟨g,s+1,E⟩))) w:=by
 unfold execOp;simp only[d,h];simp[go_sem]
theorem Abb(w:A)(d:o.op=.fieldAddr 286 x 2)(h:ρ x= I (D ⟨g,s,E⟩)):(execOp ρ o).run prog w=.ok (.value (I (D ⟨g,s+2,E⟩))) w:=by
 unfold execOp;simp only[d,h];simp[go_sem]
theorem OA(w:A)(d:o.op=.fieldAddr 286 x 3)(h:ρ x= I (D ⟨g,s,E⟩)):(execOp ρ o).run prog w=.ok (.value (I (D ⟨g,s+3,E⟩))) w:=by
 unfold execOp;simp only[d,h];simp[go_sem]
theorem Abc(w:A)(d:o.op=.fieldAddr 286 x 4)(h:ρ x= I (D ⟨g,s,E⟩)):(execOp ρ o).run prog w=.ok (.value (I (D ⟨g,s+4,E⟩))) w:=by
 unfold execOp;simp only[d,h];simp[go_sem]
theorem WI(h:i<L.length){x:Int}(d:x=L.getD i 0):L.take i++[x]=L.take (i+1):=by
 rw[Bu h,d];simp[List.getD,h]
def Within(l:List Int)(K:Nat):Prop:=∀j, -(K:Int)<=l.getD j 0/\l.getD j 0<=K
theorem Aok{a b:Int}(d: -(K:Int)<=a/\a<=K)(e: -(K:Int)<=b/\b<=K): -(K:Int)<=fI a b/\fI a b<=K:=by
 unfold fI WY
 split<;>split<;>split<;>omega
theorem Aou{x a b:Int}(d: -(K:Int)<=a/\a<=K)(e: -(K:Int)<=b/\b<=K): -((2*K:Nat):Int)<=gI x a b/\gI x a b<=(2*K:Nat):=by
 unfold gI
 split<;>omega
theorem VW(d:a.length=h)(e:b.length=h):(fL a b).length=h:=by simp[fL,d,e]
theorem AmL(d:a.length=h)(e:b.length=h)(r:j<h):(fL a b).getD j 0=fI (a.getD j 0) (b.getD j 0):=by
 simp[fL,List.getD,d,e,r]
theorem Rm:∀{x a b:List Int} {h:Nat},x.length=h->a.length=h->b.length=h->(gL x a b).length=h
 | [],[],[],_,h,_,_=>h
 | [],_::_,_,_,h1,h2,_=>by subst h1;simp at h2
 | [],[],_::_,_,h1,_,h2=>by subst h1;simp at h2
 | _::_,[],_,_,h1,h2,_=>by subst h1;simp at h2
 | _::_,_::_,[],_,h1,_,h2=>by subst h1;simp at h2
 | x::xs,a::al,b::bl,h,h1,h2,h3=>by
  subst h1;have:=Rm (x:=xs) (a:=al) (b:=bl) (h:=xs.length) rfl (by simpa using h2) (by simpa using h3);simp[gL,this]
theorem AiT:∀{x a b:List Int} {h:Nat},x.length=h->a.length=h->b.length=h->∀{j:Nat},j<h->(gL x a b).getD j 0=gI (x.getD j 0) (a.getD j 0) (b.getD j 0)
 | [],_,_,_,h1,_,_,j,hj=>by subst h1;simp at hj
 | _::_,[],_,_,h1,h2,_,_,_=>by subst h1;simp at h2
 | _::_,_::_,[],_,h1,_,h2,_,_=>by subst h1;simp at h2
 | x::xs,a::al,b::bl,h,h1,h2,h3,0,_=>by simp[gL]
 | x::xs,a::al,b::bl,h,h1,h2,h3,j+1,hj=>by
  subst h1;have:=AiT (x:=xs) (a:=al) (b:=bl) (h:=xs.length) rfl (by simpa using h2) (by simpa using h3) (j:=j) (by simpa using hj)
  simpa [gL]using this
theorem ZD(h:l.length<=j):l.getD j 0=0:=by simp[List.getD,h]
theorem AkV(e:a.length=h)(r:b.length=h)(t:Within a K)(z:Within b K):Within (fL a b) K:=fun j=>by
 rcases AS j h with d | d
 ·rw[AmL e r d];exact Aok (t j) (z j)
 ·rw[ZD (by rw[VW e r];exact d)];omega
theorem AkW{x:List Int}(t:x.length=h)(e:a.length=h)(r:b.length=h)(z:Within a K)(F:Within b K):Within (gL x a b) (2*K):=fun j=>by
 rcases AS j h with d | d
 ·rw[AiT t e r d];exact Aou (z j) (F j)
 ·rw[ZD (by rw[Rm t e r];exact d)];omega
theorem V5(d:j<h):(l.take h).getD j 0=l.getD j 0:=by simp[List.getD,d]
theorem Ro:(l.drop h).getD j 0=l.getD (h+j) 0:=by simp[List.getD]
theorem Within.take(h:Within l K)(n:Nat):Within (l.take n) K:=by simp_all[Within];grind
theorem Within.drop(h:Within l K)(n:Nat):Within (l.drop n) K:=fun j=>by
 rw[Ro];exact h _
theorem Own.slice(h:Own w B v L)(r:L.length=k):∃a c,v=.slice a k c/\k<=c/\c<=maxLen/\Rd .u8 w a L/\(∀g o,a=D ⟨g,o,E⟩->B<=g):=by
 obtain⟨a,c,rfl, -,d,e⟩:=h.FC;subst r;refine⟨a,c,rfl,d,e,h.rd,?_⟩;rintro g o rfl;exact Lz h g rfl
def Pq (n k:Nat):List Bool:=(List.range n).map (QB n k)
def GV (s xs:List Int)(v:Int):List Int:=Od s (I9 s.length v.toNat xs.length) xs xs.length
def OD (xs:List Int)(v:Int):Bool:=Fy xs && decide (xs.length<=4096) && LO v
def Iw (s xs:List Int)(v:Int):Int:=if OD xs v then (if Fy (GV s xs v) then 0 else 2) else 1
def Qk (s xs:List Int)(v:Int):List Int:=if OD xs v && Fy (GV s xs v) then GV s xs v else s
def AiC:Array Value:=#[C O 0, C O 4, C O 2, C O 6, C O 1, C O 5, C O 3, C O 7]
def Col (w:A):Prop:=∃T fr,w.heap[10]?=D (.cells AiC T fr)
theorem Col.lt(h:Col w):10<w.heap.size:=by grind [Col]
theorem Col.below(h:Col w)(r:Below B w w')(d:10<B):Col w':=by
 obtain⟨T,fr,e⟩:=h;exact⟨T,fr,(r.block _ d).trans e⟩
theorem Col.later(h:Col w)(d:Below w.heap.size w w'):Col w':=h.below d h.lt
theorem QK(s xs:List Int)(v:Int):(GV s xs v).length=s.length:=Pj _ _ _ _
theorem OwnI.AmG(h:OwnI w B (.slice (D ⟨g,0,E⟩) N c) L)(hi:i<L.length):w.cell? ⟨g,i,E⟩=D (C O (L.getD i 0)):=by
 obtain⟨b,d,e,r⟩:=h.rd.at hi
 grind
theorem OwnI.free(h:OwnI w B (.slice (D ⟨g,0,E⟩) N c) L)(i:Nat):w.frozen? ⟨g,i,E⟩=H:=by
 have e:=h.len;unfold OwnI at h;rw[e]at h;exact h.frozenAt i
theorem OwnI.set(h:OwnI w B (.slice (D ⟨g,0,E⟩) N c) L)(i:Nat)(x:Int):OwnI (w.setCell ⟨g,i,E⟩ (C O x)) B (.slice (D ⟨g,0,E⟩) N c) (L.set i x):=by
 have e:=h.len;unfold OwnI at h ⊢;rw[An,e,Di];rw[e]at h;exact(h.stored i _).1
theorem OwnI.Ako(h:OwnI w B v L)(F:L.length=m)(G:1<=m):∃g c,v=.slice (D ⟨g,0,E⟩) m c/\m<=c/\c<=maxLen:=by
 rcases h.2 with⟨_,r⟩ | ⟨g,d,cur,e,_,_,t,z,_⟩
 ·omega
 grind
theorem Kept.AmH{S:List Nat}(h:Kept S w w'){p:Addr}(d:w.cell? p=D v)(e:p.block∉S):w'.cell? p=D v:=by
 have:=h.block p.block (Aj w _ d) e;rw[<-d];simp only[World.cell?,this]
theorem AgW{v:Nat}(h:j<c):(I9 n v c).getD j 0=Gi n v j:=by simp[I9,List.getD,h]
theorem Own.AnS(h:Own w B v L)(F:L.length=m)(G:1<=m):∃g c,v=.slice (D ⟨g,0,E⟩) m c/\m<=c/\c<=maxLen:=by
 rcases h.2 with⟨_,r⟩ | ⟨g,d,cur,e,_,_,t,z,_⟩
 ·omega
 grind
theorem OwnP.AoI{d:Nat}(h:OwnP w B v ps)(e:d<=B):OwnP w d v ps:=OwnT.mono (T:=335) h e
theorem Lc(w:A){S:Setg}(e:o.op=.load 286 x)(h:ρ x= I (D ⟨g,s,E⟩))(t:w.cell? ⟨g,s,E⟩=D (C O S.code))(F:w.cell? ⟨g,s+1,E⟩=D (C O S.size))(G:w.cell? ⟨g,s+2,E⟩=D (C O S.order))(T:w.cell? ⟨g,s+3,E⟩=D (C O S.seed))(h4:w.cell? ⟨g,s+4,E⟩=D (C O S.count)):(execOp ρ o).run prog w=.ok (.value S.val) w:=by
 unfold execOp;have d:w.rangeAt g s [C O S.code, C O S.size, C O S.order, C O S.seed, C O S.count]:=by
  intro j z hz
  grind
 have r:=run_loadVar_mid w g s 286 _ _ d underlying286 rfl (by kernel_rfl);simp only[e,h,Instr.loadAt,Instr.sureAddr,BN,Cv,B7,r];rfl
theorem ArrAt.rdL{k:IntKind}{T:TypeId}(h:ArrAt k T w g L):Rd k w (D ⟨g,0,E⟩) L:=fun _=>⟨g,0,rfl,fun j d=>by rw[Ao];exact h.cell d⟩
def Kc (h order:Nat)(p:Int×Int)(k:Nat)(x:Int):Nat->Int
 | 0=> -1
 | j+1=>if ((FI order).getD j []).getD k 0=x/\(Kc h order p k x j<0\/Oa p (ptM h ((FI order).getD j []))<Kc h order p k x j) then Oa p (ptM h ((FI order).getD j [])) else Kc h order p k x j
def ML (h order:Nat)(p:Int×Int)(k:Nat):Int:=Kc h order p k 1 (2 ^ order)-Kc h order p k 0 (2 ^ order)
def Md (h order:Nat)(p:Int×Int)(k:Nat):List Int:=(List.range k).map (ML h order p)
def Jq (h order:Nat)(ps:List (Int×Int))(n:Nat):List Int:=(ps.take n).flatMap fun p=>Md h order p order
theorem XG(h order:Nat)(p:Int×Int)(k:Nat):Md h order p (k+1)=Md h order p k++[ML h order p k]:=by simp[Md,Az]
theorem ZI{order:Nat}(d:n<ps.length):Jq h order ps (n+1)=Jq h order ps n++Md h order (ps.getD n (0,0)) order:=by
 unfold Jq;rw[Bu d,Bd];simp[List.getD,d]
theorem Vg(h order:Nat)(ps:List (Int×Int)):∀n,n<=ps.length->(Jq h order ps n).length=n*order:=by intro a;induction a<;>grind [Jq,Md,ZI]
theorem Ws{a b:Bool}(h:a=b):Ending.returned (.bool a)= M (.bool b):=by rw[h]
def PW (order:Int):Bool:=decide (order=2\/order=4\/order=6)
def Kn (p:Int×Int):Bool:=decide ((-1000<=p.1/\p.1<=1000)/\ -1000<=p.2/\p.2<=1000)
def IR (ps:List (Int×Int))(order:Int):Bool:=PW order && decide ((ps.length:Int)*order<=4096) && ps.all Kn
def Am0 (ps:List (Int×Int))(k:Nat):Prop:=∀j,j<k->Kn (ps.getD j (0,0))=J
theorem Aih(e:k=ps.length)(h:Am0 ps k):ps.all Kn=J:=by
 rw[AM];intro p d;obtain⟨i,hi,rfl⟩:=A5 d;have:=h i (by omega)
 simpa [List.getD,hi]using this
theorem AlQ(d:k<ps.length)(h:Kn (ps.getD k (0,0))=H):ps.all Kn=H:=by grind
def num (zs:List Int)(i:Nat):Nat->Int
 | 0=>0
 | t+1=>2*num zs i t+zs.getD (i+t) 0
def Ix (zs:List Int)(k j:Nat):Int:=num zs (8*j) (min 8 (k-8*j))*2 ^ (8-min 8 (k-8*j))
def Kp (zs:List Int)(k:Nat):List Int:=(List.range ((zs.length+7) / 8)).map (Ix zs k)
def JH (zs:List Int):List Int:=(List.range ((zs.length+7) / 8)).map fun j=>num zs (8*j) 8
theorem Lb(zs:List Int):(JH zs).length=(zs.length+7) / 8:=by simp[JH]
theorem Anw{zs:List Int}(h:Bits zs)(i:Nat):∀t,0<=num zs i t/\num zs i t<2 ^ t:=by intro a;induction a<;>grind [Bits,num]
theorem Aau(zs:List Int):Kp zs 0=List.replicate ((zs.length+7) / 8) 0:=by
 unfold Kp;rw[Ew];refine⟨by simp,fun x d=>?_⟩;obtain⟨j,_,rfl⟩:=Bb.1 d;simp[Ix,num]
theorem AlR(zs:List Int)(i m:Nat)(h:zs.length<=i+m):∀d,num zs i (m+d)=num zs i m*2 ^ d:=by intro a;induction a<;>grind [num]
theorem Adj(zs:List Int):Kp zs zs.length=JH zs:=by
 unfold Kp JH;refine Du fun j _=>?_
 unfold Ix
 by_cases h:8<=zs.length-8*j
 ·rw[B8 h];simp
 ·rw[Dv (by omega)];have:=AlR zs (8*j) (zs.length-8*j) (by omega) (8-(zs.length-8*j));rw[<-this]
  congr 1
  omega
theorem Xa(zs:List Int)(k j:Nat)(h:j≠k / 8):Ix zs (k+1) j=Ix zs k j:=by grind [Ix]
theorem Y1(zs:List Int)(k:Nat):Ix zs (k+1) (k / 8)=Ix zs k (k / 8)+zs.getD k 0*2 ^ (7-k % 8):=by
 unfold Ix;have e1:min 8 (k+1-8*(k / 8))=k % 8+1:=by omega
 have e2:min 8 (k-8*(k / 8))=k % 8:=by omega
 rw[e1,e2,num,show 8*(k / 8)+k % 8=k from by omega,show 8-k % 8=(7-k % 8)+1 from by omega,show 8-(k % 8+1)=7-k % 8 from by omega,Int.pow_succ,Int.add_mul,Int.mul_comm 2,Int.mul_assoc,Int.mul_comm 2]
theorem VO(zs:List Int)(k:Nat):Ix zs k (k / 8)=num zs (8*(k / 8)) (k % 8)*2 ^ (8-k % 8):=by
 unfold Ix
 grind
theorem Aat(zs:List Int)(k j:Nat)(h:j<(zs.length+7) / 8):(Kp zs k).getD j 0=Ix zs k j:=by
 simp[Kp,List.getD,h]
theorem Adk(zs:List Int)(k:Nat)(x:Int)(d:x=Ix zs (k+1) (k / 8)):(Kp zs k).set (k / 8) x=Kp zs (k+1):=by
 refine AW (by simp[Kp]) fun j r t=>?_
 rw[B4]
 split
 ·rename_i e;subst e;rw[d];simp[Kp]
 ·rename_i e;simp only[Kp,BR,B6];rw[Xa zs k j (fun h=>e h.symm)]
theorem AnC(a z m:Nat)(e:z<=1):a*2 ^ (m+1) ||| z*2 ^ m=a*2 ^ (m+1)+z*2 ^ m:=by
 have d:z*2 ^ m<2 ^ (m+1):=by
  rw[Dk];have:0<2 ^ m:=DS (by decide);have:z*2 ^ m<=1*2 ^ m:=BM _ e;omega
 rw[Dp a];exact(Ex d a).symm
theorem Adr(m:Nat)(h:m<=7):(2:Nat) ^ m<=128:=by
 have:=BC (n:=2) (by decide) h
 simpa using this
theorem AlW(zs:List Int)(k:Nat)(h:Bits zs)(p q:Int)(e:p=Ix zs k (k / 8))(t:q=zs.getD k 0*2 ^ (7-k % 8)):
 0<=p/\p<256/\0<=q/\q<=128/\bits .or .u8 p q=Ix zs (k+1) (k / 8):=by
 have S:=Anw h (8*(k / 8)) (k % 8);have hz:=h k;have hr:k % 8<8:=AZ _ (by decide);rw[VO]at e;rw[Y1,VO];obtain⟨a,ha⟩:=Cw S.1;obtain⟨z,ac⟩:=Cw hz.1;have r:z<=1:=by omega
 rw[ha]at S e ⊢;rw[ac]at t ⊢;obtain⟨m,hm⟩:∃m,k % 8=7-m/\m<=7:=⟨7-k % 8,by omega,by omega⟩;rw[hm.1]at S e t ⊢;rw[show 8-(7-m)=m+1 from by omega]at e ⊢;rw[show 7-(7-m)=m from by omega]at t ⊢;have G:a<2 ^ (7-m):=by
  grind
 have T:p=((a*2 ^ (m+1):Nat):Int):=by rw[e];simp
 have ab:q=((z*2 ^ m:Nat):Int):=by rw[t];simp
 have d:a*2 ^ (m+1)<256:=by
  have F:a*2 ^ (m+1)<2 ^ (7-m)*2 ^ (m+1):=Nat.mul_lt_mul_of_pos_right G (DS (by decide));rw[<-Nat.pow_add,show 7-m+(m+1)=8 from by omega]at F
  simpa using F
 have aa:z*2 ^ m<=128:=by
  have F:z*2 ^ m<=1*2 ^ m:=BM _ r;have:=Adr m hm.2;omega
 refine⟨by omega,by omega,by omega,by omega,?_⟩;rw[T,ab,u8_or_nat _ _ d (by omega),AnC a z m r];simp
def Jd (x:Int):Int:=if x < -1000 then -1000 else if 1000<x then 1000 else x
def Pz (x b:Int):Int:=if b=1 then -x else x
def I6 (S:Setg)(ps:List (Int×Int)):List Int:=(List.range S.count.toNat).map fun i=>Pz (Jd ((Jq (S.order.toNat / 2) S.order.toNat ps ps.length).getD i 0)) ((FG S.seed.toNat S.count.toNat).getD i 0)
theorem Yv(S:Setg)(ps:List (Int×Int)):(I6 S ps).length=S.count.toNat:=by simp[I6]
def Hu (S:Setg)(n:Nat)(s:List Int):List Int:=if S.code=0 then way s n 0 0 else NJ (Fl S.size.toNat n) (Ki (MV S) s (Pq S.size.toNat n))
structure Told where
 data:ByteArray
 ok:Bool
 err:Int
def Mk (S:Setg)(bytes:Nat)(s:List Int):Told:=
 if Ko ((Hu S (8*bytes+24) s).take (8*bytes)) 3=(Hu S (8*bytes+24) s).drop (8*bytes) then ⟨strOfNums (JH ((Hu S (8*bytes+24) s).take (8*bytes))),J,0⟩ else ⟨ByteArray.empty,H,0⟩
def Lo (S:Setg)(ps:List (Int×Int))(v:Int):Bool:=LO v && IR ps S.order
def Kw (S:Setg)(bytes:Nat)(s:List Int)(ps:List (Int×Int))(v:Int):Told:=
 if Lo S ps v=H then ⟨ByteArray.empty,H,1⟩ else if (ps.length:Int)*S.order≠S.count then ⟨ByteArray.empty,H,3⟩
 else if Fy (GV s (I6 S ps) v)=H then ⟨ByteArray.empty,H,2⟩ else Mk S bytes (GV s (I6 S ps) v)
def Jj (S:Setg)(s:List Int)(ps:List (Int×Int))(v:Int):List Int:=if Lo S ps v=H\/(ps.length:Int)*S.order≠S.count\/Fy (GV s (I6 S ps) v)=H then s else GV s (I6 S ps) v
def Told.val(t:Told):Value:=.tuple #[.string t.data,.bool t.ok, C O t.err]
def U8 (x:Int):Prop:= -9223372036854775808<=x/\x<=9223372036854775807
structure Setg.In(S:Setg):Prop where
 code:U8 S.code
 size:U8 S.size
 order:U8 S.order
 seed:U8 S.seed
 count:U8 S.count
def JZ (cs:List Int)(v k:Nat):List Int:=(List.range k).map fun i=>cs.getD (Gi cs.length v i) 0
theorem J0(cs:List Int)(v k:Nat):(JZ cs v k).length=k:=by simp[JZ]
def RG (n:Int):Bool:=decide (1<=n/\n<=4096)
def IJ (n:Int):Int:=if RG n then 0 else 1
def Ku (v:Int):Int:=if LO v then 0 else 1
theorem Pg(n:Int)(w:A):Calls prog 226 #[C O n] w fun e w'=>e= M (C O (IJ n))/\w=w':=by
 by_cases r:n<1
 ·have z:decide (n<1)=J:=Ag r;have d:=hid (show(1:Int)=IJ n by unfold IJ;rw[show RG n=H from Ae (by omega)];rfl);clear r;go_enter func226,ntmps226;go_wp2;go_ret;exact⟨Fs d.out,rfl⟩
 ·have z:decide (n<1)=H:=Ae r
  by_cases t:4096<n
  ·have F:decide (4096<n)=J:=Ag t;have d:=hid (show(1:Int)=IJ n by unfold IJ;rw[show RG n=H from Ae (by omega)];rfl);clear r t;go_enter func226,ntmps226;go_wp2;go_ret;exact⟨Fs d.out,rfl⟩
  ·have F:decide (4096<n)=H:=Ae t;have d:=hid (show(0:Int)=IJ n by unfold IJ;rw[show RG n=J from Ag (by omega)];rfl);clear r t;go_enter func226,ntmps226;go_wp2;go_ret;exact⟨Fs d.out,rfl⟩
theorem Kh(v:Int)(w:A):Calls prog 227 #[C O v] w fun e w'=>e= M (C O (Ku v))/\w=w':=by
 by_cases r:v<0
 ·have z:decide (v<0)=J:=Ag r;have d:=hid (show(1:Int)=Ku v by unfold Ku;rw[show LO v=H from Ae (by omega)];rfl);clear r;go_enter func227,ntmps227;go_wp2;go_ret;exact⟨Fs d.out,rfl⟩
 ·have z:decide (v<0)=H:=Ae r
  by_cases t:4<=v
  ·have F:decide (4<=v)=J:=Ag t;have d:=hid (show(1:Int)=Ku v by unfold Ku;rw[show LO v=H from Ae (by omega)];rfl);clear r t;go_enter func227,ntmps227;go_wp2;go_ret;exact⟨Fs d.out,rfl⟩
  ·have F:decide (4<=v)=H:=Ae t;have d:=hid (show(0:Int)=Ku v by unfold Ku;rw[show LO v=J from Ag (by omega)];rfl);clear r t;go_enter func227,ntmps227;go_wp2;go_ret;exact⟨Fs d.out,rfl⟩
theorem YV(n v:Nat)(w:A)(F:n<=4096)(G:v<=3):Calls prog 258 #[C O n, C O v] w fun e w'=>e= M (C O ((v*n / 4:Nat):Int))/\w=w':=by
 have d:(v:Int)*(n:Int)=((v*n:Nat):Int):=by simp
 have t:v*n<=12288:=by
  have:=DW G F;omega
 obtain⟨p, r⟩ := E7 (v*n);rw[<-r]at d t;rw[<-r];have z:(p:Int).tdiv 4=((p / 4:Nat):Int):=by grind
 have S:IntKind.i64.wrap ((v:Int)*(n:Int))=(p:Int):=by rw[d,AO];omega
 clear r d;go_enter func258,ntmps258;go_wp2;go_ret;exact⟨rfl,rfl⟩
theorem S4(a:Nat)(d:a<4294967296):bits .and .u32 (a:Int) 1=((a % 2:Nat):Int):=by
 rw[show(1:Int)=((1:Nat):Int)from rfl,DT _ _ d (by decide),Dq]
theorem AjI(a b:Nat)(d:a<2147483648)(r:b<=1):bits .or .u32 (a:Int) ((b:Int)*1073741824 % 4294967296)=((a ||| b*2 ^ 30:Nat):Int):=by
 have e:(b:Int)*1073741824 % 4294967296=((b*2 ^ 30:Nat):Int):=by omega
 rw[e,u32_or_nat _ _ (by omega) (by omega)]
theorem AhE(x:Nat)(e:x<2147483648):bits .or .u32 ((x:Int) / 2) (bits .and .u32 (bits .xor .u32 ((x:Int) / 8) x) 1*1073741824 % 4294967296)=((Akw x:Nat):Int):=by
 have d:x / 8 ^^^ x<2 ^ 32:=CO (by omega) (by omega);rw[show(x:Int) / 8=((x / 8:Nat):Int)from by omega,show(x:Int) / 2=((x / 2:Nat):Int)from by omega,Cu _ _ (by omega) (by omega),S4 _ d,AjI _ _ (by omega) (by omega)];rfl
theorem AhF(y:Nat)(t:y<2147483648):bits .or .u32 ((y:Int) / 2) (bits .and .u32 (bits .xor .u32 (bits .xor .u32 (bits .xor .u32 ((y:Int) / 8) ((y:Int) / 4)) ((y:Int) / 2)) y) 1*1073741824 % 4294967296)=((Akx y:Nat):Int):=by
 have d:y / 8 ^^^ y / 4<2 ^ 32:=CO (by omega) (by omega);have e:y / 8 ^^^ y / 4 ^^^ y / 2<2 ^ 32:=CO d (by omega);have r:y / 8 ^^^ y / 4 ^^^ y / 2 ^^^ y<2 ^ 32:=CO e (by omega);rw[show(y:Int) / 8=((y / 8:Nat):Int)from by omega,show(y:Int) / 4=((y / 4:Nat):Int)from by omega,show(y:Int) / 2=((y / 2:Nat):Int)from by omega,Cu _ _ (by omega) (by omega),Cu _ _ d (by omega),Cu _ _ e (by omega),S4 _ r,AjI _ _ (by omega) (by omega)];rfl
theorem Al8{k:IntKind}{a b c d:Int}(h:a=c)(e:b=d):Ending.returned (.tuple #[.int k a,.int k b])= M (.tuple #[.int k c,.int k d]):=by rw[h,e]
theorem Abx(x y:Nat)(w:A)(d:x<2147483648)(r:y<2147483648):
 Calls prog 254 #[C .u32 x, C .u32 y] w fun e w'=>e= M (.tuple #[C .u32 (Akw x:Nat), C .u32 (Akx y:Nat)])/\w=w':=by
 go_enter func254,ntmps254;go_wp2
 go_ret2;exact⟨Al8 (AhE x d) (AhF y r),rfl⟩
theorem AgD(x y:Nat)(e:x<2147483648)(r:y<2147483648):bits .and .u32 (bits .xor .u32 (x:Int) y) 1 % 256=b2i (x.testBit 0 ^^ y.testBit 0):=by
 have d:x ^^^ y<2 ^ 32:=CO (by omega) (by omega);rw[Cu _ _ (by omega) (by omega),S4 _ d,<-Eq,Vs];have:(x ^^^ y) % 2=0\/(x ^^^ y) % 2=1:=by omega
 rcases this with h | h<;>simp[h,b2i]
def Akk (s:Int):Bool:=decide (0<=s/\s<=2147483647)
def AeT (s n:Int):Bool:=Akk s && decide (0<=n/\n<=4096)
theorem An6(s n:Int)(w:A)(h:AeT s n=H):
 Calls prog 222 #[C O s, C O n] w fun e w'=>e= M (.tuple #[.slice E 0 0, C O 1])/\w=w':=by
 have S:s<0\/2147483647<s\/n<0\/4096<n:=by
  simp[AeT,Akk]at h;omega
 clear h
 by_cases d:s<0
 ·go_enter func222,ntmps222;go_wp2
  go_ret2;exact⟨rfl,rfl⟩
 ·have z:decide (s<0)=H:=by simpa using d
  by_cases r:2147483647<s
  ·go_enter func222,ntmps222;go_wp2
   go_ret2;exact⟨rfl,rfl⟩
  ·have F:decide (2147483647<s)=H:=by simpa using r
   by_cases t:n<0
   ·go_enter func222,ntmps222;go_wp2
    go_ret2;exact⟨rfl,rfl⟩
   ·have G:decide (n<0)=H:=by simpa using t
    have T:4096<n:=by omega
    go_enter func222,ntmps222;go_wp2
    go_ret2;exact⟨rfl,rfl⟩
theorem AgE(s n k d e:Nat)(z:k<n)(r:d<2147483648)(t:e<2147483648)(h:d=Adx (1600+k)/\e=Ady s (1600+k)):
 (FG s k++List.replicate (n-k) 0).set k (bits .and .u32 (bits .xor .u32 (d:Int) e) 1 % 256)=FG s (k+1)++List.replicate (n-(k+1)) 0:=by
 rw[show n-k=(n-(k+1))+1 from by omega,KI _ _ _ _ (Lv s k),XZ,AgD d e r t,h.1,h.2];rfl
theorem Ub(s n:Nat)(w:A)(hs:s<2147483648)(hn:n<=4096):
 Calls prog 222 #[C O s, C O n] w fun e w'=>∃v,e= M (.tuple #[v, C O 0])/\Own w' w.heap.size v (FG s n)/\Below w.heap.size w w':=by
 have d1:decide ((s:Int)<0)=H:=by simp
 have d2:decide (2147483647<(s:Int))=H:=by simp;omega
 have d3:decide ((n:Int)<0)=H:=by simp
 have d4:decide (4096<(n:Int))=H:=by simp;omega
 go_enter func222,ntmps222;go_wp2
 go_loop [6,7,26] (fun x y i=>∃t r z:Nat,t<=1600/\i= C O t/\x= C .u32 r/\y= C .u32 z/\r<2147483648/\z<2147483648/\Hid (r=Adx t/\z=Ady s t)) (fun _ _ i=>1600-(intOf i).toNat)
 case atStart=>exact⟨0,1,s,by omega,rfl,rfl,by go_num,by omega,hs,rfl,rfl⟩
 case round=>
  obtain⟨t,r,z,ht,rfl,rfl,rfl,F,G,S⟩:=hrel
  by_cases ad:t<1600
  ·go_wp2_with(go_at_call 254;refine(Abx r z _ F G).mono ?_;rintro e w' ⟨rfl,rfl⟩)
   go_round
   case rel=>exact⟨t+1,_,_,by omega,by go_num,rfl,rfl,by have:=Yf (t+1);rw[S.out.1];exact this,by have:=Yg s hs (t+1);rw[S.out.2];exact this,by rw[S.out.1,S.out.2];exact⟨rfl,rfl⟩⟩
   case measure=>simp[intOf];omega
  ·have ac:Hid (r=Adx (1600+0)/\z=Ady s (1600+0)):=by
    grind
   clear S
   go_wp2_with(at_make;refine FH w.heap.size w n rfl _ _ rfl _ _ rfl rfl rfl rfl (by omega) (Ad _ _) (Ac _) ?_);intro w1 aa T af;go_wp2
   go_loopw [6,7,39] (fun x y i wr=>∃k r z:Nat,k<=n/\i= C O k/\x= C .u32 r/\y= C .u32 z/\r<2147483648/\z<2147483648/\Hid (r=Adx (1600+k)/\z=Ady s (1600+k))/\Own wr w.heap.size (.slice (D ⟨w.heap.size,0,E⟩) n n) (FG s k++List.replicate (n-k) 0)/\Below w.heap.size w wr) (fun _ _ i _=>n-(intOf i).toNat)
   case atStart=>exact⟨0,r,z,by omega,rfl,rfl,rfl,F,G,ac,aa,T⟩
   case round=>
    clear aa T ac F G;obtain⟨k,r,z,hk,rfl,rfl,rfl,F,G,S,d,ab⟩:=hrel
    by_cases ad:k<n
    ·have ae:(FG s k++List.replicate (n-k) 0).length=n:=d.len;have hc:=d.cell (i:=k) (by omega);have hf:=d.free k;clear ae
     go_wp2_with(go_at_call 254;refine(Abx r z _ F G).mono ?_;rintro e w' ⟨rfl,rfl⟩)
     go_roundw
     case rel=>exact⟨k+1,_,_,by omega,by go_num,rfl,rfl,by have:=Yf (1600+k+1);rw[S.out.1];exact this,by have:=Yg s hs (1600+k+1);rw[S.out.2];exact this,by rw[S.out.1,S.out.2];exact⟨rfl,rfl⟩,AgE s n k r z ad F G S.out▸d.set k _,ab.setCell (Ac _) _⟩
     case measure=>simp[intOf];omega
    ·go_wp2
     go_ret2;obtain rfl:k=n:=by omega
     rw[Bm,C4,AA]at d;exact⟨_,rfl,d,ab⟩
def J6 (n place:Nat):Nat:=n / 2 ^ place % 2
theorem LS(n place:Nat):J6 n place=0\/J6 n place=1:=by unfold J6;omega
def Gr (n:Nat):Nat->Int
 | 0=>0
 | t+1=>(1-2*(J6 n t:Int))*((2 ^ t:Nat)-Gr n t)
def Po (h:Nat):List Int:=(List.range (2 ^ h)).map fun n=>Gr n h
def Jv (c:List Int)(axis:Nat):Nat->Nat
 | 0=>0
 | t+1=>2*Jv c axis t+(c.getD (axis+2*t) 0).toNat
def sqM (h:Nat)(x:Int)(n:Nat):Int:=(x-Gr n h)*(x-Gr n h)
def FB (h:Nat)(x:Int)(place bit:Nat):Nat->Int
 | 0=>9223372036854775807
 | j+1=>if J6 j place=bit then min (FB h x place bit j) (sqM h x j) else FB h x place bit j
def IE (h:Nat)(x:Int)(place:Nat):Int:=FB h x place 1 (2 ^ h)-FB h x place 0 (2 ^ h)
def Mh (h:Nat)(x:Int):Nat->Nat
 | 0=>0
 | j+1=>if sqM h x j<sqM h x (Mh h x j) then j else Mh h x j
theorem Aac(h:Nat)(x:Int):∀j,1<=j->Mh h x j<j
 | 1,_=>by simp[Mh]
 | j+2,_=>by
  have:=Aac h x (j+1) (by omega);rw[Mh]
  split<;>omega
theorem Aaa(h:Nat)(x:Int)(d:j<=2 ^ h):Mh h x j<2 ^ h:=by
 by_cases e:j=0
 ·subst e;exact C6 h
 ·have:=Aac h x j (by omega);omega
theorem XP(n:Nat):∀t,t<=3-> -(7:Int)<=Gr n t/\Gr n t<=7
 | 0,_=>by simp[Gr]
 | 1,_=>by
  rcases LS n 0 with e | e<;>simp[Gr,e]
 | 2,_=>by
  rcases LS n 0 with e | e<;>rcases LS n 1 with e2 | e2<;>simp[Gr,e,e2]
 | 3,_=>by
  rcases LS n 0 with e | e<;>rcases LS n 1 with e2 | e2<;>rcases LS n 2 with e3 | e3<;>simp[Gr,e,e2,e3]
 | t+4,h=>by omega
theorem Akv{x:Int}(e:h<=3)(F: -1000<=x/\x<=1000)(n:Nat):0<=sqM h x n/\sqM h x n<=4000000:=by
 have d:=XP n h e;have r:∀z:Int, -2000<=z/\z<=2000->0<=z*z/\z*z<=4000000:=fun z G=>by
  have d:z*z=(z.natAbs*z.natAbs:Nat):=by rw[DX]
  have t:z.natAbs*z.natAbs<=2000*2000:=DW (by omega) (by omega);omega
 exact r _ (by omega)
def KC (F G:Nat->Int)(h:Nat)(t:Nat):List Int:=(List.range t).flatMap fun s=>[F (h-1-s),G (h-1-s)]
theorem QO(F G:Nat->Int)(h t:Nat):KC F G h (t+1)=KC F G h t++[F (h-1-t),G (h-1-t)]:=by
 unfold KC;rw[Az,Bd];simp
end Go.Proofs.YtbjgfoiikhbonahGreatDoor
