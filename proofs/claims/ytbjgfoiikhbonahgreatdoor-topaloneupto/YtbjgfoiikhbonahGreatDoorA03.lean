import Derived.OrdersIn
import Derived.OwnWalkIn
import Derived.Great.Frames
import Derived.Test.YtbjgfoiikhbonahGreatDoorA02
import Derived.Shelf.Abstract
import Derived.Deep.CutRange
set_option linter.unusedVariables false
set_option linter.unusedSimpArgs false
set_option maxRecDepth 100000
set_option maxHeartbeats 4000000
namespace Go.Proofs.YtbjgfoiikhbonahGreatDoor
open Go.ChangeShapes Go.WideShapes Go.ChangeAt Go.RowKit Go.Shelf Go.Proofs.Tryz
open Bool renaming true->A,false->D
open Go renaming World->C
open Option renaming some->E,none->G
variable {F:Fence}{K:Act->C->Prop}{P:Program}{Q:Exit->Act->C->Prop}{S:Setg}{a:Act}{b z:List Int}{c g i id j k n s:Nat}{dst:List Nat}{l0:List Value}{listed:Array Bool}{o oj:Oper}{ops:Array Oper}{p q:Int}{tb:List (Nat×Value)}{v:Value}{w w':C}{want:Bool}{x y:Operand}{ρ:Operand->Value}{σ:Nat->Value}
def Ff (ops:Array Oper)(i j:Nat):Bool:=((ops[i]?).map fun o=>o.after.any fun e=>e.on==j && Region.binds .any e).getD D
def Gt (ops:Array Oper)(i:Nat):Bool:=((ops[i]?).map fun o=>o.after.all fun e=>!Region.binds .any e || decide (e.on<i)).getD A
theorem Mj(h:i∈Region.ready .any ops listed)(d:Ff ops i j=A):listed.getD j D=A:=by
 unfold Region.ready at h;rw[DP]at h;obtain⟨_,h⟩:=h;unfold Ff at d
 grind
theorem AaR(h:i∈Region.ready .any ops listed):i<ops.size/\listed.getD i A=D:=by
 unfold Region.ready at h
 grind
theorem Sy(hi:i<ops.size)(d:listed.getD i A=D)(e:∀j,j<i->listed.getD j D=A)(ht:Gt ops i=A):i∈Region.ready .any ops listed:=by
 unfold Region.ready;rw[DP];refine⟨Bv.2 hi,?_⟩;unfold Gt at ht
 grind
theorem Us(h:∀i,i<ops.size->listed.getD i A=A):Region.ready .any ops listed=[]:=by
 unfold Region.ready;rw[Dm]
 grind
theorem Qy(L:Array Bool)(i j:Nat)(b:Bool):(L.setIfInBounds i A).getD j b=if i=j/\j<L.size then A else L.getD j b:=by
 simp only[Ds,Array.getElem?_setIfInBounds]
 grind
theorem OO(L:Array Bool)(i:Nat)(h:L.getD i A=D):(L.setIfInBounds i A).toList.count D+1=L.toList.count D:=by
 have hi:i<L.size:=by
  grind
 have d:L.toList[i]'(by simpa using hi)=D:=by
  rw[Ds,Eu hi]at h
  simpa using h
 grind
theorem least{p:Nat->Prop}:∀n,p n->∃m,p m/\∀j,j<m->¬p j:=by
 intro n
 induction n using Nat.strongRecOn with
 | ind n ih=>
  grind
theorem YT(k f:Nat)(e:List Value)(L:Nat->List Nat)(Z:Act)(w:C)(hk:ops.size=k+1)(hN:f+k<=Z.tmps.size)
 (r:∀i,i<k->∀j∈L i,Ff ops i j=A) (Y:∀i,i<=k->Gt ops i=A) (m:∀j,j<k->Ff ops k j=A)
 (U:∀i,i<k->∀a:Act,(∀j∈L i,a.eval (.tmp (f+j))=e.getD j undef)->(∀s,s<f\/f+k<=s->a.eval (.tmp s)=Z.eval (.tmp s))->∀K:Act->C->Prop,K (a.put (E (f+i)) (e.getD i undef)) w->wpOpIn F n P ops Q i K a w)
 (t:∀a:Act,(∀j,j<k->a.eval (.tmp (f+j))=e.getD j undef)->(∀s,s<f\/f+k<=s->a.eval (.tmp s)=Z.eval (.tmp s))->wpOpIn F n P ops Q k (fun a w=>Q .normal a w) a w):
 ∀(d:Nat) (listed:Array Bool) (a:Act),listed.size=k+1->listed.getD k A=D->listed.toList.count D<=d->a.tmps.size=Z.tmps.size->(∀j,j<k->listed.getD j D=A->a.eval (.tmp (f+j))=e.getD j undef)->
  (∀s,s<f\/f+k<=s->a.eval (.tmp s)=Z.eval (.tmp s))->wpAnyIn F n P .any ops Q d listed a w:=by
 intro d
 induction d with
 | zero=>
  intro listed a ac hl hc _ _ _;have:=OO listed k hl;omega
 | succ d ih=>
  intro listed a ac hl hc ae hv ho;have ah:∃i,i∈Region.ready .any ops listed:=by
   obtain⟨i,⟨hi,hf⟩,af⟩:=least (p:=fun i=>i<=k/\listed.getD i A=D) k ⟨Ac _,hl⟩;refine⟨i,Sy (by omega) hf (fun j B=>?_) (Y i hi)⟩
   grind
  refine⟨fun h=>(by grind),fun i hi=>?_⟩;obtain⟨ag,ad⟩:=AaR hi
  by_cases aa:i=k
  ·subst aa;refine wpOpIn_mono (fun a' w' hq=>?_) (t a (fun j B=>hv j B (Mj hi (m j B))) ho);refine wpAnyIn_done (Us fun j B=>?_) hq d;rw[Qy]
   by_cases l:i=j
   ·rw[Ab ⟨l,by omega⟩]
   ·rw[Aa (fun h=>l h.1)];have:=Mj hi (m j (by omega))
    grind
  ·have u:i<k:=by omega
   refine U i u a (fun j B=>?_) ho _ ?_
   ·have hw:=Mj hi (r i u j B)
    grind
   ·refine ih _ _ (by rw[DU];exact ac) ?_ ?_ ?_ ?_ ?_
    ·rw[Qy,Aa (fun h=>aa h.1)];exact hl
    ·have:=OO listed i ad;omega
    ·simp[Act.put,ae]
    ·intro j B ab
     by_cases l:i=j
     ·subst l;exact Act.eval_put_same a _ _ (by omega)
     ·rw[Act.eval_put_ne a _ _ _ (by omega)];rw[Qy,Aa (fun h=>l h.1)]at ab;exact hv j B ab
    ·intro s hs;rw[Act.eval_put_ne a _ _ _ (by omega)];exact ho s hs
theorem QT(k f:Nat)(d:List Value)(e:List (List Nat))(m:Act)(w:C)(hm:P.follows .mixedOrders=A)(U:ops.size=k+1)(Z:f+k<=m.tmps.size)
 (t:((List.range k).all fun i=>(e.getD i []).all fun j=>Ff ops i j)=A) (L:((List.range (k+1)).all fun i=>Gt ops i)=A) (B:((List.range k).all fun j=>Ff ops k j)=A)
 (r:∀i,i<k->∀a:Act,(∀j∈e.getD i [],a.eval (.tmp (f+j))=d.getD j undef)->(∀s,s<f\/f+k<=s->a.eval (.tmp s)=m.eval (.tmp s))->∀K:Act->C->Prop,K (a.put (E (f+i)) (d.getD i undef)) w.drew->wpOpIn F n P ops Q i K a w.drew)
 (l:∀a:Act,(∀j,j<k->a.eval (.tmp (f+j))=d.getD j undef)->(∀s,s<f\/f+k<=s->a.eval (.tmp s)=m.eval (.tmp s))->wpOpIn F n P ops Q k (fun a w=>Q .normal a w) a w.drew):
 (Code.region id ops A).wpIn F n P Q m w:=by
 refine wpIn_region_any hm ?_
 show wpAnyIn F n P .any ops Q ops.size (Array.replicate ops.size D) m w.drew;rw[U];have Y:∀(j:Nat) (b:Bool),j<k+1->(Array.replicate (k+1) D).getD j b=D:=fun j b u=>by simp[Ds,u]
 refine YT k f d (fun i=>e.getD i []) m w.drew U Z (fun i hi j u=>?_) (fun i hi=>?_) (fun j u=>?_) r l (k+1) _ m (by simp) (Y k A (by omega)) (by simp) rfl (fun j u h=>?_) (fun s _=>rfl)
 ·grind
 ·grind
 ·grind
 ·rw[Y j D (by omega)]at h
  cases h
theorem FP(hi:ops[i]?=E o)(hg:o.guard=G)(hd:∀c,o.op≠ .defer c)
 (e:o.about P w a.eval=G) (d:(execOp a.eval o).run P w=.ok (.value v) w') (l:K (a.put o.dst v) w'):wpOpIn F n P ops Q i K a w:=by
 unfold wpOpIn;rw[hi];have m:Region.wanted o (yielded ops a.tmps)=A:=by simp[Region.wanted,hg]
 simp only[m,AP,Oper.wpIn];refine⟨fun f h=>?_,?_⟩
 ·rw[e]at h;cases h
 ·rw[Oper.semAt_plain F _ _ hd,d];exact l
theorem Wj(hi:ops[i]?=E o)(hg:o.guard=G)(hd:∀c,o.op≠ .defer c)
 (e:o.about P w a.eval=G) (d:(execOp a.eval o).run P w=.ok .skip w') (l:K (a.put o.dst undef) w'):wpOpIn F n P ops Q i K a w:=by
 unfold wpOpIn;rw[hi];have m:Region.wanted o (yielded ops a.tmps)=A:=by simp[Region.wanted,hg]
 simp only[m,AP,Oper.wpIn];refine⟨fun f h=>?_,?_⟩
 ·rw[e]at h;cases h
 ·rw[Oper.semAt_plain F _ _ hd,d];exact l
theorem Ak8(k:Nat)(f:(Nat->Bool)->Act->C->Prop)(hk:ops.size=k)(t:∀i,i<k->Gt ops i=A)
 (r:∀(L:Nat->Bool) (a:Act) (w:C) (i:Nat),f L a w->i<k->L i=D->(∀j,Ff ops i j=A->L j=A)->wpOp P ops Q i (fun a' w'=>f (fun j=>if j=i then A else L j) a' w') a w)
 (m:∀(L:Nat->Bool) (a:Act) (w:C),(∀j,j<k->L j=A)->f L a w->Q .normal a w):
 ∀(d:Nat) (listed:Array Bool) (a:Act) (w:C),listed.size=k->listed.toList.count D<=d->f (fun j=>listed.getD j D) a w->wpAny P .any ops Q d listed a w:=by
 have B:∀(listed:Array Bool) (a:Act) (w:C),listed.size=k->Region.ready .any ops listed=[]->f (fun j=>listed.getD j D) a w->Q .normal a w:=by
  intro listed a w l u hi;refine m _ a w (fun j Y=>?_) hi
  show listed.getD j D=A
  by_cases Z:∃i,i<k/\listed.getD i A=D
  ·obtain⟨i0,aa⟩:=Z;obtain⟨i,⟨ab,hf⟩,ad⟩:=least (p:=fun i=>i<k/\listed.getD i A=D) i0 aa
   have:i∈Region.ready .any ops listed:=Sy (by omega) hf (fun j Y=>by
    grind) (t i ab)
   rw[u]at this
   cases this
  grind
 intro d
 induction d with
 | zero=>
  intro listed a w l hc hi;have u:Region.ready .any ops listed=[]:=Us fun j Y=>by
   have ag:j<listed.size:=by omega
   cases hb:listed.getD j A with
   | true=>rfl
   | false=>
    have:=OO listed j hb;omega
  exact⟨u,B listed a w l u hi⟩
 | succ d ih=>
  intro listed a w l hc hi;refine⟨fun u=>B listed a w l u hi,fun i U=>?_⟩;obtain⟨af,ac⟩:=AaR U;have ae:i<listed.size:=by omega
  refine wpOp_mono (fun a' w' h=>?_) (r _ a w i hi (by omega) (by
   grind) (fun j Y=>Mj U Y))
  refine ih _ a' w' (by rw[DU];exact l) (by have:=OO listed i ac;omega) ?_;have e:(fun j=>(listed.setIfInBounds i A).getD j D)=fun j=>if j=i then A else listed.getD j D:=by
   funext j
   rw[Qy]
   grind
  rw[e];exact h
theorem Adz(k:Nat)(d:(Nat->Bool)->Act->C->Prop)(m:Act)(w:C)(u:P.follows .mixedOrders=A)(r:ops.size=k)(l:((List.range k).all fun i=>Gt ops i)=A)
 (t:d (fun _=>D) m w.drew)
 (h:∀(L:Nat->Bool) (a:Act) (w:C) (i:Nat),d L a w->i<k->L i=D->(∀j,Ff ops i j=A->L j=A)->wpOp P ops Q i (fun a' w'=>d (fun j=>if j=i then A else L j) a' w') a w)
 (f:∀(L:Nat->Bool) (a:Act) (w:C),(∀j,j<k->L j=A)->d L a w->Q .normal a w):(Code.region id ops A).wp P Q m w:=by
 refine wp_region_any u ?_
 show wpAny P .any ops Q ops.size (Array.replicate ops.size D) m w.drew;rw[r];refine Ak8 k d r (fun i hi=>AM.1 l i (Bv.2 hi)) h f k _ m w.drew (by simp) (by simp) ?_;have e:(fun j=>(Array.replicate k D).getD j D)=fun _:Nat=>D:=by
  funext j
  rw[Ds,Array.getElem?_replicate]
  split<;>rfl
 rw[e];exact t
theorem Afg(a:Act)(lst:List Value)(e:a.tmps.size=lst.length)(hd:a.defers=[])(h:∀s:Nat,s<lst.length->a.eval (.tmp s)=lst.getD s undef):a={tmps:=lst.toArray,defers:=[]}:=by
 obtain⟨t,d⟩:=a;simp only at e hd;subst hd
 congr 1
 refine C5 (by simpa using e) fun i m r=>?_
 have l:t[i]=t.getD i undef:=by simp[Array.getD,m]
 have:=h i (by omega);have f:({tmps:=t,defers:=[]}:Act).eval (.tmp i)=t.getD i undef:=rfl
 grind
def Ft (l:List Value):List (Nat×Value)->List Value
 | []=>l
 | q::t=>Ft (l.set q.1 q.2) t
theorem Jh(t:List (Nat×Value)):∀l:List Value,(Ft l t).length=l.length:=by
 induction t with
 | nil=>intro l;rfl
 | cons q t ih=>intro l;rw[Ft,ih,An]
theorem W6{a b:Nat}(h:a≠b):Nat.beq a b=D:=by
 cases d:Nat.beq a b with
 | false=>rfl
 | true=>exact absurd (Nat.eq_of_beq_eq_true d) h
def lkp (l0:List Value):List (Nat×Value)->Nat->Value
 | [],s=>l0.getD s undef
 | q::t,s=>match Nat.beq q.1 s with
  | true=>q.2
  | false=>lkp l0 t s
theorem AlJ:∀(t:List (Nat×Value)) (s:Nat),i≠s->lkp (l0.set i v) t s=lkp l0 t s:=by intro a;induction a<;>grind [lkp]
theorem TW:∀(t:List (Nat×Value)) (s:Nat),(∀q∈t,q.1≠s)->lkp l0 t s=l0.getD s undef:=by intro a;induction a<;>grind [lkp,W6]
theorem UK(t:List (Nat×Value)):∀(l0:List Value) (s:Nat),(t.map (·.1)).Nodup->(∀q∈t,q.1<l0.length)->(Ft l0 t).getD s undef=lkp l0 t s:=by
 induction t with
 | nil=>intro l0 s _ _;rfl
 | cons q t ih=>
  intro l0 s f m;rw[Be,List.nodup_cons]at f;rw[Ft,ih _ s f.2 (fun p h=>by grind),lkp]
  by_cases e:q.1=s
  ·subst e;have d:Nat.beq q.1 q.1=A:=Nat.beq_refl q.1;rw[d,TW t _ (fun p h l=>f.1 (Bb.2 ⟨p,h,l⟩))];simp[List.getD,m q (by simp)]
  ·have d:Nat.beq q.1 s=D:=W6 e;rw[d];exact AlJ t s e
theorem Ajk(l0:List Value)(t:List (Nat×Value))(f:(t.map (·.1)).Nodup):∀i,i<t.length->lkp l0 t (t.getD i (0,undef)).1=(t.getD i (0,undef)).2:=by
 induction t with
 | nil=>intro i hi;simp at hi
 | cons q t ih=>
  intro i hi;rw[Be,List.nodup_cons]at f
  cases i with
  | zero=>simp[lkp,List.getD]
  | succ i=>
   have d:i<t.length:=by simpa using hi
   have e:(q::t).getD (i+1) (0,undef)=t.getD i (0,undef):=by simp[List.getD]
   rw[e,lkp];have m:(t.getD i (0,undef))∈t:=by
    grind
   have l:Nat.beq q.1 (t.getD i (0,undef)).1=D:=W6 (fun h=>f.1 (Bb.2 ⟨_,m,h.symm⟩));rw[l];exact ih f.2 i d
theorem E6(hi:ops[i]?=E o)(hg:o.guard=G)
 (d:(execOp a.eval o).run P w=.ok (.value v) w') (e:K (a.put o.dst v) w'):wpOp P ops Q i K a w:=by
 unfold wpOp;rw[hi];have f:Region.wanted o (yielded ops a.tmps)=A:=by simp[Region.wanted,hg]
 simp only[f,AP,Oper.wp]
 left;rw[d];exact e
theorem Fd(w:C)(d:o.op=.move x)(h:ρ x=v):(execOp ρ o).run P w=.ok (.value v) w:=by
 unfold execOp;simp only[d,h];simp[go_sem]
theorem F5(w:C)(e:o.op=.load 3 x)(h:ρ x=.pointer (E ⟨g,j,G⟩))(d:w.cell? ⟨g,j,G⟩=E v):(execOp ρ o).run prog w=.ok (.value v) w:=by
 unfold execOp;simp only[e,h];simp[go_sem,d]
theorem Ahq(w:C)(e:o.op=.load 5 x)(h:ρ x=.pointer (E ⟨g,j,G⟩))(d:w.cell? ⟨g,j,G⟩=E v):(execOp ρ o).run prog w=.ok (.value v) w:=by
 unfold execOp;simp only[e,h];simp[go_sem,d]
theorem UE(w:C)(e:o.op=.load 74 x)(h:ρ x=.pointer (E ⟨g,j,G⟩))(d:w.cell? ⟨g,j,G⟩=E v):(execOp ρ o).run prog w=.ok (.value v) w:=by
 unfold execOp;simp only[e,h];simp[go_sem,d]
theorem UD(w:C)(e:o.op=.load 103 x)(h:ρ x=.pointer (E ⟨g,j,G⟩))(d:w.cell? ⟨g,j,G⟩=E v):(execOp ρ o).run prog w=.ok (.value v) w:=by
 unfold execOp;simp only[e,h];simp[go_sem,d]
theorem OB(w:C)(f:o.op=.indexAddr 74 x y)(h:ρ x=.slice (E ⟨g,s,G⟩) n c)(d:ρ y=.int .i64 j)(e:j<n):(execOp ρ o).run prog w=.ok (.value (.pointer (E ⟨g,s+j,G⟩))) w:=by
 unfold execOp;simp only[f,h,d];simp[go_sem,underlying74,e]
theorem Abe(w:C)(f:o.op=.indexAddr 103 x y)(h:ρ x=.slice (E ⟨g,s,G⟩) n c)(d:ρ y=.int .i64 j)(e:j<n):(execOp ρ o).run prog w=.ok (.value (.pointer (E ⟨g,s+j,G⟩))) w:=by
 unfold execOp;simp only[f,h,d];simp[go_sem,underlying103,e]
theorem Aj0(w:C)(e:o.op=.binOp .add 3 x y 3)(h:ρ x=.int .i64 p)(d:ρ y=.int .i64 q)(f:IntKind.i64.wrap (p+q)=p+q):(execOp ρ o).run prog w=.ok (.value (.int .i64 (p+q))) w:=by
 unfold execOp;simp only[e,h,d];simp[go_sem,f]
theorem UG(w:C)(l:o.op=.store 3 x y)(h:ρ x=.pointer (E ⟨g,j,G⟩))(d:ρ y=.int .i64 q)(e:w.cell? ⟨g,j,G⟩=E (.int .i64 p))(f:w.frozen? ⟨g,j,G⟩=D):(execOp ρ o).run prog w=.ok .skip (w.setCell ⟨g,j,G⟩ (.int .i64 q)):=by
 unfold execOp;simp only[l,h,d];simp[go_sem,e,f]
theorem AdH(w:C)(l:o.op=.store 5 x y)(h:ρ x=.pointer (E ⟨g,j,G⟩))(d:ρ y=.int .u8 q)(e:w.cell? ⟨g,j,G⟩=E (.int .u8 p))(f:w.frozen? ⟨g,j,G⟩=D):(execOp ρ o).run prog w=.ok .skip (w.setCell ⟨g,j,G⟩ (.int .u8 q)):=by
 unfold execOp;simp only[l,h,d];simp[go_sem,e,f]
theorem FX(h:Below w.heap.size w w'):w.grownBy w' G:=⟨h.os,h.tape,h.output,h.size,fun k d _=>h.block k d⟩
def Hf (ps:List (Int×Int)):List Value:=ps.flatMap fun p=>[.int .i64 p.1,.int .i64 p.2]
def OwnP (w:C)(B:Nat)(v:Value)(ps:List (Int×Int)):Prop:=w.ownsRow B 335 2 v ps.length (Hf ps)
theorem An9(l:List Value)(h:l.length=17):∃u22 u23 u24 u25 u26 u27 u28 u29 u30 u31 u32 u33 u34 u35 u36 u37 u38,l=[u22,u23,u24,u25,u26,u27,u28,u29,u30,u31,u32,u33,u34,u35,u36,u37,u38]:=
 match l,h with
 | [u22,u23,u24,u25,u26,u27,u28,u29,u30,u31,u32,u33,u34,u35,u36,u37,u38],_=>⟨u22,u23,u24,u25,u26,u27,u28,u29,u30,u31,u32,u33,u34,u35,u36,u37,u38,rfl⟩
def ptM (h:Nat)(l:List Int):Int×Int:=(Ae3 l 0 h,Ae3 l 1 h)
def Tl (b:List Int)(order j:Nat):List Int:=(b.drop (j*order)).take order
def NK (h:Nat)(b:List Int)(order n:Nat):List (Int×Int):=(List.range n).map fun j=>ptM h (Tl b order j)
theorem Bits.all{zs:List Int}(h:Bits zs):AllBits zs:=fun x e=>by
 obtain⟨k,d,rfl⟩:=A5 e;have:=h k
 simpa [List.getD,d]using this
theorem AllBits.append{a:List Int}(d:AllBits a)(e:AllBits b):AllBits (a++b):=by grind [AllBits]
theorem AcX(zs:List Int)(k:Int):Bits (Ko zs k):=by grind [Bits,Ko,RK,kW,MX,kP,b2i,crc]
theorem AkH(zs:List Int)(i:Nat):AllBits (UQ zs i):=by grind [AllBits,UQ]
theorem R8(zs:List Int):∀i,AllBits (Gz zs i)
 | 0=>fun x d=>by cases d
 | i+1=>(R8 zs i).append (AkH zs i)
def SA (z:List Int):List Int:=z++Ko z 3
theorem QX(z:List Int):(SA z).length=z.length+24:=by grind [SA,Ko,kW,KL]
theorem Ahs(h:AllBits z):AllBits (SA z):=h.append (AcX z 3).all
def MV (S:Setg):Nat:=Nat.log2 S.size.toNat
def JR (S:Setg)(z:List Int):List Int:=if S.code=0 then Gz z (z.length+6) else GE (MV S) (Iq S.size.toNat (Fl S.size.toNat z.length) z z.length)
theorem UN(h:Np S.size=A):S.size=((2 ^ MV S:Nat):Int)/\S.size.toNat=2 ^ MV S/\MV S<=9:=by
 obtain⟨m,l,e⟩:=AnH h;have d:S.size.toNat=2 ^ m:=by rw[e];exact AN _
 have f:MV S=m:=by unfold MV;rw[d];exact Nat.log2_two_pow
 rw[f];exact⟨e,d,l⟩
theorem Qt(f:z.length=8*n+24)(d:S.code=0\/S.code=1)(e:S.code=1->Np S.size=A):((JR S z).length:Int)=Ij S n:=by grind [Np,JR,Ij,JS,UN,JM,My]
theorem AfP(h:AllBits z):AllBits (JR S z):=by
 unfold JR
 split
 ·exact R8 _ _
 ·exact M0 _ _ (SE _ _ _ (fun j=>h.at j) _)
def SG (b:List Int)(ps:List Nat):List Int:=ps.map fun p=>b.getD p 0
theorem Q9(b:List Int)(ps:List Nat):(SG b ps).length=ps.length:=by simp[SG]
theorem AdY(h:AllBits b)(ps:List Nat):AllBits (SG b ps):=fun x d=>by
 obtain⟨p, -,rfl⟩:=Bb.1 d;exact h.at p
theorem VD(xs e:List Int)(k:Nat):AllBits (Lk xs e k):=fun x d=>by
 obtain⟨i, -,rfl⟩:=Bb.1 d;omega
def Xm (S:Setg)(xs:List Int):List Int:=Lk xs (FG S.seed.toNat S.count.toNat) xs.length
def QP (S:Setg)(z:List Int)(v:Nat):List Int:=SG (JR S z) (I9 (JR S z).length v S.count.toNat)
def Jo (S:Setg)(s:ByteArray)(v:Nat):List (Int×Int):=NK (S.order.toNat / 2) (Xm S (QP S (SA (Fh s (8*s.size))) v)) S.order.toNat (S.count.toNat / S.order.toNat)
theorem Un(n v c:Nat):(I9 n v c).length=c:=by simp[I9]
theorem Uo(S:Setg)(z:List Int)(v:Nat):(QP S z v).length=S.count.toNat:=by unfold QP;rw[Q9,Un]
theorem Ve(S:Setg)(xs:List Int):(Xm S xs).length=xs.length:=GZ _ _ _
structure SetOk(S:Setg)(bytes:Int):Prop where
 few:0<=bytes/\bytes<=40
 code:S.code=0\/S.code=1
 order:S.order=2\/S.order=4\/S.order=6
 seed:0<=S.seed/\S.seed<2147483648
 count:S.order<=S.count/\S.count<=4096/\S.count % S.order=0
 size0:S.code=0->S.size=0
 size1:S.code=1->Np S.size=A/\8*bytes+24<=S.size
theorem MT{bytes:Int}(h:RE S bytes=0):SetOk S bytes:=by
 unfold RE at h
 by_cases c:(AnO S bytes && AnP S)=A
 ·rw[Ab c,BD]at*;obtain⟨c1,c2⟩:=c;unfold AnO at c1;unfold AnP at c2;obtain⟨f,l,m,r,t,u⟩:=AQ c1;obtain⟨b1,B,L,U,Y⟩:=AQ c2
  by_cases d:S.code=1/\S.size<8*bytes+24
  ·grind
  ·exact⟨⟨f,l⟩,m,r,⟨t,u⟩,⟨b1,B,L⟩,U,fun e=>⟨Y e,by grind⟩⟩
 ·rw[Aa c]at h;cases h
def LI (P:Program)(ops:Array Oper)(Q:Exit->Act->C->Prop):List Nat->Act->C->Prop
 | [],a,w=>Q .normal a w
 | i::is,a,w=>wpOp P ops Q i (fun a' w'=>LI P ops Q is a' w') a w
def tbS (dst:List Nat)(k:Nat)(σ:Nat->Value):List (Nat×Value):=(List.range k).map fun i=>(dst.getD i 0,σ i)
theorem AdZ(dst:List Nat)(k:Nat)(σ:Nat->Value):(tbS dst k σ).length=k:=by simp[tbS]
theorem An1(dst:List Nat)(k:Nat)(σ:Nat->Value)(hi:i<k):(tbS dst k σ).getD i (0,undef)=(dst.getD i 0,σ i):=by simp[tbS,List.getD,hi]
theorem AbA(dst:List Nat)(k:Nat)(σ:Nat->Value)(e:dst.length=k):(tbS dst k σ).map (·.1)=dst:=by
 refine AW (by simp[tbS,e]) fun i f d=>?_
 simp[tbS,List.getD,d]
theorem SY(σ:Nat->Value)(e:dst.length=k)(d:dst.Nodup)(hi:i<k):lkp l0 (tbS dst k σ) (dst.getD i 0)=σ i:=by
 have:=Ajk l0 (tbS dst k σ) (by rw[AbA _ _ _ e];exact d) i (by rw[AdZ];exact hi)
 rwa [An1 _ _ _ hi]at this
theorem La(σ:Nat->Value)(h:∀i,i<k->dst.getD i 0≠s):lkp l0 (tbS dst k σ) s=l0.getD s undef:=by grind [lkp,tbS,TW]
theorem Ox(n k u:Nat)(S:List Nat)(dst:List Nat)(reads:List (List Nat))(U:List Nat)(Pr:Nat->(Nat->Value)->C->Prop)(wr:C)(hm:P.follows .mixedOrders=A)(hn:ops.size=n)(bi:k<n)
 (ac:dst.length=k) (af:dst.Nodup) (a6:(dst.all fun s=>decide (s<l0.length))=A)
 (ay:((List.range k).all fun i=>(reads.getD i []).all fun s=>(List.range k).all fun j=>(dst.getD j 0 !=s) || Ff ops i j)=A) (ar:((List.range n).all fun i=>Gt ops i)=A)
 (bk:((List.range k).all fun i=>(reads.getD i []).all fun s=>decide (s<l0.length))=A)
 (bg:((List.range k).all fun j=>decide (j<U.getD j 0) && (decide (U.getD j 0<=k) && Ff ops (U.getD j 0) j))=A) (bd:((List.range n).all fun i=>decide (i<=k) || Ff ops i (i-1))=A)
 (ak:∀j,j<k->∀σ σ' w,(∀Y,Y=j\/Ff ops j Y=A->σ Y=σ' Y)->Pr j σ w->Pr j σ' w)
 (a7:∀j σ w w',Pr j σ w->Kept [] w w'->Pr j σ w') (az:∀j σ w w',j≠u->Pr j σ w->Kept S w w'->Pr j σ w')
 (ap:∀i,i<k->∀(σ:Nat->Value) (a:Act) (w:C),Kept S wr w->(i=u->Below wr.heap.size wr w)->(∀j,j<k->Ff ops i j=A->Pr j σ w)->(∀s∈reads.getD i [],a.eval (.tmp s)=lkp l0 (tbS dst k σ) s)->∀(Q:Exit->Act->C->Prop) (K:Act->C->Prop),(∀x w',Kept (if i=u then S else []) w w'->(∀σ':Nat->Value,(∀j,j≠i->σ' j=σ j)->σ' i=x->Pr i σ' w')->K (a.put (E (dst.getD i 0)) x) w')->wpOp P ops Q i K a w)
 (an:∀(σ:Nat->Value) w,Kept S wr w->(∀j,j<k->Pr j σ w)->LI P ops Q (List.range' k (n-k)) {tmps:=(Ft l0 (tbS dst k σ)).toArray,defers:=[]} w):
 (Code.region id ops A).wp P Q {tmps:=l0.toArray,defers:=[]} wr:=by
 have bj:∀j,j<k->dst.getD j 0<l0.length:=fun j d=>by
  have aa:j<dst.length:=by omega
  have e:dst.getD j 0=dst[j]:=by simp[List.getD,aa]
  rw[e];exact AQ (AM.1 a6 _ (A4 aa))
 have hP:∀j,j<k->j<U.getD j 0/\U.getD j 0<=k/\Ff ops (U.getD j 0) j=A:=by grind
 have hT:∀i,i<n->k<i->Ff ops i (i-1)=A:=by grind
 have ab:∀(L:Nat->Bool),(∀i j,L i=A->Ff ops i j=A->L j=A)->(∀j,Ff ops k j=A->L j=A)->∀m j,j<k->k-j<=m->L j=A:=by
  intro L au bh m
  induction m with
  | zero=>intro j d ae;omega
  | succ m ih=>
   grind
 refine Adz n (fun L a w=>((∀j,k<=j->L j=D)/\(∀i j,L i=A->Ff ops i j=A->L j=A)/\∃σ:Nat->Value,(∀j,j<k->L j=A->Pr j σ w)/\a.tmps.size=l0.length/\a.defers=[]/\(Kept S wr w/\(L u=D->Below wr.heap.size wr w))/\∀s,s<l0.length->(∀i,i<k->dst.getD i 0=s->L i=A)->a.eval (.tmp s)=lkp l0 (tbS dst k σ) s)\/∃t,k<=t/\t<=n/\(∀j,j<t->L j=A)/\(∀j,t<=j->L j=D)/\LI P ops Q (List.range' t (n-t)) a w) _ wr hm hn ar ?_ ?_ ?_
 ·refine .inl ⟨fun _ _=>rfl,fun i j h=>(by cases h),fun _=>undef,fun j _ h=>(by cases h),by simp,rfl,⟨(Kept.refl _ wr).drew,fun _=>(Ad _ wr).drew⟩,fun s hs h=>?_⟩;rw[La _ (fun i hi e=>by have:=h i hi e;cases this)];simp[Act.eval,List.getD]
 ·intro L a w i hI hi a2 hw
  rcases hI with⟨ai,au,σ,aj,aq,av,l,al⟩ | ⟨t,bb,bc,a0,a1,Z⟩
  ·rcases AS i k with ad | ad
   ·refine ap i ad σ a w l.1 (fun r=>l.2 (by rw[<-r];exact a2)) (fun j d bf=>aj j d (hw j bf)) (fun s hs=>al s ?_ (fun j d e=>hw j ?_)) Q _ (fun x w' hg hx=> .inl ⟨fun j d=>?_,fun p j hp ba=>?_,fun j=>if j=i then x else σ j,fun j d a3=>?_,by simp[Act.put,aq],av,⟨?_,fun a4=>?_⟩,fun s hs h=>?_⟩)
    ·grind
    ·grind
    ·show(if j=i then A else L j)=D;rw[Aa (by omega)];exact ai j d
    ·show(if j=i then A else L j)=A;have a8:(if p=i then A else L p)=A:=hp
     by_cases f:j=i
     ·rw[Ab f]
     ·rw[Aa f]
      by_cases a9:p=i
      ·subst a9;exact hw j ba
      grind
    ·have ag:(if j=i then A else L j)=A:=a3
     by_cases f:j=i
     ·subst f;exact hx _ (fun Y aa=>by simp[aa]) (by simp)
     ·rw[Aa f]at ag;have a5:∀Y,Y=j\/Ff ops j Y=A->σ Y=(fun j=>if j=i then x else σ j) Y:=fun Y aa=>by
       have ao:Y≠i:=by
        grind
       simp[ao]
      have a8:=ak j d σ _ w a5 (aj j d ag)
      by_cases r:i=u
      ·grind
      grind
    ·by_cases r:i=u
     ·rw[Ab r]at hg;exact l.1.trans hg
     ·rw[Aa r]at hg;exact l.1.trans (hg.Fn (by simp))
    ·have B:(if u=i then A else L u)=D:=a4
     by_cases r:u=i
     ·rw[Ab r]at B;cases B
     ·rw[Aa r]at B;rw[Aa (fun h=>r h.symm)]at hg;have hb:=l.2 B;exact hb.trans (hg.below hb.size (by simp))
    ·by_cases e:dst.getD i 0=s
     ·subst e;rw[Act.eval_put_same a _ _ (by rw[aq];exact hs),SY _ ac af ad];simp
     ·rw[Act.eval_put_ne a _ _ _ e]
      have h3:=al s hs (fun j d ej=>by
       have h3:(if j=i then A else L j)=A:=h j d ej
       by_cases f:j=i
       ·subst f;exact absurd ej e
       ·rw[Aa f]at h3;exact h3)
      rw[h3]
      by_cases am:∃j,j<k/\dst.getD j 0=s
      ·obtain⟨j,d,rfl⟩:=am;rw[SY _ ac af d,SY _ ac af d];have ao:j≠i:=fun h=>e (by rw[h])
       simp[ao]
      ·rw[La _ (fun j d ej=>am ⟨j,d,ej⟩),La _ (fun j d ej=>am ⟨j,d,ej⟩)]
   ·have aw:i=k:=by
     apply Nat.le_antisymm _ ad
     grind
    subst aw;have ah:∀j,j<i->L j=A:=fun j d=>ab L au hw _ j d (Ac _)
    have ha:a={tmps:=(Ft l0 (tbS dst i σ)).toArray,defers:=[]}:=Afg a _ (by rw[Jh];exact aq) av (fun s hs=>by
     rw[Jh]at hs
     rw[UK _ l0 s (by rw[AbA _ _ _ ac];exact af) (fun q hq=>by
      unfold tbS at hq
      grind)]
     exact al s hs (fun j d _=>ah j d))
    have h1:=an σ w l.1 (fun j d=>aj j d (ah j d));obtain⟨m,ae⟩:∃m,n-i=m+1:=⟨n-i-1,by omega⟩;rw[ae,Ev,LI,<-ha]at h1;refine wpOp_mono (fun a' w' h=> .inr ⟨i+1,by omega,by omega,fun j d=>?_,fun j d=>?_,?_⟩) h1
    ·show(if j=i then A else L j)=A
     by_cases f:j=i
     ·rw[Ab f]
     grind
    ·show(if j=i then A else L j)=D;rw[Aa (by omega)];exact ai j (by omega)
    ·rw[show n-(i+1)=m by omega];exact h
  ·have bl:t<=i:=by
    grind
   have ax:i=t:=by
    grind
   subst ax;obtain⟨m,ae⟩:∃m,n-i=m+1:=⟨n-i-1,by omega⟩;rw[ae,Ev,LI]at Z;refine wpOp_mono (fun a' w' h=> .inr ⟨i+1,by omega,by omega,fun j d=>?_,fun j d=>?_,?_⟩) Z
   ·grind
   ·grind
   ·rw[show n-(i+1)=m by omega];exact h
 ·rintro L a w hL (⟨ai,_⟩ | ⟨t,bb,bc,a0,a1,Z⟩)
  ·grind
  ·have be:t=n:=by
    grind
   subst be;rw[Bm]at Z;exact Z
theorem Ut(n k:Nat)(dst:List Nat)(reads:List (List Nat))(l:List Nat)(m:Nat->(Nat->Value)->C->Prop)(wr:C)(hm:P.follows .mixedOrders=A)(hn:ops.size=n)(aa:k<n)
 (Z:dst.length=k) (ab:dst.Nodup) (Y:(dst.all fun s=>decide (s<l0.length))=A)
 (f:((List.range k).all fun i=>(reads.getD i []).all fun s=>(List.range k).all fun j=>(dst.getD j 0 !=s) || Ff ops i j)=A) (L:((List.range n).all fun i=>Gt ops i)=A)
 (ac:((List.range k).all fun i=>(reads.getD i []).all fun s=>decide (s<l0.length))=A)
 (U:((List.range k).all fun j=>decide (j<l.getD j 0) && (decide (l.getD j 0<=k) && Ff ops (l.getD j 0) j))=A) (B:((List.range n).all fun i=>decide (i<=k) || Ff ops i (i-1))=A)
 (r:∀j,j<k->∀σ σ' w,(∀j',j'=j\/Ff ops j j'=A->σ j'=σ' j')->m j σ w->m j σ' w)
 (e:∀j σ w w',m j σ w->w.grownBy w' G->m j σ w')
 (u:∀i,i<k->∀(σ:Nat->Value) (a:Act) (w:C),Below wr.heap.size wr w->(∀j,j<k->Ff ops i j=A->m j σ w)->(∀s∈reads.getD i [],a.eval (.tmp s)=lkp l0 (tbS dst k σ) s)->∀(Q:Exit->Act->C->Prop) (K:Act->C->Prop),(∀x w',w.grownBy w' G->(∀σ':Nat->Value,(∀j,j≠i->σ' j=σ j)->σ' i=x->m i σ' w')->K (a.put (E (dst.getD i 0)) x) w')->wpOp P ops Q i K a w)
 (t:∀(σ:Nat->Value) w,Below wr.heap.size wr w->(∀j,j<k->m j σ w)->LI P ops Q (List.range' k (n-k)) {tmps:=(Ft l0 (tbS dst k σ)).toArray,defers:=[]} w):
 (Code.region id ops A).wp P Q {tmps:=l0.toArray,defers:=[]} wr:=by
 have gk:∀{a b:C},Kept [] a b->a.grownBy b G:=fun h=>⟨h.os,h.tape,h.output,h.size,fun k d _=>h.block k d (by simp)⟩
 have kg:∀{a b:C},a.grownBy b G->Kept [] a b:=fun h=>⟨h.os,h.tape,h.output,h.size,fun k d _=>h.block k d (by simp)⟩
 have kb:∀{a b:C},Kept [] a b->Below a.heap.size a b:=fun h=>h.below (Ac _) (by simp)
 exact Ox n k k [] dst reads l m wr hm hn aa Z ab Y f L ac U B r (fun j σ w w' h d=>e j σ w w' h (gk d)) (fun j σ w w' _ h d=>e j σ w w' h (gk d)) (fun i hi σ a w d _ hp hr Q K hK=>u i hi σ a w (kb d) hp hr Q K (fun x w' hg=>hK x w' (by split<;>exact kg hg))) (fun σ w d=>t σ w (kb d))
theorem WJ(d:tb.length=k)(h:∀j,j<k->σ j=(tb.getD j (0,undef)).2):tbS (tb.map (·.1)) k σ=tb:=by
 unfold tbS;refine AW (by simp[d]) fun i e f=>?_
 grind
theorem QE(tb:List (Nat×Value))(j:Nat):(tb.map (·.1)).getD j 0=(tb.getD j (0,undef)).1:=by
 grind
theorem We(m:tb.length=k)(l:(tb.map (·.1)).Nodup)(h:∀j,j<k->(tb.map (·.1)).getD j 0=s->σ j=(tb.getD j (0,undef)).2):lkp l0 (tbS (tb.map (·.1)) k σ) s=lkp l0 tb s:=by
 by_cases d:∃j,j<k/\(tb.map (·.1)).getD j 0=s
 ·obtain⟨j,f,rfl⟩:=d;rw[SY σ (by simp[m]) l f,h j f rfl,QE,Ajk l0 tb l j (by omega)]
 ·rw[La σ (fun j f e=>d ⟨j,f,e⟩)];refine(TW tb s fun q r e=>?_).symm;obtain⟨j,f,rfl⟩:=A5 r
  grind
theorem UY{reads:List (List Nat)}(d:((List.range k).all fun i=>(reads.getD i []).all fun s=>(List.range k).all fun j=>(dst.getD j 0 !=s) || Ff ops i j)=A)(hi:i<k)(h:s∈reads.getD i [])(f:j<k)(e:dst.getD j 0=s):Ff ops i j=A:=by
 grind
theorem AlI(e:Nat)(d:List (Nat×Value))(x x':Value):∀(pre:List (Nat×Value)) (s:Nat),s≠e->lkp l0 (pre++(e,x)::d) s=lkp l0 (pre++(e,x')::d) s:=by intro a;induction a<;>grind [lkp,W6]
theorem ZC{α:Type}(l:List α)(d:α)(h:i<l.length):l.getD i d=l[i]:=by simp[List.getD,h]
theorem G4(l:List Value)(s:Nat)(v:Value):({tmps:=l.toArray,defers:=[]}:Act).put (E s) v={tmps:=(l.set s v).toArray,defers:=[]}:=by
 simp[Act.put]
theorem QS(n k u:Nat)(pre:List (Nat×Value))(f:Nat)(d:List (Nat×Value))(reads:List (List Nat))(r:List Nat)(U:Value->C->Prop)(wr:C)(hm:P.follows .mixedOrders=A)(hn:ops.size=n)(ag:k<n)
 (hu:pre.length=u) (aj:pre.length+1+d.length=k) (ad:((pre++(f,undef)::d).map (·.1)).Nodup) (af:((pre++(f,undef)::d).all fun q=>decide (q.1<l0.length))=A)
 (m:((List.range k).all fun i=>(reads.getD i []).all fun s=>(List.range k).all fun j=>(((pre++(f,undef)::d).getD j (0,undef)).1 !=s) || Ff ops i j)=A) (Z:((List.range n).all fun i=>Gt ops i)=A)
 (ah:((List.range k).all fun i=>(reads.getD i []).all fun s=>decide (s<l0.length))=A)
 (ae:((List.range k).all fun j=>decide (j<r.getD j 0) && (decide (r.getD j 0<=k) && Ff ops (r.getD j 0) j))=A) (Y:((List.range n).all fun i=>decide (i<=k) || Ff ops i (i-1))=A)
 (hU:∀x w w',U x w->w.grownBy w' G->U x w')
 (L:∀i,i<k->∀(x:Value) (a:Act) (w:C),Below wr.heap.size wr w->(f∈reads.getD i []->U x w)->(∀s∈reads.getD i [],a.eval (.tmp s)=lkp l0 (pre++(f,x)::d) s)->∀(Q:Exit->Act->C->Prop) (K:Act->C->Prop),(i=u->∀x' w',w.grownBy w' G->U x' w'->K (a.put (E f) x') w')->(i≠u->∀w',w.grownBy w' G->K (a.put (E ((pre++(f,undef)::d).getD i (0,undef)).1) ((pre++(f,undef)::d).getD i (0,undef)).2) w')->wpOp P ops Q i K a w)
 (B:∀x w,Below wr.heap.size wr w->U x w->LI P ops Q (List.range' k (n-k)) {tmps:=(Ft l0 (pre++(f,x)::d)).toArray,defers:=[]} w):
 (Code.region id ops A).wp P Q {tmps:=l0.toArray,defers:=[]} wr:=by
 subst hu;have key:∀x:Value,(pre++(f,x)::d).map (·.1)=(pre++(f,undef)::d).map (·.1):=fun x=>by simp
 have l:∀x:Value,(pre++(f,x)::d).length=k:=fun x=>by simp;omega
 have ac:∀x:Value,(pre++(f,x)::d).getD pre.length (0,undef)=(f,x):=fun x=>by simp[List.getD]
 have ai:∀(x:Value) (j:Nat),j≠pre.length->(pre++(f,x)::d).getD j (0,undef)=(pre++(f,undef)::d).getD j (0,undef):=fun x j hj=>by
  simp only[List.getD]
  grind
 have aa:((List.range k).all fun i=>(reads.getD i []).all fun s=>(List.range k).all fun j=>(((pre++(f,undef)::d).map (·.1)).getD j 0 !=s) || Ff ops i j)=A:=by
  simp only[QE];exact m
 have t:∀(σ:Nat->Value) (w:C) (j:Nat),(if j=pre.length then U (σ j) w else σ j=((pre++(f,undef)::d).getD j (0,undef)).2)->σ j=((pre++(f,σ pre.length)::d).getD j (0,undef)).2:=by grind
 have ab:=QE (pre++(f,undef)::d);refine Ut n k ((pre++(f,undef)::d).map (·.1)) reads r (fun j σ w=>if j=pre.length then U (σ j) w else σ j=((pre++(f,undef)::d).getD j (0,undef)).2) wr hm hn ag (by rw[Bo];exact l undef) ad (by simpa [List.all_map]using af) aa Z ah ae Y (fun j _ σ σ' w he h=>by rw[<-he j (.inl rfl)];exact h) (fun j σ w w' h hg=>?_) (fun i hi σ a w hb hp hr Q K hK=>?_) (fun σ w hb hp=>?_)
 ·grind
 ·refine L i hi (σ pre.length) a w hb (fun hs=>?_) (fun s hs=>?_) Q K (fun e x' w' hg hu=>?_) (fun e w' hg=>?_)
  ·grind
  ·rw[hr s hs,<-key (σ pre.length)];exact We (l _) (by rw[key];exact ad) fun j hj e=>t σ w j (hp j hj (UY aa hi hs hj (by rw[<-key (σ pre.length)];exact e)))
  ·have:=hK x' w' hg (fun σ' _ e'=>by rw[Ab e,e'];exact hu)
   rwa [ab,e,ac]at this
  ·have:=hK _ w' hg (fun σ' _ e'=>by rw[Aa e];exact e')
   rwa [ab]at this
 ·rw[<-key (σ pre.length),WJ (l _) (fun j hj=>t σ w j (hp j hj))];have:=hp pre.length (by omega);rw[Ab rfl]at this;exact B _ w hb this
theorem Ow(n k u:Nat)(pre:List (Nat×Value))(h:Nat)(d:List (Nat×Value))(reads:List (List Nat))(f:List Nat)(U:Value->C->Prop)(wr:C)(hm:P.follows .mixedOrders=A)(hn:ops.size=n)(Z:k<n)
 (hu:pre.length=u) (Y:pre.length+1+d.length=k) (aa:((pre++(h,undef)::d).map (·.1)).Nodup) (L:((pre++(h,undef)::d).all fun q=>decide (q.1<l0.length))=A)
 (e:((List.range k).all fun i=>(reads.getD i []).all fun s=>(List.range k).all fun j=>(((pre++(h,undef)::d).getD j (0,undef)).1 !=s) || Ff ops i j)=A) (t:((List.range n).all fun i=>Gt ops i)=A)
 (ab:((List.range k).all fun i=>(reads.getD i []).all fun s=>decide (s<l0.length))=A)
 (B:((List.range k).all fun j=>decide (j<f.getD j 0) && (decide (f.getD j 0<=k) && Ff ops (f.getD j 0) j))=A) (r:((List.range n).all fun i=>decide (i<=k) || Ff ops i (i-1))=A)
 (hU:∀x w w',U x w->w.grownBy w' G->U x w')
 (m:∀i,i<k->∀(x:Value) (a:Act) (w:C),Below wr.heap.size wr w->(∀s∈reads.getD i [],a.eval (.tmp s)=lkp l0 (pre++(h,x)::d) s)->∀(Q:Exit->Act->C->Prop) (K:Act->C->Prop),(i=u->∀x' w',w.grownBy w' G->U x' w'->K (a.put (E h) x') w')->(i≠u->∀w',w.grownBy w' G->K (a.put (E ((pre++(h,undef)::d).getD i (0,undef)).1) ((pre++(h,undef)::d).getD i (0,undef)).2) w')->wpOp P ops Q i K a w)
 (l:∀x w,Below wr.heap.size wr w->U x w->LI P ops Q (List.range' k (n-k)) {tmps:=(Ft l0 (pre++(h,x)::d)).toArray,defers:=[]} w):
 (Code.region id ops A).wp P Q {tmps:=l0.toArray,defers:=[]} wr:=
 QS n k u pre h d reads f U wr hm hn Z hu Y aa L e t ab B r hU (fun i hi x a w hb _ hr=>m i hi x a w hb hr) l
theorem Fj{t:List (Nat×Value)}(s:Nat)(e:(t.map (·.1)).Nodup)(d:(t.all fun q=>decide (q.1<l0.length))=A):({tmps:=(Ft l0 t).toArray,defers:=[]}:Act).eval (.tmp s)=lkp l0 t s:=by
 rw[<-UK t l0 s e (fun q f=>AQ (AM.1 d q f))];simp[Act.eval,List.getD]
theorem WS(hg:o.guard=E (j,want))(f:ops[j]?=E oj)(hd:oj.dst=E s)(l:a.eval (.tmp s)=.bool want):Region.wanted o (yielded ops a.tmps)=A:=by
 have d:a.tmps.getD s undef=.bool want:=l;have e:a.tmps[s]?=E (.bool want):=by
  by_cases h:s<a.tmps.size
  ·simp[Array.getD,h]at d;simp[h,d]
  ·simp[Array.getD,h]at d
   cases d
 unfold Region.wanted yielded;simp[hg,f,hd,e]
theorem O1(hi:ops[i]?=E o)(hg:o.guard=E (j,want))(f:ops[j]?=E oj)(hd:oj.dst=E s)(h:a.eval (.tmp s)=.bool want)
 (d:(execOp a.eval o).run P w=.ok (.value v) w') (e:K (a.put o.dst v) w'):wpOp P ops Q i K a w:=by
 unfold wpOp;rw[hi];have l:=WS hg f hd h;simp only[l,AP,Oper.wp]
 left;rw[d];exact e
theorem IH(hi:ops[i]?=E o)(hg:o.guard=E (j,want))(l:ops[j]?=E oj)(hd:oj.dst=E s)(m:a.eval (.tmp s)=.bool (!want))
 (f:K (a.put o.dst undef) w):wpOp P ops Q i K a w:=by
 have d:a.tmps.getD s undef=.bool (!want):=m;have e:a.tmps[s]?=E (.bool (!want)):=by
  by_cases h:s<a.tmps.size
  ·simp[Array.getD,h]at d;simp[h,d]
  ·simp[Array.getD,h]at d
   cases d
 unfold wpOp;rw[hi];have r:Region.wanted o (yielded ops a.tmps)=D:=by
  unfold Region.wanted yielded;simp[hg,l,hd,e]
 simp only[r];exact f
theorem Aa6(w:C)(e:o.op=.binOp .eql 3 x y 3)(h:ρ x=.int .i64 p)(d:ρ y=.int .i64 q):(execOp ρ o).run prog w=.ok (.value (.bool (p==q))) w:=by
 unfold execOp;simp only[e,h,d];simp[go_sem]
theorem Aj6(w:C)(e:o.op=.binOp .gtr 3 x y 3)(h:ρ x=.int .i64 p)(d:ρ y=.int .i64 q):(execOp ρ o).run prog w=.ok (.value (.bool (decide (q<p)))) w:=by
 unfold execOp;simp only[e,h,d];simp[go_sem]
theorem RC(w:C){z:Operand}{g:Bool}(d:o.op=.pick x y z)(h:ρ x=.bool g)(e:(if g then ρ y else ρ z)=v):(execOp ρ o).run P w=.ok (.value v) w:=by
 unfold execOp;subst e
 cases g
 ·simp only[d,h];simp[go_sem]
 ·simp only[d,h];simp[go_sem]
end Go.Proofs.YtbjgfoiikhbonahGreatDoor
