import Derived.OrdersIn
import Derived.OwnWalkIn
import Derived.Great.Frames
import Derived.Test.YtbjgfoiikhbonahGreatDoorD02
import Derived.Shelf.Abstract
import Derived.Deep.CutRange
import Derived.Deep.OwnRows
set_option linter.unusedVariables false
set_option linter.unusedSimpArgs false
set_option maxRecDepth 100000
set_option maxHeartbeats 4000000
namespace Go.Proofs.YtbjgfoiikhbonahGreatDoor
open Go.ChangeShapes Go.WideShapes Go.ChangeAt Go.RowKit Go.Shelf Go.Proofs.Tryz
open Value (int pointer)
open IntKind (i64)
variable {B N c g h i id j k m n s:Nat}{F:Fence}{K:Act->World->Prop}{L b l z zs:List Int}{P:Program}{Q:Exit->Act->World->Prop}{R:Ending->World->Prop}{a:Act}{dst:List Nat}{f ρ:Operand->Value}{l0:List Value}{listed:Array Bool}{o oj:Oper}{ops:Array Oper}{p q:Int}{ps:List (Int×Int)}{tb:List (Nat×Value)}{ts:Array TypeId}{us:Array Value}{v:Value}{w w':World}{want:Bool}{x y:Operand}{xs:Array Operand}{σ:Nat->Value}
def Ff (ops:Array Oper)(i j:Nat):Bool:=((ops[i]?).map fun o=>o.after.any fun e=>e.on==j && Region.binds .any e).getD false
def Gt (ops:Array Oper)(i:Nat):Bool:=((ops[i]?).map fun o=>o.after.all fun e=>!Region.binds .any e || decide (e.on<i)).getD true
theorem Mj(h:i∈Region.ready .any ops listed)(d:Ff ops i j=true):listed.getD j false=true:=by
 unfold Region.ready at h
 grind [Ff]
theorem AaR(h:i∈Region.ready .any ops listed):i<ops.size/\listed.getD i true=false:=by
 unfold Region.ready at h
 grind
theorem Sy(hi:i<ops.size)(d:listed.getD i true=false)(e:∀j,j<i->listed.getD j false=true)(ht:Gt ops i=true):i∈Region.ready .any ops listed:=by
 unfold Region.ready
 grind [Gt]
theorem Us(h:∀i,i<ops.size->listed.getD i true=true):Region.ready .any ops listed=[]:=by
 unfold Region.ready;rw[Dm]
 grind
theorem Qy(L:Array Bool)(i j:Nat)(b:Bool):(L.setIfInBounds i true).getD j b=if i=j/\j<L.size then true else L.getD j b:=by
 simp only[Ds,Array.getElem?_setIfInBounds]
 grind
theorem OO(L:Array Bool)(i:Nat)(h:L.getD i true=false):(L.setIfInBounds i true).toList.count false+1=L.toList.count false:=by
 have hi:i<L.size:=by
  grind
 have d:L.toList[i]'(by simpa using hi)=false:=by
  rw[Ds,Eu hi]at h
  simpa using h
 grind
theorem least{p:Nat->Prop}:∀n,p n->∃m,p m/\∀j,j<m->¬p j:=by
 intro n
 induction n using Nat.strongRecOn with
 | ind n ih=>
  grind
theorem YT(k r:Nat)(e:List Value)(u:Nat->List Nat)(G:Act)(w:World)(hk:ops.size=k+1)(hN:r+k<=G.tmps.size)
 (S:∀i,i<k->∀j∈u i,Ff ops i j=true) (E:∀i,i<=k->Gt ops i=true) (C:∀j,j<k->Ff ops k j=true)
 (D:∀i,i<k->∀a:Act,(∀j∈u i,a.eval (.tmp (r+j))=e.getD j undef)->(∀s,s<r\/r+k<=s->a.eval (.tmp s)=G.eval (.tmp s))->∀K:Act->World->Prop,K (a.put (some (r+i)) (e.getD i undef)) w->wpOpIn F n P ops Q i K a w)
 (t:∀a:Act,(∀j,j<k->a.eval (.tmp (r+j))=e.getD j undef)->(∀s,s<r\/r+k<=s->a.eval (.tmp s)=G.eval (.tmp s))->wpOpIn F n P ops Q k (fun a w=>Q .normal a w) a w):
 ∀(d:Nat) (listed:Array Bool) (a:Act),listed.size=k+1->listed.getD k true=false->listed.toList.count false<=d->a.tmps.size=G.tmps.size->(∀j,j<k->listed.getD j false=true->a.eval (.tmp (r+j))=e.getD j undef)->
  (∀s,s<r\/r+k<=s->a.eval (.tmp s)=G.eval (.tmp s))->wpAnyIn F n P .any ops Q d listed a w:=by
 intro d
 induction d with
 | zero=>
  intro listed a O T Z _ _ _;have:=OO listed k T;omega
 | succ d ih=>
  intro listed a O T Z W Y V;have ab:∃i,i∈Region.ready .any ops listed:=by
   obtain⟨i,⟨hi,hf⟩,X⟩:=least (p:=fun i=>i<=k/\listed.getD i true=false) k ⟨Ac _,T⟩;refine⟨i,Sy (by omega) hf (fun j A=>?_) (E i hi)⟩
   grind
  refine⟨fun h=>(by grind),fun i hi=>?_⟩;obtain⟨aa,U⟩:=AaR hi
  by_cases H:i=k
  ·subst H;refine wpOpIn_mono (fun a' w' hq=>?_) (t a (fun j A=>Y j A (Mj hi (C j A))) V);refine wpAnyIn_done (Us fun j A=>?_) hq d;rw[Qy]
   grind [Mj]
  ·have I:i<k:=by omega
   refine D i I a (fun j A=>?_) V _ ?_
   ·grind [Mj]
   ·refine ih _ _ (by rw[DU];exact O) ?_ ?_ ?_ ?_ ?_
    ·rw[Qy,Aa (fun h=>H h.1)];exact T
    ·have:=OO listed i U;omega
    ·simp[Act.put,W]
    ·intro j A M
     by_cases J:i=j
     ·subst J;exact Act.eval_put_same a _ _ (by omega)
     ·rw[Act.eval_put_ne a _ _ _ (by omega)];rw[Qy,Aa (fun h=>J h.1)]at M;exact Y j A M
    ·intro s hs;rw[Act.eval_put_ne a _ _ _ (by omega)];exact V s hs
theorem QT(k r:Nat)(d:List Value)(e:List (List Nat))(u:Act)(w:World)(M:P.follows .mixedOrders=true)(H:ops.size=k+1)(J:r+k<=u.tmps.size)
 (C:((List.range k).all fun i=>(e.getD i []).all fun j=>Ff ops i j)=true) (G:((List.range (k+1)).all fun i=>Gt ops i)=true) (E:((List.range k).all fun j=>Ff ops k j)=true)
 (A:∀i,i<k->∀a:Act,(∀j∈e.getD i [],a.eval (.tmp (r+j))=d.getD j undef)->(∀s,s<r\/r+k<=s->a.eval (.tmp s)=u.eval (.tmp s))->∀K:Act->World->Prop,K (a.put (some (r+i)) (d.getD i undef)) w.drew->wpOpIn F n P ops Q i K a w.drew)
 (t:∀a:Act,(∀j,j<k->a.eval (.tmp (r+j))=d.getD j undef)->(∀s,s<r\/r+k<=s->a.eval (.tmp s)=u.eval (.tmp s))->wpOpIn F n P ops Q k (fun a w=>Q .normal a w) a w.drew):
 (Code.region id ops true).wpIn F n P Q u w:=by
 refine wpIn_region_any M ?_
 show wpAnyIn F n P .any ops Q ops.size (Array.replicate ops.size false) u w.drew;rw[H];have I:∀(j:Nat) (b:Bool),j<k+1->(Array.replicate (k+1) false).getD j b=false:=fun j b D=>by simp[Ds,D]
 refine YT k r d (fun i=>e.getD i []) u w.drew H J (fun i hi j D=>?_) (fun i hi=>?_) (fun j D=>?_) A t (k+1) _ u (by simp) (I k true (by omega)) (by simp) rfl (fun j D h=>?_) (fun s _=>rfl)
 ·grind
 ·grind
 ·grind
 ·rw[I j false (by omega)]at h
  cases h
theorem FP(hi:ops[i]?=some o)(hg:o.guard=none)(hd:∀c,o.op≠ .defer c)
 (e:o.about P w a.eval=none) (d:(execOp a.eval o).run P w=.ok (.value v) w') (t:K (a.put o.dst v) w'):wpOpIn F n P ops Q i K a w:=by
 unfold wpOpIn;rw[hi];have u:Region.wanted o (yielded ops a.tmps)=true:=by simp[Region.wanted,hg]
 simp only[u,AP,Oper.wpIn];refine⟨fun f r=>?_,?_⟩
 ·rw[e]at r;cases r
 ·rw[Oper.semAt_plain F _ _ hd,d];exact t
theorem Wj(hi:ops[i]?=some o)(hg:o.guard=none)(hd:∀c,o.op≠ .defer c)
 (e:o.about P w a.eval=none) (d:(execOp a.eval o).run P w=.ok .skip w') (t:K (a.put o.dst undef) w'):wpOpIn F n P ops Q i K a w:=by
 unfold wpOpIn;rw[hi];have u:Region.wanted o (yielded ops a.tmps)=true:=by simp[Region.wanted,hg]
 simp only[u,AP,Oper.wpIn];refine⟨fun f r=>?_,?_⟩
 ·rw[e]at r;cases r
 ·rw[Oper.semAt_plain F _ _ hd,d];exact t
theorem Ak8(k:Nat)(r:(Nat->Bool)->Act->World->Prop)(Y:ops.size=k)(C:∀i,i<k->Gt ops i=true)
 (A:∀(L:Nat->Bool) (a:Act) (w:World) (i:Nat),r L a w->i<k->L i=false->(∀j,Ff ops i j=true->L j=true)->wpOp P ops Q i (fun a' w'=>r (fun j=>if j=i then true else L j) a' w') a w)
 (u:∀(L:Nat->Bool) (a:Act) (w:World),(∀j,j<k->L j=true)->r L a w->Q .normal a w):
 ∀(d:Nat) (listed:Array Bool) (a:Act) (w:World),listed.size=k->listed.toList.count false<=d->r (fun j=>listed.getD j false) a w->wpAny P .any ops Q d listed a w:=by
 have E:∀(listed:Array Bool) (a:Act) (w:World),listed.size=k->Region.ready .any ops listed=[]->r (fun j=>listed.getD j false) a w->Q .normal a w:=by
  intro listed a w t D hi;refine u _ a w (fun j H=>?_) hi
  show listed.getD j false=true
  by_cases I:∃i,i<k/\listed.getD i true=false
  ·obtain⟨X,J⟩:=I;obtain⟨i,⟨M,U⟩,S⟩:=least (p:=fun i=>i<k/\listed.getD i true=false) X J
   have:i∈Region.ready .any ops listed:=Sy (by omega) U (fun j H=>by
    grind) (C i M)
   rw[D]at this
   cases this
  grind
 intro d
 induction d with
 | zero=>
  intro listed a w t T hi;have D:Region.ready .any ops listed=[]:=Us fun j H=>by
   grind [OO]
  exact⟨D,E listed a w t D hi⟩
 | succ d ih=>
  intro listed a w t T hi;refine⟨fun D=>E listed a w t D hi,fun i G=>?_⟩;obtain⟨W,O⟩:=AaR G;have V:i<listed.size:=by omega
  refine wpOp_mono (fun a' w' h=>?_) (A _ a w i hi (by omega) (by
   grind) (fun j H=>Mj G H))
  refine ih _ a' w' (by rw[DU];exact t) (by have:=OO listed i O;omega) ?_;have e:(fun j=>(listed.setIfInBounds i true).getD j false)=fun j=>if j=i then true else listed.getD j false:=by
   funext j
   rw[Qy]
   grind
  rw[e];exact h
theorem Adz(k:Nat)(d:(Nat->Bool)->Act->World->Prop)(A:Act)(w:World)(E:P.follows .mixedOrders=true)(C:ops.size=k)(u:((List.range k).all fun i=>Gt ops i)=true)
 (D:d (fun _=>false) A w.drew)
 (t:∀(L:Nat->Bool) (a:Act) (w:World) (i:Nat),d L a w->i<k->L i=false->(∀j,Ff ops i j=true->L j=true)->wpOp P ops Q i (fun a' w'=>d (fun j=>if j=i then true else L j) a' w') a w)
 (r:∀(L:Nat->Bool) (a:Act) (w:World),(∀j,j<k->L j=true)->d L a w->Q .normal a w):(Code.region id ops true).wp P Q A w:=by
 refine wp_region_any E ?_
 show wpAny P .any ops Q ops.size (Array.replicate ops.size false) A w.drew;rw[C];refine Ak8 k d C (fun i hi=>AM.1 u i (Bv.2 hi)) t r k _ A w.drew (by simp) (by simp) ?_;have e:(fun j=>(Array.replicate k false).getD j false)=fun _:Nat=>false:=by
  funext j
  rw[Ds,Array.getElem?_replicate]
  split<;>rfl
 rw[e];exact D
theorem Afg(a:Act)(lst:List Value)(e:a.tmps.size=lst.length)(hd:a.defers=[])(h:∀s:Nat,s<lst.length->a.eval (.tmp s)=lst.getD s undef):a={tmps:=lst.toArray,defers:=[]}:=by
 obtain⟨t,d⟩:=a;simp only at e hd;subst hd
 congr 1
 refine C5 (by simpa using e) fun i A C=>?_
 have u:t[i]=t.getD i undef:=by simp[Array.getD,A]
 have:=h i (by omega);have r:({tmps:=t,defers:=[]}:Act).eval (.tmp i)=t.getD i undef:=rfl
 grind
def Ft (l:List Value):List (Nat×Value)->List Value
 | []=>l
 | q::t=>Ft (l.set q.1 q.2) t
theorem Jh(t:List (Nat×Value)):∀l:List Value,(Ft l t).length=l.length:=by
 induction t with
 | nil=>intro l;rfl
 | cons q t ih=>intro l;rw[Ft,ih,An]
theorem W6{a b:Nat}(h:a≠b):Nat.beq a b=false:=by
 cases d:Nat.beq a b with
 | false=>rfl
 | true=>exact absurd (Nat.eq_of_beq_eq_true d) h
def lkp (l0:List Value):List (Nat×Value)->Nat->Value
 | [],s=>l0.getD s undef
 | q::t,s=>match Nat.beq q.1 s with
  | true=>q.2
  | false=>lkp l0 t s
theorem AlJ:∀(t:List (Nat×Value)) (s:Nat),i≠s->lkp (l0.set i v) t s=lkp l0 t s:=by intro a;induction a<;>grind [lkp]
theorem TW:∀(t:List (Nat×Value)) (s:Nat),(∀q∈t,q.1≠s)->lkp l0 t s=l0.getD s undef:=by intro a;induction a<;>grind [lkp,W6]
theorem UK(t:List (Nat×Value)):∀(l0:List Value) (s:Nat),(t.map (·.1)).Nodup->(∀q∈t,q.1<l0.length)->(Ft l0 t).getD s undef=lkp l0 t s:=by
 induction t with
 | nil=>intro l0 s _ _;rfl
 | cons q t ih=>
  intro l0 s d u;rw[Be,List.nodup_cons]at d;rw[Ft,ih _ s d.2 (fun p A=>by grind),lkp]
  by_cases e:q.1=s
  ·subst e;have r:Nat.beq q.1 q.1=true:=Nat.beq_refl q.1
   grind [TW]
  grind [W6,AlJ]
theorem Ajk(l0:List Value)(t:List (Nat×Value))(d:(t.map (·.1)).Nodup):∀i,i<t.length->lkp l0 t (t.getD i (0,undef)).1=(t.getD i (0,undef)).2:=by
 induction t with
 | nil=>intro i hi;simp at hi
 | cons q t ih=>
  intro i hi;rw[Be,List.nodup_cons]at d
  cases i with
  | zero=>simp[lkp,List.getD]
  | succ i=>
   grind [lkp,W6]
theorem E6(hi:ops[i]?=some o)(hg:o.guard=none)
 (d:(execOp a.eval o).run P w=.ok (.value v) w') (e:K (a.put o.dst v) w'):wpOp P ops Q i K a w:=by
 unfold wpOp;rw[hi];have r:Region.wanted o (yielded ops a.tmps)=true:=by simp[Region.wanted,hg]
 simp only[r,AP,Oper.wp]
 left;rw[d];exact e
theorem Fd(w:World)(d:o.op=.move x)(h:ρ x=v):(execOp ρ o).run P w=.ok (.value v) w:=by
 unfold execOp;simp only[d,h];simp[go_sem]
theorem F5(w:World)(e:o.op=.load 3 x)(h:ρ x=pointer (some ⟨g,j,none⟩))(d:w.cell? ⟨g,j,none⟩=some v):(execOp ρ o).run prog w=.ok (.value v) w:=by
 unfold execOp;simp only[e,h];simp[go_sem,d]
theorem Ahq(w:World)(e:o.op=.load 5 x)(h:ρ x=pointer (some ⟨g,j,none⟩))(d:w.cell? ⟨g,j,none⟩=some v):(execOp ρ o).run prog w=.ok (.value v) w:=by
 unfold execOp;simp only[e,h];simp[go_sem,d]
theorem UE(w:World)(e:o.op=.load 74 x)(h:ρ x=pointer (some ⟨g,j,none⟩))(d:w.cell? ⟨g,j,none⟩=some v):(execOp ρ o).run prog w=.ok (.value v) w:=by
 unfold execOp;simp only[e,h];simp[go_sem,d]
theorem UD(w:World)(e:o.op=.load 103 x)(h:ρ x=pointer (some ⟨g,j,none⟩))(d:w.cell? ⟨g,j,none⟩=some v):(execOp ρ o).run prog w=.ok (.value v) w:=by
 unfold execOp;simp only[e,h];simp[go_sem,d]
theorem OB(w:World)(r:o.op=.indexAddr 74 x y)(h:ρ x=.slice (some ⟨g,s,none⟩) n c)(d:ρ y=int i64 j)(e:j<n):(execOp ρ o).run prog w=.ok (.value (pointer (some ⟨g,s+j,none⟩))) w:=by
 unfold execOp;simp only[r,h,d];simp[go_sem,underlying74,e]
theorem Abe(w:World)(r:o.op=.indexAddr 103 x y)(h:ρ x=.slice (some ⟨g,s,none⟩) n c)(d:ρ y=int i64 j)(e:j<n):(execOp ρ o).run prog w=.ok (.value (pointer (some ⟨g,s+j,none⟩))) w:=by
 unfold execOp;simp only[r,h,d];simp[go_sem,underlying103,e]
theorem Aj0(w:World)(e:o.op=.binOp .add 3 x y 3)(h:ρ x=int i64 p)(d:ρ y=int i64 q)(r:IntKind.i64.wrap (p+q)=p+q):(execOp ρ o).run prog w=.ok (.value (int i64 (p+q))) w:=by
 unfold execOp;simp only[e,h,d];simp[go_sem,r]
theorem UG(w:World)(t:o.op=.store 3 x y)(h:ρ x=pointer (some ⟨g,j,none⟩))(d:ρ y=int i64 q)(e:w.cell? ⟨g,j,none⟩=some (int i64 p))(r:w.frozen? ⟨g,j,none⟩=false):(execOp ρ o).run prog w=.ok .skip (w.setCell ⟨g,j,none⟩ (int i64 q)):=by
 unfold execOp;simp only[t,h,d];simp[go_sem,e,r]
theorem AdH(w:World)(t:o.op=.store 5 x y)(h:ρ x=pointer (some ⟨g,j,none⟩))(d:ρ y=int .u8 q)(e:w.cell? ⟨g,j,none⟩=some (int .u8 p))(r:w.frozen? ⟨g,j,none⟩=false):(execOp ρ o).run prog w=.ok .skip (w.setCell ⟨g,j,none⟩ (int .u8 q)):=by
 unfold execOp;simp only[t,h,d];simp[go_sem,e,r]
theorem FX(h:Below w.heap.size w w'):w.grownBy w' none:=⟨h.os,h.tape,h.output,h.size,fun k d _=>h.block k d⟩
def Hf (ps:List (Int×Int)):List Value:=ps.flatMap fun p=>[int i64 p.1,int i64 p.2]
def OwnP (w:World)(B:Nat)(v:Value)(ps:List (Int×Int)):Prop:=w.ownsRow B 335 2 v ps.length (Hf ps)
theorem An9(l:List Value)(h:l.length=17):∃u22 u23 u24 u25 u26 u27 u28 u29 u30 u31 u32 u33 u34 u35 u36 u37 u38,l=[u22,u23,u24,u25,u26,u27,u28,u29,u30,u31,u32,u33,u34,u35,u36,u37,u38]:=
 match l,h with
 | [u22,u23,u24,u25,u26,u27,u28,u29,u30,u31,u32,u33,u34,u35,u36,u37,u38],_=>⟨u22,u23,u24,u25,u26,u27,u28,u29,u30,u31,u32,u33,u34,u35,u36,u37,u38,rfl⟩
def ptM (h:Nat)(l:List Int):Int×Int:=(Ae3 l 0 h,Ae3 l 1 h)
def Tl (b:List Int)(order j:Nat):List Int:=(b.drop (j*order)).take order
def NK (h:Nat)(b:List Int)(order n:Nat):List (Int×Int):=(List.range n).map fun j=>ptM h (Tl b order j)
theorem Bits.all(h:Bits zs):AllBits zs:=fun x e=>by
 obtain⟨k,d,rfl⟩:=A5 e;have:=h k
 simpa [List.getD,d]using this
theorem AllBits.append{a:List Int}(d:AllBits a)(e:AllBits b):AllBits (a++b):=by grind [AllBits]
theorem AcX(zs:List Int)(k:Int):Bits (Ko zs k):=by grind [Bits,Ko,RK,kW,MX,kP,b2i,crc]
theorem AkH(zs:List Int)(i:Nat):AllBits (UQ zs i):=by grind [AllBits,UQ]
theorem R8(zs:List Int):∀i,AllBits (Gz zs i)
 | 0=>fun x d=>by cases d
 | i+1=>(R8 zs i).append (AkH zs i)
def SA (z:List Int):List Int:=z++Ko z 3
theorem QX(z:List Int):(SA z).length=z.length+24:=by grind [SA,Ko,kW,KL]
theorem Ahs(h:AllBits z):AllBits (SA z):=h.append (AcX z 3).all
def MV (S:Setg):Nat:=Nat.log2 S.size.toNat
def JR (S:Setg)(z:List Int):List Int:=if S.code=0 then Gz z (z.length+6) else GE (MV S) (Iq S.size.toNat (Fl S.size.toNat z.length) z z.length)
theorem UN{S:Setg}(h:Np S.size=true):S.size=((2 ^ MV S:Nat):Int)/\S.size.toNat=2 ^ MV S/\MV S<=9:=by
 obtain⟨m,t,e⟩:=AnH h;have d:S.size.toNat=2 ^ m:=by rw[e];exact AN _
 have r:MV S=m:=by unfold MV;rw[d];exact Nat.log2_two_pow
 rw[r];exact⟨e,d,t⟩
theorem Qt{S:Setg}(r:z.length=8*n+24)(d:S.code=0\/S.code=1)(e:S.code=1->Np S.size=true):((JR S z).length:Int)=Ij S n:=by grind [Np,JR,Ij,JS,UN,JM,My]
theorem AfP{S:Setg}(h:AllBits z):AllBits (JR S z):=by
 unfold JR
 split
 ·exact R8 _ _
 ·exact M0 _ _ (SE _ _ _ (fun j=>h.at j) _)
def SG (b:List Int)(ps:List Nat):List Int:=ps.map fun p=>b.getD p 0
theorem Q9(b:List Int)(ps:List Nat):(SG b ps).length=ps.length:=by simp[SG]
theorem AdY(h:AllBits b)(ps:List Nat):AllBits (SG b ps):=fun x d=>by
 obtain⟨p, -,rfl⟩:=Bb.1 d;exact h.at p
theorem VD(xs e:List Int)(k:Nat):AllBits (Lk xs e k):=fun x d=>by
 obtain⟨i, -,rfl⟩:=Bb.1 d;omega
def Xm (S:Setg)(xs:List Int):List Int:=Lk xs (FG S.seed.toNat S.count.toNat) xs.length
def QP (S:Setg)(z:List Int)(v:Nat):List Int:=SG (JR S z) (I9 (JR S z).length v S.count.toNat)
def Jo (S:Setg)(s:ByteArray)(v:Nat):List (Int×Int):=NK (S.order.toNat / 2) (Xm S (QP S (SA (Fh s (8*s.size))) v)) S.order.toNat (S.count.toNat / S.order.toNat)
theorem Un(n v c:Nat):(I9 n v c).length=c:=by simp[I9]
theorem Uo(S:Setg)(z:List Int)(v:Nat):(QP S z v).length=S.count.toNat:=by unfold QP;rw[Q9,Un]
theorem Ve(S:Setg)(xs:List Int):(Xm S xs).length=xs.length:=GZ _ _ _
structure SetOk(S:Setg)(bytes:Int):Prop where
 few:0<=bytes/\bytes<=40
 code:S.code=0\/S.code=1
 order:S.order=2\/S.order=4\/S.order=6
 seed:0<=S.seed/\S.seed<2147483648
 count:S.order<=S.count/\S.count<=4096/\S.count % S.order=0
 size0:S.code=0->S.size=0
 size1:S.code=1->Np S.size=true/\8*bytes+24<=S.size
theorem MT{S:Setg}{bytes:Int}(h:RE S bytes=0):SetOk S bytes:=by
 unfold RE at h
 by_cases c:(AnO S bytes && AnP S)=true
 ·rw[Ab c,BD]at*;obtain⟨c1,c2⟩:=c;unfold AnO at c1;unfold AnP at c2;obtain⟨r,t,u,A,C,D⟩:=AQ c1;obtain⟨b1,E,G,H,I⟩:=AQ c2
  by_cases d:S.code=1/\S.size<8*bytes+24
  ·grind
  ·exact⟨⟨r,t⟩,u,A,⟨C,D⟩,⟨b1,E,G⟩,H,fun e=>⟨I e,by grind⟩⟩
 ·rw[Aa c]at h;cases h
def LI (P:Program)(ops:Array Oper)(Q:Exit->Act->World->Prop):List Nat->Act->World->Prop
 | [],a,w=>Q .normal a w
 | i::is,a,w=>wpOp P ops Q i (fun a' w'=>LI P ops Q is a' w') a w
def tbS (dst:List Nat)(k:Nat)(σ:Nat->Value):List (Nat×Value):=(List.range k).map fun i=>(dst.getD i 0,σ i)
theorem AdZ(dst:List Nat)(k:Nat)(σ:Nat->Value):(tbS dst k σ).length=k:=by simp[tbS]
theorem An1(dst:List Nat)(k:Nat)(σ:Nat->Value)(hi:i<k):(tbS dst k σ).getD i (0,undef)=(dst.getD i 0,σ i):=by simp[tbS,List.getD,hi]
theorem AbA(dst:List Nat)(k:Nat)(σ:Nat->Value)(e:dst.length=k):(tbS dst k σ).map (·.1)=dst:=by
 refine AW (by simp[tbS,e]) fun i r d=>?_
 simp[tbS,List.getD,d]
theorem SY(σ:Nat->Value)(e:dst.length=k)(d:dst.Nodup)(hi:i<k):lkp l0 (tbS dst k σ) (dst.getD i 0)=σ i:=by
 have:=Ajk l0 (tbS dst k σ) (by rw[AbA _ _ _ e];exact d) i (by rw[AdZ];exact hi)
 rwa [An1 _ _ _ hi]at this
theorem La(σ:Nat->Value)(h:∀i,i<k->dst.getD i 0≠s):lkp l0 (tbS dst k σ) s=l0.getD s undef:=by grind [lkp,tbS,TW]
theorem Ox(n k u:Nat)(S:List Nat)(dst:List Nat)(reads:List (List Nat))(E:List Nat)(J:Nat->(Nat->Value)->World->Prop)(wr:World)(hm:P.follows .mixedOrders=true)(hn:ops.size=n)(a8:k<n)
 (O:dst.length=k) (V:dst.Nodup) (aw:(dst.all fun s=>decide (s<l0.length))=true)
 (am:((List.range k).all fun i=>(reads.getD i []).all fun s=>(List.range k).all fun j=>(dst.getD j 0 !=s) || Ff ops i j)=true) (ah:((List.range n).all fun i=>Gt ops i)=true)
 (ba:((List.range k).all fun i=>(reads.getD i []).all fun s=>decide (s<l0.length))=true)
 (a6:((List.range k).all fun j=>decide (j<E.getD j 0) && (decide (E.getD j 0<=k) && Ff ops (E.getD j 0) j))=true) (a3:((List.range n).all fun i=>decide (i<=k) || Ff ops i (i-1))=true)
 (aa:∀j,j<k->∀σ σ' w,(∀G,G=j\/Ff ops j G=true->σ G=σ' G)->J j σ w->J j σ' w)
 (ax:∀j σ w w',J j σ w->Kept [] w w'->J j σ w') (an:∀j σ w w',j≠u->J j σ w->Kept S w w'->J j σ w')
 (af:∀i,i<k->∀(σ:Nat->Value) (a:Act) (w:World),Kept S wr w->(i=u->Below wr.heap.size wr w)->(∀j,j<k->Ff ops i j=true->J j σ w)->(∀s∈reads.getD i [],a.eval (.tmp s)=lkp l0 (tbS dst k σ) s)->∀(Q:Exit->Act->World->Prop) (K:Act->World->Prop),(∀x w',Kept (if i=u then S else []) w w'->(∀σ':Nat->Value,(∀j,j≠i->σ' j=σ j)->σ' i=x->J i σ' w')->K (a.put (some (dst.getD i 0)) x) w')->wpOp P ops Q i K a w)
 (ad:∀(σ:Nat->Value) w,Kept S wr w->(∀j,j<k->J j σ w)->LI P ops Q (List.range' k (n-k)) {tmps:=(Ft l0 (tbS dst k σ)).toArray,defers:=[]} w):
 (Code.region id ops true).wp P Q {tmps:=l0.toArray,defers:=[]} wr:=by
 have a9:∀j,j<k->dst.getD j 0<l0.length:=fun j d=>by
  have I:j<dst.length:=by omega
  have e:dst.getD j 0=dst[j]:=by simp[List.getD,I]
  rw[e];exact AQ (AM.1 aw _ (A4 I))
 have hP:∀j,j<k->j<E.getD j 0/\E.getD j 0<=k/\Ff ops (E.getD j 0) j=true:=by grind
 have hT:∀i,i<n->k<i->Ff ops i (i-1)=true:=by grind
 have M:∀(L:Nat->Bool),(∀i j,L i=true->Ff ops i j=true->L j=true)->(∀j,Ff ops k j=true->L j=true)->∀m j,j<k->k-j<=m->L j=true:=by
  intro L ai a7 m
  induction m with
  | zero=>intro j d U;omega
  | succ m ih=>
   grind
 refine Adz n (fun L a w=>((∀j,k<=j->L j=false)/\(∀i j,L i=true->Ff ops i j=true->L j=true)/\∃σ:Nat->Value,(∀j,j<k->L j=true->J j σ w)/\a.tmps.size=l0.length/\a.defers=[]/\(Kept S wr w/\(L u=false->Below wr.heap.size wr w))/\∀s,s<l0.length->(∀i,i<k->dst.getD i 0=s->L i=true)->a.eval (.tmp s)=lkp l0 (tbS dst k σ) s)\/∃t,k<=t/\t<=n/\(∀j,j<t->L j=true)/\(∀j,t<=j->L j=false)/\LI P ops Q (List.range' t (n-t)) a w) _ wr hm hn ah ?_ ?_ ?_
 ·refine .inl ⟨fun _ _=>rfl,fun i j h=>(by cases h),fun _=>undef,fun j _ h=>(by cases h),by simp,rfl,⟨(Kept.refl _ wr).drew,fun _=>(Ad _ wr).drew⟩,fun s hs h=>?_⟩;rw[La _ (fun i hi e=>by have:=h i hi e;cases this)];simp[Act.eval,List.getD]
 ·intro L a w i hI hi aq hw
  rcases hI with⟨Y,ai,σ,Z,ag,aj,A,ab⟩ | ⟨t,a1,a2,ao,ap,H⟩
  ·rcases AS i k with T | T
   ·refine af i T σ a w A.1 (fun C=>A.2 (by rw[<-C];exact aq)) (fun j d a5=>Z j d (hw j a5)) (fun s hs=>ab s ?_ (fun j d e=>hw j ?_)) Q _ (fun x w' hg hx=> .inl ⟨fun j d=>?_,fun p j hp a0=>?_,fun j=>if j=i then x else σ j,fun j d ar=>?_,by simp[Act.put,ag],aj,⟨?_,fun au=>?_⟩,fun s hs h=>?_⟩)
    ·grind
    ·grind
    ·show(if j=i then true else L j)=false;rw[Aa (by omega)];exact Y j d
    ·show(if j=i then true else L j)=true;have ay:(if p=i then true else L p)=true:=hp
     by_cases r:j=i
     ·rw[Ab r]
     ·rw[Aa r]
      by_cases az:p=i
      ·subst az;exact hw j a0
      grind
    ·have W:(if j=i then true else L j)=true:=ar
     by_cases r:j=i
     ·subst r;exact hx _ (fun G I=>by simp[I]) (by simp)
     ·rw[Aa r]at W;have av:∀G,G=j\/Ff ops j G=true->σ G=(fun j=>if j=i then x else σ j) G:=fun G I=>by
       have ae:G≠i:=by
        grind
       simp[ae]
      have ay:=aa j d σ _ w av (Z j d W)
      by_cases C:i=u
      ·grind
      grind
    ·by_cases C:i=u
     ·rw[Ab C]at hg;exact A.1.trans hg
     ·rw[Aa C]at hg;exact A.1.trans (hg.Fn (by simp))
    ·have D:(if u=i then true else L u)=false:=au
     by_cases C:u=i
     ·rw[Ab C]at D;cases D
     ·rw[Aa C]at D;rw[Aa (fun h=>C h.symm)]at hg;have hb:=A.2 D;exact hb.trans (hg.below hb.size (by simp))
    ·by_cases e:dst.getD i 0=s
     ·subst e;rw[Act.eval_put_same a _ _ (by rw[ag];exact hs),SY _ O V T];simp
     ·rw[Act.eval_put_ne a _ _ _ e]
      have h3:=ab s hs (fun j d ej=>by
       have h3:(if j=i then true else L j)=true:=h j d ej
       by_cases r:j=i
       ·subst r;exact absurd ej e
       ·rw[Aa r]at h3;exact h3)
      rw[h3]
      by_cases ac:∃j,j<k/\dst.getD j 0=s
      ·obtain⟨j,d,rfl⟩:=ac;rw[SY _ O V d,SY _ O V d];have ae:j≠i:=fun h=>e (by rw[h])
       simp[ae]
      ·rw[La _ (fun j d ej=>ac ⟨j,d,ej⟩),La _ (fun j d ej=>ac ⟨j,d,ej⟩)]
   ·have ak:i=k:=by
     apply Nat.le_antisymm _ T
     grind
    subst ak;have X:∀j,j<i->L j=true:=fun j d=>M L ai hw _ j d (Ac _)
    have ha:a={tmps:=(Ft l0 (tbS dst i σ)).toArray,defers:=[]}:=Afg a _ (by rw[Jh];exact ag) aj (fun s hs=>by
     rw[Jh]at hs
     rw[UK _ l0 s (by rw[AbA _ _ _ O];exact V) (fun q hq=>by
      unfold tbS at hq
      grind)]
     exact ab s hs (fun j d _=>X j d))
    have h1:=ad σ w A.1 (fun j d=>Z j d (X j d));obtain⟨m,U⟩:∃m,n-i=m+1:=⟨n-i-1,by omega⟩;rw[U,Ev,LI,<-ha]at h1;refine wpOp_mono (fun a' w' h=> .inr ⟨i+1,by omega,by omega,fun j d=>?_,fun j d=>?_,?_⟩) h1
    ·show(if j=i then true else L j)=true
     by_cases r:j=i
     ·rw[Ab r]
     grind
    ·show(if j=i then true else L j)=false;rw[Aa (by omega)];exact Y j (by omega)
    ·rw[show n-(i+1)=m by omega];exact h
  ·have bb:t<=i:=by
    grind
   have al:i=t:=by
    grind
   subst al;obtain⟨m,U⟩:∃m,n-i=m+1:=⟨n-i-1,by omega⟩;rw[U,Ev,LI]at H;refine wpOp_mono (fun a' w' h=> .inr ⟨i+1,by omega,by omega,fun j d=>?_,fun j d=>?_,?_⟩) H
   ·grind
   ·grind
   ·rw[show n-(i+1)=m by omega];exact h
 ·rintro L a w hL (⟨Y,_⟩ | ⟨t,a1,a2,ao,ap,H⟩)
  ·grind
  ·have a4:t=n:=by
    grind
   subst a4;rw[Bm]at H;exact H
theorem Ut(n k:Nat)(dst:List Nat)(reads:List (List Nat))(t:List Nat)(u:Nat->(Nat->Value)->World->Prop)(wr:World)(V:P.follows .mixedOrders=true)(W:ops.size=n)(M:k<n)
 (J:dst.length=k) (O:dst.Nodup) (I:(dst.all fun s=>decide (s<l0.length))=true)
 (r:((List.range k).all fun i=>(reads.getD i []).all fun s=>(List.range k).all fun j=>(dst.getD j 0 !=s) || Ff ops i j)=true) (G:((List.range n).all fun i=>Gt ops i)=true)
 (S:((List.range k).all fun i=>(reads.getD i []).all fun s=>decide (s<l0.length))=true)
 (H:((List.range k).all fun j=>decide (j<t.getD j 0) && (decide (t.getD j 0<=k) && Ff ops (t.getD j 0) j))=true) (E:((List.range n).all fun i=>decide (i<=k) || Ff ops i (i-1))=true)
 (A:∀j,j<k->∀σ σ' w,(∀j',j'=j\/Ff ops j j'=true->σ j'=σ' j')->u j σ w->u j σ' w)
 (e:∀j σ w w',u j σ w->w.grownBy w' none->u j σ w')
 (D:∀i,i<k->∀(σ:Nat->Value) (a:Act) (w:World),Below wr.heap.size wr w->(∀j,j<k->Ff ops i j=true->u j σ w)->(∀s∈reads.getD i [],a.eval (.tmp s)=lkp l0 (tbS dst k σ) s)->∀(Q:Exit->Act->World->Prop) (K:Act->World->Prop),(∀x w',w.grownBy w' none->(∀σ':Nat->Value,(∀j,j≠i->σ' j=σ j)->σ' i=x->u i σ' w')->K (a.put (some (dst.getD i 0)) x) w')->wpOp P ops Q i K a w)
 (C:∀(σ:Nat->Value) w,Below wr.heap.size wr w->(∀j,j<k->u j σ w)->LI P ops Q (List.range' k (n-k)) {tmps:=(Ft l0 (tbS dst k σ)).toArray,defers:=[]} w):
 (Code.region id ops true).wp P Q {tmps:=l0.toArray,defers:=[]} wr:=by
 have gk:∀{a b:World},Kept [] a b->a.grownBy b none:=fun h=>⟨h.os,h.tape,h.output,h.size,fun k d _=>h.block k d (by simp)⟩
 have Z:∀{a b:World},a.grownBy b none->Kept [] a b:=fun h=>⟨h.os,h.tape,h.output,h.size,fun k d _=>h.block k d (by simp)⟩
 have T:∀{a b:World},Kept [] a b->Below a.heap.size a b:=fun h=>h.below (Ac _) (by simp)
 exact Ox n k k [] dst reads t u wr V W M J O I r G S H E A (fun j σ w w' h d=>e j σ w w' h (gk d)) (fun j σ w w' _ h d=>e j σ w w' h (gk d)) (fun i hi σ a w d _ X Y Q K U=>D i hi σ a w (T d) X Y Q K (fun x w' hg=>U x w' (by split<;>exact Z hg))) (fun σ w d=>C σ w (T d))
theorem WJ(d:tb.length=k)(h:∀j,j<k->σ j=(tb.getD j (0,undef)).2):tbS (tb.map (·.1)) k σ=tb:=by
 unfold tbS;refine AW (by simp[d]) fun i e r=>?_
 grind
theorem QE(tb:List (Nat×Value))(j:Nat):(tb.map (·.1)).getD j 0=(tb.getD j (0,undef)).1:=by
 grind
theorem We(t:tb.length=k)(u:(tb.map (·.1)).Nodup)(h:∀j,j<k->(tb.map (·.1)).getD j 0=s->σ j=(tb.getD j (0,undef)).2):lkp l0 (tbS (tb.map (·.1)) k σ) s=lkp l0 tb s:=by
 by_cases d:∃j,j<k/\(tb.map (·.1)).getD j 0=s
 ·grind [SY,QE,Ajk]
 ·rw[La σ (fun j r e=>d ⟨j,r,e⟩)];refine(TW tb s fun q A e=>?_).symm;obtain⟨j,r,rfl⟩:=A5 A
  grind
theorem UY{reads:List (List Nat)}(d:((List.range k).all fun i=>(reads.getD i []).all fun s=>(List.range k).all fun j=>(dst.getD j 0 !=s) || Ff ops i j)=true)(hi:i<k)(t:s∈reads.getD i [])(r:j<k)(e:dst.getD j 0=s):Ff ops i j=true:=by
 grind
theorem AlI(e:Nat)(d:List (Nat×Value))(x x':Value):∀(pre:List (Nat×Value)) (s:Nat),s≠e->lkp l0 (pre++(e,x)::d) s=lkp l0 (pre++(e,x')::d) s:=by intro a;induction a<;>grind [lkp,W6]
theorem ZC{α:Type}(l:List α)(d:α)(h:i<l.length):l.getD i d=l[i]:=by simp[List.getD,h]
theorem G4(l:List Value)(s:Nat)(v:Value):({tmps:=l.toArray,defers:=[]}:Act).put (some s) v={tmps:=(l.set s v).toArray,defers:=[]}:=by
 simp[Act.put]
theorem QS(n k u:Nat)(pre:List (Nat×Value))(r:Nat)(d:List (Nat×Value))(reads:List (List Nat))(C:List Nat)(U:Value->World->Prop)(wr:World)(hm:P.follows .mixedOrders=true)(hn:ops.size=n)(aa:k<n)
 (hu:pre.length=u) (ad:pre.length+1+d.length=k) (T:((pre++(r,undef)::d).map (·.1)).Nodup) (Z:((pre++(r,undef)::d).all fun q=>decide (q.1<l0.length))=true)
 (A:((List.range k).all fun i=>(reads.getD i []).all fun s=>(List.range k).all fun j=>(((pre++(r,undef)::d).getD j (0,undef)).1 !=s) || Ff ops i j)=true) (I:((List.range n).all fun i=>Gt ops i)=true)
 (ab:((List.range k).all fun i=>(reads.getD i []).all fun s=>decide (s<l0.length))=true)
 (V:((List.range k).all fun j=>decide (j<C.getD j 0) && (decide (C.getD j 0<=k) && Ff ops (C.getD j 0) j))=true) (H:((List.range n).all fun i=>decide (i<=k) || Ff ops i (i-1))=true)
 (hU:∀x w w',U x w->w.grownBy w' none->U x w')
 (G:∀i,i<k->∀(x:Value) (a:Act) (w:World),Below wr.heap.size wr w->(r∈reads.getD i []->U x w)->(∀s∈reads.getD i [],a.eval (.tmp s)=lkp l0 (pre++(r,x)::d) s)->∀(Q:Exit->Act->World->Prop) (K:Act->World->Prop),(i=u->∀x' w',w.grownBy w' none->U x' w'->K (a.put (some r) x') w')->(i≠u->∀w',w.grownBy w' none->K (a.put (some ((pre++(r,undef)::d).getD i (0,undef)).1) ((pre++(r,undef)::d).getD i (0,undef)).2) w')->wpOp P ops Q i K a w)
 (E:∀x w,Below wr.heap.size wr w->U x w->LI P ops Q (List.range' k (n-k)) {tmps:=(Ft l0 (pre++(r,x)::d)).toArray,defers:=[]} w):
 (Code.region id ops true).wp P Q {tmps:=l0.toArray,defers:=[]} wr:=by
 subst hu;have key:∀x:Value,(pre++(r,x)::d).map (·.1)=(pre++(r,undef)::d).map (·.1):=fun x=>by simp
 have t:∀x:Value,(pre++(r,x)::d).length=k:=fun x=>by simp;omega
 have S:∀x:Value,(pre++(r,x)::d).getD pre.length (0,undef)=(r,x):=fun x=>by simp[List.getD]
 have ac:∀(x:Value) (j:Nat),j≠pre.length->(pre++(r,x)::d).getD j (0,undef)=(pre++(r,undef)::d).getD j (0,undef):=fun x j M=>by
  simp only[List.getD]
  grind
 have J:((List.range k).all fun i=>(reads.getD i []).all fun s=>(List.range k).all fun j=>(((pre++(r,undef)::d).map (·.1)).getD j 0 !=s) || Ff ops i j)=true:=by
  simp only[QE];exact A
 have D:∀(σ:Nat->Value) (w:World) (j:Nat),(if j=pre.length then U (σ j) w else σ j=((pre++(r,undef)::d).getD j (0,undef)).2)->σ j=((pre++(r,σ pre.length)::d).getD j (0,undef)).2:=by grind
 have O:=QE (pre++(r,undef)::d);refine Ut n k ((pre++(r,undef)::d).map (·.1)) reads C (fun j σ w=>if j=pre.length then U (σ j) w else σ j=((pre++(r,undef)::d).getD j (0,undef)).2) wr hm hn aa (by rw[Bo];exact t undef) T (by simpa [List.all_map]using Z) J I ab V H (fun j _ σ σ' w he h=>by rw[<-he j (.inl rfl)];exact h) (fun j σ w w' h hg=>?_) (fun i hi σ a w Y W hr Q K hK=>?_) (fun σ w Y W=>?_)
 ·grind
 ·refine G i hi (σ pre.length) a w Y (fun hs=>?_) (fun s hs=>?_) Q K (fun e x' w' hg hu=>?_) (fun e w' hg=>?_)
  ·grind
  ·rw[hr s hs,<-key (σ pre.length)];exact We (t _) (by rw[key];exact T) fun j M e=>D σ w j (W j M (UY J hi hs M (by rw[<-key (σ pre.length)];exact e)))
  ·have:=hK x' w' hg (fun σ' _ X=>by rw[Ab e,X];exact hu)
   rwa [O,e,S]at this
  ·have:=hK _ w' hg (fun σ' _ X=>by rw[Aa e];exact X)
   rwa [O]at this
 ·rw[<-key (σ pre.length),WJ (t _) (fun j M=>D σ w j (W j M))];have:=W pre.length (by omega);rw[Ab rfl]at this;exact E _ w Y this
theorem Ow(n k u:Nat)(pre:List (Nat×Value))(t:Nat)(d:List (Nat×Value))(reads:List (List Nat))(r:List Nat)(U:Value->World->Prop)(wr:World)(V:P.follows .mixedOrders=true)(W:ops.size=n)(J:k<n)
 (Y:pre.length=u) (I:pre.length+1+d.length=k) (M:((pre++(t,undef)::d).map (·.1)).Nodup) (H:((pre++(t,undef)::d).all fun q=>decide (q.1<l0.length))=true)
 (e:((List.range k).all fun i=>(reads.getD i []).all fun s=>(List.range k).all fun j=>(((pre++(t,undef)::d).getD j (0,undef)).1 !=s) || Ff ops i j)=true) (E:((List.range n).all fun i=>Gt ops i)=true)
 (O:((List.range k).all fun i=>(reads.getD i []).all fun s=>decide (s<l0.length))=true)
 (G:((List.range k).all fun j=>decide (j<r.getD j 0) && (decide (r.getD j 0<=k) && Ff ops (r.getD j 0) j))=true) (D:((List.range n).all fun i=>decide (i<=k) || Ff ops i (i-1))=true)
 (S:∀x w w',U x w->w.grownBy w' none->U x w')
 (C:∀i,i<k->∀(x:Value) (a:Act) (w:World),Below wr.heap.size wr w->(∀s∈reads.getD i [],a.eval (.tmp s)=lkp l0 (pre++(t,x)::d) s)->∀(Q:Exit->Act->World->Prop) (K:Act->World->Prop),(i=u->∀x' w',w.grownBy w' none->U x' w'->K (a.put (some t) x') w')->(i≠u->∀w',w.grownBy w' none->K (a.put (some ((pre++(t,undef)::d).getD i (0,undef)).1) ((pre++(t,undef)::d).getD i (0,undef)).2) w')->wpOp P ops Q i K a w)
 (A:∀x w,Below wr.heap.size wr w->U x w->LI P ops Q (List.range' k (n-k)) {tmps:=(Ft l0 (pre++(t,x)::d)).toArray,defers:=[]} w):
 (Code.region id ops true).wp P Q {tmps:=l0.toArray,defers:=[]} wr:=
 QS n k u pre t d reads r U wr V W J Y I M H e E O G D S (fun i hi x a w T _ X=>C i hi x a w T X) A
theorem Fj{t:List (Nat×Value)}(s:Nat)(e:(t.map (·.1)).Nodup)(d:(t.all fun q=>decide (q.1<l0.length))=true):({tmps:=(Ft l0 t).toArray,defers:=[]}:Act).eval (.tmp s)=lkp l0 t s:=by
 rw[<-UK t l0 s e (fun q r=>AQ (AM.1 d q r))];simp[Act.eval,List.getD]
theorem WS(hg:o.guard=some (j,want))(r:ops[j]?=some oj)(hd:oj.dst=some s)(t:a.eval (.tmp s)=.bool want):Region.wanted o (yielded ops a.tmps)=true:=by
 have d:a.tmps.getD s undef=.bool want:=t;have e:a.tmps[s]?=some (.bool want):=by
  by_cases h:s<a.tmps.size
  ·simp[Array.getD,h]at d;simp[h,d]
  ·simp[Array.getD,h]at d
   cases d
 unfold Region.wanted yielded;simp[hg,r,hd,e]
theorem O1(hi:ops[i]?=some o)(hg:o.guard=some (j,want))(r:ops[j]?=some oj)(hd:oj.dst=some s)(t:a.eval (.tmp s)=.bool want)
 (d:(execOp a.eval o).run P w=.ok (.value v) w') (e:K (a.put o.dst v) w'):wpOp P ops Q i K a w:=by
 unfold wpOp;rw[hi];have u:=WS hg r hd t;simp only[u,AP,Oper.wp]
 left;rw[d];exact e
theorem IH(hi:ops[i]?=some o)(hg:o.guard=some (j,want))(t:ops[j]?=some oj)(hd:oj.dst=some s)(u:a.eval (.tmp s)=.bool (!want))
 (r:K (a.put o.dst undef) w):wpOp P ops Q i K a w:=by
 have d:a.tmps.getD s undef=.bool (!want):=u;have e:a.tmps[s]?=some (.bool (!want)):=by
  by_cases h:s<a.tmps.size
  ·simp[Array.getD,h]at d;simp[h,d]
  ·simp[Array.getD,h]at d
   cases d
 unfold wpOp;rw[hi];have A:Region.wanted o (yielded ops a.tmps)=false:=by
  unfold Region.wanted yielded;simp[hg,t,hd,e]
 simp only[A];exact r
theorem Aa6(w:World)(e:o.op=.binOp .eql 3 x y 3)(h:ρ x=int i64 p)(d:ρ y=int i64 q):(execOp ρ o).run prog w=.ok (.value (.bool (p==q))) w:=by
 unfold execOp;simp only[e,h,d];simp[go_sem]
theorem Aj6(w:World)(e:o.op=.binOp .gtr 3 x y 3)(h:ρ x=int i64 p)(d:ρ y=int i64 q):(execOp ρ o).run prog w=.ok (.value (.bool (decide (q<p)))) w:=by
 unfold execOp;simp only[e,h,d];simp[go_sem]
theorem RC(w:World){z:Operand}{g:Bool}(d:o.op=.pick x y z)(h:ρ x=.bool g)(e:(if g then ρ y else ρ z)=v):(execOp ρ o).run P w=.ok (.value v) w:=by
 unfold execOp;subst e
 cases g
 ·simp only[d,h];simp[go_sem]
 ·simp only[d,h];simp[go_sem]
theorem Nr(k:Nat)(s0:Nat)(v0:Value)(d:List (Nat×Value))(reads:List (List Nat))(r:List Nat)(wr:World)(J:P.follows .mixedOrders=true)(M:ops.size=k+1)
 (D:0+1+d.length=k) (E:(((s0,v0)::d).map (·.1)).Nodup) (C:(((s0,v0)::d).all fun q=>decide (q.1<l0.length))=true)
 (e:((List.range k).all fun i=>(reads.getD i []).all fun s=>(List.range k).all fun j=>((((s0,undef)::d).getD j (0,undef)).1 !=s) || Ff ops i j)=true) (u:((List.range (k+1)).all fun i=>Gt ops i)=true)
 (G:((List.range k).all fun i=>(reads.getD i []).all fun s=>decide (s<l0.length))=true)
 (A:((List.range k).all fun j=>decide (j<r.getD j 0) && (decide (r.getD j 0<=k) && Ff ops (r.getD j 0) j))=true)
 (H:∀i,i<k->∀(a:Act) (w:World),Below wr.heap.size wr w->(∀s∈reads.getD i [],a.eval (.tmp s)=lkp l0 ((s0,v0)::d) s)->∀(Q:Exit->Act->World->Prop) (K:Act->World->Prop),(∀w',w.grownBy w' none->K (a.put (some (((s0,v0)::d).getD i (0,undef)).1) (((s0,v0)::d).getD i (0,undef)).2) w')->wpOp P ops Q i K a w)
 (t:∀w,Below wr.heap.size wr w->LI P ops Q [k] {tmps:=(Ft l0 ((s0,v0)::d)).toArray,defers:=[]} w):
 (Code.region id ops true).wp P Q {tmps:=l0.toArray,defers:=[]} wr:=by
 refine QS (k+1) k 0 [] s0 d reads r (fun x _=>x=v0) wr J M (by omega) rfl D E C e u G A ?_ (fun _ _ _ h _=>h) ?_ ?_
 ·grind
 ·grind [AlI]
 ·intro x w I O;subst O;rw[show k+1-k=1 by omega];exact t w I
theorem Fb(w:World):w.grownBy w none:=⟨rfl,rfl,rfl,Ac _,fun _ _ _=>rfl⟩
theorem AjC{f:Nat}(hi:ops[i]?=some o)(hg:o.guard=some (j,want))(C:ops[j]?=some oj)(hd:oj.dst=some s)(D:a.eval (.tmp s)=.bool want)(u:o.op=.call {callee:=.value (.func f),args:=xs,argTypes:=ts})
 (he:Enters prog f) (hx:xs.map a.eval=us) (hc:Calls prog f us w R) (hR:∀e w',R e w'->∃r,e=.returned r/\K (a.put o.dst r) w'):wpOp prog ops Q i K a w:=by
 unfold wpOp;rw[hi];have E:=WS hg C hd D;simp only[E,AP,Oper.wp]
 left;have d:(execOp a.eval o).run prog w=.ok (.enter f us) w:=by
  unfold execOp;simp only[u];have:=he us w;have t:a.eval (.func f)=.func (.func f) #[] #[]:=rfl;simp[resolve,invoke,hx,t,Deferred.ofValue,this]
 rw[d,DV];refine hc.mono fun e w' h=>?_
 obtain⟨r,rfl,A⟩:=hR e w' h;exact A
theorem FM{f:Nat}(hi:ops[i]?=some o)(hg:o.guard=none)(u:o.op=.call {callee:=.value (.func f),args:=xs,argTypes:=ts})
 (he:Enters prog f) (hx:xs.map a.eval=us) (hc:Calls prog f us w R) (hR:∀e w',R e w'->∃r,e=.returned r/\K (a.put o.dst r) w'):wpOp prog ops Q i K a w:=by
 unfold wpOp;rw[hi];have C:Region.wanted o (yielded ops a.tmps)=true:=by simp[Region.wanted,hg]
 simp only[C,AP,Oper.wp]
 left;have d:(execOp a.eval o).run prog w=.ok (.enter f us) w:=by
  unfold execOp;simp only[u];have:=he us w;have t:a.eval (.func f)=.func (.func f) #[] #[]:=rfl;simp[resolve,invoke,hx,t,Deferred.ofValue,this]
 rw[d,DV];refine hc.mono fun e w' h=>?_
 obtain⟨r,rfl,A⟩:=hR e w' h;exact A
theorem G5(w:World)(d:o.op=.assign x)(h:ρ x=v):(execOp ρ o).run P w=.ok (.value v) w:=by
 unfold execOp;simp only[d,h];simp[go_sem]
theorem Ie(w:World){a:Addr}(d:o.op=.nilCheck x)(h:ρ x=pointer (some a)):(execOp ρ o).run P w=.ok (.value (pointer (some a))) w:=by
 unfold execOp;simp only[d,h];simp[go_sem]
theorem Oj{p q:Value}(d:f x=p)(e:f y=q):(#[x,y]:Array Operand).map f=#[p,q]:=by simp[d,e]
theorem Z5{z:Operand}{p q r:Value}(d:f x=p)(e:f y=q)(t:f z=r):(#[x,y,z]:Array Operand).map f=#[p,q,r]:=by simp[d,e,t]
def AbT (Rs:List (Value->World->Prop))(j:Nat):Value->World->Prop:=Rs.getD j fun _ _=>True
def MB (R:Value->World->Prop):Prop:=∀x w w',R x w->w.grownBy w' none->R x w'
theorem Ahk{d:List (Value->World->Prop)}(h:∀R∈d,MB R)(j:Nat)(x:Value)(w w':World)(t:AbT d j x w)(hg:w.grownBy w' none):AbT d j x w':=by
 unfold AbT at*
 by_cases r:j<d.length
 ·have e:d.getD j (fun _ _=>True)=d[j]:=by simp[List.getD,r]
  rw[e]at t |-;exact h _ (A4 r) x w w' t hg
 grind
theorem GJ(h:w.grownBy w' none):Below w.heap.size w w':=⟨h.os,h.tape,h.output,h.size,fun k d=>h.block k d (fun e=>by cases e)⟩
theorem II(n k:Nat)(dst:List Nat)(reads:List (List Nat))(r:List Nat)(E:List (Value->World->Prop))(wr:World)(U:P.follows .mixedOrders=true)(V:ops.size=n)(J:k<n)
 (I:dst.length=k) (M:dst.Nodup) (H:(dst.all fun s=>decide (s<l0.length))=true)
 (d:((List.range k).all fun i=>(reads.getD i []).all fun s=>(List.range k).all fun j=>(dst.getD j 0 !=s) || Ff ops i j)=true) (D:((List.range n).all fun i=>Gt ops i)=true)
 (O:((List.range k).all fun i=>(reads.getD i []).all fun s=>decide (s<l0.length))=true)
 (G:((List.range k).all fun j=>decide (j<r.getD j 0) && (decide (r.getD j 0<=k) && Ff ops (r.getD j 0) j))=true) (C:((List.range n).all fun i=>decide (i<=k) || Ff ops i (i-1))=true)
 (u:∀R∈E,MB R)
 (A:∀i,i<k->∀(σ:Nat->Value) (a:Act) (w:World),Below wr.heap.size wr w->(∀j,j<k->Ff ops i j=true->AbT E j (σ j) w)->(∀s∈reads.getD i [],a.eval (.tmp s)=lkp l0 (tbS dst k σ) s)->∀(Q:Exit->Act->World->Prop) (K:Act->World->Prop),(∀x w',w.grownBy w' none->AbT E i x w'->K (a.put (some (dst.getD i 0)) x) w')->wpOp P ops Q i K a w)
 (t:∀(σ:Nat->Value) w,Below wr.heap.size wr w->(∀j,j<k->AbT E j (σ j) w)->LI P ops Q (List.range' k (n-k)) {tmps:=(Ft l0 (tbS dst k σ)).toArray,defers:=[]} w):
 (Code.region id ops true).wp P Q {tmps:=l0.toArray,defers:=[]} wr:=
 Ut n k dst reads r (fun j σ w=>AbT E j (σ j) w) wr U V J I M H d D O G C
  (fun j _ σ Y w Z h=>by grind) (fun j σ w w' h hg=>Ahk u j (σ j) w w' h hg)
  (fun i hi σ a w T W X Q K S=>A i hi σ a w T W X Q K (fun x w' hg hx=>S x w' hg (fun Y _ e=>by grind))) t
def eqR (v:Value):Value->World->Prop:=fun x _=>x=v
theorem Lp(v:Value):MB (eqR v):=fun _ _ _ h _=>h
theorem G6(w:World){d:Array Value}(e:o.op=.extract x i)(h:ρ x=.tuple d)(r:d[i]?=some v):(execOp ρ o).run P w=.ok (.value v) w:=by
 unfold execOp;simp only[e,h];simp[go_sem,r]
theorem AeS{p:Value}(d:f x=p):(#[x]:Array Operand).map f=#[p]:=by simp[d]
theorem Qz(w:World)(o:Obj):w.grownBy (w.alloc o) none:=⟨rfl,rfl,rfl,by simp,fun k d _=>Bc _ _ _ d⟩
theorem Aak(hi:ops[i]?=some o)(hg:o.guard=none)
 (d:(execOp a.eval o).run P w=.ok .skip w') (e:K (a.put o.dst undef) w'):wpOp P ops Q i K a w:=by
 unfold wpOp;rw[hi];have r:Region.wanted o (yielded ops a.tmps)=true:=by simp[Region.wanted,hg]
 simp only[r,AP,Oper.wp]
 left;rw[d];exact e
theorem UA(w:World)(d:o.op=.fieldAddr 286 x 0)(h:ρ x=pointer (some ⟨g,s,none⟩)):(execOp ρ o).run prog w=.ok (.value (pointer (some ⟨g,s,none⟩))) w:=by
 unfold execOp;simp only[d,h];simp[go_sem]
theorem Aba(w:World)(d:o.op=.fieldAddr 286 x 1)(h:ρ x=pointer (some ⟨g,s,none⟩)):(execOp ρ o).run prog w=.ok (.value (pointer (some ⟨g,s+1,none⟩))) w:=by
 unfold execOp;simp only[d,h];simp[go_sem]
theorem Abb(w:World)(d:o.op=.fieldAddr 286 x 2)(h:ρ x=pointer (some ⟨g,s,none⟩)):(execOp ρ o).run prog w=.ok (.value (pointer (some ⟨g,s+2,none⟩))) w:=by
 unfold execOp;simp only[d,h];simp[go_sem]
theorem OA(w:World)(d:o.op=.fieldAddr 286 x 3)(h:ρ x=pointer (some ⟨g,s,none⟩)):(execOp ρ o).run prog w=.ok (.value (pointer (some ⟨g,s+3,none⟩))) w:=by
 unfold execOp;simp only[d,h];simp[go_sem]
theorem Abc(w:World)(d:o.op=.fieldAddr 286 x 4)(h:ρ x=pointer (some ⟨g,s,none⟩)):(execOp ρ o).run prog w=.ok (.value (pointer (some ⟨g,s+4,none⟩))) w:=by
 unfold execOp;simp only[d,h];simp[go_sem]
theorem WI(h:i<L.length){x:Int}(d:x=L.getD i 0):L.take i++[x]=L.take (i+1):=by
 rw[Bu h,d];simp[List.getD,h]
def Within(l:List Int)(K:Nat):Prop:=∀j, -(K:Int)<=l.getD j 0/\l.getD j 0<=K
theorem Aok{K:Nat}{a b:Int}(d: -(K:Int)<=a/\a<=K)(e: -(K:Int)<=b/\b<=K): -(K:Int)<=fI a b/\fI a b<=K:=by
 unfold fI WY
 split<;>split<;>split<;>omega
theorem Aou{K:Nat}{x a b:Int}(d: -(K:Int)<=a/\a<=K)(e: -(K:Int)<=b/\b<=K): -((2*K:Nat):Int)<=gI x a b/\gI x a b<=(2*K:Nat):=by
 unfold gI
 split<;>omega
theorem VW{a:List Int}(d:a.length=h)(e:b.length=h):(fL a b).length=h:=by simp[fL,d,e]
theorem AmL{a:List Int}(d:a.length=h)(e:b.length=h)(r:j<h):(fL a b).getD j 0=fI (a.getD j 0) (b.getD j 0):=by
 simp[fL,List.getD,d,e,r]
theorem Rm:∀{x a b:List Int} {h:Nat},x.length=h->a.length=h->b.length=h->(gL x a b).length=h
 | [],[],[],_,h,_,_=>h
 | [],_::_,_,_,h1,h2,_=>by subst h1;simp at h2
 | [],[],_::_,_,h1,_,h2=>by subst h1;simp at h2
 | _::_,[],_,_,h1,h2,_=>by subst h1;simp at h2
 | _::_,_::_,[],_,h1,_,h2=>by subst h1;simp at h2
 | x::xs,a::al,b::bl,h,h1,h2,h3=>by
  subst h1;have:=Rm (x:=xs) (a:=al) (b:=bl) (h:=xs.length) rfl (by simpa using h2) (by simpa using h3);simp[gL,this]
theorem AiT:∀{x a b:List Int} {h:Nat},x.length=h->a.length=h->b.length=h->∀{j:Nat},j<h->(gL x a b).getD j 0=gI (x.getD j 0) (a.getD j 0) (b.getD j 0)
 | [],_,_,_,h1,_,_,j,hj=>by subst h1;simp at hj
 | _::_,[],_,_,h1,h2,_,_,_=>by subst h1;simp at h2
 | _::_,_::_,[],_,h1,_,h2,_,_=>by subst h1;simp at h2
 | x::xs,a::al,b::bl,h,h1,h2,h3,0,_=>by simp[gL]
 | x::xs,a::al,b::bl,h,h1,h2,h3,j+1,hj=>by
  subst h1;have:=AiT (x:=xs) (a:=al) (b:=bl) (h:=xs.length) rfl (by simpa using h2) (by simpa using h3) (j:=j) (by simpa using hj)
  simpa [gL]using this
theorem ZD(h:l.length<=j):l.getD j 0=0:=by simp[List.getD,h]
theorem AkV{a:List Int}{K:Nat}(e:a.length=h)(r:b.length=h)(t:Within a K)(u:Within b K):Within (fL a b) K:=fun j=>by
 rcases AS j h with d | d
 ·rw[AmL e r d];exact Aok (t j) (u j)
 ·rw[ZD (by rw[VW e r];exact d)];omega
theorem AkW{x a:List Int}{K:Nat}(t:x.length=h)(e:a.length=h)(r:b.length=h)(u:Within a K)(A:Within b K):Within (gL x a b) (2*K):=fun j=>by
 rcases AS j h with d | d
 ·rw[AiT t e r d];exact Aou (u j) (A j)
 ·rw[ZD (by rw[Rm t e r];exact d)];omega
theorem V5(d:j<h):(l.take h).getD j 0=l.getD j 0:=by simp[List.getD,d]
theorem Ro:(l.drop h).getD j 0=l.getD (h+j) 0:=by simp[List.getD]
theorem Within.take{K:Nat}(h:Within l K)(n:Nat):Within (l.take n) K:=by simp_all[Within];grind
theorem Within.drop{K:Nat}(h:Within l K)(n:Nat):Within (l.drop n) K:=fun j=>by
 rw[Ro];exact h _
theorem Own.slice(h:Own w B v L)(r:L.length=k):∃a c,v=.slice a k c/\k<=c/\c<=maxLen/\Rd .u8 w a L/\(∀g o,a=some ⟨g,o,none⟩->B<=g):=by
 obtain⟨a,c,rfl, -,d,e⟩:=h.FC;subst r;refine⟨a,c,rfl,d,e,h.rd,?_⟩;rintro g o rfl;exact Lz h g rfl
def Pq (n k:Nat):List Bool:=(List.range n).map (QB n k)
def GV (s xs:List Int)(v:Int):List Int:=Od s (I9 s.length v.toNat xs.length) xs xs.length
def OD (xs:List Int)(v:Int):Bool:=Fy xs && decide (xs.length<=4096) && LO v
def Iw (s xs:List Int)(v:Int):Int:=if OD xs v then (if Fy (GV s xs v) then 0 else 2) else 1
def Qk (s xs:List Int)(v:Int):List Int:=if OD xs v && Fy (GV s xs v) then GV s xs v else s
def AiC:Array Value:=#[int i64 0,int i64 4,int i64 2,int i64 6,int i64 1,int i64 5,int i64 3,int i64 7]
def Col (w:World):Prop:=∃T fr,w.heap[10]?=some (.cells AiC T fr)
theorem Col.lt(h:Col w):10<w.heap.size:=by grind [Col]
theorem Col.below(h:Col w)(r:Below B w w')(d:10<B):Col w':=by
 obtain⟨T,fr,e⟩:=h;exact⟨T,fr,(r.block _ d).trans e⟩
theorem Col.later(h:Col w)(d:Below w.heap.size w w'):Col w':=h.below d h.lt
theorem QK(s xs:List Int)(v:Int):(GV s xs v).length=s.length:=Pj _ _ _ _
theorem OwnI.AmG(h:OwnI w B (.slice (some ⟨g,0,none⟩) N c) L)(hi:i<L.length):w.cell? ⟨g,i,none⟩=some (int i64 (L.getD i 0)):=by
 obtain⟨b,d,e,r⟩:=h.rd.at hi
 grind
theorem OwnI.free(h:OwnI w B (.slice (some ⟨g,0,none⟩) N c) L)(i:Nat):w.frozen? ⟨g,i,none⟩=false:=by
 have e:=h.len;unfold OwnI at h;rw[e]at h;exact h.frozenAt i
theorem OwnI.set(h:OwnI w B (.slice (some ⟨g,0,none⟩) N c) L)(i:Nat)(x:Int):OwnI (w.setCell ⟨g,i,none⟩ (int i64 x)) B (.slice (some ⟨g,0,none⟩) N c) (L.set i x):=by
 have e:=h.len;unfold OwnI at h |-;rw[An,e,Di];rw[e]at h;exact(h.stored i _).1
theorem OwnI.Ako(h:OwnI w B v L)(A:L.length=m)(C:1<=m):∃g c,v=.slice (some ⟨g,0,none⟩) m c/\m<=c/\c<=maxLen:=by
 rcases h.2 with⟨_,r⟩ | ⟨g,d,cur,e,_,_,t,u,_⟩
 ·omega
 grind
theorem Kept.AmH{S:List Nat}(h:Kept S w w'){p:Addr}(d:w.cell? p=some v)(e:p.block∉S):w'.cell? p=some v:=by
 have:=h.block p.block (Aj w _ d) e;rw[<-d];simp only[World.cell?,this]
theorem AgW{v:Nat}(h:j<c):(I9 n v c).getD j 0=Gi n v j:=by simp[I9,List.getD,h]
theorem Own.AnS(h:Own w B v L)(A:L.length=m)(C:1<=m):∃g c,v=.slice (some ⟨g,0,none⟩) m c/\m<=c/\c<=maxLen:=by
 rcases h.2 with⟨_,r⟩ | ⟨g,d,cur,e,_,_,t,u,_⟩
 ·omega
 grind
theorem OwnP.AoI{d:Nat}(h:OwnP w B v ps)(e:d<=B):OwnP w d v ps:=OwnT.mono (T:=335) h e
theorem Lc(w:World){S:Setg}(e:o.op=.load 286 x)(h:ρ x=pointer (some ⟨g,s,none⟩))(t:w.cell? ⟨g,s,none⟩=some (int i64 S.code))(u:w.cell? ⟨g,s+1,none⟩=some (int i64 S.size))(A:w.cell? ⟨g,s+2,none⟩=some (int i64 S.order))(C:w.cell? ⟨g,s+3,none⟩=some (int i64 S.seed))(D:w.cell? ⟨g,s+4,none⟩=some (int i64 S.count)):(execOp ρ o).run prog w=.ok (.value S.val) w:=by
 unfold execOp;have d:w.rangeAt g s [int i64 S.code,int i64 S.size,int i64 S.order,int i64 S.seed,int i64 S.count]:=by
  intro j z E
  grind
 have r:=run_loadVar_mid w g s 286 _ _ d underlying286 rfl (by kernel_rfl);simp only[e,h,Instr.loadAt,Instr.sureAddr,BN,Cv,B7,r];rfl
theorem ArrAt.rdL{k:IntKind}{T:TypeId}(h:ArrAt k T w g L):Rd k w (some ⟨g,0,none⟩) L:=fun _=>⟨g,0,rfl,fun j d=>by rw[Ao];exact h.cell d⟩
def Kc (h order:Nat)(p:Int×Int)(k:Nat)(x:Int):Nat->Int
 | 0=> -1
 | j+1=>if ((FI order).getD j []).getD k 0=x/\(Kc h order p k x j<0\/Oa p (ptM h ((FI order).getD j []))<Kc h order p k x j) then Oa p (ptM h ((FI order).getD j [])) else Kc h order p k x j
def ML (h order:Nat)(p:Int×Int)(k:Nat):Int:=Kc h order p k 1 (2 ^ order)-Kc h order p k 0 (2 ^ order)
def Md (h order:Nat)(p:Int×Int)(k:Nat):List Int:=(List.range k).map (ML h order p)
def Jq (h order:Nat)(ps:List (Int×Int))(n:Nat):List Int:=(ps.take n).flatMap fun p=>Md h order p order
theorem XG(h order:Nat)(p:Int×Int)(k:Nat):Md h order p (k+1)=Md h order p k++[ML h order p k]:=by simp[Md,Az]
theorem ZI{order:Nat}(d:n<ps.length):Jq h order ps (n+1)=Jq h order ps n++Md h order (ps.getD n (0,0)) order:=by
 unfold Jq;rw[Bu d,Bd];simp[List.getD,d]
theorem Vg(h order:Nat)(ps:List (Int×Int)):∀n,n<=ps.length->(Jq h order ps n).length=n*order:=by intro a;induction a<;>grind [Jq,Md,ZI]
theorem Ws{a b:Bool}(h:a=b):Ending.returned (.bool a)=.returned (.bool b):=by rw[h]
def PW (order:Int):Bool:=decide (order=2\/order=4\/order=6)
def Kn (p:Int×Int):Bool:=decide ((-1000<=p.1/\p.1<=1000)/\ -1000<=p.2/\p.2<=1000)
def IR (ps:List (Int×Int))(order:Int):Bool:=PW order && decide ((ps.length:Int)*order<=4096) && ps.all Kn
def Am0 (ps:List (Int×Int))(k:Nat):Prop:=∀j,j<k->Kn (ps.getD j (0,0))=true
theorem Aih(e:k=ps.length)(h:Am0 ps k):ps.all Kn=true:=by
 rw[AM];intro p d;obtain⟨i,hi,rfl⟩:=A5 d;have:=h i (by omega)
 simpa [List.getD,hi]using this
theorem AlQ(d:k<ps.length)(h:Kn (ps.getD k (0,0))=false):ps.all Kn=false:=by grind
def num (zs:List Int)(i:Nat):Nat->Int
 | 0=>0
 | t+1=>2*num zs i t+zs.getD (i+t) 0
def Ix (zs:List Int)(k j:Nat):Int:=num zs (8*j) (min 8 (k-8*j))*2 ^ (8-min 8 (k-8*j))
def Kp (zs:List Int)(k:Nat):List Int:=(List.range ((zs.length+7) / 8)).map (Ix zs k)
def JH (zs:List Int):List Int:=(List.range ((zs.length+7) / 8)).map fun j=>num zs (8*j) 8
theorem Lb(zs:List Int):(JH zs).length=(zs.length+7) / 8:=by simp[JH]
theorem Anw(h:Bits zs)(i:Nat):∀t,0<=num zs i t/\num zs i t<2 ^ t:=by intro a;induction a<;>grind [Bits,num]
theorem Aau(zs:List Int):Kp zs 0=List.replicate ((zs.length+7) / 8) 0:=by
 unfold Kp;rw[Ew]
 grind [Ix,num]
theorem AlR(zs:List Int)(i m:Nat)(h:zs.length<=i+m):∀d,num zs i (m+d)=num zs i m*2 ^ d:=by intro a;induction a<;>grind [num]
theorem Adj(zs:List Int):Kp zs zs.length=JH zs:=by
 unfold Kp JH;refine Du fun j _=>?_
 unfold Ix
 by_cases h:8<=zs.length-8*j
 ·rw[B8 h];simp
 ·rw[Dv (by omega)];have:=AlR zs (8*j) (zs.length-8*j) (by omega) (8-(zs.length-8*j));rw[<-this]
  congr 1
  omega
theorem Xa(zs:List Int)(k j:Nat)(h:j≠k / 8):Ix zs (k+1) j=Ix zs k j:=by grind [Ix]
theorem Y1(zs:List Int)(k:Nat):Ix zs (k+1) (k / 8)=Ix zs k (k / 8)+zs.getD k 0*2 ^ (7-k % 8):=by
 unfold Ix;have e1:min 8 (k+1-8*(k / 8))=k % 8+1:=by omega
 have e2:min 8 (k-8*(k / 8))=k % 8:=by omega
 rw[e1,e2,num,show 8*(k / 8)+k % 8=k from by omega,show 8-k % 8=(7-k % 8)+1 from by omega,show 8-(k % 8+1)=7-k % 8 from by omega,Int.pow_succ,Int.add_mul,Int.mul_comm 2,Int.mul_assoc,Int.mul_comm 2]
theorem VO(zs:List Int)(k:Nat):Ix zs k (k / 8)=num zs (8*(k / 8)) (k % 8)*2 ^ (8-k % 8):=by
 unfold Ix
 grind
theorem Aat(zs:List Int)(k j:Nat)(h:j<(zs.length+7) / 8):(Kp zs k).getD j 0=Ix zs k j:=by
 simp[Kp,List.getD,h]
theorem Adk(zs:List Int)(k:Nat)(x:Int)(r:x=Ix zs (k+1) (k / 8)):(Kp zs k).set (k / 8) x=Kp zs (k+1):=by
 refine AW (by simp[Kp]) fun j d e=>?_
 grind [Kp,Xa]
theorem AnC(a z m:Nat)(e:z<=1):a*2 ^ (m+1) ||| z*2 ^ m=a*2 ^ (m+1)+z*2 ^ m:=by
 have d:z*2 ^ m<2 ^ (m+1):=by
  rw[Dk];have:0<2 ^ m:=DS (by decide);have:z*2 ^ m<=1*2 ^ m:=BM _ e;omega
 rw[Dp a];exact(Ex d a).symm
theorem Adr(m:Nat)(h:m<=7):(2:Nat) ^ m<=128:=by
 have:=BC (n:=2) (by decide) h
 simpa using this
theorem AlW(zs:List Int)(k:Nat)(h:Bits zs)(p q:Int)(e:p=Ix zs k (k / 8))(t:q=zs.getD k 0*2 ^ (7-k % 8)):
 0<=p/\p<256/\0<=q/\q<=128/\bits .or .u8 p q=Ix zs (k+1) (k / 8):=by
 have C:=Anw h (8*(k / 8)) (k % 8);have M:=h k;have O:k % 8<8:=AZ _ (by decide);rw[VO]at e;rw[Y1,VO];obtain⟨a,J⟩:=Cw C.1;obtain⟨z,H⟩:=Cw M.1;have r:z<=1:=by omega
 rw[J]at C e |-;rw[H]at t |-;obtain⟨m,I⟩:∃m,k % 8=7-m/\m<=7:=⟨7-k % 8,by omega,by omega⟩;rw[I.1]at C e t |-;rw[show 8-(7-m)=m+1 from by omega]at e |-;rw[show 7-(7-m)=m from by omega]at t |-;have A:a<2 ^ (7-m):=by
  grind
 have D:p=((a*2 ^ (m+1):Nat):Int):=by rw[e];simp
 have G:q=((z*2 ^ m:Nat):Int):=by rw[t];simp
 have d:a*2 ^ (m+1)<256:=by
  have u:a*2 ^ (m+1)<2 ^ (7-m)*2 ^ (m+1):=Nat.mul_lt_mul_of_pos_right A (DS (by decide));rw[<-Nat.pow_add,show 7-m+(m+1)=8 from by omega]at u
  simpa using u
 have E:z*2 ^ m<=128:=by
  have u:z*2 ^ m<=1*2 ^ m:=BM _ r;have:=Adr m I.2;omega
 refine⟨by omega,by omega,by omega,by omega,?_⟩;rw[D,G,u8_or_nat _ _ d (by omega),AnC a z m r];simp
def Jd (x:Int):Int:=if x < -1000 then -1000 else if 1000<x then 1000 else x
def Pz (x b:Int):Int:=if b=1 then -x else x
def I6 (S:Setg)(ps:List (Int×Int)):List Int:=(List.range S.count.toNat).map fun i=>Pz (Jd ((Jq (S.order.toNat / 2) S.order.toNat ps ps.length).getD i 0)) ((FG S.seed.toNat S.count.toNat).getD i 0)
theorem Yv(S:Setg)(ps:List (Int×Int)):(I6 S ps).length=S.count.toNat:=by simp[I6]
def Hu (S:Setg)(n:Nat)(s:List Int):List Int:=if S.code=0 then way s n 0 0 else NJ (Fl S.size.toNat n) (Ki (MV S) s (Pq S.size.toNat n))
structure Told where
 data:ByteArray
 ok:Bool
 err:Int
def Mk (S:Setg)(bytes:Nat)(s:List Int):Told:=
 if Ko ((Hu S (8*bytes+24) s).take (8*bytes)) 3=(Hu S (8*bytes+24) s).drop (8*bytes) then ⟨strOfNums (JH ((Hu S (8*bytes+24) s).take (8*bytes))),true,0⟩ else ⟨ByteArray.empty,false,0⟩
def Lo (S:Setg)(ps:List (Int×Int))(v:Int):Bool:=LO v && IR ps S.order
def Kw (S:Setg)(bytes:Nat)(s:List Int)(ps:List (Int×Int))(v:Int):Told:=
 if Lo S ps v=false then ⟨ByteArray.empty,false,1⟩ else if (ps.length:Int)*S.order≠S.count then ⟨ByteArray.empty,false,3⟩
 else if Fy (GV s (I6 S ps) v)=false then ⟨ByteArray.empty,false,2⟩ else Mk S bytes (GV s (I6 S ps) v)
def Jj (S:Setg)(s:List Int)(ps:List (Int×Int))(v:Int):List Int:=if Lo S ps v=false\/(ps.length:Int)*S.order≠S.count\/Fy (GV s (I6 S ps) v)=false then s else GV s (I6 S ps) v
def Told.val(t:Told):Value:=.tuple #[.string t.data,.bool t.ok,int i64 t.err]
def U8 (x:Int):Prop:= -9223372036854775808<=x/\x<=9223372036854775807
structure Setg.In(S:Setg):Prop where
 code:U8 S.code
 size:U8 S.size
 order:U8 S.order
 seed:U8 S.seed
 count:U8 S.count
def JZ (cs:List Int)(v k:Nat):List Int:=(List.range k).map fun i=>cs.getD (Gi cs.length v i) 0
theorem J0(cs:List Int)(v k:Nat):(JZ cs v k).length=k:=by simp[JZ]
def RG (n:Int):Bool:=decide (1<=n/\n<=4096)
def IJ (n:Int):Int:=if RG n then 0 else 1
def Ku (v:Int):Int:=if LO v then 0 else 1
theorem Pg(n:Int)(w:World):Calls prog 226 #[int i64 n] w fun e w'=>e=.returned (int i64 (IJ n))/\w=w':=by
 by_cases r:n<1
 ·have u:decide (n<1)=true:=Ag r;have d:=hid (show(1:Int)=IJ n by grind [IJ,RG]);clear r;go_enter func226,ntmps226;go_wp2;go_ret;exact⟨Fs d.out,rfl⟩
 ·have u:decide (n<1)=false:=Ae r
  by_cases t:4096<n
  ·have A:decide (4096<n)=true:=Ag t;have d:=hid (show(1:Int)=IJ n by grind [IJ,RG]);clear r t;go_enter func226,ntmps226;go_wp2;go_ret;exact⟨Fs d.out,rfl⟩
  ·have A:decide (4096<n)=false:=Ae t;have d:=hid (show(0:Int)=IJ n by unfold IJ;rw[show RG n=true from Ag (by omega)];rfl);clear r t;go_enter func226,ntmps226;go_wp2;go_ret;exact⟨Fs d.out,rfl⟩
theorem Kh(v:Int)(w:World):Calls prog 227 #[int i64 v] w fun e w'=>e=.returned (int i64 (Ku v))/\w=w':=by
 by_cases r:v<0
 ·have u:decide (v<0)=true:=Ag r;have d:=hid (show(1:Int)=Ku v by unfold Ku;rw[show LO v=false from Ae (by omega)];rfl);clear r;go_enter func227,ntmps227;go_wp2;go_ret;exact⟨Fs d.out,rfl⟩
 ·have u:decide (v<0)=false:=Ae r
  by_cases t:4<=v
  ·have A:decide (4<=v)=true:=Ag t;have d:=hid (show(1:Int)=Ku v by unfold Ku;rw[show LO v=false from Ae (by omega)];rfl);clear r t;go_enter func227,ntmps227;go_wp2;go_ret;exact⟨Fs d.out,rfl⟩
  ·have A:decide (4<=v)=false:=Ae t;have d:=hid (show(0:Int)=Ku v by unfold Ku;rw[show LO v=true from Ag (by omega)];rfl);clear r t;go_enter func227,ntmps227;go_wp2;go_ret;exact⟨Fs d.out,rfl⟩
theorem YV(n v:Nat)(w:World)(A:n<=4096)(C:v<=3):Calls prog 258 #[int i64 n,int i64 v] w fun e w'=>e=.returned (int i64 ((v*n / 4:Nat):Int))/\w=w':=by
 have d:(v:Int)*(n:Int)=((v*n:Nat):Int):=by simp
 have t:v*n<=12288:=by
  have:=DW C A;omega
 obtain⟨p,r⟩:=E7 (v*n);rw[<-r]at d t;rw[<-r];have u:(p:Int).tdiv 4=((p / 4:Nat):Int):=by grind
 have D:IntKind.i64.wrap ((v:Int)*(n:Int))=(p:Int):=by rw[d,AO];omega
 clear r d;go_enter func258,ntmps258;go_wp2;go_ret;exact⟨rfl,rfl⟩
theorem S4(a:Nat)(d:a<4294967296):bits .and .u32 (a:Int) 1=((a % 2:Nat):Int):=by
 rw[show(1:Int)=((1:Nat):Int)from rfl,DT _ _ d (by decide),Dq]
theorem AjI(a b:Nat)(d:a<2147483648)(r:b<=1):bits .or .u32 (a:Int) ((b:Int)*1073741824 % 4294967296)=((a ||| b*2 ^ 30:Nat):Int):=by
 have e:(b:Int)*1073741824 % 4294967296=((b*2 ^ 30:Nat):Int):=by omega
 rw[e,u32_or_nat _ _ (by omega) (by omega)]
theorem AhE(x:Nat)(e:x<2147483648):bits .or .u32 ((x:Int) / 2) (bits .and .u32 (bits .xor .u32 ((x:Int) / 8) x) 1*1073741824 % 4294967296)=((Akw x:Nat):Int):=by
 have d:x / 8 ^^^ x<2 ^ 32:=CO (by omega) (by omega);rw[show(x:Int) / 8=((x / 8:Nat):Int)from by omega,show(x:Int) / 2=((x / 2:Nat):Int)from by omega,Cu _ _ (by omega) (by omega),S4 _ d,AjI _ _ (by omega) (by omega)];rfl
theorem AhF(y:Nat)(t:y<2147483648):bits .or .u32 ((y:Int) / 2) (bits .and .u32 (bits .xor .u32 (bits .xor .u32 (bits .xor .u32 ((y:Int) / 8) ((y:Int) / 4)) ((y:Int) / 2)) y) 1*1073741824 % 4294967296)=((Akx y:Nat):Int):=by
 have d:y / 8 ^^^ y / 4<2 ^ 32:=CO (by omega) (by omega);have e:y / 8 ^^^ y / 4 ^^^ y / 2<2 ^ 32:=CO d (by omega);have r:y / 8 ^^^ y / 4 ^^^ y / 2 ^^^ y<2 ^ 32:=CO e (by omega);rw[show(y:Int) / 8=((y / 8:Nat):Int)from by omega,show(y:Int) / 4=((y / 4:Nat):Int)from by omega,show(y:Int) / 2=((y / 2:Nat):Int)from by omega,Cu _ _ (by omega) (by omega),Cu _ _ d (by omega),Cu _ _ e (by omega),S4 _ r,AjI _ _ (by omega) (by omega)];rfl
theorem Al8{k:IntKind}{a b c d:Int}(h:a=c)(e:b=d):Ending.returned (.tuple #[.int k a,.int k b])=.returned (.tuple #[.int k c,.int k d]):=by rw[h,e]
theorem Abx(x y:Nat)(w:World)(d:x<2147483648)(r:y<2147483648):
 Calls prog 254 #[int .u32 x,int .u32 y] w fun e w'=>e=.returned (.tuple #[int .u32 (Akw x:Nat),int .u32 (Akx y:Nat)])/\w=w':=by
 go_enter func254,ntmps254;go_wp2
 go_ret2;exact⟨Al8 (AhE x d) (AhF y r),rfl⟩
theorem AgD(x y:Nat)(e:x<2147483648)(r:y<2147483648):bits .and .u32 (bits .xor .u32 (x:Int) y) 1 % 256=b2i (x.testBit 0 ^^ y.testBit 0):=by
 have d:x ^^^ y<2 ^ 32:=CO (by omega) (by omega);rw[Cu _ _ (by omega) (by omega),S4 _ d,<-Eq,Vs]
 grind [b2i]
def Akk (s:Int):Bool:=decide (0<=s/\s<=2147483647)
def AeT (s n:Int):Bool:=Akk s && decide (0<=n/\n<=4096)
theorem An6(s n:Int)(w:World)(h:AeT s n=false):
 Calls prog 222 #[int i64 s,int i64 n] w fun e w'=>e=.returned (.tuple #[.slice none 0 0,int i64 1])/\w=w':=by
 have D:s<0\/2147483647<s\/n<0\/4096<n:=by
  simp[AeT,Akk]at h;omega
 clear h
 by_cases d:s<0
 ·go_enter func222,ntmps222;go_wp2
  go_ret2;exact⟨rfl,rfl⟩
 ·have u:decide (s<0)=false:=by simpa using d
  by_cases r:2147483647<s
  ·go_enter func222,ntmps222;go_wp2
   go_ret2;exact⟨rfl,rfl⟩
  ·have A:decide (2147483647<s)=false:=by simpa using r
   by_cases t:n<0
   ·go_enter func222,ntmps222;go_wp2
    go_ret2;exact⟨rfl,rfl⟩
   ·have C:decide (n<0)=false:=by simpa using t
    have E:4096<n:=by omega
    go_enter func222,ntmps222;go_wp2
    go_ret2;exact⟨rfl,rfl⟩
theorem AgE(s n k d e:Nat)(u:k<n)(r:d<2147483648)(t:e<2147483648)(h:d=Adx (1600+k)/\e=Ady s (1600+k)):
 (FG s k++List.replicate (n-k) 0).set k (bits .and .u32 (bits .xor .u32 (d:Int) e) 1 % 256)=FG s (k+1)++List.replicate (n-(k+1)) 0:=by
 rw[show n-k=(n-(k+1))+1 from by omega,KI _ _ _ _ (Lv s k),XZ,AgD d e r t,h.1,h.2];rfl
theorem Ub(s n:Nat)(w:World)(O:s<2147483648)(hn:n<=4096):
 Calls prog 222 #[int i64 s,int i64 n] w fun e w'=>∃v,e=.returned (.tuple #[v,int i64 0])/\Own w' w.heap.size v (FG s n)/\Below w.heap.size w w':=by
 have T:decide ((s:Int)<0)=false:=by simp
 have U:decide (2147483647<(s:Int))=false:=by simp;omega
 have V:decide ((n:Int)<0)=false:=by simp
 have W:decide (4096<(n:Int))=false:=by simp;omega
 go_enter func222,ntmps222;go_wp2
 go_loop [6,7,26] (fun x y i=>∃t r u:Nat,t<=1600/\i=int i64 t/\x=int .u32 r/\y=int .u32 u/\r<2147483648/\u<2147483648/\Hid (r=Adx t/\u=Ady s t)) (fun _ _ i=>1600-(intOf i).toNat)
 case atStart=>exact⟨0,1,s,by omega,rfl,rfl,by go_num,by omega,O,rfl,rfl⟩
 case round=>
  obtain⟨t,r,u,ht,rfl,rfl,rfl,A,C,D⟩:=hrel
  by_cases J:t<1600
  ·go_wp2_with(go_at_call 254;refine(Abx r u _ A C).mono ?_;rintro e w' ⟨rfl,rfl⟩)
   go_round
   case rel=>exact⟨t+1,_,_,by omega,by go_num,rfl,rfl,by have:=Yf (t+1);rw[D.out.1];exact this,by have:=Yg s O (t+1);rw[D.out.2];exact this,by rw[D.out.1,D.out.2];exact⟨rfl,rfl⟩⟩
   case measure=>simp[intOf];omega
  ·have I:Hid (r=Adx (1600+0)/\u=Ady s (1600+0)):=by
    grind
   clear D
   go_wp2_with(at_make;refine FH w.heap.size w n rfl _ _ rfl _ _ rfl rfl rfl rfl (by omega) (Ad _ _) (Ac _) ?_);intro w1 G E S;go_wp2
   go_loopw [6,7,39] (fun x y i wr=>∃k r u:Nat,k<=n/\i=int i64 k/\x=int .u32 r/\y=int .u32 u/\r<2147483648/\u<2147483648/\Hid (r=Adx (1600+k)/\u=Ady s (1600+k))/\Own wr w.heap.size (.slice (some ⟨w.heap.size,0,none⟩) n n) (FG s k++List.replicate (n-k) 0)/\Below w.heap.size w wr) (fun _ _ i _=>n-(intOf i).toNat)
   case atStart=>exact⟨0,r,u,by omega,rfl,rfl,rfl,A,C,I,G,E⟩
   case round=>
    clear G E I A C;obtain⟨k,r,u,Z,rfl,rfl,rfl,A,C,D,d,H⟩:=hrel
    by_cases J:k<n
    ·have M:(FG s k++List.replicate (n-k) 0).length=n:=d.len;have X:=d.cell (i:=k) (by omega);have Y:=d.free k;clear M
     go_wp2_with(go_at_call 254;refine(Abx r u _ A C).mono ?_;rintro e w' ⟨rfl,rfl⟩)
     go_roundw
     case rel=>exact⟨k+1,_,_,by omega,by go_num,rfl,rfl,by have:=Yf (1600+k+1);rw[D.out.1];exact this,by have:=Yg s O (1600+k+1);rw[D.out.2];exact this,by rw[D.out.1,D.out.2];exact⟨rfl,rfl⟩,AgE s n k r u J A C D.out▸d.set k _,H.setCell (Ac _) _⟩
     case measure=>simp[intOf];omega
    ·go_wp2
     go_ret2;obtain rfl:k=n:=by omega
     rw[Bm,C4,AA]at d;exact⟨_,rfl,d,H⟩
def J6 (n place:Nat):Nat:=n / 2 ^ place % 2
theorem LS(n place:Nat):J6 n place=0\/J6 n place=1:=by unfold J6;omega
def Gr (n:Nat):Nat->Int
 | 0=>0
 | t+1=>(1-2*(J6 n t:Int))*((2 ^ t:Nat)-Gr n t)
def Po (h:Nat):List Int:=(List.range (2 ^ h)).map fun n=>Gr n h
def Jv (c:List Int)(axis:Nat):Nat->Nat
 | 0=>0
 | t+1=>2*Jv c axis t+(c.getD (axis+2*t) 0).toNat
def sqM (h:Nat)(x:Int)(n:Nat):Int:=(x-Gr n h)*(x-Gr n h)
def FB (h:Nat)(x:Int)(place bit:Nat):Nat->Int
 | 0=>9223372036854775807
 | j+1=>if J6 j place=bit then min (FB h x place bit j) (sqM h x j) else FB h x place bit j
def IE (h:Nat)(x:Int)(place:Nat):Int:=FB h x place 1 (2 ^ h)-FB h x place 0 (2 ^ h)
def Mh (h:Nat)(x:Int):Nat->Nat
 | 0=>0
 | j+1=>if sqM h x j<sqM h x (Mh h x j) then j else Mh h x j
theorem Aac(h:Nat)(x:Int):∀j,1<=j->Mh h x j<j
 | 1,_=>by simp[Mh]
 | j+2,_=>by
  have:=Aac h x (j+1) (by omega);rw[Mh]
  split<;>omega
theorem Aaa(h:Nat)(x:Int)(d:j<=2 ^ h):Mh h x j<2 ^ h:=by
 by_cases e:j=0
 ·subst e;exact C6 h
 ·have:=Aac h x j (by omega);omega
theorem XP(n:Nat):∀t,t<=3-> -(7:Int)<=Gr n t/\Gr n t<=7
 | 0,_=>by simp[Gr]
 | 1,_=>by
  rcases LS n 0 with e | e<;>simp[Gr,e]
 | 2,_=>by
  grind [LS,Gr]
 | 3,_=>by
  grind [LS,Gr]
 | t+4,h=>by omega
theorem Akv{x:Int}(e:h<=3)(u: -1000<=x/\x<=1000)(n:Nat):0<=sqM h x n/\sqM h x n<=4000000:=by
 have d:=XP n h e;have r:∀z:Int, -2000<=z/\z<=2000->0<=z*z/\z*z<=4000000:=fun z A=>by
  have d:z*z=(z.natAbs*z.natAbs:Nat):=by rw[DX]
  have t:z.natAbs*z.natAbs<=2000*2000:=DW (by omega) (by omega);omega
 exact r _ (by omega)
def KC (F G:Nat->Int)(h:Nat)(t:Nat):List Int:=(List.range t).flatMap fun s=>[F (h-1-s),G (h-1-s)]
theorem QO(F G:Nat->Int)(h t:Nat):KC F G h (t+1)=KC F G h t++[F (h-1-t),G (h-1-t)]:=by
 unfold KC;rw[Az,Bd];simp
end Go.Proofs.YtbjgfoiikhbonahGreatDoor
