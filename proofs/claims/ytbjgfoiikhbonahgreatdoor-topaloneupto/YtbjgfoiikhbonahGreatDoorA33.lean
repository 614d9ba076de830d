import Derived.Test.YtbjgfoiikhbonahGreatDoorA32
set_option linter.unusedVariables false
set_option linter.unusedSimpArgs false
set_option maxRecDepth 100000
set_option maxHeartbeats 4000000
namespace Go.Proofs.YtbjgfoiikhbonahGreatDoor
open Go.ChangeShapes Go.WideShapes Go.ChangeAt Go.RowKit Go.Maps Go.Proofs.Tryz
open Value renaming int->A
open Obj renaming cells->C
open Option renaming none->D,some->H
open Ending renaming returned->G
open Go renaming World->J
open IntKind renaming i64->M
variable {F:List Nat}{N:CoN}{a:Option Addr}{b c cc g n s:Nat}{cs:List Int}{f:PrM->PrM}{k:Int}{ls:List LnM}{p:PrM}{t:PrM->Bool}{w w':J}
theorem Px(t:TypeId)(w:J):(Instr.makeMap t D).run prog w=.ok (.map (H w.heap.size)) (w.alloc (.map #[] 0)):=by
 simp[Instr.makeMap]
theorem AfN(u:Nat)(w:J)(m:1<=u)(o:u<=1000000):Calls prog 12 #[A M (u:Int)] w fun e w'=>∃c N,e= G (.tuple #[Fa c, A M 0])/\PCore w' c N (.new u) 0/\(∀x∈coF c N (.new u),w.heap.size<=x)/\Below w.heap.size w w':=by
 have i:(w.alloc (.map #[] 0)).heap.size=w.heap.size+1:=Ax _ _
 have l:Hid (PCore ((w.alloc (.map #[] 0)).alloc (C #[A M (u:Int),.map (H w.heap.size),.slice D 0 0] 64)) (w.heap.size+1) ⟨w.heap.size,D,0,fun _=>0,fun _=>0⟩ (.new u) 0):=hid (by
  have h:=Fc (w.alloc (.map #[] 0)) 64 [A M (u:Int),.map (H w.heap.size),.slice D 0 0];rw[i]at h;refine⟨h,((IMap.XT w).kept (S:=[]) ((Kept.refl _ _).alloc _) (by simp)).congr (fun _=>rfl),?_,?_,Bj _ _ _ _,?_,?_,?_,CoM.Ok.new ⟨m,o⟩⟩
  ·intro k p d;cases d
  ·intro k p d;cases d
  ·intro j k p q d;cases d
  ·intro j k p q d;cases d
  ·intro k p d;cases d)
 have r:=Px 61;clear i;go_enter func12,ntmps12;go_wp2
 go_ret2;refine⟨w.heap.size+1,rfl,_,l.out,fun x v=>?_,((Ad _ w).alloc (Ac _) _).alloc (by simp) _⟩
 rcases Xk v with rfl | rfl | ⟨y,z,rfl⟩ | ⟨k,p,d,_⟩
 ·omega
 ·exact Ac _
 ·cases z
 ·cases d
theorem Tryz.Apb(w:J):(zeroValue 155).run prog w=.ok (.pointer D) w:=by kernel_rfl
theorem PCore.find{m:CoM}(h:PCore w c N m n)(d:Gb k){x:Value}(e:(usV N m k).getD (.pointer D)=x):(Instr.lookup 61 (.map (H N.bu)) (A M k) false).run prog w=.ok x w:=by
 have:=h.us.TX d underlying61 (Tryz.Apb w) e rfl false
 simpa using this
theorem M7{m:CoM}(h:PCore w c N m n)(d:Gb k)(i:m.per k=D):Calls prog 122 #[Fa c, A M k] w fun e w'=>e= G (.tuple #[.pointer D, A M 12])/\w'=w:=by
 have c1:=h.head.2.1;have j:=h.find d (x:=.pointer D) (by simp[usV,i]);clear h i d;unfold Fa;go_enter func122,ntmps122;go_wp2
 go_ret2;exact⟨rfl,rfl⟩
theorem M8{m:CoM}(h:PCore w c N m n)(d:Gb k)(i:m.per k=H p):Calls prog 122 #[Fa c, A M k] w fun e w'=>e= G (.tuple #[Fa (N.ub k), A M 0])/\w'=w:=by
 have c1:=h.head.2.1;have j:=h.find d (x:=Fa (N.ub k)) (by simp[usV,i]);clear h i d;generalize N.ub k=b at*;unfold Fa at*;go_enter func122,ntmps122;go_wp2
 go_ret2;exact⟨rfl,rfl⟩
def Jn (K g:Nat):Value:=.func (.func K) #[] #[Fa g]
def Kq (p:PrM):Value:=.agg #[A M (p.st:Nat), A M (p.cell:Nat)]
theorem Aev(s:Int)(w:J):Calls prog 73 #[A M s] w fun e w'=>e= G (Jn 124 w.heap.size)/\w'=w.alloc (C #[A M s] 158):=by
 unfold Jn Fa;go_enter func73,ntmps73;go_wp2;go_ret;exact⟨rfl,rfl⟩
theorem Ach(s:Int)(w:J):Calls prog 177 #[A M s] w fun e w'=>e= G (Jn 217 w.heap.size)/\w'=w.alloc (C #[A M s] 158):=by
 unfold Jn Fa;go_enter func177,ntmps177;go_wp2;go_ret;exact⟨rfl,rfl⟩
theorem AfK(s:Int)(w:J):Calls prog 135 #[A M s] w fun e w'=>e= G (Jn 176 w.heap.size)/\w'=w.alloc (C #[A M s] 3):=by
 unfold Jn Fa;go_enter func135,ntmps135;go_wp2;go_ret;exact⟨rfl,rfl⟩
def Afd (K g:Nat)(t:PrM->Bool)(w:J):Prop:=∀(w1:J) (p:PrM),Below w.heap.size w w1->Calls prog K #[Kq p,Fa g] w1 fun e w'=>e= G (.bool (t p))/\Below w1.heap.size w1 w'
theorem Aet(hg:w.cell? ⟨g,0,D⟩=H (A M (s:Int))):Afd 124 g (tIs s) w:=fun w1 p d=>by
 have c0:=d.cell (Aj w _ hg);rw[hg]at c0;have h:g<w1.heap.size:=AI (Aj w _ hg) d.size;have c1:(w1.alloc (C #[A M (p.st:Nat), A M (p.cell:Nat)] 160)).cell? ⟨g,0,D⟩=H (A M (s:Int)):=(Dg _ _ _ h).trans c0;have i:Hid (tIs s p=(((p.st:Nat):Int)==(s:Int))):=hid (by unfold tIs;rw[Dr];simp;omega);have e:Below w1.heap.size w1 (w1.alloc (C #[A M (p.st:Nat), A M (p.cell:Nat)] 160)):=(Ad _ w1).alloc (Ac _) _;unfold Kq Fa;generalize tIs s p=B at*;obtain⟨q,st,j⟩:=p;clear c0 hg d;go_enter func124,ntmps124;go_wp2;go_ret;exact⟨by rw[i.out];rfl,e⟩
theorem AbX(hg:w.cell? ⟨g,0,D⟩=H (A M (s:Int))):Afd 217 g (RM s) w:=fun w1 p d=>by
 have c0:=d.cell (Aj w _ hg);rw[hg]at c0;have h:g<w1.heap.size:=AI (Aj w _ hg) d.size;have c1:(w1.alloc (C #[A M (p.st:Nat), A M (p.cell:Nat)] 160)).cell? ⟨g,0,D⟩=H (A M (s:Int)):=(Dg _ _ _ h).trans c0;have i:Hid (RM s p=(((p.st:Nat):Int) !=(s:Int))):=hid (by unfold RM;rw[Dr];simp;omega);have e:Below w1.heap.size w1 (w1.alloc (C #[A M (p.st:Nat), A M (p.cell:Nat)] 160)):=(Ad _ w1).alloc (Ac _) _;unfold Kq Fa;generalize RM s p=B at*;obtain⟨q,st,j⟩:=p;clear c0 hg d;go_enter func217,ntmps217;go_wp2;go_ret;exact⟨by rw[i.out];rfl,e⟩
theorem Afo{s:Int}(hg:w.cell? ⟨g,0,D⟩=H (A M s)):Afd 176 g (tAt s) w:=fun w1 p d=>by
 have c0:=d.cell (Aj w _ hg);rw[hg]at c0;have h:g<w1.heap.size:=AI (Aj w _ hg) d.size;have c1:(w1.alloc (C #[A M (p.st:Nat), A M (p.cell:Nat)] 160)).cell? ⟨g,0,D⟩=H (A M s):=(Dg _ _ _ h).trans c0;have i:Hid (tAt s p=((((p.st:Nat):Int)==1) && (((p.cell:Nat):Int)==s))):=hid (by unfold tAt;rw[Dr];simp;omega);have e:Below w1.heap.size w1 (w1.alloc (C #[A M (p.st:Nat), A M (p.cell:Nat)] 160)):=(Ad _ w1).alloc (Ac _) _;unfold Kq Fa;generalize tAt s p=B at*;obtain⟨q,st,j⟩:=p;clear c0 hg d e;go_enter func176,ntmps176;go_wp2
 all_goals
  go_ret;refine⟨?_,(Ad _ w1).alloc (Ac _) _⟩;rw[i.out];simp[*]
theorem PG(E:Rd M w a cs)(S:cs.length<=16):Calls prog 123 #[.slice a cs.length cc] w fun e w'=>e= G (A M (if cs.all Gf=true then 0 else 1))/\w'=w:=by
 have K:=hid E;obtain⟨L, r⟩ := E7 cs.length;rw[<-r]at S ⊢;have o:=hid r;obtain⟨V, u⟩ := E7 (if cs.all Gf=true then 0 else 1:Int);rw[<-u];have q:=hid u;clear E r u;go_enter func123,ntmps123
 go_wp2_with fail
 go_loopw [7] (fun i wr=>∃k:Nat,k<=L/\i= A M k/\Hid (∀j,j<k->Gf (cs.getD j 0)=true)/\Hid (wr=w)) (fun i _=>L-(intOf i).toNat)
 case atStart=>exact⟨0,by omega,rfl,hid (fun j B=>by omega),hid rfl⟩
 case round=>
  obtain⟨k,hk,rfl,y,v⟩:=hrel;have v:=v.out;subst v
  by_cases d:k<L
  ·obtain⟨b,aa,rfl,z⟩:=K.out.at (i:=k) (by rw[<-o.out];exact d);have c0:=z k (by rw[<-o.out];exact d);obtain⟨x, l⟩ := E7 (cs.getD k 0);rw[<-l]at c0;clear z
   by_cases h1:x<1
   ·have m:Hid (cs.all Gf=false):=hid (by
     rw[Bool.eq_false_iff];intro h;rw[AM]at h;have:=Jw.1 (h x (by rw[l,Au,Ap (by rw[<-o.out];exact d)];exact A4 _))
     omega)
    clear l
    go_wp2_with fail;go_ret;exact⟨by rw[q.out,m.out];rfl,rfl⟩
   ·by_cases h2:100<x
    ·have m:Hid (cs.all Gf=false):=hid (by
      rw[Bool.eq_false_iff];intro h;rw[AM]at h;have:=Jw.1 (h x (by grind))
      omega)
     clear l
     go_wp2_with fail;go_ret;exact⟨by rw[q.out,m.out];rfl,rfl⟩
    ·have P:=hid (show Gf (cs.getD k 0)=true by rw[<-l];exact Jw.2 (by omega));clear l
     go_wp2_with fail;refine⟨⟨k+1,by omega,by go_num,hid (fun j B=>?_),by first | exact hid rfl | exact hid trivial⟩,by simp[intOf];omega⟩
     by_cases e:j=k
     ·subst e;exact P.out
     ·exact y.out j (by omega)
  ·have m:Hid (cs.all Gf=true):=hid (by
    rw[AM];intro x T;obtain⟨j,B,rfl⟩:=List.mem_iff_getElem.1 T;have:=y.out j (by have:=o.out;omega)
    grind)
   go_wp2_with fail;go_ret;exact⟨by rw[q.out,m.out];rfl,rfl⟩
def Gd (N:CoN)(m:CoM)(k:Int)(t:PrM->Bool)(cs:List Int):Value:=if m.Fi k t cs=0 then Fa (N.ub k) else .pointer D
theorem Aiv{m:CoM}(h:PCore w c N m n)(K:Gb k)(z:Afd 124 g t w)(B:Rd M w a cs)(L:cs.length<=16):
 Calls prog 72 #[Fa c, A M k,Jn 124 g,.slice a cs.length cc] w fun e w'=>e= G (.tuple #[Gd N m k t cs, A M (m.Fi k t cs)])/\Below w.heap.size w w':=by
 have v:=PG (cc:=cc) B L
 cases o:m.per k with
 | none=>
  have y:=M7 h K o;have d:m.Fi k t cs=12:=by unfold CoM.Fi;rw[o]
  have l:Gd N m k t cs=.pointer D:=by unfold Gd;rw[d];rfl
  have i:=hid d;have j:=hid l;generalize Gd N m k t cs=V at*;generalize m.Fi k t cs=E at*;unfold Fa Jn at*;clear d l z v o h B;go_enter func72,ntmps72
  go_wp2_with(go_at_call 122;refine y.mono ?_;rintro e w1 ⟨rfl,rfl⟩)
  go_ret2;exact⟨by rw[i.out,j.out];rfl,Ad _ _⟩
 | some p=>
  have y:=M8 h K o;have x:=h.ur k p o;have c3:w.cell? ⟨N.ub k,3,D⟩=H (A M (p.st:Nat)):=x.cell 3;have c4:w.cell? ⟨N.ub k,4,D⟩=H (A M (p.cell:Nat)):=x.cell 4;have q:=z w p (Ad _ _)
  by_cases r:cs.all Gf=true
  ·rw[Ab r]at v
   cases ht:t p with
   | false=>
    have d:m.Fi k t cs=9:=by unfold CoM.Fi;rw[o];simp[r,ht]
    have l:Gd N m k t cs=.pointer D:=by unfold Gd;rw[d];rfl
    have i:=hid d;have j:=hid l;rw[ht]at q;generalize Gd N m k t cs=V at*;generalize m.Fi k t cs=E at*;generalize N.ub k=ub at*;unfold Fa Jn Kq at*;clear d l z o h B r x;go_enter func72,ntmps72
    go_wp2_with(first
     | (go_at_call 122;refine y.mono ?_;rintro e w1 ⟨rfl,rfl⟩)
     | (go_at_call 123;refine v.mono ?_;rintro e w1 ⟨rfl,rfl⟩)
     | (go_at_call 124;refine q.mono ?_;rintro e w1 ⟨rfl,u⟩))
    go_ret2;exact⟨by rw[i.out,j.out];rfl,u⟩
   | true=>
    have d:m.Fi k t cs=0:=by unfold CoM.Fi;rw[o];simp[r,ht]
    have l:Gd N m k t cs=Fa (N.ub k):=by unfold Gd;rw[d];rfl
    have i:=hid d;have j:=hid l;rw[ht]at q;generalize Gd N m k t cs=V at*;generalize m.Fi k t cs=E at*;generalize N.ub k=ub at*;unfold Fa Jn Kq at*;clear d l z o h B r x;go_enter func72,ntmps72
    go_wp2_with(first
     | (go_at_call 122;refine y.mono ?_;rintro e w1 ⟨rfl,rfl⟩)
     | (go_at_call 123;refine v.mono ?_;rintro e w1 ⟨rfl,rfl⟩)
     | (go_at_call 124;refine q.mono ?_;rintro e w1 ⟨rfl,u⟩))
    go_ret2;exact⟨by rw[i.out,j.out];rfl,u⟩
  ·rw[Aa r]at v;have d:m.Fi k t cs=1:=by unfold CoM.Fi;rw[o];simp[r]
   have l:Gd N m k t cs=.pointer D:=by unfold Gd;rw[d];rfl
   have i:=hid d;have j:=hid l;generalize Gd N m k t cs=V at*;generalize m.Fi k t cs=E at*;generalize N.ub k=ub at*;unfold Fa Jn Kq at*;clear d l z o h B r x q;go_enter func72,ntmps72
   go_wp2_with(first
    | (go_at_call 122;refine y.mono ?_;rintro e w1 ⟨rfl,rfl⟩)
    | (go_at_call 123;refine v.mono ?_;rintro e w1 ⟨rfl,rfl⟩))
   go_ret2;exact⟨by rw[i.out,j.out];rfl,Ad _ _⟩
theorem Ali{m:CoM}(h:PCore w c N m n)(K:Gb k)(z:Afd 217 g t w)(B:Rd M w a cs)(L:cs.length<=16):
 Calls prog 72 #[Fa c, A M k,Jn 217 g,.slice a cs.length cc] w fun e w'=>e= G (.tuple #[Gd N m k t cs, A M (m.Fi k t cs)])/\Below w.heap.size w w':=by
 have v:=PG (cc:=cc) B L
 cases o:m.per k with
 | none=>
  have y:=M7 h K o;have d:m.Fi k t cs=12:=by unfold CoM.Fi;rw[o]
  have l:Gd N m k t cs=.pointer D:=by unfold Gd;rw[d];rfl
  have i:=hid d;have j:=hid l;generalize Gd N m k t cs=V at*;generalize m.Fi k t cs=E at*;unfold Fa Jn at*;clear d l z v o h B;go_enter func72,ntmps72
  go_wp2_with(go_at_call 122;refine y.mono ?_;rintro e w1 ⟨rfl,rfl⟩)
  go_ret2;exact⟨by rw[i.out,j.out];rfl,Ad _ _⟩
 | some p=>
  have y:=M8 h K o;have x:=h.ur k p o;have c3:w.cell? ⟨N.ub k,3,D⟩=H (A M (p.st:Nat)):=x.cell 3;have c4:w.cell? ⟨N.ub k,4,D⟩=H (A M (p.cell:Nat)):=x.cell 4;have q:=z w p (Ad _ _)
  by_cases r:cs.all Gf=true
  ·rw[Ab r]at v
   cases ht:t p with
   | false=>
    have d:m.Fi k t cs=9:=by unfold CoM.Fi;rw[o];simp[r,ht]
    have l:Gd N m k t cs=.pointer D:=by unfold Gd;rw[d];rfl
    have i:=hid d;have j:=hid l;rw[ht]at q;generalize Gd N m k t cs=V at*;generalize m.Fi k t cs=E at*;generalize N.ub k=ub at*;unfold Fa Jn Kq at*;clear d l z o h B r x;go_enter func72,ntmps72
    go_wp2_with(first
     | (go_at_call 122;refine y.mono ?_;rintro e w1 ⟨rfl,rfl⟩)
     | (go_at_call 123;refine v.mono ?_;rintro e w1 ⟨rfl,rfl⟩)
     | (go_at_call 217;refine q.mono ?_;rintro e w1 ⟨rfl,u⟩))
    go_ret2;exact⟨by rw[i.out,j.out];rfl,u⟩
   | true=>
    have d:m.Fi k t cs=0:=by unfold CoM.Fi;rw[o];simp[r,ht]
    have l:Gd N m k t cs=Fa (N.ub k):=by unfold Gd;rw[d];rfl
    have i:=hid d;have j:=hid l;rw[ht]at q;generalize Gd N m k t cs=V at*;generalize m.Fi k t cs=E at*;generalize N.ub k=ub at*;unfold Fa Jn Kq at*;clear d l z o h B r x;go_enter func72,ntmps72
    go_wp2_with(first
     | (go_at_call 122;refine y.mono ?_;rintro e w1 ⟨rfl,rfl⟩)
     | (go_at_call 123;refine v.mono ?_;rintro e w1 ⟨rfl,rfl⟩)
     | (go_at_call 217;refine q.mono ?_;rintro e w1 ⟨rfl,u⟩))
    go_ret2;exact⟨by rw[i.out,j.out];rfl,u⟩
  ·rw[Aa r]at v;have d:m.Fi k t cs=1:=by unfold CoM.Fi;rw[o];simp[r]
   have l:Gd N m k t cs=.pointer D:=by unfold Gd;rw[d];rfl
   have i:=hid d;have j:=hid l;generalize Gd N m k t cs=V at*;generalize m.Fi k t cs=E at*;generalize N.ub k=ub at*;unfold Fa Jn Kq at*;clear d l z o h B r x q;go_enter func72,ntmps72
   go_wp2_with(first
    | (go_at_call 122;refine y.mono ?_;rintro e w1 ⟨rfl,rfl⟩)
    | (go_at_call 123;refine v.mono ?_;rintro e w1 ⟨rfl,rfl⟩))
   go_ret2;exact⟨by rw[i.out,j.out];rfl,Ad _ _⟩
theorem Am7{m:CoM}(h:PCore w c N m n)(K:Gb k)(z:Afd 176 g t w)(B:Rd M w a cs)(L:cs.length<=16):
 Calls prog 72 #[Fa c, A M k,Jn 176 g,.slice a cs.length cc] w fun e w'=>e= G (.tuple #[Gd N m k t cs, A M (m.Fi k t cs)])/\Below w.heap.size w w':=by
 have v:=PG (cc:=cc) B L
 cases o:m.per k with
 | none=>
  have y:=M7 h K o;have d:m.Fi k t cs=12:=by unfold CoM.Fi;rw[o]
  have l:Gd N m k t cs=.pointer D:=by unfold Gd;rw[d];rfl
  have i:=hid d;have j:=hid l;generalize Gd N m k t cs=V at*;generalize m.Fi k t cs=E at*;unfold Fa Jn at*;clear d l z v o h B;go_enter func72,ntmps72
  go_wp2_with(go_at_call 122;refine y.mono ?_;rintro e w1 ⟨rfl,rfl⟩)
  go_ret2;exact⟨by rw[i.out,j.out];rfl,Ad _ _⟩
 | some p=>
  have y:=M8 h K o;have x:=h.ur k p o;have c3:w.cell? ⟨N.ub k,3,D⟩=H (A M (p.st:Nat)):=x.cell 3;have c4:w.cell? ⟨N.ub k,4,D⟩=H (A M (p.cell:Nat)):=x.cell 4;have q:=z w p (Ad _ _)
  by_cases r:cs.all Gf=true
  ·rw[Ab r]at v
   cases ht:t p with
   | false=>
    have d:m.Fi k t cs=9:=by unfold CoM.Fi;rw[o];simp[r,ht]
    have l:Gd N m k t cs=.pointer D:=by unfold Gd;rw[d];rfl
    have i:=hid d;have j:=hid l;rw[ht]at q;generalize Gd N m k t cs=V at*;generalize m.Fi k t cs=E at*;generalize N.ub k=ub at*;unfold Fa Jn Kq at*;clear d l z o h B r x;go_enter func72,ntmps72
    go_wp2_with(first
     | (go_at_call 122;refine y.mono ?_;rintro e w1 ⟨rfl,rfl⟩)
     | (go_at_call 123;refine v.mono ?_;rintro e w1 ⟨rfl,rfl⟩)
     | (go_at_call 176;refine q.mono ?_;rintro e w1 ⟨rfl,u⟩))
    go_ret2;exact⟨by rw[i.out,j.out];rfl,u⟩
   | true=>
    have d:m.Fi k t cs=0:=by unfold CoM.Fi;rw[o];simp[r,ht]
    have l:Gd N m k t cs=Fa (N.ub k):=by unfold Gd;rw[d];rfl
    have i:=hid d;have j:=hid l;rw[ht]at q;generalize Gd N m k t cs=V at*;generalize m.Fi k t cs=E at*;generalize N.ub k=ub at*;unfold Fa Jn Kq at*;clear d l z o h B r x;go_enter func72,ntmps72
    go_wp2_with(first
     | (go_at_call 122;refine y.mono ?_;rintro e w1 ⟨rfl,rfl⟩)
     | (go_at_call 123;refine v.mono ?_;rintro e w1 ⟨rfl,rfl⟩)
     | (go_at_call 176;refine q.mono ?_;rintro e w1 ⟨rfl,u⟩))
    go_ret2;exact⟨by rw[i.out,j.out];rfl,u⟩
  ·rw[Aa r]at v;have d:m.Fi k t cs=1:=by unfold CoM.Fi;rw[o];simp[r]
   have l:Gd N m k t cs=.pointer D:=by unfold Gd;rw[d];rfl
   have i:=hid d;have j:=hid l;generalize Gd N m k t cs=V at*;generalize m.Fi k t cs=E at*;generalize N.ub k=ub at*;unfold Fa Jn Kq at*;clear d l z o h B r x q;go_enter func72,ntmps72
   go_wp2_with(first
    | (go_at_call 122;refine y.mono ?_;rintro e w1 ⟨rfl,rfl⟩)
    | (go_at_call 123;refine v.mono ?_;rintro e w1 ⟨rfl,rfl⟩))
   go_ret2;exact⟨by rw[i.out,j.out];rfl,Ad _ _⟩
theorem CoM.NV{m:CoM}(h:m.Fi k t cs=0):∃p,m.per k=H p/\cs.all Gf=true/\t p=true:=by grind [Gf,CoM.Fi]
theorem CoM.Z8(m:CoM)(k:Int)(t:PrM->Bool)(cs:List Int)(f:PrM->PrM):(m.move k t cs f).err=m.Fi k t cs:=by grind [CoM.move,CoM.Fi,Gf]
theorem CoM.T4{m:CoM}(h:m.Fi k t cs≠0):(m.move k t cs f).m=m:=by grind [CoM.move,CoM.Fi,Gf]
theorem CoM.Rv{m:CoM}(e:m.per k=H p)(d:cs.all Gf=true)(ht:t p=true):(m.move k t cs f).m=m.put k (f p):=by
 unfold CoM.move;rw[e];simp[d,ht]
theorem PCore.place{m:CoM}{i:PrM}(h:PCore w c N m n)(o:m.per k=H p)(l:Kept [N.ub k] w w')(u:At w' (N.ub k) 162 (Gp N m k i))(ok:(m.put k i).Ok n):PCore w' c N (m.put k i) n:=by
 obtain⟨B,E,q⟩:=h.RX;obtain⟨b1,K,L,P,S,r⟩:=q k p o;refine h.next o l (fun x z=> .inr (.inr (.inl (by simpa using z)))) rfl rfl (fun _ _=>rfl) (.inl rfl) (fun j=>rfl) (fun j _=>⟨rfl,rfl,rfl⟩) (h.hd.kept l (by simpa using fun e=>b1 e.symm)) ?_ ((h.op k p o).kept l (by simpa using fun e=>r k p o e.symm)) (FY h.gr l (fun g hg=>?_)) ok (Ac _)
 ·have:Gp N (m.put k i) k i=Gp N m k i:=rfl;rw[this];exact u
 ·cases d:N.ga with
  | none=>rw[d]at hg;simp[Value.ownBlock]at hg
  | some y=>
   obtain⟨cur,v, -⟩:=h.PQ d;rw[d,v]at hg;simp[Value.ownBlock]at hg
   grind
def Iu (w:J)(c:Nat)(N:CoN)(r:CoR)(n:Nat)(F:List Nat):Ending->J->Prop:=fun e w'=>e= G (A M r.err)/\PCore w' c N r.m n/\Kept F w w'
theorem AnM(w:J)(T:TypeId)(x:Int):Rd M (w.alloc (C #[A M x] T)) (H ⟨w.heap.size,0,D⟩) [x]:=AaQ (zs:=[x]) (Am w (C #[A M x] T))
theorem AnN(w:J)(T:TypeId)(x y:Int):Rd M (w.alloc (C #[A M x, A M y] T)) (H ⟨w.heap.size,0,D⟩) [x,y]:=AaQ (zs:=[x,y]) (Am w (C #[A M x, A M y] T))
theorem ON(w:J)(T:TypeId)(x:Int):(w.alloc (C #[A M x] T)).cell? ⟨w.heap.size,0,D⟩=H (A M x):=(Fc w T [A M x]).cell 0
structure UsC(w:J)(b:Nat):Prop where
 c3:∃v,w.cell? ⟨b,3,D⟩=H v
 c4:∃v,w.cell? ⟨b,4,D⟩=H v
 f3:w.frozen? ⟨b,3,D⟩=false
 f4:w.frozen? ⟨b,4,D⟩=false
theorem UsC.of{m:CoM}{T:TypeId}(h:At w b T (Gp N m k p)):UsC w b:=⟨⟨_,h.cell 3⟩,⟨_,h.cell 4⟩,h.free 3,h.free 4⟩
theorem Y2{m:CoM}(x:Int)(h:PCore w c N m n)(hk:Gb k):Calls prog 35 #[Fa c, A M k, A M x] w (Iu w c N (m.FV k x) n (coF c N m)):=by
 have hi:=Aev 0 w;have hs:(w.alloc (C #[A M 0] 158)).heap.size=w.heap.size+1:=Ax _ _;have l:Below w.heap.size w ((w.alloc (C #[A M 0] 158)).alloc (C #[A M x] 3)):=((Ad _ w).alloc (Ac _) _).alloc (by simp) _;have hr:Rd M ((w.alloc (C #[A M 0] 158)).alloc (C #[A M x] 3)) (H ⟨w.heap.size+1,0,D⟩) [x]:=by
  have:=AnM (w.alloc (C #[A M 0] 158)) 3 x
  rwa [hs]at this
 have r:((w.alloc (C #[A M 0] 158)).alloc (C #[A M x] 3)).cell? ⟨w.heap.size,0,D⟩=H (A M ((0:Nat):Int)):=(Dg _ _ _ (by rw[hs];omega)).trans (ON w _ 0);have V:=h.kept (Kept.E5 (S:=[]) l) (by simp);have K:=Aiv (cc:=1) V hk (Aet (s:=0) r) hr (by simp);have L:(m.FV k x).err=m.Fi k (tIs 0) [x]:=CoM.Z8 _ _ _ _ _
 by_cases q:m.Fi k (tIs 0) [x]=0
 ·obtain⟨p,y,u,ht⟩:=CoM.NV q;have z:Gd N m k (tIs 0) [x]=Fa (N.ub k):=by unfold Gd;rw[Ab q]
  have hx:=Jw.1 (show Gf x=true by simpa using u);have v:=h.ok.FV k x;have j:(m.FV k x).m=m.put k ⟨p.quota,1,x.toNat⟩:=CoM.Rv y u ht;rw[z,q]at K;have T:Hid (∀i,Below ((w.alloc (C #[A M 0] 158)).alloc (C #[A M x] 3)).heap.size ((w.alloc (C #[A M 0] 158)).alloc (C #[A M x] 3)) i->UsC i (N.ub k)/\Iu w c N (m.FV k x) n (coF c N m) (G (A M 0)) ((i.setCell ⟨N.ub k,3,D⟩ (A M 1)).setCell ⟨N.ub k,4,D⟩ (A M x))):=hid fun i d=>by
   have hb:=Fr l d;have h3:=h.kept (Kept.E5 (S:=[]) hb) (by simp);have hA:=h3.ur k p y;refine⟨UsC.of hA,by rw[L,q],?_,?_⟩
   ·rw[j]at v ⊢;refine h3.place y (((Kept.refl _ i).setCell (by simp) _).setCell (by simp) _) ?_ v;have:=((hA.setCell (o:=3) (A M 1)).setCell (o:=4) (A M x));have e:x=((x.toNat:Nat):Int):=by omega
    rw[show Gp N m k ⟨p.quota,1,x.toNat⟩=(((Gp N m k p).set 3 (A M 1)).set 4 (A M x))by
     conv=>rhs;rw[e]
     rfl]
    exact this
   ·exact(((Kept.E5 hb).setCell (N5 h.ok y).1 _).setCell (N5 h.ok y).1 _)
  generalize Iu w c N (m.FV k x) n (coF c N m)=P at*;generalize N.ub k=ub at*;clear h V hr r L q y u ht z v j;unfold Fa Jn at*;go_enter func35,ntmps35
  go_wp2_with(first
   | (go_at_call 73;refine hi.mono ?_;rintro e w1 ⟨rfl,rfl⟩)
   | (go_at_call 72;refine K.mono ?_;rintro e i ⟨rfl,d⟩;obtain⟨B,hP⟩:=T.out i d;have u3:=B.c3;have u4:=B.c4;have f3:=B.f3;have f4:=B.f4;obtain⟨V3,u3⟩:=u3;obtain⟨V4,u4⟩:=u4))
  exact hP
 ·have z:Gd N m k (tIs 0) [x]=.pointer D:=by unfold Gd;rw[Aa q]
  have j:(m.FV k x).m=m:=CoM.T4 q;rw[z]at K;have T:Hid (∀i,Below ((w.alloc (C #[A M 0] 158)).alloc (C #[A M x] 3)).heap.size ((w.alloc (C #[A M 0] 158)).alloc (C #[A M x] 3)) i->Iu w c N (m.FV k x) n (coF c N m) (G (A M (m.Fi k (tIs 0) [x]))) i):=hid fun i d=>by
   refine⟨by rw[L],?_,Kept.E5 (Fr l d)⟩;rw[j];exact h.kept (Kept.E5 (S:=[]) (Fr l d)) (by simp)
  generalize Iu w c N (m.FV k x) n (coF c N m)=P at*;generalize m.Fi k (tIs 0) [x]=E at*;clear h V hr r L z j;unfold Fa Jn at*;go_enter func35,ntmps35
  go_wp2_with(first
   | (go_at_call 73;refine hi.mono ?_;rintro e w1 ⟨rfl,rfl⟩)
   | (go_at_call 72;refine K.mono ?_;rintro e i ⟨rfl,d⟩))
  exact T.out i d
theorem AfH{m:CoM}(a:Int)(b:Int)(h:PCore w c N m n)(hk:Gb k):Calls prog 81 #[Fa c, A M k, A M a, A M b] w (Iu w c N (m.hand k a b) n (coF c N m)):=by
 have hi:=AfK a w;have hs:(w.alloc (C #[A M a] 3)).heap.size=w.heap.size+1:=Ax _ _;have l:Below w.heap.size w ((w.alloc (C #[A M a] 3)).alloc (C #[A M a, A M b] 3)):=((Ad _ w).alloc (Ac _) _).alloc (by simp) _;have V:Rd M ((w.alloc (C #[A M a] 3)).alloc (C #[A M a, A M b] 3)) (H ⟨w.heap.size+1,0,D⟩) [a,b]:=by
  have:=AnN (w.alloc (C #[A M a] 3)) 3 a b
  rwa [hs]at this
 have r:((w.alloc (C #[A M a] 3)).alloc (C #[A M a, A M b] 3)).cell? ⟨w.heap.size,0,D⟩=H (A M a):=(Dg _ _ _ (by rw[hs];omega)).trans (ON w _ a);have T:=h.kept (Kept.E5 (S:=[]) l) (by simp);have B:=Am7 (cc:=2) T hk (Afo r) V (by simp);have K:(m.hand k a b).err=m.Fi k (tAt a) [a,b]:=CoM.Z8 _ _ _ _ _
 by_cases q:m.Fi k (tAt a) [a,b]=0
 ·obtain⟨p,y,u,ht⟩:=CoM.NV q;have x:Gd N m k (tAt a) [a,b]=Fa (N.ub k):=by unfold Gd;rw[Ab q]
  have hx:=Jw.1 (show Gf b=true from(show Gf a=true/\Gf b=true by simpa using u).2);have v:=h.ok.hand k a b;have j:(m.hand k a b).m=m.put k ⟨p.quota,p.st,b.toNat⟩:=CoM.Rv y u ht;rw[x,q]at B;have L:Hid (∀i,Below ((w.alloc (C #[A M a] 3)).alloc (C #[A M a, A M b] 3)).heap.size ((w.alloc (C #[A M a] 3)).alloc (C #[A M a, A M b] 3)) i->UsC i (N.ub k)/\Iu w c N (m.hand k a b) n (coF c N m) (G (A M 0)) (i.setCell ⟨N.ub k,4,D⟩ (A M b))):=hid fun i d=>by
   have hb:=Fr l d;have h3:=h.kept (Kept.E5 (S:=[]) hb) (by simp);have hA:=h3.ur k p y;refine⟨UsC.of hA,by rw[K,q],?_,?_⟩
   ·rw[j]at v ⊢;refine h3.place y ((Kept.refl _ i).setCell (by simp) _) ?_ v;have:=(hA.setCell (o:=4) (A M b));have e:b=((b.toNat:Nat):Int):=by omega
    rw[show Gp N m k ⟨p.quota,p.st,b.toNat⟩=((Gp N m k p).set 4 (A M b))by
     conv=>rhs;rw[e]
     rfl]
    exact this
   ·exact((Kept.E5 hb).setCell (N5 h.ok y).1 _)
  generalize Iu w c N (m.hand k a b) n (coF c N m)=P at*;generalize N.ub k=ub at*;clear h T V r K q y u ht x v j;unfold Fa Jn at*;go_enter func81,ntmps81
  go_wp2_with(first
   | (go_at_call 135;refine hi.mono ?_;rintro e w1 ⟨rfl,rfl⟩)
   | (go_at_call 72;refine B.mono ?_;rintro e i ⟨rfl,d⟩;obtain⟨z,hP⟩:=L.out i d;have u3:=z.c3;have u4:=z.c4;have f3:=z.f3;have f4:=z.f4;obtain⟨V3,u3⟩:=u3;obtain⟨V4,u4⟩:=u4))
  exact hP
 ·have x:Gd N m k (tAt a) [a,b]=.pointer D:=by unfold Gd;rw[Aa q]
  have j:(m.hand k a b).m=m:=CoM.T4 q;rw[x]at B;have L:Hid (∀i,Below ((w.alloc (C #[A M a] 3)).alloc (C #[A M a, A M b] 3)).heap.size ((w.alloc (C #[A M a] 3)).alloc (C #[A M a, A M b] 3)) i->Iu w c N (m.hand k a b) n (coF c N m) (G (A M (m.Fi k (tAt a) [a,b]))) i):=hid fun i d=>by
   refine⟨by rw[K],?_,Kept.E5 (Fr l d)⟩;rw[j];exact h.kept (Kept.E5 (S:=[]) (Fr l d)) (by simp)
  generalize Iu w c N (m.hand k a b) n (coF c N m)=P at*;generalize m.Fi k (tAt a) [a,b]=E at*;clear h T V r K x j;unfold Fa Jn at*;go_enter func81,ntmps81
  go_wp2_with(first
   | (go_at_call 135;refine hi.mono ?_;rintro e w1 ⟨rfl,rfl⟩)
   | (go_at_call 72;refine B.mono ?_;rintro e i ⟨rfl,d⟩))
  exact L.out i d
theorem Tryz.YI(w:J):(zeroValue 3).run prog w=.ok (A M 0) w:=by kernel_rfl
def GD (N:CoN)(k:Int)(s:Nat):CoN:=⟨N.bu,N.ga,N.gc,fun j=>if j=k then s+1 else N.ub j,fun j=>if j=k then s else N.mb j⟩
theorem AjB(h:∀l∈ls,l.who≠k)(g:Int):opV k ls g=D:=by grind [opV]
theorem V2{i:Nat}(h:i<ls.length):ls.getD i .zero∈ls:=by grind
theorem PCore.AoD{m:CoM}{q:Int}(h:PCore w c N m n)(hp:m.per k=D)(hw:1<=k/\k<=16)(hq:0<=q/\q<=1000000000)
 (hI:IMap w' N.bu (n+1) (J8 (usV N m) k (H (Fa (w.heap.size+1))))) (hk:Kept [N.bu] ((w.alloc (.map #[] 0)).alloc (C #[A M q, A M 0, A M 0, A M 0, A M 0,.map (H w.heap.size)] 162)) w'):
 PCore w' c (GD N k w.heap.size) (m.put k ⟨q.toNat,0,0⟩) (n+1)/\Ga w.heap.size (coF c N m) (coF c (GD N k w.heap.size) (m.put k ⟨q.toNat,0,0⟩))/\Kept (coF c N m) w w':=by
 obtain⟨a1,a2,a3⟩:=h.RX;have E:=h.ok.fresh hp;have hs:(w.alloc (.map #[] 0)).heap.size=w.heap.size+1:=Ax _ _;have T:Kept [N.bu] w w':=(((Kept.refl _ w).alloc _).alloc _).trans hk;have P:∀j p,m.per j=H p->j≠k:=by grind
 have o:∀j p,(m.put k ⟨q.toNat,0,0⟩).per j=H p->j≠k->m.per j=H p:=fun j p v e=>by rw[CoM.Nq,Aa e]at v;exact v
 have aa:=h.us.lt;have L:=Fc (w.alloc (.map #[] 0)) 162 [A M q, A M 0, A M 0, A M 0, A M 0,.map (H w.heap.size)];rw[hs]at L;have hA:=L.kept hk (by simp;omega);have hM:IMap w' w.heap.size 0 (fun _=>D):=((IMap.XT w).kept (S:=[]) ((Kept.refl _ _).alloc _) (by simp)).kept hk (by simp;omega);refine⟨⟨h.hd.kept T (by simpa using fun e=>a1 e.symm),?_,fun j p v=>?_,fun j p v=>?_,?_,fun i j p r hi v e=>?_,fun i j p r hi v e=>?_,fun j p v=>?_,?_⟩,fun x hx=>?_,T.Fn (by simpa using AiA _ _ _)⟩
 ·refine hI.congr fun j=>?_
  unfold usV J8 GD;rw[CoM.Nq]
  grind
 ·by_cases e:j=k
  ·subst e;rw[CoM.Nq,Ab rfl]at v
   injection v with v
   subst v;have e1:(GD N j w.heap.size).ub j=w.heap.size+1:=Ab rfl;have e2:(GD N j w.heap.size).mb j=w.heap.size:=Ab rfl;rw[e1];have:Gp (GD N j w.heap.size) (m.put j ⟨q.toNat,0,0⟩) j ⟨q.toNat,0,0⟩=[A M q, A M 0, A M 0, A M 0, A M 0,.map (H w.heap.size)]:=by
    unfold Gp CoM.left;rw[e2,(CoM.AaO m j j _).1,(CoM.AaO m j j _).2,E.1,E.2]
    grind
   rw[this];exact hA
  ·have d:=o j p v e;have e1:(GD N k w.heap.size).ub j=N.ub j:=Aa e;have e2:(GD N k w.heap.size).mb j=N.mb j:=Aa e;have:Gp (GD N k w.heap.size) (m.put k ⟨q.toNat,0,0⟩) j p=Gp N m j p:=by
    unfold Gp;rw[e2];rfl
   rw[e1,this];exact(h.ur j p d).kept T (by simpa using (a3 j p d).2.1)
 ·by_cases e:j=k
  ·subst e;have e2:(GD N j w.heap.size).mb j=w.heap.size:=Ab rfl;rw[e2];refine(hM.mono (by omega)).congr fun g=>?_
   exact AjB (fun l hl el=>by
    obtain⟨⟨q,V⟩,_⟩:=h.ok.ln l hl
    exact P _ _ V el) g
  ·have d:=o j p v e;have e2:(GD N k w.heap.size).mb j=N.mb j:=Aa e;rw[e2];exact((h.op j p d).kept T (by simpa using (a3 j p d).2.2.2.1)).mono (by omega)
 ·have:Zab (GD N k w.heap.size).ub m.loans=Zab N.ub m.loans:=Va rfl fun i hi=>by
   obtain⟨⟨q,V⟩,_⟩:=h.ok.ln _ (V2 hi);unfold LnM.cells;rw[show(GD N k w.heap.size).ub (m.loans.getD i .zero).who=N.ub (m.loans.getD i .zero).who from Aa (P _ _ V)]
  show w'.ownsRow 0 _ 2 (.slice N.ga m.loans.length N.gc) m.loans.length (Zab (GD N k w.heap.size).ub m.loans);rw[this];refine FY h.gr T (fun g hg=>?_)
  cases K:N.ga with
  | none=>rw[K]at hg;simp[Value.ownBlock]at hg
  | some y=>
   obtain⟨cur,he, -⟩:=h.PQ K;rw[K,he]at hg;simp[Value.ownBlock]at hg
   grind
 ·by_cases z:i=k
  ·by_cases u:j=k
   ·rw[z,u]
   ·have d:=o j r v u;have l2:=(h.ur j r d).lt;rw[show(GD N k w.heap.size).ub i=w.heap.size+1 from Ab z,show(GD N k w.heap.size).ub j=N.ub j from Aa u]at e;omega
  ·have B:=o i p hi z;have l1:=(h.ur i p B).lt
   by_cases u:j=k
   ·rw[show(GD N k w.heap.size).ub j=w.heap.size+1 from Ab u,show(GD N k w.heap.size).ub i=N.ub i from Aa z]at e;omega
   ·have d:=o j r v u;rw[show(GD N k w.heap.size).ub j=N.ub j from Aa u,show(GD N k w.heap.size).ub i=N.ub i from Aa z]at e;exact h.ui i j p r B d e
 ·by_cases z:i=k
  ·by_cases u:j=k
   ·rw[z,u]
   ·have d:=o j r v u;have l2:=(h.op j r d).lt;rw[show(GD N k w.heap.size).mb i=w.heap.size from Ab z,show(GD N k w.heap.size).mb j=N.mb j from Aa u]at e;omega
  ·have B:=o i p hi z;have l1:=(h.op i p B).lt
   by_cases u:j=k
   ·rw[show(GD N k w.heap.size).mb j=w.heap.size from Ab u,show(GD N k w.heap.size).mb i=N.mb i from Aa z]at e;omega
   ·have d:=o j r v u;rw[show(GD N k w.heap.size).mb j=N.mb j from Aa u,show(GD N k w.heap.size).mb i=N.mb i from Aa z]at e;exact h.mi i j p r B d e
 ·by_cases u:j=k
  ·rw[show(GD N k w.heap.size).mb j=w.heap.size from Ab u]
   show w.heap.size≠N.bu;omega
  ·rw[show(GD N k w.heap.size).mb j=N.mb j from Aa u];exact h.mn j p (o j p v u)
 ·refine(h.ok.put hw ⟨?_,by simp,by simp,by simp,?_⟩).mono (by omega)
  ·show q.toNat<=_;omega
  ·rw[E.1,E.2];omega
 ·rcases Xk hx with rfl | rfl | ⟨y,hy,rfl⟩ | ⟨j,p,v,e⟩
  ·exact .inl (AiB _ _ _)
  ·exact .inl (AiA _ _ _)
  ·exact .inl (Aey hy)
  ·by_cases u:j=k
   ·rcases e with rfl | rfl
    ·rw[show(GD N k w.heap.size).ub j=w.heap.size+1 from Ab u];exact .inr (by omega)
    ·rw[show(GD N k w.heap.size).mb j=w.heap.size from Ab u];exact .inr (Ac _)
   ·have d:=o j p v u
    rcases e with rfl | rfl
    ·rw[show(GD N k w.heap.size).ub j=N.ub j from Aa u];exact .inl (N5 h.ok d).1
    ·rw[show(GD N k w.heap.size).mb j=N.mb j from Aa u];exact .inl (N5 h.ok d).2
def PCo (w:J)(c:Nat)(F:List Nat)(m:CoM)(n:Nat):Prop:=∃N,F=coF c N m/\PCore w c N m n
def StepC(w:J)(c:Nat)(F:List Nat)(r:CoR)(n:Nat):Ending->J->Prop:=fun e w'=>e= G (A M r.err)/\Kept F w w'/\∃F',PCo w' c F' r.m n/\Ga w.heap.size F F'
def Jf:Nat:=8796093022208
theorem AfL{m:CoM}(q:Int)(h:PCo w c F m n)(l:Gb k)(hn:n<=Jf):Calls prog 34 #[Fa c,.int M k,.int M q] w (StepC w c F (m.join k q) (n+1)):=by
 obtain⟨N,rfl,h⟩:=h;have c1:=h.head.2.1;have d:∀E,E≠0->m.Kx k q=E->StepC w c (coF c N m) (m.join k q) (n+1) (G (.int M E)) w:=fun E L u=>by
  have:m.join k q=⟨m,E⟩:=by unfold CoM.join;rw[u,Aa L]
  rw[this];exact⟨rfl,Kept.refl _ _,_,⟨N,rfl,h.mono (by omega)⟩,fun x hx=> .inl hx⟩
 by_cases e:1<=k/\k<=16/\0<=q/\q<=1000000000
 ·cases j:m.per k with
  | some p=>
   have i:=hid (d 10 (by simp) (by unfold CoM.Kx;rw[Ab e,j]));have V:=h.find l (x:=Fa (N.ub k)) (by simp[usV,j]);obtain⟨g1,g2,v,y⟩:=e;generalize StepC w c (coF c N m) (m.join k q) (n+1)=P at*;generalize N.ub k=ub at*;clear h d j l;unfold Fa at*;go_enter func34,ntmps34;go_wp2;exact i.out
  | none=>
   have V:=h.find l (x:=.pointer D) (by simp[usV,j]);have u:m.Kx k q=0:=by unfold CoM.Kx;rw[Ab e,j]
   have z:m.join k q=⟨m.put k ⟨q.toNat,0,0⟩,0⟩:=by unfold CoM.join;rw[Ab u]
   have T:=(h.us.kept (S:=[]) (((Kept.refl _ w).alloc (.map #[] 0)).alloc (C #[.int M q,.int M 0,.int M 0,.int M 0,.int M 0,.map (H w.heap.size)] 162)) (by simp)).put (by unfold maxLen;unfold Jf at hn;omega) l underlying61 (Fa (w.heap.size+1)) (n+1) (by split<;>omega);obtain⟨w',B,o,r⟩:=T
   have i:Hid (StepC w c (coF c N m) (m.join k q) (n+1) (G (.int M 0)) w'):=hid (by
    obtain⟨j1,j2,j3⟩:=h.AoD j ⟨e.1,e.2.1⟩ e.2.2 o r;rw[z]
    exact⟨rfl,j3,_,⟨_,rfl,j1⟩,j2⟩)
   have aa:=Px 89;have K:((w.alloc (.map #[] 0)).alloc (C #[.int M q,.int M 0,.int M 0,.int M 0,.int M 0,.map (H w.heap.size)] 162)).heap.size=w.heap.size+2:=by simp
   obtain⟨g1,g2,v,y⟩:=e;generalize StepC w c (coF c N m) (m.join k q) (n+1)=P at*;clear h d j l u z o r K;unfold Fa at*;go_enter func34,ntmps34;go_wp2;exact i.out
 ·have i:=hid (d 1 (by simp) (by unfold CoM.Kx;rw[Aa e]));generalize StepC w c (coF c N m) (m.join k q) (n+1)=P at*;clear h d l;unfold Fa at*
  by_cases g1:k<1
  ·clear e;go_enter func34,ntmps34;go_wp2;exact i.out
  ·by_cases g2:16<k
   ·clear e;go_enter func34,ntmps34;go_wp2;exact i.out
   ·by_cases v:q<0
    ·clear e;go_enter func34,ntmps34;go_wp2;exact i.out
    ·have y:1000000000<q:=by omega
     clear e;go_enter func34,ntmps34;go_wp2;exact i.out
theorem AfG{h d x:Int}{v2 v3 j l:Value}(i:At w b 162 [A M h, A M d,v2,v3,j,l])(v:0<=h/\h<=1000000000)(y:0<=d/\d<=1000000000)(z:0<=x/\x<=d):
 Calls prog 216 #[Fa b, A M x] w fun e w'=>e= G (.tuple #[])/\At w' b 162 [A M (h+x), A M (d-x),v2,v3,j,l]/\Kept [b] w w':=by
 have c0:w.cell? ⟨b,0,D⟩=H (A M h):=i.cell 0;have c1:w.cell? ⟨b,1,D⟩=H (A M d):=i.cell 1;have r:=i.free 0;have u:=i.free 1;have q:Hid (At ((w.setCell ⟨b,1,D⟩ (A M (d-x))).setCell ⟨b,0,D⟩ (A M (h+x))) b 162 [A M (h+x), A M (d-x),v2,v3,j,l]):=hid ((i.setCell (o:=1) (A M (d-x))).setCell (o:=0) (A M (h+x)));have m:Hid (Kept [b] w ((w.setCell ⟨b,1,D⟩ (A M (d-x))).setCell ⟨b,0,D⟩ (A M (h+x)))):=hid (((Kept.refl _ w).setCell (by simp) _).setCell (by simp) _);clear i;unfold Fa;go_enter func216,ntmps216;go_wp2
 first | go_end0 | skip
 exact⟨rfl,q.out,m.out⟩
theorem PCo.AmO{m:CoM}(h:PCore w c N m n){e:Ending}(u:Iu w c N (m.move k t cs f) n (coF c N m) e w'):StepC w c (coF c N m) (m.move k t cs f) n e w':=by
 obtain⟨o,q,r⟩:=u;refine⟨o,r,_,⟨N,rfl,q⟩,?_⟩
 by_cases i:m.Fi k t cs=0
 ·obtain⟨p,l,d,ht⟩:=CoM.NV i;rw[CoM.Rv l d ht];exact Tn h l rfl rfl (fun _ _=>rfl) (.inl rfl) (fun j=>rfl) (fun y z=> .inl z)
 ·rw[CoM.T4 i];exact fun x v=> .inl v
theorem Aca{m:CoM}(x:Int)(h:PCo w c F m n)(d:Gb k):Calls prog 35 #[Fa c, A M k, A M x] w (StepC w c F (m.FV k x) n):=by
 obtain⟨N,rfl,h⟩:=h;exact(Y2 x h d).mono fun e w' i=>PCo.AmO h i
theorem Aiw{m:CoM}(a b:Int)(h:PCo w c F m n)(d:Gb k):Calls prog 81 #[Fa c, A M k, A M a, A M b] w (StepC w c F (m.hand k a b) n):=by
 obtain⟨N,rfl,h⟩:=h;exact(AfH a b h d).mono fun e w' i=>PCo.AmO h i
end Go.Proofs.YtbjgfoiikhbonahGreatDoor
