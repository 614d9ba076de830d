import Derived.Test.YtbjgfoiikhbonahGreatDoorD16
import Derived.Maps.OwnSet
import Derived.Maps.Keyed
set_option linter.unusedVariables false
set_option linter.unusedSimpArgs false
set_option maxRecDepth 100000
set_option maxHeartbeats 4000000
namespace Go.Proofs.YtbjgfoiikhbonahGreatDoor
open Go.ChangeShapes Go.WideShapes Go.ChangeAt Go.RowKit Go.Maps Go.Proofs.Tryz
open Value (int slice pointer)
open IntKind (i64)
variable {D:DataW Value}{F S:List Nat}{M:Int->Option Value}{P:Program}{R:Value->Option (DataW Value×List MemPlace)}{T:TypeId}{a:Option Addr}{b bm c cc g i n n' s:Nat}{cs:List Int}{j k who x:Int}{ub:Int->Nat}{w w':World}{y:Addr}
structure LnM where
 who:Int
 bytes:Nat
 used:Nat
 turn:Nat
 shut:Bool
structure PrM where
 quota:Nat
 st:Nat
 cell:Nat
structure CoM where
 unit:Nat
 per:Int->Option PrM
 loans:List LnM
structure CoR where
 m:CoM
 err:Int
def LnM.zero:LnM:=⟨0,0,0,0,false⟩
def LnM.lc(who:Int)(l:LnM):Nat:=if l.who=who/\l.shut=false then l.bytes-l.used else 0
def LnM.uc(who:Int)(l:LnM):Nat:=if l.who=who then l.used else 0
def GU (who:Int):List LnM->Nat
 | []=>0
 | l::t=>l.lc who+GU who t
def Hc (who:Int):List LnM->Nat
 | []=>0
 | l::t=>l.uc who+Hc who t
theorem Rt(who:Int)(a b:List LnM):GU who (a++b)=GU who a+GU who b:=by
 induction a with
 | nil=>simp[GU]
 | cons x a ih=>simp[GU,ih];omega
theorem RV(who:Int)(a b:List LnM):Hc who (a++b)=Hc who a+Hc who b:=by
 induction a with
 | nil=>simp[Hc]
 | cons x a ih=>simp[Hc,ih];omega
theorem OX(who:Int)(x:LnM):∀(ls:List LnM) (i:Nat),i<ls.length->GU who (ls.set i x)+(ls.getD i .zero).lc who=GU who ls+x.lc who
 | [],i,h=>by simp at h
 | y::t,0,_=>by simp[GU];omega
 | y::t,i+1,h=>by
  have:=OX who x t i (by simpa using h);simp only[EW,GU,D3];omega
theorem Pb(who:Int)(x:LnM):∀(ls:List LnM) (i:Nat),i<ls.length->Hc who (ls.set i x)+(ls.getD i .zero).uc who=Hc who ls+x.uc who
 | [],i,h=>by simp at h
 | y::t,0,_=>by simp[Hc];omega
 | y::t,i+1,h=>by
  have:=Pb who x t i (by simpa using h);simp only[EW,Hc,D3];omega
theorem Ac1:∀{ls:List LnM},(∀l∈ls,l.who≠who)->GU who ls=0/\Hc who ls=0:=by intro a;induction a<;>grind [GU,Hc,LnM.lc,LnM.uc]
theorem AoF(who:Int):∀(ls:List LnM) (i:Nat),i<ls.length->(ls.getD i .zero).lc who<=GU who ls:=by intro a;induction a<;>grind [GU]
def CoM.put(m:CoM)(who:Int)(p:PrM):CoM:={m with per:=fun k=>if k=who then some p else m.per k}
def Gf (x:Int):Bool:=decide (1<=x) && decide (x<=100)
def CoM.It(m:CoM)(who:Int):Nat:=GU who m.loans
def CoM.KS(m:CoM)(who:Int):Nat:=Hc who m.loans
def CoM.left(m:CoM)(who:Int)(p:PrM):Nat:=p.quota-m.It who-m.KS who
def CoM.new(u:Nat):CoM:=⟨u,fun _=>none,[]⟩
def CoM.Kx(m:CoM)(who q:Int):Int:=if 1<=who/\who<=16/\0<=q/\q<=1000000000 then (match m.per who with | none=>0 | some _=>10) else 1
def CoM.join(m:CoM)(who q:Int):CoR:=if m.Kx who q=0 then ⟨m.put who ⟨q.toNat,0,0⟩,0⟩ else ⟨m,m.Kx who q⟩
def CoM.Fi(m:CoM)(who:Int)(t:PrM->Bool)(cs:List Int):Int:=match m.per who with
 | none=>12
 | some p=>if cs.all Gf=true then (if t p=true then 0 else 9) else 1
def CoM.move(m:CoM)(who:Int)(t:PrM->Bool)(cs:List Int)(f:PrM->PrM):CoR:=match m.per who with
 | none=>⟨m,12⟩
 | some p=>if cs.all Gf=true then (if t p=true then ⟨m.put who (f p),0⟩ else ⟨m,9⟩) else ⟨m,1⟩
def tIs (s:Nat)(p:PrM):Bool:=p.st==s
def RM (s:Nat)(p:PrM):Bool:=p.st !=s
def tAt (c:Int)(p:PrM):Bool:=p.st==1 && (p.cell:Int)==c
def CoM.FV(m:CoM)(who c:Int):CoR:=m.move who (tIs 0) [c] fun p=>⟨p.quota,1,c.toNat⟩
def CoM.hand(m:CoM)(who a b:Int):CoR:=m.move who (tAt a) [a,b] fun p=>⟨p.quota,p.st,b.toNat⟩
def RY (c:Nat):List Int:=((List.range 100).filter fun n=>(n+8) / 8==(c+7) / 8).map fun n=>((n+1:Nat):Int)
def CoM.QN(m:CoM)(who:Int):Int:=m.Fi who (RM 0) []
def CoM.Uh(m:CoM)(who:Int):List Int:=match m.per who with
 | none=>[]
 | some p=>if p.st=0 then [] else if p.st=1 then [(p.cell:Int)] else RY p.cell
def CoM.Gu(m:CoM)(who:Int):Int:=match m.per who with
 | none=>12
 | some p=>if p.st=1 then (if m.left who p=0 then 11 else 0) else 9
def CoM.Pn(m:CoM)(who:Int):Nat:=match m.per who with
 | none=>0
 | some p=>min m.unit (m.left who p)
def CoM.Mr(m:CoM)(who:Int):CoM:={m with loans:=m.loans++[⟨who,m.Pn who,0,0,false⟩]}
def CoM.at(m:CoM)(g:Int):LnM:=m.loans.getD (g.toNat-1) .zero
def CoM.repErr(m:CoM)(g t b:Int):Int:=if 1<=g/\g<=(m.loans.length:Int) then
 (if 1<=t/\t<=((m.at g).turn:Int) then 10 else if t=((m.at g).turn:Int)+1 then
  (if (m.at g).shut=true then 9 else if 0<=b/\b<=(((m.at g).bytes-(m.at g).used:Nat):Int) then 0 else 11) else 3) else 6
def CoM.rep(m:CoM)(g b:Int)(fin:Bool):CoM:={m with loans:=m.loans.set (g.toNat-1) ⟨(m.at g).who,(m.at g).bytes,(m.at g).used+b.toNat,(m.at g).turn+1,fin⟩}
def CoM.Fx(m:CoM)(g t b:Int)(fin:Bool):CoR:=if m.repErr g t b=0 then ⟨m.rep g b fin,0⟩ else ⟨m,m.repErr g t b⟩
def CoM.PZ(m:CoM)(who:Int):Int:=match m.per who with
 | none=>12
 | some _=>0
def CoM.MR(m:CoM)(who:Int):Nat×Nat×Nat:=match m.per who with
 | none=>(0,0,0)
 | some p=>(m.left who p,m.It who,m.KS who)
structure CoM.Ok(m:CoM)(n:Nat):Prop where
 u1:1<=m.unit/\m.unit<=1000000
 pr:∀who p,m.per who=some p->1<=who/\who<=16/\p.quota<=1000000000/\p.st<=2/\p.cell<=100/\(p.st≠0->1<=p.cell)/\m.It who+m.KS who<=p.quota
 ln:∀l∈m.loans,(∃p,m.per l.who=some p)/\l.used<=l.bytes/\l.bytes<=1000000/\l.turn<=n
 len:m.loans.length<=n
theorem CoM.Ok.mono{m:CoM}(h:m.Ok n)(q:n<=n'):m.Ok n':=⟨h.u1,h.pr,fun l o=>by
 obtain⟨d,e,f,p⟩:=h.ln l o
 exact⟨d,e,f,by omega⟩,by have:=h.len;omega⟩
theorem CoM.Ok.new{u:Nat}(h:1<=u/\u<=1000000):(CoM.new u).Ok 0:=by
 refine⟨h,fun who p e=>?_,fun l d=>?_,Ac _⟩
 ·cases e
 ·cases d
theorem CoM.Nq(m:CoM)(who k:Int)(p:PrM):(m.put who p).per k=if k=who then some p else m.per k:=rfl
theorem CoM.AaO(m:CoM)(who k:Int)(p:PrM):(m.put who p).It k=m.It k/\(m.put who p).KS k=m.KS k:=⟨rfl,rfl⟩
theorem CoM.Ok.put{m:CoM}{p:PrM}(h:m.Ok n)(f:1<=who/\who<=16)(t:p.quota<=1000000000/\p.st<=2/\p.cell<=100/\(p.st≠0->1<=p.cell)/\m.It who+m.KS who<=p.quota):(m.put who p).Ok n:=by
 refine⟨h.u1,fun k q d=>?_,fun l r=>?_,h.len⟩
 ·rw[CoM.Nq]at d
  split at d
  ·rename_i e;subst e
   injection d with d
   subst d;exact⟨f.1,f.2,t⟩
  ·exact h.pr k q d
 ·obtain⟨⟨q,u⟩,o⟩:=h.ln l r;refine⟨?_,o⟩;rw[CoM.Nq]
  grind
theorem CoM.Ok.fresh{m:CoM}(h:m.Ok n)(o:m.per who=none):m.It who=0/\m.KS who=0:=Ac1 fun l f e=>by
 obtain⟨⟨q,d⟩,_⟩:=h.ln l f;rw[e,o]at d
 cases d
theorem CoM.Ok.move{m:CoM}{n:Nat}(who:Int)(t:PrM->Bool)(cs:List Int)(f:PrM->PrM)(h:m.Ok n)(v:∀p,p.st<=2->p.cell<=100->(p.st≠0->1<=p.cell)->cs.all Gf=true->t p=true->(f p).quota=p.quota/\(f p).st<=2/\(f p).cell<=100/\((f p).st≠0->1<=(f p).cell)):(m.move who t cs f).m.Ok n:=by
 unfold CoM.move
 split
 ·exact h
 ·rename_i p z
  split
  ·rename_i u
   split
   ·rename_i ht;obtain⟨e,l,B,o,q,r,C⟩:=h.pr _ _ z;obtain⟨A,d,f3,f4⟩:=v p o q r u ht;exact h.put ⟨e,l⟩ ⟨by omega,d,f3,f4,by omega⟩
   ·exact h
  ·exact h
theorem Jw:Gf x=true↔1<=x/\x<=100:=by simp[Gf]
theorem CoM.Ok.FV{m:CoM}(who c:Int)(h:m.Ok n):(m.FV who c).m.Ok n:=h.move _ _ _ _ fun p e f l d _=>by
 have:=Jw.1 (show Gf c=true by simpa using d)
 grind
theorem CoM.Ok.hand{m:CoM}(who a b:Int)(h:m.Ok n):(m.hand who a b).m.Ok n:=h.move _ _ _ _ fun p f l o e _=>by
 have d:Gf a=true/\Gf b=true:=by simpa using e
 have:=Jw.1 d.2
 grind
theorem CoM.Ok.Mr{m:CoM}(h:m.Ok n)(r:m.Gu who=0):(m.Mr who).Ok (n+1):=by
 unfold CoM.Gu at r
 cases o:m.per who with
 | none=>simp[o]at r
 | some p=>
  have J:m.Pn who=min m.unit (m.left who p):=by simp[CoM.Pn,o]
  refine⟨h.u1,fun k q t=>?_,fun l f=>?_,?_⟩
  ·obtain⟨g1,g2,u,v,z,A,B⟩:=h.pr k q t;refine⟨g1,g2,u,v,z,A,?_⟩;have C:GU k m.loans+Hc k m.loans<=q.quota:=B
   show GU k (m.loans++[_])+Hc k (m.loans++[_])<=q.quota;rw[Rt,RV];simp only[GU,Hc,LnM.lc,LnM.uc]
   by_cases e:who=k
   ·subst e;have d:m.per who=some q:=t;rw[o]at d
    injection d with d
    subst d;have:m.left who p=p.quota-GU who m.loans-Hc who m.loans:=rfl;simp;omega
   ·simp[e];omega
  ·have f:l∈m.loans++[_]:=f;rw[BH,AC]at f
   rcases f with f | rfl
   ·obtain⟨E,G,H,I⟩:=h.ln l f;exact⟨E,G,H,by omega⟩
   ·have:=h.u1;exact⟨⟨p,o⟩,Af _,by show m.Pn who<=_;omega,Af _⟩
  ·show(m.loans++[_]).length<=n+1;have:=h.len;simp;omega
theorem CoM.Ain{m:CoM}{g:Int}(h:1<=g/\g<=(m.loans.length:Int)):m.at g∈m.loans:=by grind [CoM.at]
structure RepC(m:CoM)(g t b:Int):Prop where
 g1:1<=g
 g2:g<=(m.loans.length:Int)
 t1:t=((m.at g).turn:Int)+1
 op:(m.at g).shut=false
 b0:0<=b
 b1:b<=(((m.at g).bytes-(m.at g).used:Nat):Int)
theorem CoM.Yh{m:CoM}{g t b:Int}(h:m.repErr g t b=0):RepC m g t b:=by
 unfold CoM.repErr at h
 split at h
 ·rename_i d
  split at h
  ·simp at h
  ·split at h
   ·rename_i f
    split at h
    ·simp at h
    ·rename_i l
     split at h
     ·rename_i e;exact⟨d.1,d.2,f,by simpa using l,e.1,e.2⟩
     ·simp at h
   ·simp at h
 ·simp at h
theorem CoM.Ok.rep{m:CoM}{g t b:Int}{fin:Bool}(h:m.Ok n)(K:m.repErr g t b=0):(m.rep g b fin).Ok (n+1):=by
 obtain⟨g1,g2, -,N,I,J⟩:=CoM.Yh K;have hi:g.toNat-1<m.loans.length:=by omega
 obtain⟨e,G,f,H⟩:=h.ln _ (CoM.Ain ⟨g1,g2⟩);refine⟨h.u1,fun k q L=>?_,fun l d=>?_,?_⟩
 ·obtain⟨p,r,f3,f4,u,v,z⟩:=h.pr k q L;refine⟨p,r,f3,f4,u,v,?_⟩;have A:GU k m.loans+Hc k m.loans<=q.quota:=z
  show GU k (m.loans.set _ _)+Hc k (m.loans.set _ _)<=q.quota;have e1:=OX k ⟨(m.at g).who,(m.at g).bytes,(m.at g).used+b.toNat,(m.at g).turn+1,fin⟩ m.loans _ hi;have e2:=Pb k ⟨(m.at g).who,(m.at g).bytes,(m.at g).used+b.toNat,(m.at g).turn+1,fin⟩ m.loans _ hi;have o:m.loans.getD (g.toNat-1) .zero=m.at g:=rfl;rw[o]at e1 e2;generalize m.at g=y at*;obtain⟨X,Q,W,V,U⟩:=y;simp only[LnM.lc,LnM.uc]at*
  grind
 ·have d:l∈m.loans.set _ _:=d
  rcases List.mem_or_eq_of_mem_set d with d | rfl
  ·obtain⟨B,C,E,O⟩:=h.ln l d;exact⟨B,C,E,by omega⟩
  ·exact⟨e,by grind,f,by show(m.at g).turn+1<=n+1;omega⟩
 ·show(m.loans.set _ _).length<=n+1;have:=h.len;simp;omega
def V7 (v:Value):Option (DataW Value×List MemPlace):=some (.held v,[])
theorem V8{v:Value}{x:DataW Value}{ps:List MemPlace}(h:V7 v=some (x,ps)):x=.held v:=by
 unfold V7 at h;simp at h;exact h.1.symm
theorem Tryz.Vi:Keyed prog 3:=int_keyed underlying3
def Gb (k:Int):Prop:= -9223372036854775808<=k/\k<=9223372036854775807
theorem Agn(h:Gb k):keyOf prog 3 (.int i64 k)=some (.int i64 k):=keyOf_int_mk underlying3 (Cy h)
theorem SW(k:Int):WideAt.IsKeyLit (.int i64 k):=by simp[WideAt.IsKeyLit]
theorem Mf(h:j≠k):Lit.int i64 j≠Lit.int i64 k:=by
 grind
theorem GQ{k:TypeId}(h:w.ownsMap P k R b n D)(f:Maps.size D<=n'):w.ownsMap P k R b n' D:=by
 obtain⟨es,d,e,F,_,rfl⟩:=h;refine⟨es,d,e,F,?_,rfl⟩
 simpa [Maps.size,DB]using f
theorem Ot{k:TypeId}(h:w.ownsMap P k R b n D):Maps.size D<=n:=by
 obtain⟨es,d,f,F,e,rfl⟩:=h
 simpa [Maps.size,DB]using e
def J8 (M:Int->Option Value)(k:Int)(x:Option Value):Int->Option Value:=fun j=>if j=k then x else M j
theorem Ih(M:Int->Option Value)(k:Int)(x:Option Value):J8 M k x k=x:=Ab rfl
theorem Hw(M:Int->Option Value)(x:Option Value)(h:j≠k):J8 M k x j=M j:=Aa h
def IMap (w:World)(bm n:Nat)(M:Int->Option Value):Prop:=∃D:DataW Value,w.ownsMap prog 3 V7 bm n D/\(∀k:Int,Maps.has D (.int i64 k)=(M k).isSome)/\∀(k:Int) x,M k=some x->∀z,D.atKey (.int i64 k) z=.held x
theorem IMap.same(h:IMap w bm n M)(e:w'.heap[bm]?=w.heap[bm]?):IMap w' bm n M:=by
 obtain⟨D,⟨es,d,l,F,m,f⟩,r⟩:=h;exact⟨D,⟨es,d,by rw[e];exact l,F,m,f⟩,r⟩
theorem IMap.lt(h:IMap w bm n M):bm<w.heap.size:=by
 obtain⟨D,h,_⟩:=h;exact CQ h
theorem IMap.kept(h:IMap w bm n M)(d:Kept S w w')(e:bm∉S):IMap w' bm n M:=h.same (d.block bm h.lt e)
theorem IMap.mono(h:IMap w bm n M)(d:n<=n'):IMap w bm n' M:=by
 obtain⟨D,h,r⟩:=h;exact⟨D,GQ h (Ak (Ot h) d),r⟩
theorem IMap.congr{d:Int->Option Value}(h:IMap w bm n M)(e:∀k,d k=M k):IMap w bm n d:=by
 rw[show d=M from funext e];exact h
theorem IMap.cells(h:IMap w bm n M){cur:List Value}(e:At w bm T cur):False:=by
 obtain⟨D,⟨es,d,f,_⟩,_⟩:=h;unfold At at e;rw[e]at f
 cases f
theorem IMap.XT(w:World):IMap (w.alloc (.map #[] 0)) w.heap.size 0 (fun _=>none):=
 ⟨.map [],GQ (C9 w _ _ _) (by simp[Maps.size]),fun _=>rfl,fun _ _ d=>absurd d (by simp)⟩
theorem IMap.TX(h:IMap w bm n M)(l:Gb k){mt vt:TypeId}(o:prog.underlying mt=some (.map 3 vt)){zv:Value}(q:(zeroValue vt).run prog w=.ok zv w){x:Value}{b:Bool}(p:(M k).getD zv=x)(z:(M k).isSome=b)(c:Bool):
 (Instr.lookup mt (.map (some bm)) (.int i64 k) c).run prog w=.ok (if c then .tuple #[x,.bool b] else x) w:=by
 obtain⟨D,m,u,A⟩:=h;have t:D.atKey (.int i64 k) (.held zv)=.held x:=by
  cases f:M k with
  | none=>
   rw[f]at p;rw[atKey_of_not_has (by rw[u k,f];rfl)];rw[<-p];rfl
  | some y=>
   grind
 cases c with
 | true=>
  obtain⟨v,ps,d,e⟩:=m.look_ok Tryz.Vi o q (zd:=.held zv) (zp:=[]) rfl (Agn l);have r:=V8 e
  grind
 | false=>
  obtain⟨v,ps,d,e⟩:=m.lookup Tryz.Vi o q (zd:=.held zv) (zp:=[]) rfl (Agn l);have r:=V8 e
  grind
theorem Mb(h:w.grownBy w' (some g)):Kept [g] w w':=⟨h.os,h.tape,h.output,h.size,fun k d f=>h.block k d (fun e=>f (by grind))⟩
theorem IMap.put{w:World}{bm n:Nat}{M:Int->Option Value}(h:IMap w bm n M)(t:n<maxLen){k:Int}(r:Gb k){mt vt:TypeId}(v:prog.underlying mt=some (.map 3 vt))(x:Value)(n':Nat)(u:n+(if (M k).isSome then 0 else 1)<=n'):
 ∃w',(Instr.mapUpdate mt (.map (some bm)) (.int i64 k) x).run prog w=.ok () w'/\IMap w' bm n' (J8 M k (some x))/\Kept [bm] w w':=by
 obtain⟨D,f,o,A⟩:=h;obtain⟨w',l,p,q⟩:=f.update Tryz.Vi v t (Agn r) (show V7 x=some (.held x,[])from rfl);refine⟨w',l,?_,Mb q⟩;have m:Maps.size (D.put (.int i64 k) (.held x))<=n':=by
  have:=Ot f;rw[size_put (f.tidy Tryz.Vi),o k]
  grind
 refine⟨_,GQ p m,fun j=>?_,fun j y d z=>?_⟩
 ·by_cases e:j=k
  ·subst e;rw[has_put_same f.isMap (SW _),Ih];rfl
  ·rw[has_put_other (Mf e),Hw M _ e];exact o j
 ·by_cases e:j=k
  ·subst e;rw[Ih]at d;have d:=AX d;rw[atKey_put_same f.isMap (SW _),d]
  ·rw[Hw M _ e]at d;rw[atKey_put_other (Mf e)];exact A j y d z
theorem IMap.del{w:World}{bm n:Nat}{M:Int->Option Value}(h:IMap w bm n M){k:Int}(r:Gb k){mt vt:TypeId}(t:prog.underlying mt=some (.map 3 vt))(ty:TypeId):
 ∃w',(Builtin.delete_ #[mt,3] ty #[.map (some bm),.int i64 k]).run prog w=.ok (.tuple #[]) w'/\IMap w' bm n (J8 M k none)/\Kept [bm] w w':=by
 obtain⟨D,l,q,u⟩:=h;obtain⟨w',d,o,p⟩:=l.drop Tryz.Vi t (Agn r) ty;refine⟨w',d,?_,Mb p.grown⟩;have m:Maps.size (D.del (.int i64 k))<=n:=by
  have:=Ot l;have v:=size_del (k:=.int i64 k) (l.tidy Tryz.Vi);omega
 refine⟨_,GQ o m,fun j=>?_,fun j y f z=>?_⟩
 ·by_cases e:j=k
  ·subst e;rw[has_del_same,Ih];rfl
  ·rw[has_del_other (Mf e),Hw M _ e];exact q j
 ·by_cases e:j=k
  ·subst e;rw[Ih]at f
   cases f
  ·rw[Hw M _ e]at f;rw[atKey_del_other (Mf e)];exact u j y f z
theorem At.ty{U:TypeId}{c d:List Value}(h:At w b T c)(g:At w b U d):T=U:=by
 unfold At at h g
 grind
structure CoN where
 bu:Nat
 ga:Option Addr
 gc:Nat
 ub:Int->Nat
 mb:Int->Nat
def Fa (b:Nat):Value:=pointer (some ⟨b,0,none⟩)
def LnM.cells(ub:Int->Nat)(l:LnM):List Value:=[Fa (ub l.who),int i64 (l.turn:Int)]
def Zab (ub:Int->Nat)(ls:List LnM):List Value:=ls.flatMap (LnM.cells ub)
def usV (N:CoN)(m:CoM):Int->Option Value:=fun k=>(m.per k).map fun _=>Fa (N.ub k)
def opV (who:Int)(ls:List LnM):Int->Option Value:=fun g=>if 1<=g/\g<=(ls.length:Int)/\(ls.getD (g.toNat-1) .zero).who=who/\(ls.getD (g.toNat-1) .zero).shut=false then some (int i64 (((ls.getD (g.toNat-1) .zero).bytes-(ls.getD (g.toNat-1) .zero).used:Nat):Int)) else none
def Gp (N:CoN)(m:CoM)(k:Int)(p:PrM):List Value:=[int i64 (m.left k p:Nat),int i64 (m.It k:Nat),int i64 (m.KS k:Nat),int i64 (p.st:Nat),int i64 (p.cell:Nat),.map (some (N.mb k))]
structure PCore(w:World)(c:Nat)(N:CoN)(m:CoM)(n:Nat):Prop where
 hd:At w c 64 [int i64 (m.unit:Int),.map (some N.bu),slice N.ga m.loans.length N.gc]
 us:IMap w N.bu n (usV N m)
 ur:∀k p,m.per k=some p->At w (N.ub k) 162 (Gp N m k p)
 op:∀k p,m.per k=some p->IMap w (N.mb k) n (opV k m.loans)
 gr:w.ownsRow 0 310 2 (slice N.ga m.loans.length N.gc) m.loans.length (Zab N.ub m.loans)
 ui:∀j k p q,m.per j=some p->m.per k=some q->N.ub j=N.ub k->j=k
 mi:∀j k p q,m.per j=some p->m.per k=some q->N.mb j=N.mb k->j=k
 mn:∀k p,m.per k=some p->N.mb k≠N.bu
 ok:m.Ok n
theorem JC(ub:Int->Nat)(ls:List LnM):(Zab ub ls).length=ls.length*2:=by
 induction ls with
 | nil=>rfl
 | cons x ls ih=>
  have e:Zab ub (x::ls)=x.cells ub++Zab ub ls:=rfl;rw[e,Ai,ih,AE]
  show 2+_=_;omega
theorem Y6(ub:Int->Nat)(l r:List LnM):Zab ub (l++r)=Zab ub l++Zab ub r:=by simp[Zab]
theorem Kf(ub:Int->Nat):∀(ls:List LnM) (i k:Nat),i<ls.length->k<2->(Zab ub ls)[i*2+k]?=((ls.getD i .zero).cells ub)[k]?
 | [],i,_,h,_=>by simp at h
 | x::l,0,k,_,hk=>by
  have e:Zab ub (x::l)=x.cells ub++Zab ub l:=rfl;rw[e,BB (by show 0*2+k<2;omega)];simp
 | x::l,i+1,k,h,hk=>by
  have e:Zab ub (x::l)=x.cells ub++Zab ub l:=rfl;have f:=Kf ub l i k (by simpa using h) hk;have d:(x.cells ub).length=2:=rfl
  grind
theorem Va{e:Int->Nat}{ls d:List LnM}(f:d.length=ls.length)(h:∀i,i<ls.length->(d.getD i .zero).cells e=(ls.getD i .zero).cells ub):Zab e d=Zab ub ls:=by
 refine Bf fun t=>?_
 by_cases ht:t<ls.length*2
 ·have e1:=Kf e d (t / 2) (t % 2) (by omega) (by omega)
  grind [Kf]
 grind [JC]
theorem Y7{ls:List LnM}{x:LnM}(hi:i<ls.length)(f:x.who=(ls.getD i .zero).who):(Zab ub ls).set (i*2+1) (int i64 (x.turn:Int))=Zab ub (ls.set i x):=by
 refine Bf fun t=>?_
 rw[BW,JC]
 by_cases ht:t<ls.length*2
 ·have e1:=Kf ub (ls.set i x) (t / 2) (t % 2) (by rw[An];omega) (by omega);have e2:=Kf ub ls (t / 2) (t % 2) (by omega) (by omega);rw[show t / 2*2+t % 2=t by omega]at e1 e2;rw[e1,e2]
  by_cases e:t / 2=i
  ·have e3:(ls.set i x).getD (t / 2) .zero=x:=by grind
   rw[e3,e]
   rcases (show t=i*2\/t=i*2+1 by omega)with d | d
   ·rw[Aa (by omega),show t % 2=0 by omega]
    show some (Fa (ub _))=some (Fa (ub _));rw[f]
   ·rw[Ab (by omega),Ab (by omega),show t % 2=1 by omega];rfl
  grind
 grind [JC]
def coF (c:Nat)(N:CoN)(m:CoM):List Nat:=c::N.bu::((N.ga.map (·.block)).toList++(List.range 17).flatMap fun k:Nat=>if (m.per (k:Int)).isSome then [N.ub (k:Int),N.mb (k:Int)] else [])
theorem Xk{N:CoN}{m:CoM}{x:Nat}(h:x∈coF c N m):x=c\/x=N.bu\/(∃y,N.ga=some y/\x=y.block)\/∃(k:Int) (p:PrM),m.per k=some p/\(x=N.ub k\/x=N.mb k):=by
 unfold coF at h;rw[Ar,Ar,BH,Ce]at h
 rcases h with h | h | h | ⟨k,_,h⟩
 ·exact .inl h
 ·exact .inr (.inl h)
 ·cases hg:N.ga with
  | none=>rw[hg]at h;simp at h
  | some y=>grind
 ·split at h
  ·rename_i d;obtain⟨p,e⟩:=Option.isSome_iff_exists.1 d
   grind
  ·simp at h
theorem AiB(c:Nat)(N:CoN)(m:CoM):c∈coF c N m:=AL
theorem AiA(c:Nat)(N:CoN)(m:CoM):N.bu∈coF c N m:=AU _ AL
theorem Aey{N:CoN}{m:CoM}(h:N.ga=some y):y.block∈coF c N m:=by grind [coF]
theorem N5{N:CoN}{m:CoM}{p:PrM}(d:m.Ok n)(h:m.per k=some p):N.ub k∈coF c N m/\N.mb k∈coF c N m:=by
 obtain⟨e,f,_⟩:=d.pr k p h;have key:∀x,x=N.ub k\/x=N.mb k->x∈coF c N m:=fun x l=>by
  refine AU _ (AU _ (DH _ (Ce.2 ⟨k.toNat,Bv.2 (by omega),?_⟩)))
  grind
 grind
theorem PCore.PQ{N:CoN}{m:CoM}(h:PCore w c N m n)(d:N.ga=some y):∃cur,y=⟨y.block,0,none⟩/\At w y.block 310 cur:=by
 obtain⟨a',c',e,_,_,l⟩:=Fg h.gr;simp only[Aq]at e;obtain⟨rfl, -,rfl⟩:=e;obtain⟨g,rfl,o⟩:=l y d;have:=h.gr;rw[d]at this;obtain⟨cur,f,_⟩:=F9 this;exact⟨cur,rfl,f⟩
theorem PCore.lt{w:World}{c:Nat}{N:CoN}{m:CoM}{n:Nat}(h:PCore w c N m n):∀x∈coF c N m,x<w.heap.size:=fun x f=>by
 rcases Xk f with rfl | rfl | ⟨y,l,rfl⟩ | ⟨k,p,d,rfl | rfl⟩
 ·exact h.hd.lt
 ·exact h.us.lt
 ·obtain⟨cur, -,e⟩:=h.PQ l;exact e.lt
 ·exact(h.ur k p d).lt
 ·exact(h.op k p d).lt
theorem PCore.mono{w:World}{c:Nat}{N:CoN}{m:CoM}{n n':Nat}(h:PCore w c N m n)(d:n<=n'):PCore w c N m n':=
 ⟨h.hd,h.us.mono d,h.ur,fun k p e=>(h.op k p e).mono d,h.gr,h.ui,h.mi,h.mn,h.ok.mono d⟩
theorem PCore.kept{w w':World}{c:Nat}{N:CoN}{m:CoM}{n:Nat}{T:List Nat}(h:PCore w c N m n)(d:Kept T w w')(hd:∀x∈coF c N m,x∉T):PCore w' c N m n:=by
 refine⟨h.hd.kept d (hd _ (AiB _ _ _)),h.us.kept d (hd _ (AiA _ _ _)),fun k p e=>(h.ur k p e).kept d (hd _ (N5 h.ok e).1),fun k p e=>(h.op k p e).kept d (hd _ (N5 h.ok e).2),FY h.gr d (fun g hg=>?_),h.ui,h.mi,h.mn,h.ok⟩
 cases f:N.ga with
 | none=>rw[f]at hg;simp[Value.ownBlock]at hg
 | some y=>
  obtain⟨cur,l, -⟩:=h.PQ f;rw[f,l]at hg;simp[Value.ownBlock]at hg;rw[<-hg];exact hd _ (Aey f)
theorem PCore.RX{N:CoN}{m:CoM}(h:PCore w c N m n):N.bu≠c/\(∀y,N.ga=some y->y.block≠c/\y.block≠N.bu)/\∀k p,m.per k=some p->N.ub k≠c/\N.ub k≠N.bu/\N.mb k≠c/\N.mb k≠N.bu/\(∀y,N.ga=some y->N.ub k≠y.block/\N.mb k≠y.block)/\∀j q,m.per j=some q->N.ub k≠N.mb j:=by
 refine⟨fun e=>?_,fun y l=>?_,fun k p f=>⟨fun e=>?_,fun e=>?_,fun e=>?_,h.mn k p f,fun y l=>?_,fun j q o e=>?_⟩⟩
 ·have:=h.us;rw[e]at this;exact this.cells h.hd
 ·obtain⟨cur, -,d⟩:=h.PQ l;refine⟨fun e=>?_,fun e=>?_⟩
  ·rw[e]at d;exact absurd (d.ty h.hd) (by decide)
  ·rw[e]at d;exact h.us.cells d
 ·have:=h.ur k p f;rw[e]at this;exact absurd (this.ty h.hd) (by decide)
 ·have:=h.ur k p f;rw[e]at this;exact h.us.cells this
 ·have:=h.op k p f;rw[e]at this;exact this.cells h.hd
 ·obtain⟨cur, -,d⟩:=h.PQ l;refine⟨fun e=>?_,fun e=>?_⟩
  ·rw[<-e]at d;exact absurd (d.ty (h.ur k p f)) (by decide)
  ·rw[<-e]at d;exact(h.op k p f).cells d
 ·have:=h.ur k p f;rw[e]at this;exact(h.op j q o).cells this
theorem PCore.next{N N':CoN}{m f:CoM}{p X:PrM}(h:PCore w c N m n)(H:m.per k=some p)(K:Kept S w w')(Q:∀x∈S,x=c\/(∃y,N.ga=some y/\x=y.block)\/x=N.ub k\/x=N.mb k)
 (Y:N'.bu=N.bu) (W:N'.ub=N.ub) (C:∀j,j≠k->N'.mb j=N.mb j) (G:N'.mb k=N.mb k\/w.heap.size<=N'.mb k)
 (V:∀j,f.per j=if j=k then some X else m.per j) (A:∀j,j≠k->f.It j=m.It j/\f.KS j=m.KS j/\opV j f.loans=opV j m.loans)
 (hd:At w' c 64 [int i64 (f.unit:Int),.map (some N'.bu),slice N'.ga f.loans.length N'.gc]) (ur:At w' (N.ub k) 162 (Gp N' f k X)) (op:IMap w' (N'.mb k) n' (opV k f.loans))
 (gr:w'.ownsRow 0 310 2 (slice N'.ga f.loans.length N'.gc) f.loans.length (Zab N'.ub f.loans)) (ok:f.Ok n') (U:n<=n'):PCore w' c N' f n':=by
 obtain⟨a1,a2,O⟩:=h.RX;have v:∀j q,f.per j=some q->j≠k->m.per j=some q:=by grind
 have o:∀j q,f.per j=some q->∃z,m.per j=some z:=by grind
 refine⟨hd,?_,fun j q u=>?_,fun j q u=>?_,gr,fun i j q r hi u e=>?_,fun i j q r hi u e=>?_,fun j q u=>?_,ok⟩
 ·rw[Y];refine((h.us.kept K (fun J=>?_)).mono U).congr fun j=>?_
  ·grind
  ·unfold usV
   grind
 ·rw[W]
  by_cases e:j=k
  ·grind
  ·have d:=v j q u e;have e3:=O j q d;have:Gp N' f j q=Gp N m j q:=by
    unfold Gp CoM.left;rw[(A j e).1,(A j e).2.1,C j e]
   rw[this];refine(h.ur j q d).kept K (fun J=>?_)
   rcases Q _ J with l | ⟨y,L,l⟩ | l | l
   ·exact e3.1 l
   ·exact(e3.2.2.2.2.1 y L).1 l
   ·exact e (h.ui j k q p d H l)
   ·exact e3.2.2.2.2.2 k p H l
 ·by_cases e:j=k
  ·subst e;exact op
  ·have d:=v j q u e;have e3:=O j q d;rw[C j e,(A j e).2.2];refine((h.op j q d).kept K (fun J=>?_)).mono U
   rcases Q _ J with l | ⟨y,L,l⟩ | l | l
   ·exact e3.2.2.1 l
   ·exact(e3.2.2.2.2.1 y L).2 l
   ·grind
   ·exact e (h.mi j k q p d H l)
 ·obtain⟨z,t⟩:=o i q hi;obtain⟨I,d⟩:=o j r u;rw[W]at e;exact h.ui i j z I t d e
 ·obtain⟨z,t⟩:=o i q hi;obtain⟨I,d⟩:=o j r u;have Z:=(h.op i z t).lt;have l2:=(h.op j I d).lt
  by_cases E:i=k
  ·by_cases B:j=k
   ·rw[E,B]
   ·rw[E,C j B]at e
    rcases G with g | g
    ·rw[g]at e;rw[E];exact h.mi k j p I H d e
    ·omega
  ·by_cases B:j=k
   ·rw[B,C i E]at e
    rcases G with g | g
    ·rw[g]at e;rw[B];exact h.mi i k z p t H e
    ·omega
   ·rw[C i E,C j B]at e;exact h.mi i j z I t d e
 ·obtain⟨z,d⟩:=o j q u;have Z:=h.us.lt
  grind
theorem Tn{N N':CoN}{m e:CoM}{p o:PrM}(h:PCore w c N m n)(t:m.per k=some p)(q:N'.bu=N.bu)(u:N'.ub=N.ub)(r:∀j,j≠k->N'.mb j=N.mb j)(l:N'.mb k=N.mb k\/w.heap.size<=N'.mb k)(d:∀j,e.per j=if j=k then some o else m.per j)(f:∀y,N'.ga=some y->N.ga=some y\/w.heap.size<=y.block):Ga w.heap.size (coF c N m) (coF c N' e):=by simp_all[Ga,coF];grind
theorem PCore.head{N:CoN}{m:CoM}(h:PCore w c N m n):w.cell? ⟨c,0,none⟩=some (int i64 (m.unit:Int))/\w.cell? ⟨c,1,none⟩=some (.map (some N.bu))/\w.cell? ⟨c,2,none⟩=some (slice N.ga m.loans.length N.gc):=⟨h.hd.cell 0,h.hd.cell 1,h.hd.cell 2⟩
theorem Px(t:TypeId)(w:World):(Instr.makeMap t none).run prog w=.ok (.map (some w.heap.size)) (w.alloc (.map #[] 0)):=by
 simp[Instr.makeMap]
theorem AfN(u:Nat)(w:World)(m:1<=u)(o:u<=1000000):Calls prog 12 #[int i64 (u:Int)] w fun e w'=>∃c N,e=.returned (.tuple #[Fa c,int i64 0])/\PCore w' c N (.new u) 0/\(∀x∈coF c N (.new u),w.heap.size<=x)/\Below w.heap.size w w':=by
 have h:(w.alloc (.map #[] 0)).heap.size=w.heap.size+1:=Ax _ _
 have l:Hid (PCore ((w.alloc (.map #[] 0)).alloc (.cells #[int i64 (u:Int),.map (some w.heap.size),slice none 0 0] 64)) (w.heap.size+1) ⟨w.heap.size,none,0,fun _=>0,fun _=>0⟩ (.new u) 0):=hid (by
  have f:=Fc (w.alloc (.map #[] 0)) 64 [int i64 (u:Int),.map (some w.heap.size),slice none 0 0];rw[h]at f;refine⟨f,((IMap.XT w).kept (S:=[]) ((Kept.refl _ _).alloc _) (by simp)).congr (fun _=>rfl),?_,?_,Bj _ _ _ _,?_,?_,?_,CoM.Ok.new ⟨m,o⟩⟩
  ·intro k p d;cases d
  ·intro k p d;cases d
  ·intro j k p q d;cases d
  ·intro j k p q d;cases d
  ·intro k p d;cases d)
 have r:=Px 61;clear h;go_enter func12,ntmps12;go_wp2
 go_ret2;refine⟨w.heap.size+1,rfl,_,l.out,fun x t=>?_,((Ad _ w).alloc (Ac _) _).alloc (by simp) _⟩
 rcases Xk t with rfl | rfl | ⟨y,v,rfl⟩ | ⟨k,p,d,_⟩
 ·omega
 ·exact Ac _
 ·cases v
 ·cases d
theorem Tryz.Apb(w:World):(zeroValue 155).run prog w=.ok (pointer none) w:=by kernel_rfl
theorem PCore.find{N:CoN}{m:CoM}(h:PCore w c N m n)(d:Gb k){x:Value}(e:(usV N m k).getD (pointer none)=x):(Instr.lookup 61 (.map (some N.bu)) (int i64 k) false).run prog w=.ok x w:=by
 have:=h.us.TX d underlying61 (Tryz.Apb w) e rfl false
 simpa using this
theorem M7{N:CoN}{m:CoM}(h:PCore w c N m n)(d:Gb k)(f:m.per k=none):Calls prog 122 #[Fa c,int i64 k] w fun e w'=>e=.returned (.tuple #[pointer none,int i64 12])/\w'=w:=by
 have c1:=h.head.2.1;have l:=h.find d (x:=pointer none) (by simp[usV,f]);clear h f d;unfold Fa;go_enter func122,ntmps122;go_wp2
 go_ret2;exact⟨rfl,rfl⟩
theorem M8{N:CoN}{m:CoM}(h:PCore w c N m n){p:PrM}(d:Gb k)(f:m.per k=some p):Calls prog 122 #[Fa c,int i64 k] w fun e w'=>e=.returned (.tuple #[Fa (N.ub k),int i64 0])/\w'=w:=by
 have c1:=h.head.2.1;have l:=h.find d (x:=Fa (N.ub k)) (by simp[usV,f]);clear h f d;generalize N.ub k=b at*;unfold Fa at*;go_enter func122,ntmps122;go_wp2
 go_ret2;exact⟨rfl,rfl⟩
def Jn (K g:Nat):Value:=.func (.func K) #[] #[Fa g]
def Kq (p:PrM):Value:=.agg #[int i64 (p.st:Nat),int i64 (p.cell:Nat)]
theorem Aev(s:Int)(w:World):Calls prog 73 #[int i64 s] w fun e w'=>e=.returned (Jn 124 w.heap.size)/\w'=w.alloc (.cells #[int i64 s] 158):=by
 unfold Jn Fa;go_enter func73,ntmps73;go_wp2;go_ret;exact⟨rfl,rfl⟩
theorem Ach(s:Int)(w:World):Calls prog 177 #[int i64 s] w fun e w'=>e=.returned (Jn 217 w.heap.size)/\w'=w.alloc (.cells #[int i64 s] 158):=by
 unfold Jn Fa;go_enter func177,ntmps177;go_wp2;go_ret;exact⟨rfl,rfl⟩
theorem AfK(s:Int)(w:World):Calls prog 135 #[int i64 s] w fun e w'=>e=.returned (Jn 176 w.heap.size)/\w'=w.alloc (.cells #[int i64 s] 3):=by
 unfold Jn Fa;go_enter func135,ntmps135;go_wp2;go_ret;exact⟨rfl,rfl⟩
def Afd (K g:Nat)(t:PrM->Bool)(w:World):Prop:=∀(w1:World) (p:PrM),Below w.heap.size w w1->Calls prog K #[Kq p,Fa g] w1 fun e w'=>e=.returned (.bool (t p))/\Below w1.heap.size w1 w'
theorem Aet(hg:w.cell? ⟨g,0,none⟩=some (int i64 (s:Int))):Afd 124 g (tIs s) w:=fun w1 p d=>by
 have c0:=d.cell (Aj w _ hg);rw[hg]at c0;have f:g<w1.heap.size:=AI (Aj w _ hg) d.size;have c1:(w1.alloc (.cells #[int i64 (p.st:Nat),int i64 (p.cell:Nat)] 160)).cell? ⟨g,0,none⟩=some (int i64 (s:Int)):=(Dg _ _ _ f).trans c0;have h:Hid (tIs s p=(((p.st:Nat):Int)==(s:Int))):=hid (by unfold tIs;rw[Dr];simp;omega);have e:Below w1.heap.size w1 (w1.alloc (.cells #[int i64 (p.st:Nat),int i64 (p.cell:Nat)] 160)):=(Ad _ w1).alloc (Ac _) _;unfold Kq Fa;generalize tIs s p=B at*;obtain⟨q,st,l⟩:=p;clear c0 hg d;go_enter func124,ntmps124;go_wp2;go_ret;exact⟨by rw[h.out];rfl,e⟩
theorem AbX(hg:w.cell? ⟨g,0,none⟩=some (int i64 (s:Int))):Afd 217 g (RM s) w:=fun w1 p d=>by
 have c0:=d.cell (Aj w _ hg);rw[hg]at c0;have f:g<w1.heap.size:=AI (Aj w _ hg) d.size;have c1:(w1.alloc (.cells #[int i64 (p.st:Nat),int i64 (p.cell:Nat)] 160)).cell? ⟨g,0,none⟩=some (int i64 (s:Int)):=(Dg _ _ _ f).trans c0;have h:Hid (RM s p=(((p.st:Nat):Int) !=(s:Int))):=hid (by unfold RM;rw[Dr];simp;omega);have e:Below w1.heap.size w1 (w1.alloc (.cells #[int i64 (p.st:Nat),int i64 (p.cell:Nat)] 160)):=(Ad _ w1).alloc (Ac _) _;unfold Kq Fa;generalize RM s p=B at*;obtain⟨q,st,l⟩:=p;clear c0 hg d;go_enter func217,ntmps217;go_wp2;go_ret;exact⟨by rw[h.out];rfl,e⟩
theorem Afo{s:Int}(hg:w.cell? ⟨g,0,none⟩=some (int i64 s)):Afd 176 g (tAt s) w:=fun w1 p d=>by
 have c0:=d.cell (Aj w _ hg);rw[hg]at c0;have f:g<w1.heap.size:=AI (Aj w _ hg) d.size;have c1:(w1.alloc (.cells #[int i64 (p.st:Nat),int i64 (p.cell:Nat)] 160)).cell? ⟨g,0,none⟩=some (int i64 s):=(Dg _ _ _ f).trans c0;have h:Hid (tAt s p=((((p.st:Nat):Int)==1) && (((p.cell:Nat):Int)==s))):=hid (by unfold tAt;rw[Dr];simp;omega);have e:Below w1.heap.size w1 (w1.alloc (.cells #[int i64 (p.st:Nat),int i64 (p.cell:Nat)] 160)):=(Ad _ w1).alloc (Ac _) _;unfold Kq Fa;generalize tAt s p=B at*;obtain⟨q,st,l⟩:=p;clear c0 hg d e;go_enter func176,ntmps176;go_wp2
 all_goals
  go_ret;refine⟨?_,(Ad _ w1).alloc (Ac _) _⟩;rw[h.out];simp[*]
theorem PG(z:Rd i64 w a cs)(C:cs.length<=16):Calls prog 123 #[slice a cs.length cc] w fun e w'=>e=.returned (int i64 (if cs.all Gf=true then 0 else 1))/\w'=w:=by
 have A:=hid z;obtain⟨L,p⟩:=E7 cs.length;rw[<-p]at C |-;have m:=hid p;obtain⟨V,q⟩:=E7 (if cs.all Gf=true then 0 else 1:Int);rw[<-q];have o:=hid q;clear z p q;go_enter func123,ntmps123
 go_wp2_with fail
 go_loopw [7] (fun i wr=>∃k:Nat,k<=L/\i=int i64 k/\Hid (∀j,j<k->Gf (cs.getD j 0)=true)/\Hid (wr=w)) (fun i _=>L-(intOf i).toNat)
 case atStart=>exact⟨0,by omega,rfl,hid (fun j v=>by omega),hid rfl⟩
 case round=>
  obtain⟨k,J,rfl,t,r⟩:=hrel;have r:=r.out;subst r
  by_cases d:k<L
  ·obtain⟨b,G,rfl,u⟩:=A.out.at (i:=k) (by rw[<-m.out];exact d);have c0:=u k (by rw[<-m.out];exact d);obtain⟨x,f⟩:=E7 (cs.getD k 0);rw[<-f]at c0;clear u
   by_cases H:x<1
   ·have l:Hid (cs.all Gf=false):=hid (by
     rw[Bool.eq_false_iff];intro h;rw[AM]at h;have:=Jw.1 (h x (by rw[f,Au,Ap (by rw[<-m.out];exact d)];exact A4 _))
     omega)
    clear f
    go_wp2_with fail;go_ret;exact⟨by rw[o.out,l.out];rfl,rfl⟩
   ·by_cases I:100<x
    ·have l:Hid (cs.all Gf=false):=hid (by
      rw[Bool.eq_false_iff];intro h;rw[AM]at h;have:=Jw.1 (h x (by grind))
      omega)
     clear f
     go_wp2_with fail;go_ret;exact⟨by rw[o.out,l.out];rfl,rfl⟩
    ·have B:=hid (show Gf (cs.getD k 0)=true by rw[<-f];exact Jw.2 (by omega));clear f
     go_wp2_with fail;refine⟨⟨k+1,by omega,by go_num,hid (fun j v=>?_),by first | exact hid rfl | exact hid trivial⟩,by simp[intOf];omega⟩
     by_cases e:j=k
     ·subst e;exact B.out
     ·exact t.out j (by omega)
  ·have l:Hid (cs.all Gf=true):=hid (by
    rw[AM];intro x E;obtain⟨j,v,rfl⟩:=List.mem_iff_getElem.1 E;have:=t.out j (by have:=m.out;omega)
    grind)
   go_wp2_with fail;go_ret;exact⟨by rw[o.out,l.out];rfl,rfl⟩
def Gd (N:CoN)(m:CoM)(k:Int)(t:PrM->Bool)(cs:List Int):Value:=if m.Fi k t cs=0 then Fa (N.ub k) else pointer none
theorem Aiv{N:CoN}{m:CoM}{t:PrM->Bool}(h:PCore w c N m n)(H:Gb k)(C:Afd 124 g t w)(G:Rd i64 w a cs)(I:cs.length<=16):
 Calls prog 72 #[Fa c,int i64 k,Jn 124 g,slice a cs.length cc] w fun e w'=>e=.returned (.tuple #[Gd N m k t cs,int i64 (m.Fi k t cs)])/\Below w.heap.size w w':=by
 have z:=PG (cc:=cc) G I
 cases q:m.per k with
 | none=>
  have B:=M7 h H q;have d:m.Fi k t cs=12:=by unfold CoM.Fi;rw[q]
  have o:Gd N m k t cs=pointer none:=by unfold Gd;rw[d];rfl
  have f:=hid d;have l:=hid o;generalize Gd N m k t cs=V at*;generalize m.Fi k t cs=E at*;unfold Fa Jn at*;clear d o C z q h G;go_enter func72,ntmps72
  go_wp2_with(go_at_call 122;refine B.mono ?_;rintro e w1 ⟨rfl,rfl⟩)
  go_ret2;exact⟨by rw[f.out,l.out];rfl,Ad _ _⟩
 | some p=>
  have B:=M8 h H q;have A:=h.ur k p q;have c3:w.cell? ⟨N.ub k,3,none⟩=some (int i64 (p.st:Nat)):=A.cell 3;have c4:w.cell? ⟨N.ub k,4,none⟩=some (int i64 (p.cell:Nat)):=A.cell 4;have r:=C w p (Ad _ _)
  by_cases u:cs.all Gf=true
  ·rw[Ab u]at z
   cases ht:t p with
   | false=>
    have d:m.Fi k t cs=9:=by unfold CoM.Fi;rw[q];simp[u,ht]
    have o:Gd N m k t cs=pointer none:=by unfold Gd;rw[d];rfl
    have f:=hid d;have l:=hid o;rw[ht]at r;generalize Gd N m k t cs=V at*;generalize m.Fi k t cs=E at*;generalize N.ub k=ub at*;unfold Fa Jn Kq at*;clear d o C q h G u A;go_enter func72,ntmps72
    go_wp2_with(first
     | (go_at_call 122;refine B.mono ?_;rintro e w1 ⟨rfl,rfl⟩)
     | (go_at_call 123;refine z.mono ?_;rintro e w1 ⟨rfl,rfl⟩)
     | (go_at_call 124;refine r.mono ?_;rintro e w1 ⟨rfl,v⟩))
    go_ret2;exact⟨by rw[f.out,l.out];rfl,v⟩
   | true=>
    have d:m.Fi k t cs=0:=by unfold CoM.Fi;rw[q];simp[u,ht]
    have o:Gd N m k t cs=Fa (N.ub k):=by unfold Gd;rw[d];rfl
    have f:=hid d;have l:=hid o;rw[ht]at r;generalize Gd N m k t cs=V at*;generalize m.Fi k t cs=E at*;generalize N.ub k=ub at*;unfold Fa Jn Kq at*;clear d o C q h G u A;go_enter func72,ntmps72
    go_wp2_with(first
     | (go_at_call 122;refine B.mono ?_;rintro e w1 ⟨rfl,rfl⟩)
     | (go_at_call 123;refine z.mono ?_;rintro e w1 ⟨rfl,rfl⟩)
     | (go_at_call 124;refine r.mono ?_;rintro e w1 ⟨rfl,v⟩))
    go_ret2;exact⟨by rw[f.out,l.out];rfl,v⟩
  ·rw[Aa u]at z;have d:m.Fi k t cs=1:=by unfold CoM.Fi;rw[q];simp[u]
   have o:Gd N m k t cs=pointer none:=by unfold Gd;rw[d];rfl
   have f:=hid d;have l:=hid o;generalize Gd N m k t cs=V at*;generalize m.Fi k t cs=E at*;generalize N.ub k=ub at*;unfold Fa Jn Kq at*;clear d o C q h G u A r;go_enter func72,ntmps72
   go_wp2_with(first
    | (go_at_call 122;refine B.mono ?_;rintro e w1 ⟨rfl,rfl⟩)
    | (go_at_call 123;refine z.mono ?_;rintro e w1 ⟨rfl,rfl⟩))
   go_ret2;exact⟨by rw[f.out,l.out];rfl,Ad _ _⟩
theorem Ali{N:CoN}{m:CoM}{t:PrM->Bool}(h:PCore w c N m n)(H:Gb k)(C:Afd 217 g t w)(G:Rd i64 w a cs)(I:cs.length<=16):
 Calls prog 72 #[Fa c,int i64 k,Jn 217 g,slice a cs.length cc] w fun e w'=>e=.returned (.tuple #[Gd N m k t cs,int i64 (m.Fi k t cs)])/\Below w.heap.size w w':=by
 have z:=PG (cc:=cc) G I
 cases q:m.per k with
 | none=>
  have B:=M7 h H q;have d:m.Fi k t cs=12:=by unfold CoM.Fi;rw[q]
  have o:Gd N m k t cs=pointer none:=by unfold Gd;rw[d];rfl
  have f:=hid d;have l:=hid o;generalize Gd N m k t cs=V at*;generalize m.Fi k t cs=E at*;unfold Fa Jn at*;clear d o C z q h G;go_enter func72,ntmps72
  go_wp2_with(go_at_call 122;refine B.mono ?_;rintro e w1 ⟨rfl,rfl⟩)
  go_ret2;exact⟨by rw[f.out,l.out];rfl,Ad _ _⟩
 | some p=>
  have B:=M8 h H q;have A:=h.ur k p q;have c3:w.cell? ⟨N.ub k,3,none⟩=some (int i64 (p.st:Nat)):=A.cell 3;have c4:w.cell? ⟨N.ub k,4,none⟩=some (int i64 (p.cell:Nat)):=A.cell 4;have r:=C w p (Ad _ _)
  by_cases u:cs.all Gf=true
  ·rw[Ab u]at z
   cases ht:t p with
   | false=>
    have d:m.Fi k t cs=9:=by unfold CoM.Fi;rw[q];simp[u,ht]
    have o:Gd N m k t cs=pointer none:=by unfold Gd;rw[d];rfl
    have f:=hid d;have l:=hid o;rw[ht]at r;generalize Gd N m k t cs=V at*;generalize m.Fi k t cs=E at*;generalize N.ub k=ub at*;unfold Fa Jn Kq at*;clear d o C q h G u A;go_enter func72,ntmps72
    go_wp2_with(first
     | (go_at_call 122;refine B.mono ?_;rintro e w1 ⟨rfl,rfl⟩)
     | (go_at_call 123;refine z.mono ?_;rintro e w1 ⟨rfl,rfl⟩)
     | (go_at_call 217;refine r.mono ?_;rintro e w1 ⟨rfl,v⟩))
    go_ret2;exact⟨by rw[f.out,l.out];rfl,v⟩
   | true=>
    have d:m.Fi k t cs=0:=by unfold CoM.Fi;rw[q];simp[u,ht]
    have o:Gd N m k t cs=Fa (N.ub k):=by unfold Gd;rw[d];rfl
    have f:=hid d;have l:=hid o;rw[ht]at r;generalize Gd N m k t cs=V at*;generalize m.Fi k t cs=E at*;generalize N.ub k=ub at*;unfold Fa Jn Kq at*;clear d o C q h G u A;go_enter func72,ntmps72
    go_wp2_with(first
     | (go_at_call 122;refine B.mono ?_;rintro e w1 ⟨rfl,rfl⟩)
     | (go_at_call 123;refine z.mono ?_;rintro e w1 ⟨rfl,rfl⟩)
     | (go_at_call 217;refine r.mono ?_;rintro e w1 ⟨rfl,v⟩))
    go_ret2;exact⟨by rw[f.out,l.out];rfl,v⟩
  ·rw[Aa u]at z;have d:m.Fi k t cs=1:=by unfold CoM.Fi;rw[q];simp[u]
   have o:Gd N m k t cs=pointer none:=by unfold Gd;rw[d];rfl
   have f:=hid d;have l:=hid o;generalize Gd N m k t cs=V at*;generalize m.Fi k t cs=E at*;generalize N.ub k=ub at*;unfold Fa Jn Kq at*;clear d o C q h G u A r;go_enter func72,ntmps72
   go_wp2_with(first
    | (go_at_call 122;refine B.mono ?_;rintro e w1 ⟨rfl,rfl⟩)
    | (go_at_call 123;refine z.mono ?_;rintro e w1 ⟨rfl,rfl⟩))
   go_ret2;exact⟨by rw[f.out,l.out];rfl,Ad _ _⟩
theorem Am7{N:CoN}{m:CoM}{t:PrM->Bool}(h:PCore w c N m n)(H:Gb k)(C:Afd 176 g t w)(G:Rd i64 w a cs)(I:cs.length<=16):
 Calls prog 72 #[Fa c,int i64 k,Jn 176 g,slice a cs.length cc] w fun e w'=>e=.returned (.tuple #[Gd N m k t cs,int i64 (m.Fi k t cs)])/\Below w.heap.size w w':=by
 have z:=PG (cc:=cc) G I
 cases q:m.per k with
 | none=>
  have B:=M7 h H q;have d:m.Fi k t cs=12:=by unfold CoM.Fi;rw[q]
  have o:Gd N m k t cs=pointer none:=by unfold Gd;rw[d];rfl
  have f:=hid d;have l:=hid o;generalize Gd N m k t cs=V at*;generalize m.Fi k t cs=E at*;unfold Fa Jn at*;clear d o C z q h G;go_enter func72,ntmps72
  go_wp2_with(go_at_call 122;refine B.mono ?_;rintro e w1 ⟨rfl,rfl⟩)
  go_ret2;exact⟨by rw[f.out,l.out];rfl,Ad _ _⟩
 | some p=>
  have B:=M8 h H q;have A:=h.ur k p q;have c3:w.cell? ⟨N.ub k,3,none⟩=some (int i64 (p.st:Nat)):=A.cell 3;have c4:w.cell? ⟨N.ub k,4,none⟩=some (int i64 (p.cell:Nat)):=A.cell 4;have r:=C w p (Ad _ _)
  by_cases u:cs.all Gf=true
  ·rw[Ab u]at z
   cases ht:t p with
   | false=>
    have d:m.Fi k t cs=9:=by unfold CoM.Fi;rw[q];simp[u,ht]
    have o:Gd N m k t cs=pointer none:=by unfold Gd;rw[d];rfl
    have f:=hid d;have l:=hid o;rw[ht]at r;generalize Gd N m k t cs=V at*;generalize m.Fi k t cs=E at*;generalize N.ub k=ub at*;unfold Fa Jn Kq at*;clear d o C q h G u A;go_enter func72,ntmps72
    go_wp2_with(first
     | (go_at_call 122;refine B.mono ?_;rintro e w1 ⟨rfl,rfl⟩)
     | (go_at_call 123;refine z.mono ?_;rintro e w1 ⟨rfl,rfl⟩)
     | (go_at_call 176;refine r.mono ?_;rintro e w1 ⟨rfl,v⟩))
    go_ret2;exact⟨by rw[f.out,l.out];rfl,v⟩
   | true=>
    have d:m.Fi k t cs=0:=by unfold CoM.Fi;rw[q];simp[u,ht]
    have o:Gd N m k t cs=Fa (N.ub k):=by unfold Gd;rw[d];rfl
    have f:=hid d;have l:=hid o;rw[ht]at r;generalize Gd N m k t cs=V at*;generalize m.Fi k t cs=E at*;generalize N.ub k=ub at*;unfold Fa Jn Kq at*;clear d o C q h G u A;go_enter func72,ntmps72
    go_wp2_with(first
     | (go_at_call 122;refine B.mono ?_;rintro e w1 ⟨rfl,rfl⟩)
     | (go_at_call 123;refine z.mono ?_;rintro e w1 ⟨rfl,rfl⟩)
     | (go_at_call 176;refine r.mono ?_;rintro e w1 ⟨rfl,v⟩))
    go_ret2;exact⟨by rw[f.out,l.out];rfl,v⟩
  ·rw[Aa u]at z;have d:m.Fi k t cs=1:=by unfold CoM.Fi;rw[q];simp[u]
   have o:Gd N m k t cs=pointer none:=by unfold Gd;rw[d];rfl
   have f:=hid d;have l:=hid o;generalize Gd N m k t cs=V at*;generalize m.Fi k t cs=E at*;generalize N.ub k=ub at*;unfold Fa Jn Kq at*;clear d o C q h G u A r;go_enter func72,ntmps72
   go_wp2_with(first
    | (go_at_call 122;refine B.mono ?_;rintro e w1 ⟨rfl,rfl⟩)
    | (go_at_call 123;refine z.mono ?_;rintro e w1 ⟨rfl,rfl⟩))
   go_ret2;exact⟨by rw[f.out,l.out];rfl,Ad _ _⟩
theorem CoM.NV{m:CoM}{t:PrM->Bool}(h:m.Fi k t cs=0):∃p,m.per k=some p/\cs.all Gf=true/\t p=true:=by grind [Gf,CoM.Fi]
theorem CoM.Z8(m:CoM)(k:Int)(t:PrM->Bool)(cs:List Int)(f:PrM->PrM):(m.move k t cs f).err=m.Fi k t cs:=by grind [CoM.move,CoM.Fi,Gf]
theorem CoM.T4{m:CoM}{t:PrM->Bool}{f:PrM->PrM}(h:m.Fi k t cs≠0):(m.move k t cs f).m=m:=by grind [CoM.move,CoM.Fi,Gf]
theorem CoM.Rv{m:CoM}{t:PrM->Bool}{f:PrM->PrM}{p:PrM}(e:m.per k=some p)(d:cs.all Gf=true)(ht:t p=true):(m.move k t cs f).m=m.put k (f p):=by
 unfold CoM.move;rw[e];simp[d,ht]
theorem PCore.place{N:CoN}{m:CoM}{p f:PrM}(h:PCore w c N m n)(o:m.per k=some p)(l:Kept [N.ub k] w w')(t:At w' (N.ub k) 162 (Gp N m k f))(ok:(m.put k f).Ok n):PCore w' c N (m.put k f) n:=by
 obtain⟨z,A,q⟩:=h.RX;obtain⟨b1,B,C,E,G,r⟩:=q k p o;refine h.next o l (fun x v=> .inr (.inr (.inl (by simpa using v)))) rfl rfl (fun _ _=>rfl) (.inl rfl) (fun j=>rfl) (fun j _=>⟨rfl,rfl,rfl⟩) (h.hd.kept l (by simpa using fun e=>b1 e.symm)) ?_ ((h.op k p o).kept l (by simpa using fun e=>r k p o e.symm)) (FY h.gr l (fun g hg=>?_)) ok (Ac _)
 ·have:Gp N (m.put k f) k f=Gp N m k f:=rfl;rw[this];exact t
 ·cases d:N.ga with
  | none=>rw[d]at hg;simp[Value.ownBlock]at hg
  | some y=>
   obtain⟨cur,u, -⟩:=h.PQ d;rw[d,u]at hg;simp[Value.ownBlock]at hg
   grind
def Iu (w:World)(c:Nat)(N:CoN)(r:CoR)(n:Nat)(F:List Nat):Ending->World->Prop:=fun e w'=>e=.returned (int i64 r.err)/\PCore w' c N r.m n/\Kept F w w'
theorem AnM(w:World)(T:TypeId)(x:Int):Rd i64 (w.alloc (.cells #[int i64 x] T)) (some ⟨w.heap.size,0,none⟩) [x]:=AaQ (zs:=[x]) (Am w (.cells #[int i64 x] T))
theorem AnN(w:World)(T:TypeId)(x y:Int):Rd i64 (w.alloc (.cells #[int i64 x,int i64 y] T)) (some ⟨w.heap.size,0,none⟩) [x,y]:=AaQ (zs:=[x,y]) (Am w (.cells #[int i64 x,int i64 y] T))
theorem ON(w:World)(T:TypeId)(x:Int):(w.alloc (.cells #[int i64 x] T)).cell? ⟨w.heap.size,0,none⟩=some (int i64 x):=(Fc w T [int i64 x]).cell 0
structure UsC(w:World)(b:Nat):Prop where
 c3:∃v,w.cell? ⟨b,3,none⟩=some v
 c4:∃v,w.cell? ⟨b,4,none⟩=some v
 f3:w.frozen? ⟨b,3,none⟩=false
 f4:w.frozen? ⟨b,4,none⟩=false
theorem UsC.of{N:CoN}{m:CoM}{p:PrM}(h:At w b T (Gp N m k p)):UsC w b:=⟨⟨_,h.cell 3⟩,⟨_,h.cell 4⟩,h.free 3,h.free 4⟩
theorem Y2{N:CoN}{m:CoM}(x:Int)(h:PCore w c N m n)(X:Gb k):Calls prog 35 #[Fa c,int i64 k,int i64 x] w (Iu w c N (m.FV k x) n (coF c N m)):=by
 have hi:=Aev 0 w;have Q:(w.alloc (.cells #[int i64 0] 158)).heap.size=w.heap.size+1:=Ax _ _;have q:Below w.heap.size w ((w.alloc (.cells #[int i64 0] 158)).alloc (.cells #[int i64 x] 3)):=((Ad _ w).alloc (Ac _) _).alloc (by simp) _;have J:Rd i64 ((w.alloc (.cells #[int i64 0] 158)).alloc (.cells #[int i64 x] 3)) (some ⟨w.heap.size+1,0,none⟩) [x]:=by
  have:=AnM (w.alloc (.cells #[int i64 0] 158)) 3 x
  rwa [Q]at this
 have t:((w.alloc (.cells #[int i64 0] 158)).alloc (.cells #[int i64 x] 3)).cell? ⟨w.heap.size,0,none⟩=some (int i64 ((0:Nat):Int)):=(Dg _ _ _ (by rw[Q];omega)).trans (ON w _ 0);have I:=h.kept (Kept.E5 (S:=[]) q) (by simp);have C:=Aiv (cc:=1) I X (Aet (s:=0) t) J (by simp);have G:(m.FV k x).err=m.Fi k (tIs 0) [x]:=CoM.Z8 _ _ _ _ _
 by_cases r:m.Fi k (tIs 0) [x]=0
 ·obtain⟨p,z,u,ht⟩:=CoM.NV r;have A:Gd N m k (tIs 0) [x]=Fa (N.ub k):=by unfold Gd;rw[Ab r]
  have hx:=Jw.1 (show Gf x=true by simpa using u);have v:=h.ok.FV k x;have l:(m.FV k x).m=m.put k ⟨p.quota,1,x.toNat⟩:=CoM.Rv z u ht;rw[A,r]at C;have H:Hid (∀f,Below ((w.alloc (.cells #[int i64 0] 158)).alloc (.cells #[int i64 x] 3)).heap.size ((w.alloc (.cells #[int i64 0] 158)).alloc (.cells #[int i64 x] 3)) f->UsC f (N.ub k)/\Iu w c N (m.FV k x) n (coF c N m) (.returned (int i64 0)) ((f.setCell ⟨N.ub k,3,none⟩ (int i64 1)).setCell ⟨N.ub k,4,none⟩ (int i64 x))):=hid fun f d=>by
   have O:=Fr q d;have K:=h.kept (Kept.E5 (S:=[]) O) (by simp);have L:=K.ur k p z;refine⟨UsC.of L,by rw[G,r],?_,?_⟩
   ·rw[l]at v |-;refine K.place z (((Kept.refl _ f).setCell (by simp) _).setCell (by simp) _) ?_ v;have:=((L.setCell (o:=3) (int i64 1)).setCell (o:=4) (int i64 x));have e:x=((x.toNat:Nat):Int):=by omega
    rw[show Gp N m k ⟨p.quota,1,x.toNat⟩=(((Gp N m k p).set 3 (int i64 1)).set 4 (int i64 x))by
     conv=>rhs;rw[e]
     rfl]
    exact this
   ·exact(((Kept.E5 O).setCell (N5 h.ok z).1 _).setCell (N5 h.ok z).1 _)
  generalize Iu w c N (m.FV k x) n (coF c N m)=P at*;generalize N.ub k=ub at*;clear h I J t G r z u ht A v l;unfold Fa Jn at*;go_enter func35,ntmps35
  go_wp2_with(first
   | (go_at_call 73;refine hi.mono ?_;rintro e w1 ⟨rfl,rfl⟩)
   | (go_at_call 72;refine C.mono ?_;rintro e f ⟨rfl,d⟩;obtain⟨B,W⟩:=H.out f d;have U:=B.c3;have V:=B.c4;have f3:=B.f3;have f4:=B.f4;obtain⟨Y,U⟩:=U;obtain⟨Z,V⟩:=V))
  exact W
 ·have A:Gd N m k (tIs 0) [x]=pointer none:=by unfold Gd;rw[Aa r]
  have l:(m.FV k x).m=m:=CoM.T4 r;rw[A]at C;have H:Hid (∀f,Below ((w.alloc (.cells #[int i64 0] 158)).alloc (.cells #[int i64 x] 3)).heap.size ((w.alloc (.cells #[int i64 0] 158)).alloc (.cells #[int i64 x] 3)) f->Iu w c N (m.FV k x) n (coF c N m) (.returned (int i64 (m.Fi k (tIs 0) [x]))) f):=hid fun f d=>by
   refine⟨by rw[G],?_,Kept.E5 (Fr q d)⟩;rw[l];exact h.kept (Kept.E5 (S:=[]) (Fr q d)) (by simp)
  generalize Iu w c N (m.FV k x) n (coF c N m)=P at*;generalize m.Fi k (tIs 0) [x]=E at*;clear h I J t G A l;unfold Fa Jn at*;go_enter func35,ntmps35
  go_wp2_with(first
   | (go_at_call 73;refine hi.mono ?_;rintro e w1 ⟨rfl,rfl⟩)
   | (go_at_call 72;refine C.mono ?_;rintro e f ⟨rfl,d⟩))
  exact H.out f d
theorem AfH{N:CoN}{m:CoM}(a:Int)(b:Int)(h:PCore w c N m n)(X:Gb k):Calls prog 81 #[Fa c,int i64 k,int i64 a,int i64 b] w (Iu w c N (m.hand k a b) n (coF c N m)):=by
 have hi:=AfK a w;have Q:(w.alloc (.cells #[int i64 a] 3)).heap.size=w.heap.size+1:=Ax _ _;have q:Below w.heap.size w ((w.alloc (.cells #[int i64 a] 3)).alloc (.cells #[int i64 a,int i64 b] 3)):=((Ad _ w).alloc (Ac _) _).alloc (by simp) _;have J:Rd i64 ((w.alloc (.cells #[int i64 a] 3)).alloc (.cells #[int i64 a,int i64 b] 3)) (some ⟨w.heap.size+1,0,none⟩) [a,b]:=by
  have:=AnN (w.alloc (.cells #[int i64 a] 3)) 3 a b
  rwa [Q]at this
 have t:((w.alloc (.cells #[int i64 a] 3)).alloc (.cells #[int i64 a,int i64 b] 3)).cell? ⟨w.heap.size,0,none⟩=some (int i64 a):=(Dg _ _ _ (by rw[Q];omega)).trans (ON w _ a);have I:=h.kept (Kept.E5 (S:=[]) q) (by simp);have C:=Am7 (cc:=2) I X (Afo t) J (by simp);have G:(m.hand k a b).err=m.Fi k (tAt a) [a,b]:=CoM.Z8 _ _ _ _ _
 by_cases r:m.Fi k (tAt a) [a,b]=0
 ·obtain⟨p,A,u,ht⟩:=CoM.NV r;have z:Gd N m k (tAt a) [a,b]=Fa (N.ub k):=by unfold Gd;rw[Ab r]
  have hx:=Jw.1 (show Gf b=true from(show Gf a=true/\Gf b=true by simpa using u).2);have v:=h.ok.hand k a b;have l:(m.hand k a b).m=m.put k ⟨p.quota,p.st,b.toNat⟩:=CoM.Rv A u ht;rw[z,r]at C;have H:Hid (∀f,Below ((w.alloc (.cells #[int i64 a] 3)).alloc (.cells #[int i64 a,int i64 b] 3)).heap.size ((w.alloc (.cells #[int i64 a] 3)).alloc (.cells #[int i64 a,int i64 b] 3)) f->UsC f (N.ub k)/\Iu w c N (m.hand k a b) n (coF c N m) (.returned (int i64 0)) (f.setCell ⟨N.ub k,4,none⟩ (int i64 b))):=hid fun f d=>by
   have O:=Fr q d;have K:=h.kept (Kept.E5 (S:=[]) O) (by simp);have L:=K.ur k p A;refine⟨UsC.of L,by rw[G,r],?_,?_⟩
   ·rw[l]at v |-;refine K.place A ((Kept.refl _ f).setCell (by simp) _) ?_ v;have:=(L.setCell (o:=4) (int i64 b));have e:b=((b.toNat:Nat):Int):=by omega
    rw[show Gp N m k ⟨p.quota,p.st,b.toNat⟩=((Gp N m k p).set 4 (int i64 b))by
     conv=>rhs;rw[e]
     rfl]
    exact this
   ·exact((Kept.E5 O).setCell (N5 h.ok A).1 _)
  generalize Iu w c N (m.hand k a b) n (coF c N m)=P at*;generalize N.ub k=ub at*;clear h I J t G r A u ht z v l;unfold Fa Jn at*;go_enter func81,ntmps81
  go_wp2_with(first
   | (go_at_call 135;refine hi.mono ?_;rintro e w1 ⟨rfl,rfl⟩)
   | (go_at_call 72;refine C.mono ?_;rintro e f ⟨rfl,d⟩;obtain⟨B,W⟩:=H.out f d;have U:=B.c3;have V:=B.c4;have f3:=B.f3;have f4:=B.f4;obtain⟨Y,U⟩:=U;obtain⟨Z,V⟩:=V))
  exact W
 ·have z:Gd N m k (tAt a) [a,b]=pointer none:=by unfold Gd;rw[Aa r]
  have l:(m.hand k a b).m=m:=CoM.T4 r;rw[z]at C;have H:Hid (∀f,Below ((w.alloc (.cells #[int i64 a] 3)).alloc (.cells #[int i64 a,int i64 b] 3)).heap.size ((w.alloc (.cells #[int i64 a] 3)).alloc (.cells #[int i64 a,int i64 b] 3)) f->Iu w c N (m.hand k a b) n (coF c N m) (.returned (int i64 (m.Fi k (tAt a) [a,b]))) f):=hid fun f d=>by
   refine⟨by rw[G],?_,Kept.E5 (Fr q d)⟩;rw[l];exact h.kept (Kept.E5 (S:=[]) (Fr q d)) (by simp)
  generalize Iu w c N (m.hand k a b) n (coF c N m)=P at*;generalize m.Fi k (tAt a) [a,b]=E at*;clear h I J t G z l;unfold Fa Jn at*;go_enter func81,ntmps81
  go_wp2_with(first
   | (go_at_call 135;refine hi.mono ?_;rintro e w1 ⟨rfl,rfl⟩)
   | (go_at_call 72;refine C.mono ?_;rintro e f ⟨rfl,d⟩))
  exact H.out f d
theorem Tryz.YI(w:World):(zeroValue 3).run prog w=.ok (int i64 0) w:=by kernel_rfl
def GD (N:CoN)(k:Int)(s:Nat):CoN:=⟨N.bu,N.ga,N.gc,fun j=>if j=k then s+1 else N.ub j,fun j=>if j=k then s else N.mb j⟩
theorem AjB{ls:List LnM}(h:∀l∈ls,l.who≠k)(g:Int):opV k ls g=none:=by grind [opV]
theorem V2{ls:List LnM}(h:i<ls.length):ls.getD i .zero∈ls:=by grind
theorem PCore.AoD{N:CoN}{m:CoM}{q:Int}(h:PCore w c N m n)(W:m.per k=none)(Y:1<=k/\k<=16)(hq:0<=q/\q<=1000000000)
 (L:IMap w' N.bu (n+1) (J8 (usV N m) k (some (Fa (w.heap.size+1))))) (H:Kept [N.bu] ((w.alloc (.map #[] 0)).alloc (.cells #[int i64 q,int i64 0,int i64 0,int i64 0,int i64 0,.map (some w.heap.size)] 162)) w'):
 PCore w' c (GD N k w.heap.size) (m.put k ⟨q.toNat,0,0⟩) (n+1)/\Ga w.heap.size (coF c N m) (coF c (GD N k w.heap.size) (m.put k ⟨q.toNat,0,0⟩))/\Kept (coF c N m) w w':=by
 obtain⟨J,a2,I⟩:=h.RX;have z:=h.ok.fresh W;have X:(w.alloc (.map #[] 0)).heap.size=w.heap.size+1:=Ax _ _;have E:Kept [N.bu] w w':=(((Kept.refl _ w).alloc _).alloc _).trans H;have C:∀j p,m.per j=some p->j≠k:=by grind
 have f:∀j p,(m.put k ⟨q.toNat,0,0⟩).per j=some p->j≠k->m.per j=some p:=fun j p t e=>by rw[CoM.Nq,Aa e]at t;exact t
 have Q:=h.us.lt;have B:=Fc (w.alloc (.map #[] 0)) 162 [int i64 q,int i64 0,int i64 0,int i64 0,int i64 0,.map (some w.heap.size)];rw[X]at B;have K:=B.kept H (by simp;omega);have O:IMap w' w.heap.size 0 (fun _=>none):=((IMap.XT w).kept (S:=[]) ((Kept.refl _ _).alloc _) (by simp)).kept H (by simp;omega);refine⟨⟨h.hd.kept E (by simpa using fun e=>J e.symm),?_,fun j p t=>?_,fun j p t=>?_,?_,fun i j p r hi t e=>?_,fun i j p r hi t e=>?_,fun j p t=>?_,?_⟩,fun x Z=>?_,E.Fn (by simpa using AiA _ _ _)⟩
 ·refine L.congr fun j=>?_
  unfold usV J8 GD;rw[CoM.Nq]
  grind
 ·by_cases e:j=k
  ·subst e;rw[CoM.Nq,Ab rfl]at t
   injection t with t
   subst t;have e1:(GD N j w.heap.size).ub j=w.heap.size+1:=Ab rfl;have e2:(GD N j w.heap.size).mb j=w.heap.size:=Ab rfl;rw[e1];have:Gp (GD N j w.heap.size) (m.put j ⟨q.toNat,0,0⟩) j ⟨q.toNat,0,0⟩=[int i64 q,int i64 0,int i64 0,int i64 0,int i64 0,.map (some w.heap.size)]:=by
    unfold Gp CoM.left;rw[e2,(CoM.AaO m j j _).1,(CoM.AaO m j j _).2,z.1,z.2]
    grind
   rw[this];exact K
  ·have d:=f j p t e;have e1:(GD N k w.heap.size).ub j=N.ub j:=Aa e;have e2:(GD N k w.heap.size).mb j=N.mb j:=Aa e;have:Gp (GD N k w.heap.size) (m.put k ⟨q.toNat,0,0⟩) j p=Gp N m j p:=by
    unfold Gp;rw[e2];rfl
   rw[e1,this];exact(h.ur j p d).kept E (by simpa using (I j p d).2.1)
 ·by_cases e:j=k
  ·subst e;have e2:(GD N j w.heap.size).mb j=w.heap.size:=Ab rfl;rw[e2];refine(O.mono (by omega)).congr fun g=>?_
   exact AjB (fun l V el=>by
    obtain⟨⟨q,G⟩,_⟩:=h.ok.ln l V
    exact C _ _ G el) g
  ·have d:=f j p t e;have e2:(GD N k w.heap.size).mb j=N.mb j:=Aa e;rw[e2];exact((h.op j p d).kept E (by simpa using (I j p d).2.2.2.1)).mono (by omega)
 ·have:Zab (GD N k w.heap.size).ub m.loans=Zab N.ub m.loans:=Va rfl fun i hi=>by
   obtain⟨⟨q,G⟩,_⟩:=h.ok.ln _ (V2 hi);unfold LnM.cells;rw[show(GD N k w.heap.size).ub (m.loans.getD i .zero).who=N.ub (m.loans.getD i .zero).who from Aa (C _ _ G)]
  show w'.ownsRow 0 _ 2 (slice N.ga m.loans.length N.gc) m.loans.length (Zab (GD N k w.heap.size).ub m.loans);rw[this];refine FY h.gr E (fun g hg=>?_)
  cases A:N.ga with
  | none=>rw[A]at hg;simp[Value.ownBlock]at hg
  | some y=>
   obtain⟨cur,U, -⟩:=h.PQ A;rw[A,U]at hg;simp[Value.ownBlock]at hg
   grind
 ·by_cases u:i=k
  ·by_cases o:j=k
   ·rw[u,o]
   ·have d:=f j r t o;have l2:=(h.ur j r d).lt;rw[show(GD N k w.heap.size).ub i=w.heap.size+1 from Ab u,show(GD N k w.heap.size).ub j=N.ub j from Aa o]at e;omega
  ·have v:=f i p hi u;have l1:=(h.ur i p v).lt
   by_cases o:j=k
   ·rw[show(GD N k w.heap.size).ub j=w.heap.size+1 from Ab o,show(GD N k w.heap.size).ub i=N.ub i from Aa u]at e;omega
   ·have d:=f j r t o;rw[show(GD N k w.heap.size).ub j=N.ub j from Aa o,show(GD N k w.heap.size).ub i=N.ub i from Aa u]at e;exact h.ui i j p r v d e
 ·by_cases u:i=k
  ·by_cases o:j=k
   ·rw[u,o]
   ·have d:=f j r t o;have l2:=(h.op j r d).lt;rw[show(GD N k w.heap.size).mb i=w.heap.size from Ab u,show(GD N k w.heap.size).mb j=N.mb j from Aa o]at e;omega
  ·have v:=f i p hi u;have l1:=(h.op i p v).lt
   by_cases o:j=k
   ·rw[show(GD N k w.heap.size).mb j=w.heap.size from Ab o,show(GD N k w.heap.size).mb i=N.mb i from Aa u]at e;omega
   ·have d:=f j r t o;rw[show(GD N k w.heap.size).mb j=N.mb j from Aa o,show(GD N k w.heap.size).mb i=N.mb i from Aa u]at e;exact h.mi i j p r v d e
 ·by_cases o:j=k
  ·rw[show(GD N k w.heap.size).mb j=w.heap.size from Ab o]
   show w.heap.size≠N.bu;omega
  ·rw[show(GD N k w.heap.size).mb j=N.mb j from Aa o];exact h.mn j p (f j p t o)
 ·refine(h.ok.put Y ⟨?_,by simp,by simp,by simp,?_⟩).mono (by omega)
  ·show q.toNat<=_;omega
  ·rw[z.1,z.2];omega
 ·rcases Xk Z with rfl | rfl | ⟨y,hy,rfl⟩ | ⟨j,p,t,e⟩
  ·exact .inl (AiB _ _ _)
  ·exact .inl (AiA _ _ _)
  ·exact .inl (Aey hy)
  ·by_cases o:j=k
   ·rcases e with rfl | rfl
    ·rw[show(GD N k w.heap.size).ub j=w.heap.size+1 from Ab o];exact .inr (by omega)
    ·rw[show(GD N k w.heap.size).mb j=w.heap.size from Ab o];exact .inr (Ac _)
   ·have d:=f j p t o
    rcases e with rfl | rfl
    ·rw[show(GD N k w.heap.size).ub j=N.ub j from Aa o];exact .inl (N5 h.ok d).1
    ·rw[show(GD N k w.heap.size).mb j=N.mb j from Aa o];exact .inl (N5 h.ok d).2
def PCo (w:World)(c:Nat)(F:List Nat)(m:CoM)(n:Nat):Prop:=∃N,F=coF c N m/\PCore w c N m n
def StepC(w:World)(c:Nat)(F:List Nat)(r:CoR)(n:Nat):Ending->World->Prop:=fun e w'=>e=.returned (int i64 r.err)/\Kept F w w'/\∃F',PCo w' c F' r.m n/\Ga w.heap.size F F'
def Jf:Nat:=8796093022208
theorem AfL{m:CoM}(q:Int)(h:PCo w c F m n)(o:Gb k)(K:n<=Jf):Calls prog 34 #[Fa c,.int i64 k,.int i64 q] w (StepC w c F (m.join k q) (n+1)):=by
 obtain⟨N,rfl,h⟩:=h;have c1:=h.head.2.1;have d:∀E,E≠0->m.Kx k q=E->StepC w c (coF c N m) (m.join k q) (n+1) (.returned (.int i64 E)) w:=fun E G u=>by
  have:m.join k q=⟨m,E⟩:=by unfold CoM.join;rw[u,Aa G]
  rw[this];exact⟨rfl,Kept.refl _ _,_,⟨N,rfl,h.mono (by omega)⟩,fun x L=> .inl L⟩
 by_cases e:1<=k/\k<=16/\0<=q/\q<=1000000000
 ·cases l:m.per k with
  | some p=>
   have f:=hid (d 10 (by simp) (by unfold CoM.Kx;rw[Ab e,l]));have I:=h.find o (x:=Fa (N.ub k)) (by simp[usV,l]);obtain⟨g1,g2,v,z⟩:=e;generalize StepC w c (coF c N m) (m.join k q) (n+1)=P at*;generalize N.ub k=ub at*;clear h d l o;unfold Fa at*;go_enter func34,ntmps34;go_wp2;exact f.out
  | none=>
   have I:=h.find o (x:=pointer none) (by simp[usV,l]);have u:m.Kx k q=0:=by unfold CoM.Kx;rw[Ab e,l]
   have A:m.join k q=⟨m.put k ⟨q.toNat,0,0⟩,0⟩:=by unfold CoM.join;rw[Ab u]
   have H:=(h.us.kept (S:=[]) (((Kept.refl _ w).alloc (.map #[] 0)).alloc (.cells #[.int i64 q,.int i64 0,.int i64 0,.int i64 0,.int i64 0,.map (some w.heap.size)] 162)) (by simp)).put (by unfold maxLen;unfold Jf at K;omega) o underlying61 (Fa (w.heap.size+1)) (n+1) (by split<;>omega);obtain⟨w',B,r,t⟩:=H
   have f:Hid (StepC w c (coF c N m) (m.join k q) (n+1) (.returned (.int i64 0)) w'):=hid (by
    obtain⟨O,Q,U⟩:=h.AoD l ⟨e.1,e.2.1⟩ e.2.2 r t;rw[A]
    exact⟨rfl,U,_,⟨_,rfl,O⟩,Q⟩)
   have J:=Px 89;have C:((w.alloc (.map #[] 0)).alloc (.cells #[.int i64 q,.int i64 0,.int i64 0,.int i64 0,.int i64 0,.map (some w.heap.size)] 162)).heap.size=w.heap.size+2:=by simp
   obtain⟨g1,g2,v,z⟩:=e;generalize StepC w c (coF c N m) (m.join k q) (n+1)=P at*;clear h d l o u A r t C;unfold Fa at*;go_enter func34,ntmps34;go_wp2;exact f.out
 ·have f:=hid (d 1 (by simp) (by unfold CoM.Kx;rw[Aa e]));generalize StepC w c (coF c N m) (m.join k q) (n+1)=P at*;clear h d o;unfold Fa at*
  by_cases g1:k<1
  ·clear e;go_enter func34,ntmps34;go_wp2;exact f.out
  ·by_cases g2:16<k
   ·clear e;go_enter func34,ntmps34;go_wp2;exact f.out
   ·by_cases v:q<0
    ·clear e;go_enter func34,ntmps34;go_wp2;exact f.out
    ·have z:1000000000<q:=by omega
     clear e;go_enter func34,ntmps34;go_wp2;exact f.out
theorem AfG{f d:Int}{v2 v3 l m:Value}(h:At w b 162 [int i64 f,int i64 d,v2,v3,l,m])(u:0<=f/\f<=1000000000)(v:0<=d/\d<=1000000000)(z:0<=x/\x<=d):
 Calls prog 216 #[Fa b,int i64 x] w fun e w'=>e=.returned (.tuple #[])/\At w' b 162 [int i64 (f+x),int i64 (d-x),v2,v3,l,m]/\Kept [b] w w':=by
 have c0:w.cell? ⟨b,0,none⟩=some (int i64 f):=h.cell 0;have c1:w.cell? ⟨b,1,none⟩=some (int i64 d):=h.cell 1;have r:=h.free 0;have t:=h.free 1;have q:Hid (At ((w.setCell ⟨b,1,none⟩ (int i64 (d-x))).setCell ⟨b,0,none⟩ (int i64 (f+x))) b 162 [int i64 (f+x),int i64 (d-x),v2,v3,l,m]):=hid ((h.setCell (o:=1) (int i64 (d-x))).setCell (o:=0) (int i64 (f+x)));have p:Hid (Kept [b] w ((w.setCell ⟨b,1,none⟩ (int i64 (d-x))).setCell ⟨b,0,none⟩ (int i64 (f+x)))):=hid (((Kept.refl _ w).setCell (by simp) _).setCell (by simp) _);clear h;unfold Fa;go_enter func216,ntmps216;go_wp2
 first | go_end0 | skip
 exact⟨rfl,q.out,p.out⟩
theorem PCo.AmO{N:CoN}{m:CoM}{t:PrM->Bool}{f:PrM->PrM}(h:PCore w c N m n){e:Ending}(v:Iu w c N (m.move k t cs f) n (coF c N m) e w'):StepC w c (coF c N m) (m.move k t cs f) n e w':=by
 obtain⟨q,r,u⟩:=v;refine⟨q,u,_,⟨N,rfl,r⟩,?_⟩
 by_cases l:m.Fi k t cs=0
 ·obtain⟨p,o,d,ht⟩:=CoM.NV l;rw[CoM.Rv o d ht];exact Tn h o rfl rfl (fun _ _=>rfl) (.inl rfl) (fun j=>rfl) (fun y A=> .inl A)
 ·rw[CoM.T4 l];exact fun x z=> .inl z
theorem Aca{m:CoM}(x:Int)(h:PCo w c F m n)(d:Gb k):Calls prog 35 #[Fa c,int i64 k,int i64 x] w (StepC w c F (m.FV k x) n):=by
 obtain⟨N,rfl,h⟩:=h;exact(Y2 x h d).mono fun e w' f=>PCo.AmO h f
theorem Aiw{m:CoM}(a b:Int)(h:PCo w c F m n)(d:Gb k):Calls prog 81 #[Fa c,int i64 k,int i64 a,int i64 b] w (StepC w c F (m.hand k a b) n):=by
 obtain⟨N,rfl,h⟩:=h;exact(AfH a b h d).mono fun e w' f=>PCo.AmO h f
end Go.Proofs.YtbjgfoiikhbonahGreatDoor
