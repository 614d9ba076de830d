import Derived.Test.YtbjgfoiikhbonahGreatDoorA35
set_option linter.unusedVariables false
set_option linter.unusedSimpArgs false
set_option maxRecDepth 100000
set_option maxHeartbeats 4000000
namespace Go.Proofs.YtbjgfoiikhbonahGreatDoor
open Go.ChangeShapes Go.WideShapes Go.ChangeAt Go.RowKit Go.Maps Go.Proofs.Tryz
open Option renaming some->I,none->U
open Value renaming string->J,int->K,pointer->V,bool->X,slice->o
open Ending renaming returned->Q
open Go renaming World->W
open Bool renaming false->Y
open IntKind renaming i64->Z
variable {D:Nat->Nat->Option Cm}{M:Int->Option Value}{O:Nat->Option Cm}{S:List Nat}{args:Array Value}{b bm g j n:Nat}{c:Cm}{f:FuncId}{m:SendM}{w w0:W}
def RI (p:Addr)(m:OutM):Cm:=⟨fun w F=>Snd w p F m,fun _ _ h=>AnU h,fun _ _ _ _ h hk hn=>Akq h hk hn⟩
def Adv (p:Addr)(r:InM):Cm:=⟨fun w F=>Rcv w p F r,fun _ _ h=>AnL h,fun _ _ _ _ h hk hn=>Ur h hk hn⟩
def Ju (T:TypeId)(k:Nat)(v:Value)(n:Nat)(xs:List Value):Cm:=⟨fun w F=>F=v.ownBlock.toList/\∃B,w.ownsRow B T k v n xs,fun w F ⟨e,B,h⟩=>by subst e;exact fun x hx=>(AB h x (by simpa using hx)).2,fun w w' F S ⟨e,B,h⟩ hk hn=>by subst e;exact⟨rfl,B,FY h hk fun x hx=>hn x (by simpa using hx)⟩⟩
def S9 (g:Nat)(m:SendM):Cm:=⟨fun w F=>∃bm,F=[g,bm]/\PSend w g bm m,fun w F ⟨bm,e,h⟩=>by
 subst e;intro x hx;simp only[Ar,Bt,BF]at hx
 rcases hx with rfl | rfl
 ·exact h.lt
 ·exact h.2.1.lt,fun w w' F S ⟨bm,e,h⟩ hk hn=>by subst e;exact⟨bm,rfl,h.kept hk (hn g (by simp)) (hn bm (by simp))⟩⟩
def Akp (g:Nat)(r:RecvM):Cm:=⟨fun w F=>F=[g]/\RTakes 302 w g r,fun w F ⟨e,h⟩=>by subst e;exact fun x hx=>by rw[AC]at hx;subst hx;exact h.lt,fun w w' F S ⟨e,h⟩ hk hn=>by subst e;exact⟨rfl,h.kept hk.block (hn g (by simp))⟩⟩
def sdC (g:Nat)(m:SdM):Cm:=⟨fun w F=>∃v,F=sdF g v/\PSd w g v m,fun w F ⟨v,e,h⟩=>by subst e;exact h.lt,fun w w' F S ⟨v,e,h⟩ hk hn=>by subst e;exact⟨v,rfl,h.kept hk hn⟩⟩
def gcC (g:Nat)(m:GcM):Cm:=⟨fun w F=>∃bm,F=gcF g bm/\PGc w g bm m,fun w F ⟨v,e,h⟩=>by subst e;exact h.lt,fun w w' F S ⟨v,e,h⟩ hk hn=>by subst e;exact⟨v,rfl,h.kept hk hn⟩⟩
def coC (c:Nat)(m:CoM)(n:Nat):Cm:=⟨fun w F=>PCo w c F m n,fun w F ⟨N,e,h⟩=>by subst e;exact h.lt,fun w w' F S ⟨N,e,h⟩ hk hn=>by subst e;exact⟨N,rfl,h.kept hk hn⟩⟩
def tuC (r last:Nat)(opn:Bool)(cr:Nat->Int):Cm:=⟨fun w F=>F=[r]/\PTurn w r 1 last opn cr,fun w F ⟨e,h⟩=>by subst e;exact fun x hx=>by rw[AC]at hx;subst hx;exact FunAt.lt h,fun w w' F S ⟨e,h⟩ hk hn=>by subst e;exact⟨rfl,FunAt.kept h hk (hn r (by simp))⟩⟩
def AfV (p:Addr)(S:Setg)(s:List Int):Cm:=⟨fun w F=>EarP w p F S 20 s,fun _ _ h=>BufR.lt h,fun _ _ _ _ h hk hn=>BufR.kept h hk hn⟩
theorem Ae1(p:Addr)(m:OutM)(s:ByteArray)(w:W)(i:s.size<=maxLen):NS 132 #[V (I p), J s] w (RI p m) fun e c=>e= Q (K Z (m.KW s).err)/\c=RI p (m.KW s).m:=fun _ _ _ h=>(AdO s h i).mono fun _ _ ⟨a,b,F',c,d⟩=>⟨_,⟨a,rfl⟩,b,F',c,d⟩
theorem AoW(p:Addr)(m:OutM)(z:Int)(w:W):NS 107 #[V (I p), K Z z] w (RI p m) fun e c=>e= Q (.tuple #[(m.next z).p.val, K Z (m.next z).err])/\c=RI p (m.next z).m:=fun _ _ _ h=>(Akr z h).mono fun _ _ ⟨a,b,F',c,d⟩=>⟨_,⟨a,rfl⟩,b,F',c,d⟩
theorem Ake(p:Addr)(m:OutM)(w:W):NS 58 #[V (I p)] w (RI p m) fun e c=>e= Q (K Z (m.wait:Nat))/\c=RI p m:=fun _ _ _ h=>(Akt h).mono fun _ _ ⟨a,b,F',c,d⟩=>⟨_,⟨a,rfl⟩,b,F',c,d⟩
theorem AoU(p:Addr)(r:InM)(x:PieceM)(w:W)(G:x.data.size<=Wf):YJ 167 #[V (I p),x.val] w (Adv p r) fun e c d=>∃a k,e= Q (.tuple #[o a (r.take x).out.length k, K Z (r.take x).err])/\(r.take x).out.length<=32/\c=Adv p (r.take x).m/\d=Ju 9 1 (o a (r.take x).out.length k) (r.take x).out.length ((r.take x).out.map Value.string):=fun _ F _ h=>(Ahf x h G).mono fun e w' ⟨a,n,c,t,u,q,a',n',c',l,ht,B,hn,v,F',P,R,T⟩=>by
 subst t;simp at l;obtain⟨rfl,rfl,rfl⟩:=l;subst B;refine⟨_,_,⟨a,c,rfl,u,rfl,rfl⟩,v,F',_,P,R,⟨rfl,_,q⟩,fun y N=>?_⟩;have i:(o a (r.take x).out.length c).ownBlock=I y:=by simpa using N
 refine⟨(AB q y i).1,?_⟩;obtain⟨a',c',l, -, -,s⟩:=Fg q;simp only[Aq]at l;obtain⟨rfl, -,rfl⟩:=l
 cases a with
 | none=>cases i
 | some z=>
  obtain⟨g,rfl,hg⟩:=s z rfl;rw[hg]at i
  cases i;exact T _ rfl
theorem Al5(p:Addr)(r:InM)(w:W):YJ 33 #[V (I p)] w (Adv p r) fun e c d=>∃a k,e= Q (.agg #[K Z r.Fx.next, o a r.Fx.miss.length k])/\r.Fx.miss.length<=maxLen/\c=Adv p r/\d=Ju 154 3 (o a r.Fx.miss.length k) r.Fx.miss.length (GS r.Fx.miss):=fun _ F _ h=>(AaP h).mono fun e w' ⟨a,n,c,t,ht,v,x,R,u,F',G,N,P,_,l,_⟩=>by
 subst t;subst v;refine⟨_,_,⟨a,c,rfl,x,rfl,rfl⟩,u,F',_,G,N,⟨rfl,_,l⟩,fun y B=>?_⟩;have i:(o a r.Fx.miss.length c).ownBlock=I y:=by simpa using B
 refine⟨(AB l y i).1,?_⟩;obtain⟨a',c',s, -, -,q⟩:=Fg l;simp only[Aq]at s;obtain⟨rfl, -,rfl⟩:=s
 cases a with
 | none=>cases i
 | some z=>
  obtain⟨g,rfl,hg⟩:=q z rfl;rw[hg]at i
  cases i;exact P _ rfl
def AmY (f:FuncId)(args:Array Value)(w:W)(c d:Cm)(R:Ending->Cm->Prop):Prop:=Tb w->∀F G,(∀x∈F,Oe<=x)->c.P w F->d.P w G->(∀x∈G,x∉F)->Calls prog f args w fun e w'=>∃c',R e c'/\Kept F w w'/\∃F',c'.P w' F'/\Ga w.heap.size F F'
theorem Hg.Am1{i:Nat}(h:Hg w0 S w (setG D g O)){d:Cm}(hi:O i=I c)(t:O j=I d)(k:j≠i){R:Ending->Cm->Prop}(H:AmY f args w c d R):Calls prog f args w fun e w'=>∃c',R e c'/\Hg w0 S w' (setG D g (FQ O i (I c'))):=by
 obtain⟨F,h⟩:=h;have a:(fun i:Nat×Nat=>setG D g O i.1 i.2) (g,i)=I c:=by show setG D g O g i=_;rw[IW];exact hi
 have l:(fun i:Nat×Nat=>setG D g O i.1 i.2) (g,j)=I d:=by show setG D g O g j=_;rw[IW];exact t
 have y:=h.hi;refine(H h.tb (F (g,i)) (F (g,j)) (fun x v=>((h.each _ c a).2 x v).elim (h.lo x) (by omega)) (h.each _ c a).1 (h.each _ d l).1 (h.ap _ _ (by simpa using k) (fun q=>by grind) (fun q=>by grind))).mono ?_;rintro e w' ⟨c',s,u,F',r,hg⟩;have p:=h.step a u r hg;rw[JI]at p;exact⟨c',s,p⟩
theorem AoX(p:Addr)(m:OutM)(r:ReportM)(a:Option Addr)(k:Nat)(w:W)(i:r.miss.length<=maxLen):AmY 32 #[V (I p),.agg #[K Z r.next, o a r.miss.length k]] w (RI p m) (Ju 154 3 (o a r.miss.length k) r.miss.length (GS r.miss)) fun e c=>e= Q (K Z (m.take r).err)/\c=RI p (m.take r).m:=fun _ F G _ h ⟨e,B,hd⟩ s=>by
 subst e;refine(Aks r a _ k h (AeH hd) (fun _ y t=>?_) rfl i).mono fun _ _ ⟨a,b,F',c,d⟩=>⟨_,⟨a,rfl⟩,b,F',c,d⟩
 obtain⟨a',c',q, -, -,l⟩:=Fg hd
 grind
theorem TJ{F F':List Nat}(h:Ga n F F'):Ga n (g::F) (g::F'):=by grind [Ga]
theorem Aov(g:Nat)(m:SdM)(d:ByteArray)(w:W)(hd:d.size<=500)(i:m.nxt<16777216):NS 131 #[V (I ⟨g,0,U⟩), J d] w (sdC g m) fun e c=>e= Q (.tuple #[(QQ m.key m.nxt d).val, K Z 0])/\c=sdC g (m.Mw d):=fun _ F _ ⟨v,e,h⟩=>by
 subst e;exact(Ai0 h hd i).mono fun _ _ ⟨a,b,v',c,d⟩=>⟨_,⟨a,rfl⟩,b,_,⟨v',rfl,c⟩,TJ d⟩
def SdM.cf(m:SdM)(c:Nat):SdM:=if c<m.nxt then m.Kv c else m
theorem Aot(g:Nat)(m:SdM)(c:Nat)(w:W):NS 138 #[V (I ⟨g,0,U⟩), K Z (c:Int)] w (sdC g m) fun e x=>(∃y:Int,e= Q (K Z y))/\x=sdC g (m.cf c):=fun _ F _ ⟨v,e,h⟩=>by
 subst e;unfold SdM.cf
 split
 ·next hc=>exact(AiV h hc).mono fun _ _ ⟨a,b,v',c,d⟩=>⟨_,⟨⟨_,a⟩,rfl⟩,b,_,⟨v',rfl,c⟩,TJ d⟩
 ·next hc=>exact(Af7 h (.inr (by omega))).mono fun _ w' ⟨a,b⟩=>⟨_,⟨⟨_,a⟩,rfl⟩,Kept.E5 b,_,⟨v,rfl,h.kept (S:=[]) (Kept.E5 b) (by simp)⟩,fun x i=> .inl i⟩
theorem Ang(g:Nat)(m:SdM)(k:Int)(w:W)(l:KZ k=true):YJ 140 #[V (I ⟨g,0,U⟩), K Z k] w (sdC g m) fun e c d=>∃G,e= Q (.tuple #[o (I ⟨G,0,U⟩) m.wait.length m.wait.length, K Z 0])/\c=sdC g (m.move k)/\d=JP G 255 (FJ (m.NC k)):=fun _ F _ ⟨v,e,h⟩=>by
 subst e;refine(AiW h l).mono fun _ w' ⟨G,a,b,c,d,e⟩=>⟨_,_,⟨G,a,rfl,rfl⟩,d,_,[G],⟨v,rfl,e⟩,fun x i=> .inl i,⟨rfl,c⟩,fun x i=>?_⟩
 rw[AC]at i;subst i;exact⟨b,fun q=>by have:=h.lt _ q;omega⟩
theorem Anf(g:Nat)(m:GcM)(k:Int)(w:W)(d:KZ k=true):NS 139 #[V (I ⟨g,0,U⟩), K Z k] w (gcC g m) fun e c=>e= Q (K Z 0)/\c=gcC g (m.move k):=fun _ F _ ⟨v,e,h⟩=>by
 subst e;exact(Af9 h d).mono fun _ _ ⟨a,b,c⟩=>⟨_,⟨a,rfl⟩,b,_,⟨v,rfl,c⟩,fun x i=> .inl i⟩
theorem Alh{c:Nat}{m:CoM}{n':Nat}{r:CoR}(H:∀F,PCo w c F m n->Calls prog f args w (StepC w c F r n')):NS f args w (coC c m n) fun e x=>e= Q (K Z r.err)/\x=coC c r.m n':=fun _ F _ h=>(H F h).mono fun _ _ ⟨a,b,F',c,d⟩=>⟨_,⟨a,rfl⟩,b,F',c,d⟩
theorem Aoe(c:Nat)(m:CoM)(n:Nat)(k:Int)(w:W)(i:Gb k)(l:n<Jf):NS 78 #[Fa c, K Z k] w (coC c m n) fun e x=>e= Q (.tuple #[K Z (m.Lu k:Nat), K Z (m.QF k:Nat), K Z (m.Gu k)])/\x=coC c (m.Ka k) (n+1):=fun _ F _ h=>(AfM h i l).mono fun _ _ ⟨a,b,F',c,d⟩=>⟨_,⟨a,rfl⟩,b,F',c,d⟩
theorem Ala(g:Nat)(m:SendM)(s:ByteArray)(w:W)(i:s.size<=1500)(d:m.least=0):NS 110 #[V (I ⟨g,0,U⟩), J s] w (S9 g m) fun e c=>e= Q (.tuple #[K Z 0, K Z 0])/\c=S9 g (m.set 0 ((m.tat 0).Sf s)):=fun _ F _ ⟨v,e,h⟩=>by
 subst e;exact(Yd h s i 0 d (by omega)).mono fun _ _ ⟨a,b,c⟩=>⟨_,⟨a,rfl⟩,c,_,⟨v,rfl,b⟩,fun x k=> .inl k⟩
theorem Aod(g:Nat)(m:SendM)(w:W)(d:(m.tat 0).busy=true)(i:(m.tat 0).opn=Y):NS 60 #[V (I ⟨g,0,U⟩), K Z 0] w (S9 g m) fun e c=>e= Q (.tuple #[.agg #[K Z 0, K Z (PA (m.tat 0).tries), X (m.tat 0).flag, J (m.tat 0).data], K Z 0])/\c=S9 g (m.set 0 (m.tat 0).tried):=fun ht F _ ⟨v,e,h⟩=>by
 subst e;exact(Adq h ht.ver 0 (by omega) d i).mono fun _ _ ⟨a,b,c⟩=>⟨_,⟨a,rfl⟩,c,_,⟨v,rfl,b⟩,fun x k=> .inl k⟩
theorem Apg(g:Nat)(m:SendM)(yes:Bool)(w:W)(r:m.Ok)(d:(m.tat 0).busy=true)(p:(m.tat 0).opn=true):NS 62 #[V (I ⟨g,0,U⟩), K Z 0, X yes] w (S9 g m) fun e c=>e= Q (.tuple #[X (m.done 0 yes), K Z 0])/\c=S9 g (m.set 0 (m.GI 0 yes)):=fun _ F _ ⟨v,e,h⟩=>by
 subst e;have q:=NU m 0 yes;have s:=(r.each 0 (by omega) d).1 p
 cases yes with
 | true=>exact(AjR h 0 (by omega) d p (m.GI 0 true) (by simp[SendM.GI,SendM.done]) rfl q).mono fun _ _ ⟨a,b,c⟩=>⟨_,⟨by rw[a];simp[SendM.done],rfl⟩,c,_,⟨v,rfl,b⟩,fun x k=> .inl k⟩
 | false=>
  by_cases l:(m.tat 0).tries=m.limit
  ·exact(Adl h 0 (by omega) d p l (m.GI 0 Y) (by simp[SendM.GI,SendM.done,l]) rfl q).mono fun _ _ ⟨a,b,c⟩=>⟨_,⟨by rw[a];simp[SendM.done,l],rfl⟩,c,_,⟨v,rfl,b⟩,fun x k=> .inl k⟩
  ·have i:¬m.limit<=(m.tat 0).tries:=by omega
   exact(Al0 h 0 (by omega) d p l (m.GI 0 Y) (by simp[SendM.GI,SendM.done,i]) rfl q rfl).mono fun _ _ ⟨a,b,c⟩=>⟨_,⟨by rw[a];simp[SendM.done,i],rfl⟩,c,_,⟨v,rfl,b⟩,fun x k=> .inl k⟩
theorem Aoy(g:Nat)(r:RecvM)(i:Int)(k:Bool)(d:ByteArray)(hd:Bool)(w:W)(p:P9 i=true)(l:d.size<=1500):NS 113 #[V (I ⟨g,0,U⟩),(ShotM.mk 0 i k d).val, X hd] w (Akp g r) fun e c=>e= Q (r.J7 ⟨0,i,k,d⟩ hd).val/\c=Akp g (r.next ⟨0,i,k,d⟩ hd):=fun _ F _ ⟨e,h⟩=>by
 subst e;exact(Adt h 0 i k d hd (by omega) p l).mono fun _ _ ⟨a,b,c⟩=>⟨_,⟨a,rfl⟩,c,_,⟨rfl,b⟩,fun x q=> .inl q⟩
theorem VS(L:List Int)(a:W):(convert 103 9 (o (I ⟨a.heap.size,0,U⟩) L.length L.length)).run prog (a.alloc (.cells (L.map (Value.int .u8)).toArray 5))=.ok (J (strOfNums L)) (a.alloc (.cells (L.map (Value.int .u8)).toArray 5)):=by
 refine L6 (L:=L) ?_ _;intro _;refine⟨a.heap.size,0,rfl,fun j d=>?_⟩;rw[Al _ _ _ _ _ _ (Am a _)];simp[List.getD,d]
def Ik (n f:Nat)(l:Bool)(d:ByteArray):ByteArray:=strOfNums [(n:Int) % 256,(f:Int) / 256 % 256,(f:Int) % 256,if l then 1 else 0]++d
theorem Vk(n f:Nat)(l:Bool)(d:ByteArray)(w:W)(hd:d.size<=1500):Calls prog 109 #[.agg #[K Z (n:Int), K Z (f:Int), X l, J d]] w fun e w'=>e= Q (J (Ik n f l d))/\Below w.heap.size w w':=by
 have a:=VS [(n:Int) % 256,(f:Int) / 256 % 256,(f:Int) % 256,if l then 1 else 0] (w.alloc (.cells #[K Z (n:Int), K Z (f:Int), X l, J d] 216));simp only[AE,Bs,Be,BE,Ao,Nat.reduceAdd,Ax]at a;have h:=hid (show strOfNums [(n:Int) % 256,(f:Int) / 256 % 256,(f:Int) % 256,if l then 1 else 0]++d=Ik n f l d from rfl);have i:(strOfNums [(n:Int) % 256,(f:Int) / 256 % 256,(f:Int) % 256,if l then 1 else 0]).size<=4:=by rw[BP];exact Ac _
 generalize strOfNums [(n:Int) % 256,(f:Int) / 256 % 256,(f:Int) % 256,if l then 1 else 0]=H at*
 cases l
 all_goals
  simp only[Ct,AV,AP]at a;go_enter func109,ntmps109;go_wp2;go_ret;exact⟨by rw[<-h.out];rfl,((Ad _ _).alloc (Ac _) _).alloc (by simp) _⟩
def Ou (s:Nat)(d l:ByteArray):ByteArray:=strOfNums [(s:Int) / 256 % 256,(s:Int) % 256]++l++d
theorem Ov(s:Nat)(d l:ByteArray)(w:W)(hd:d.size<=1500)(k:l.size<=1500):Calls prog 133 #[.agg #[K Z (s:Int), J d, J l]] w fun e w'=>e= Q (J (Ou s d l))/\Below w.heap.size w w':=by
 have h:=VS [(s:Int) / 256 % 256,(s:Int) % 256] (w.alloc (.cells #[K Z (s:Int), J d, J l] 255));simp only[AE,Bs,Be,BE,Ao,Nat.reduceAdd,Ax]at h;have a:=hid (show strOfNums [(s:Int) / 256 % 256,(s:Int) % 256]++l++d=Ou s d l from rfl);have p:(strOfNums [(s:Int) / 256 % 256,(s:Int) % 256]).size<=2:=by rw[BP];exact Ac _
 have i:(strOfNums [(s:Int) / 256 % 256,(s:Int) % 256]++l).size<=1502:=by rw[CH];omega
 generalize strOfNums [(s:Int) / 256 % 256,(s:Int) % 256]=H at*;go_enter func133,ntmps133;go_wp2;go_ret;exact⟨by rw[<-a.out];rfl,((Ad _ _).alloc (Ac _) _).alloc (by simp) _⟩
def Ha (who:Nat):Setg:=if who % 2=1 then ⟨0,0,4,who,600⟩ else ⟨1,256,2,who,256⟩
theorem Yo(k:Nat)(w:W)(d:k<=16):Calls prog 160 #[K Z (k:Int)] w fun e w'=>e= Q (Ha k).val/\Below w.heap.size w w':=by
 by_cases h:k % 2=1
 ·have a:(k:Int).tmod 2=1:=by rw[C8 (by omega)];omega
  have e:Ha k=⟨0,0,4,k,600⟩:=Ab h;rw[e];clear e h;go_enter func160,ntmps160;go_wp2;refine Ah (BO (p:=2) (ty:=286) (by kernel_rfl) _ _ w.heap.size 286 _ (0,0) _ rfl (Am w _) underlying286 rfl (by kernel_rfl)) rfl ?_;exact⟨rfl,(Ad _ _).alloc (Ac _) _⟩
 ·have a:(k:Int).tmod 2=0:=by rw[C8 (by omega)];omega
  have e:Ha k=⟨1,256,2,k,256⟩:=Aa h;rw[e];clear e h;go_enter func160,ntmps160;go_wp2;refine Ah (BO (p:=2) (ty:=286) (by kernel_rfl) _ _ w.heap.size 286 _ (0,0) _ rfl (Am w _) underlying286 rfl (by kernel_rfl)) rfl ?_;exact⟨rfl,(Ad _ _).alloc (Ac _) _⟩
def two (a b:Nat):Int:=RowKit.wrap64 (RowKit.wrap64 (RowKit.wrap64 (a:Int)*256)+RowKit.wrap64 (b:Int))
def LR (t:ByteArray):PktM×Bool:=if t.size<5 then (.zero,Y) else (⟨two (Fk t 0) (Fk t 1),t.extract 5 t.size,t.extract 2 5⟩,true)
theorem MF{t:ByteArray}(h:j<t.size):t[j].toNat=Fk t j:=by unfold Fk;rw[dif_pos h]
theorem SQ(t:ByteArray)(w:W):Calls prog 208 #[J t] w fun e w'=>e= Q (.tuple #[(LR t).1.val, X (LR t).2])/\Below w.heap.size w w':=by
 by_cases h:t.size<5
 ·rw[show LR t=(.zero,Y)from Ab h];have l:(t.size:Int)<5:=by omega
  go_enter func208,ntmps208;go_wp2;refine Ah (v:=.tuple #[PktM.zero.val, X Y]) ?_ rfl ⟨rfl,?_⟩
  ·rw[AD rfl]
   go_simp;rfl
  ·exact(Ad _ _).alloc (Ac _) _
 ·rw[show LR t=(⟨two (Fk t 0) (Fk t 1),t.extract 5 t.size,t.extract 2 5⟩,true)from Aa h];have d:0<t.size:=by omega
  have g1:1<t.size:=by omega
  have i:(1:Int)<(t.size:Int):=by omega
  have k:(5:Int)<=(t.size:Int):=by omega
  have a:=MF d;have e1:=MF g1;rw[<-a,<-e1];clear a e1;go_enter func208,ntmps208;go_upto_region 3 with fail
  go_region;go_wp2;refine Ah (v:=.tuple #[(PktM.mk (two t[0].toNat t[1].toNat) (t.extract 5 t.size) (t.extract 2 5)).val, X true]) ?_ rfl ⟨rfl,?_⟩
  ·rw[AD rfl]
   go_simp;rfl
  ·exact((Ad _ _).alloc (Ac _) _).drew
def Yc (t:ByteArray):PieceM×Bool:=if t.size<4\/1<Fk t 3 then (.zero,Y) else (⟨RowKit.wrap64 (Fk t 0:Int),two (Fk t 1) (Fk t 2),(Fk t 3:Int)==1,t.extract 4 t.size⟩,true)
theorem Ui(t:ByteArray)(w:W):Calls prog 203 #[J t] w fun e w'=>e= Q (.tuple #[(Yc t).1.val, X (Yc t).2])/\Below w.heap.size w w':=by
 by_cases h:t.size<4
 ·rw[show Yc t=(.zero,Y)from Ab (.inl h)];have x:(t.size:Int)<4:=by omega
  go_enter func203,ntmps203;go_wp2;refine Ah (v:=.tuple #[PieceM.zero.val, X Y]) ?_ rfl ⟨rfl,?_⟩
  ·rw[AD rfl]
   go_simp;rfl
  ·exact(Ad _ _).alloc (Ac _) _
 ·have p:3<t.size:=by omega
  have r:(3:Int)<(t.size:Int):=by omega
  have s:¬(t.size:Int)<4:=by omega
  have e3:=MF p
  by_cases a:1<Fk t 3
  ·rw[show Yc t=(.zero,Y)from Ab (.inr a)];rw[<-e3]at a;have d:(1:Int)<(t[3].toNat:Int):=by omega
   clear h e3;go_enter func203,ntmps203;go_wp2;refine Ah (v:=.tuple #[PieceM.zero.val, X Y]) ?_ rfl ⟨rfl,?_⟩
   ·rw[AD rfl]
    go_simp;rfl
   ·exact(Ad _ _).alloc (Ac _) _
  ·rw[show Yc t=_ from Aa (fun q=>q.elim h a)];rw[<-e3]at a ⊢;have d:¬(1:Int)<(t[3].toNat:Int):=by omega
   have i:0<t.size:=by omega
   have g1:1<t.size:=by omega
   have g2:2<t.size:=by omega
   have k:(1:Int)<(t.size:Int):=by omega
   have l:(2:Int)<(t.size:Int):=by omega
   have u:(4:Int)<=(t.size:Int):=by omega
   rw[<-MF i,<-MF g1,<-MF g2];clear h e3;go_enter func203,ntmps203;go_upto_region 3 with fail
   go_region;go_wp2;refine Ah (v:=.tuple #[(PieceM.mk (RowKit.wrap64 (t[0].toNat:Int)) (two t[1].toNat t[2].toNat) ((t[3].toNat:Int)==1) (t.extract 4 t.size)).val, X true]) ?_ rfl ⟨rfl,?_⟩
   ·rw[AD rfl]
    go_simp;rfl
   ·exact((Ad _ _).alloc (Ac _) _).drew
def Hr (s:ByteArray):PieceM×Bool:=match KV s with
 | some [x]=>if x.ch=1 then Yc x.data else (.zero,Y)
 | _=>(.zero,Y)
theorem AcQ{B c:Nat}{a:Option Addr}{x:ItemM}{r:List ItemM}(h:OwnIt w B (o a n c) (x::r)):∃g,a=I ⟨g,0,U⟩/\w.cell? ⟨g,0,U⟩=I (K Z x.ch)/\w.cell? ⟨g,1,U⟩=I (J x.data):=by
 rcases h.2 with⟨e,l⟩ | ⟨g,i,cur,e,_,hg,_,_,_,ht⟩
 ·simp at l
 ·simp only[Aq]at e;obtain⟨rfl,_,_⟩:=e;have d:∀k,k<2->w.cell? ⟨g,k,U⟩=(Th (x::r))[k]?:=fun k p=>by
   rw[Al _ _ _ _ _ _ hg,<-ht,A3 (by simp;omega)];simp
  exact⟨g,rfl,(d 0 (by omega)).trans rfl,(d 1 (by omega)).trans rfl⟩
theorem At.Ane{T:TypeId}{c0 c1 c2 c3:Value}(h:At w b T [c0,c1,c2,c3]):(w.cell? ⟨b,0,U⟩=I c0/\w.cell? ⟨b,1,U⟩=I c1/\w.cell? ⟨b,2,U⟩=I c2/\w.cell? ⟨b,3,U⟩=I c3)/\w.frozen? ⟨b,0,U⟩=Y/\w.frozen? ⟨b,1,U⟩=Y/\w.frozen? ⟨b,2,U⟩=Y/\w.frozen? ⟨b,3,U⟩=Y:=⟨⟨h.cell 0,h.cell 1,h.cell 2,h.cell 3⟩,h.free 0,h.free 1,h.free 2,h.free 3⟩
theorem AhC(s:ByteArray)(w:W)(k:s.size<=65535):Calls prog 202 #[J s] w fun e w'=>∃a n c E,e= Q (.tuple #[o a n c, K Z E])/\Below w.heap.size w w'/\((((n:Int) !=1)=true/\Hr s=(.zero,Y))\/n=1/\∃x g,a=I ⟨g,0,U⟩/\w'.cell? ⟨g,0,U⟩=I (K Z (ItemM.ch x))/\w'.cell? ⟨g,1,U⟩=I (J x.data)/\Hr s=if x.ch=1 then Yc x.data else (.zero,Y)):=by
 refine(Abw s w k).mono ?_;rintro e w' ⟨⟨d,rfl⟩ | ⟨l,a,c,d,rfl,i,t⟩,h⟩
 ·exact⟨_,_,_,_,rfl,h,.inl ⟨by simp,by unfold Hr;rw[d]⟩⟩
 ·match l,d,i with
  | [],d,_=>exact⟨_,_,_,_,rfl,h,.inl ⟨by simp,by unfold Hr;rw[d]⟩⟩
  | [x],d,i=>
   obtain⟨g,e,p,q⟩:=AcQ i;exact⟨_,_,_,_,rfl,h,.inr ⟨rfl,x,g,e,p,q,by unfold Hr;rw[d]⟩⟩
  | x::y::r,d,_=>exact⟨_,_,_,_,rfl,h,.inl ⟨by grind,by unfold Hr;rw[d]⟩⟩
theorem Aaz(s:ByteArray)(w:W)(hs:s.size<=65535):Calls prog 166 #[J s] w fun e w'=>e= Q (.tuple #[(Hr s).1.val, X (Hr s).2])/\Below w.heap.size w w':=by
 have t:=fun G=>AhC s G hs
 have p:Below w.heap.size w (w.alloc (.cells #[K Z 0, K Z 0, X Y, J {data:=#[]}] 216)):=(Ad _ w).alloc (Ac _) _;have HA:=hid (Fc w 216 [K Z 0, K Z 0, X Y, J {data:=#[]}]);generalize Hr s=R at*;go_enter func166,ntmps166;go_upto_region 2 with(go_at_call 202;refine(t _).mono ?_;rintro e w1 ⟨a,n,c,E,rfl,i,h1⟩)
 have B:=HA.out.kept (S:=[]) (Kept.E5 i) (by simp);obtain⟨⟨y0,y1,y2,y3⟩,P,T,f2,f3⟩:=B.Ane;have y:=hid (Fr p i);have u:=hid B;clear i t p B;have d:∀(q:PieceM) (w2:W),Below w.heap.size w w2->Below w.heap.size w ((((w2.setCell ⟨w.heap.size,0,U⟩ (K Z q.num)).setCell ⟨w.heap.size,1,U⟩ (K Z q.frm)).setCell ⟨w.heap.size,2,U⟩ (X q.last)).setCell ⟨w.heap.size,3,U⟩ (J q.data)):=fun q w2 h=>(((h.setCell (Ac _) _).setCell (Ac _) _).setCell (Ac _) _).setCell (Ac _) _
 have z:=hid d;clear d
 rcases h1 with⟨hn,k⟩ | ⟨rfl,x,g,rfl,x0,x1,k⟩
 ·subst k
  go_wp2_with fail
  (try simp only[Exit.inBlock,Exit.then])
  refine Ah (v:=.tuple #[PieceM.zero.val, X Y]) ?_ rfl ⟨rfl,z.out .zero w1 y.out⟩;rw[AD rfl]
  go_simp;rfl
 ·by_cases l:x.ch=1
  ·rw[Ab l]at k;have F:=fun G=>Ui x.data G
   obtain⟨C, N⟩ := E7 x.ch;rw[<-N]at x0 l;subst l;clear N;rw[<-k]at F;obtain⟨⟨pn,pf,pl,pd⟩,pb⟩:=R;dsimp only[PieceM.val]at F;clear y0 y1 y2 y3 P T f2 f3
   go_wp2_with(go_at_call 203;refine(F _).mono ?_;rintro e w2 ⟨rfl,r⟩;obtain⟨⟨y0,y1,y2,y3⟩,P,T,f2,f3⟩:=(u.out.kept (S:=[]) (Kept.E5 r) (by simp)).Ane)
   (try simp only[Exit.inBlock,Exit.then])
   refine Ah (v:=.tuple #[(PieceM.mk pn pf pl pd).val, X pb]) ?_ rfl ⟨rfl,z.out ⟨pn,pf,pl,pd⟩ w2 (Fr y.out r)⟩;rw[AD rfl]
   go_simp;rfl
  ·rw[Aa l]at k;subst k;have aa:(x.ch !=1)=true:=by simpa using l
   clear l
   go_wp2_with fail
   (try simp only[Exit.inBlock,Exit.then])
   refine Ah (v:=.tuple #[PieceM.zero.val, X Y]) ?_ rfl ⟨rfl,z.out .zero w1 y.out⟩;rw[AD rfl]
   go_simp;rfl
def GMap (w:W)(bm n:Nat)(M:Int->Option Value):Prop:=∃D:DataW Value,w.ownsMap prog 3 V7 bm n D/\Maps.size D=n/\(∀k:Int,Maps.has D (.int Z k)=(M k).isSome)/\∀(k:Int) x,M k=I x->∀z,D.atKey (.int Z k) z=.held x
theorem GMap.im(h:GMap w bm n M):IMap w bm n M:=by
 obtain⟨D,a, -,d,e⟩:=h;exact⟨D,a,d,e⟩
theorem GMap.kept{w':W}(h:GMap w bm n M)(k:Kept S w w')(l:bm∉S):GMap w' bm n M:=by
 have e:=k.block bm h.im.lt l;obtain⟨D,⟨es,a,i,F,p,d⟩,r⟩:=h;exact⟨D,⟨es,a,by rw[e];exact i,F,p,d⟩,r⟩
theorem GMap.XT(w:W):GMap (w.alloc (.map #[] 0)) w.heap.size 0 (fun _=>U):=
 ⟨.map [],GQ (C9 w _ _ _) (by simp[Maps.size]),rfl,fun _=>rfl,fun _ _ a=>absurd a (by simp)⟩
theorem GMap.put{w:W}{bm n:Nat}{M:Int->Option Value}(h:GMap w bm n M)(t:n<maxLen){k:Int}(s:Gb k){mt vt:TypeId}(u:prog.underlying mt=I (.map 3 vt))(x:Value):
 ∃w',(Instr.mapUpdate mt (.map (I bm)) (.int Z k) x).run prog w=.ok () w'/\GMap w' bm (if (M k).isSome then n else n+1) (J8 M k (I x))/\Kept [bm] w w':=by
 obtain⟨D,l,B,p,v⟩:=h;obtain⟨w',d,q,r⟩:=l.update Tryz.Vi u t (Agn s) (show V7 x=I (.held x,[])from rfl);have i:Maps.size (D.put (.int Z k) (.held x))=if (M k).isSome then n else n+1:=by rw[size_put (l.tidy Tryz.Vi),p k,B]
 refine⟨w',d,⟨_,GQ q (Nat.le_of_eq i),i,fun j=>?_,fun j y a z=>?_⟩,Mb r⟩
 ·by_cases e:j=k
  ·subst e;rw[has_put_same l.isMap (SW _),Ih];rfl
  ·rw[has_put_other (Mf e),Hw M _ e];exact p j
 ·by_cases e:j=k
  ·subst e;rw[Ih]at a;have a:=AX a;rw[atKey_put_same l.isMap (SW _),a]
  ·rw[Hw M _ e]at a;rw[atKey_put_other (Mf e)];exact v j y a z
theorem GMap.del{w:W}{bm n:Nat}{M:Int->Option Value}(h:GMap w bm n M){k:Int}(s:Gb k){mt vt:TypeId}(t:prog.underlying mt=I (.map 3 vt))(ty:TypeId):
 ∃w',(Builtin.delete_ #[mt,3] ty #[.map (I bm),.int Z k]).run prog w=.ok (.tuple #[]) w'/\GMap w' bm (n-if (M k).isSome then 1 else 0) (J8 M k U)/\Kept [bm] w w':=by
 obtain⟨D,p,v,l,u⟩:=h;obtain⟨w',a,q,r⟩:=p.drop Tryz.Vi t (Agn s) ty;have d:Maps.size (D.del (.int Z k))=n-if (M k).isSome then 1 else 0:=by
  have:=size_del (k:=.int Z k) (p.tidy Tryz.Vi);rw[l k,v]at this;omega
 refine⟨w',a,⟨_,GQ q (Nat.le_of_eq d),d,fun j=>?_,fun j y i z=>?_⟩,Mb r.grown⟩
 ·by_cases e:j=k
  ·subst e;rw[has_del_same,Ih];rfl
  ·rw[has_del_other (Mf e),Hw M _ e];exact l j
 ·by_cases e:j=k
  ·subst e;rw[Ih]at i
   cases i
  ·rw[Hw M _ e]at i;rw[atKey_del_other (Mf e)];exact u j y i z
theorem GMap.len{w:W}{bm n:Nat}{M:Int->Option Value}(h:GMap w bm n M){mt vt:TypeId}(d:prog.underlying mt=I (.map 3 vt))(ty:TypeId):(Builtin.len_ #[mt] ty #[.map (I bm)]).run prog w=.ok (.int Z (n:Nat)) w:=by
 obtain⟨D,a,e, -, -⟩:=h;have:=a.len d ty;rw[e]at this;exact this
def gmC (b n:Nat)(M:Int->Option Value):Cm:=⟨fun w F=>F=[b]/\GMap w b n M,fun w F ⟨e,h⟩=>by subst e;exact fun x hx=>by rw[AC]at hx;subst hx;exact h.im.lt,fun w w' F S ⟨e,h⟩ hk hn=>by subst e;exact⟨rfl,h.kept hk (hn b (by simp))⟩⟩
structure AirM where
 lost:Bool
 deaf:Bool
 rough:Nat
structure EarS where
 sums:List Int
 flag:Bool
structure UsrM where
 who:Nat
 key:Nat
 air:AirM
 snd:OutM
 rcv:InM
 blk:SendM
 sht:RecvM
 ear:Option EarS
 sl:SdM
 op:GcM
 sent:Nat
 gr:Int->Option Value
 grN:Nat
 told:List ByteArray
structure UsrP where
 b:Nat
 ps:Addr
 pr:Addr
 gb:Nat
 gs:Nat
 me:Nat
 eb:Nat
 g1:Nat
 g2:Nat
 mg:Nat
 vt:Value
def S1 (p:UsrP)(u:UsrM):List Value:=[K Z (u.who:Int), K Z (u.key:Int), X u.air.lost, X u.air.deaf, K Z (u.air.rough:Int), V (I p.ps), V (I p.pr),Fa p.gb,Fa p.gs,.map (I p.me),Fa p.g1,Fa p.g2, K Z (u.sent:Int),.map (I p.mg),p.vt]
def Qu (p:UsrP)(u:UsrM):Int->Option Value:=fun k=>if k=0 then u.ear.map fun s=> .agg #[Fa p.eb, X s.flag] else U
def usO (p:UsrP)(u:UsrM):Nat->Option Cm
 | 0=>I (JP p.b 91 (S1 p u))
 | 1=>I (RI p.ps u.snd)
 | 2=>I (Adv p.pr u.rcv)
 | 3=>I (S9 p.gb u.blk)
 | 4=>I (Akp p.gs u.sht)
 | 5=>I (gmC p.me (if u.ear.isSome then 1 else 0) (Qu p u))
 | 6=>u.ear.map fun s=>AfV ⟨p.eb,0,U⟩ (Ha u.who) s.sums
 | 7=>I (sdC p.g1 u.sl)
 | 8=>I (gcC p.g2 u.op)
 | 9=>I (gmC p.mg u.grN u.gr)
 | 10=>I (Ju 9 1 p.vt u.told.length (u.told.map Value.string))
 | _=>U
theorem Kr(h:O j=I c):FQ O j (I c)=O:=funext fun k=>by
 unfold FQ
 split
 ·next e=>rw[e,h]
 ·rfl
theorem Hg.Ags(h:Hg w0 S w (setG D g O))(hi:O j=I (gmC b n M)):GMap w b n M:=by
 obtain⟨F, -,h⟩:=h.get hi;exact h
theorem Hg.conv{O':Nat->Option Cm}(h:Hg w0 S w (setG D g O))(e:∀j,O j=O' j):Hg w0 S w (setG D g O'):=by
 rw[<-funext e];exact h
def UsrM.AiR(u:UsrM):Bool:=decide (64<=u.snd.wait) || decide (64<=u.grN)
theorem AhV{p:UsrP}{u:UsrM}(h:Hg w0 S w (setG D g (usO p u))):Calls prog 77 #[Fa p.b] w fun e w'=>e= Q (X u.AiR)/\Hg w0 S w' (setG D g (usO p u)):=by
 have y:w.cell? ⟨p.b,5,U⟩=I (V (I p.ps)):=(h.box (j:=0) rfl).cell 5;have i:=hid (h.act (j:=1) rfl (Ake p.ps u.snd w));unfold Fa;obtain⟨N, l⟩ := E7 u.snd.wait;obtain⟨G, k⟩ := E7 u.grN;have q:Hid (u.AiR=(decide (64<=N) || decide (64<=G))):=by unfold UsrM.AiR;rw[l,k];exact rfl
 rw[<-l]at i;have s:=hid k;clear l k h
 by_cases r:64<=N
 ·have v:decide ((64:Int)<=(N:Int))=true:=Ag (by omega);go_enter func77,ntmps77
  go_wp2_with(go_at_call 58;refine i.out.mono ?_;rintro e w1 ⟨c',⟨rfl,rfl⟩,a⟩;rw[Kr rfl]at a;have d:=hid a;clear a);go_ret;exact⟨by rw[q.out,Ag r];rfl,d.out⟩
 ·have v:decide ((64:Int)<=(N:Int))=Y:=Ae (by omega);go_enter func77,ntmps77
  go_wp2_with(go_at_call 58;refine i.out.mono ?_;rintro e w1 ⟨c',⟨rfl,rfl⟩,a⟩;rw[Kr rfl]at a;have d:=hid a;have t:w1.cell? ⟨p.b,13,U⟩=I (.map (I p.mg)):=(a.box (j:=0) rfl).cell 13;have x:=(a.Ags (j:=9) rfl).len underlying89;rw[<-s.out]at x;clear a);go_ret;exact⟨by rw[q.out,Ae r];simp;omega,d.out⟩
def US (k:Int)(c:Nat)(d:ByteArray):ByteArray:=Ou (c % 4096) (LP d (Hb k c)) (If c d)
def UsrM.Mw(u:UsrM)(d:ByteArray)(x:Int):UsrM:={u with sl:=u.sl.Mw d,gr:=J8 u.gr (u.sent:Int) (I (K Z x)),grN:=if (u.gr (u.sent:Int)).isSome then u.grN else u.grN+1,sent:=u.sent+1,snd:=(u.snd.KW (US u.sl.key u.sl.nxt d)).m}
theorem Ah1{p:UsrP}{u:UsrM}(d:ByteArray)(x:Int)(h:Hg w0 S w (setG D g (usO p u)))(hd:d.size<=500)(hn:u.sl.nxt<16777216)(hs:u.sent<=100000000)(hg:u.grN<=100000000):Calls prog 79 #[Fa p.b,.string d,.int Z x] w fun e w'=>e= Q (.int Z 0)/\Hg w0 S w' (setG D g (usO p (u.Mw d x))):=by
 have T:w.cell? ⟨p.b,10,U⟩=I (V (I ⟨p.g1,0,U⟩)):=(h.box (j:=0) rfl).cell 10;have HS:=hid (h.act (j:=7) rfl (Aov p.g1 u.sl d w hd hn));have ai:(LP d (Hb u.sl.key u.sl.nxt)).size<=1500:=by rw[Lg];omega
 have af:(If u.sl.nxt d).size<=1500:=by rw[UH];omega
 have ah:=fun wz=>Ov (u.sl.nxt % 4096) (LP d (Hb u.sl.key u.sl.nxt)) (If u.sl.nxt d) wz ai af
 unfold Fa QQ PktM.val at*;generalize hA:LP d (Hb u.sl.key u.sl.nxt)=A at*;generalize hB:If u.sl.nxt d=B at*;generalize hC:u.sl.nxt % 4096=C at*;go_enter func79,ntmps79;go_upto_region 4 with(go_at_call 131;refine HS.out.mono ?_;rintro e w1 ⟨c',⟨rfl,rfl⟩,h1⟩)
 have l:=h1.Ii 11 255 [.int Z (C:Int),.string A,.string B];have r:=l.box (j:=11) rfl;change Hg w0 S (w1.alloc (.cells #[.int Z (C:Int),.string A,.string B] 255)) _ at l;change At (w1.alloc (.cells #[.int Z (C:Int),.string A,.string B] 255)) _ _ _ at r;obtain⟨i, y⟩ := E7 w1.heap.size;rw[<-y]at l r ⊢;generalize (w1.alloc (.cells #[.int Z (C:Int),.string A,.string B] 255))=w2 at*;clear y h1 HS T h;have ab:w2.cell? ⟨p.b,13,U⟩=I (.map (I p.mg)):=(l.box (j:=0) rfl).cell 13;have aa:w2.cell? ⟨p.b,12,U⟩=I (.int Z (u.sent:Int)):=(l.box (j:=0) rfl).cell 12;have q:=l.below ((Ad _ w2).drew);obtain⟨w3,z,hM,hk⟩:=(q.Ags (j:=9) rfl).put (k:=(u.sent:Int)) (by unfold maxLen;omega) ⟨by omega,by omega⟩ underlying89 (.int Z x);have N:=q.put (j:=9) rfl (c':=gmC p.mg _ _) (fun F ⟨e,_⟩=>by subst e;exact⟨hk,rfl,hM⟩);clear hM hk q
 go_region;have ac:w3.cell? ⟨p.b,12,U⟩=I (.int Z (u.sent:Int)):=(N.box (j:=0) rfl).cell 12;have ad:=(N.box (j:=0) rfl).free 12;have P:=N.GK (j:=0) rfl 12 (.int Z ((u.sent:Int)+1));clear z ab aa l;go_upto_region 6 with fail
 generalize (w3.setCell ⟨p.b,12,U⟩ (.int Z ((u.sent:Int)+1)))=t at*;have c5:t.cell? ⟨p.b,5,U⟩=I (V (I p.ps)):=(P.box (j:=0) rfl).cell 5;have a:At t i 255 [.int Z (C:Int),.string A,.string B]:=P.box (j:=11) rfl;have y0:t.cell? ⟨i,0,U⟩=I (.int Z (C:Int)):=a.cell 0;have y1:t.cell? ⟨i,1,U⟩=I (.string A):=a.cell 1;have y2:t.cell? ⟨i,2,U⟩=I (.string B):=a.cell 2;have H4:=hid P;clear P N r a ac ad;have ag:(Ou C A B).size<=maxLen:=by
  unfold Ou maxLen;rw[CH,CH,BP]
  show 2+_+_<=_;omega
 have HE:=hid (show Ou C A B=US u.sl.key u.sl.nxt d by unfold US;rw[hA,hB,hC])
 go_region_held3 (fun w'=>w'.cell? ⟨p.b,5,U⟩=I (V (I p.ps))/\w'.cell? ⟨i,0,U⟩=I (.int Z (C:Int))/\w'.cell? ⟨i,1,U⟩=I (.string A)/\w'.cell? ⟨i,2,U⟩=I (.string B)) (first | exact⟨c5,y0,y1,y2⟩ | exact q1 | exact q2 | go_keep) (first
  | (go_at_call 133;refine(ah _).mono ?_;rintro e G ⟨rfl,ae⟩;have v:=hid (H4.out.below (Fr ((Ad _ t).drew) ae));have q1:G.cell? ⟨p.b,5,U⟩=I (V (I p.ps))/\G.cell? ⟨i,0,U⟩=I (.int Z (C:Int))/\G.cell? ⟨i,1,U⟩=I (.string A)/\G.cell? ⟨i,2,U⟩=I (.string B):=⟨(v.out.box (j:=0) rfl).cell 5,(v.out.box (j:=11) rfl).cell 0,(v.out.box (j:=11) rfl).cell 1,(v.out.box (j:=11) rfl).cell 2⟩)
  | (go_at_call 132;refine(v.out.act (j:=1) rfl (Ae1 p.ps u.snd (Ou C A B) G ag)).mono ?_;rintro e R ⟨c',⟨rfl,rfl⟩,s⟩;have H6:=hid s;have q2:R.cell? ⟨p.b,5,U⟩=I (V (I p.ps))/\R.cell? ⟨i,0,U⟩=I (.int Z (C:Int))/\R.cell? ⟨i,1,U⟩=I (.string A)/\R.cell? ⟨i,2,U⟩=I (.string B):=⟨(s.box (j:=0) rfl).cell 5,(s.box (j:=11) rfl).cell 0,(s.box (j:=11) rfl).cell 1,(s.box (j:=11) rfl).cell 2⟩;clear s))
 go_wp2_with fail;go_ret;refine⟨rfl,?_⟩;have h9:=H6.out.drop 11;rw[HE.out]at h9;exact h9.conv fun j=>by rcases j with _ | _ | _ | _ | _ | _ | _ | _ | _ | _ | _ | _ | j<;>rfl
theorem T9{m:OutM}(h:(m.next 12).err=0):∃a b l d,(m.next 12).p=⟨(a:Nat),(b:Nat),l,d⟩/\d.size<=12:=by
 have e:∀k u,∃a b l d,(m.Mw k u 12).p=⟨(a:Nat),(b:Nat),l,d⟩/\d.size<=12:=fun k u=>by
  refine⟨u % 64,m.hit k u,_,_,rfl,?_⟩;rw[CF];have i:m.hit k u<=m.sz u:=Nb _ (Af _);have q:m.cut k u 12<=min (m.sz u) (m.hit k u+12):=Nb _ (by omega);omega
 unfold OutM.next at h ⊢
 rw[Aa (by omega)]at h ⊢
 split at h
 ·rw[Ab (by assumption)];exact e _ _
 ·split at h
  ·rw[Aa (by assumption),Ab (by assumption)];exact e _ _
  ·cases h
def YZ (p:PieceM):ByteArray:=(GN [⟨1,Ik p.num.toNat p.frm.toNat p.last p.data⟩] 20).text
theorem AaA(a b:Nat)(l:Bool)(d:ByteArray):(Ik a b l d).size=4+d.size:=by unfold Ik;rw[CH,BP];rfl
theorem VH(a b:Nat)(l:Bool)(d:ByteArray)(hd:d.size<=12):(YZ ⟨a,b,l,d⟩).size=20/\(GN [⟨1,Ik a b l d⟩] 20).err=0:=by
 have k:=AaA a b l d;have i:[(⟨1,Ik a b l d⟩:ItemM)].all ItemM.ok=true:=by
  simp only[List.all_cons,List.all_nil,Bool.and_true];unfold ItemM.ok;simp[k];omega
 have h:(Fp [⟨1,Ik a b l d⟩]).length<=20:=by
  have p:(Fp [⟨1,Ik a b l d⟩]).length=3+(Ik a b l d).data.size:=by simp[Fp,ItemM.bytes,ItemM.head,FN];omega
  have q:(Ik a b l d).data.size=(Ik a b l d).size:=rfl;omega
 have e:GN [⟨1,Ik a b l d⟩] 20=⟨strOfNums (No (Fp [⟨1,Ik a b l d⟩]) 20),0⟩:=by
  unfold GN
  grind
 refine⟨?_,by rw[e]⟩
 show(GN [⟨1,Ik (a:Int).toNat (b:Int).toNat l d⟩] 20).text.size=20;rw[AN,AN,e]
 show(strOfNums _).size=20;rw[BP,Ss h]
structure Bk(m:SendM):Prop where
 ok:m.Ok
 idle:∀k,1<=k->k<8->(m.tat k).busy=Y
 opn:(m.tat 0).opn=Y
 len:(m.tat 0).busy=true->(m.tat 0).data.size=20
theorem Bk.wait(h:Bk m):m.waitTo 8=if (m.tat 0).busy then [0] else []:=by
 have d:m.waitTo 8=m.waitTo 1:=by rw[SendM.I1 (h.idle 7 (by omega) (by omega)),SendM.I1 (h.idle 6 (by omega) (by omega)),SendM.I1 (h.idle 5 (by omega) (by omega)),SendM.I1 (h.idle 4 (by omega) (by omega)),SendM.I1 (h.idle 3 (by omega) (by omega)),SendM.I1 (h.idle 2 (by omega) (by omega)),SendM.I1 (h.idle 1 (by omega) (by omega))]
 rw[d]
 cases a:(m.tat 0).busy
 ·rw[SendM.I1 a];rfl
 ·rw[SendM.UX a];rfl
def UsrM.Hj(u:UsrM):UsrM×Int:=if (u.blk.tat 0).busy then (u,0) else if (u.snd.next 12).err=0 then ({u with snd:=(u.snd.next 12).m,blk:=u.blk.set 0 ((u.blk.tat 0).Sf (YZ (u.snd.next 12).p))},0) else ({u with snd:=(u.snd.next 12).m},(u.snd.next 12).err)
theorem Bk.least(h:Bk m)(a:(m.tat 0).busy=Y):m.least=0:=SendM.ZW h.ok.len (by omega) (fun j d=>by omega) a
theorem AhZ{p:UsrP}{u:UsrM}(h:Hg w0 S w (setG D g (usO p u)))(hB:Bk u.blk):Calls prog 59 #[Fa p.b] w fun e w'=>e= Q (.tuple #[K .i64 0, K .i64 u.Hj.2])/\Hg w0 S w' (setG D g (usO p u.Hj.1)):=by
 have c7:w.cell? ⟨p.b,7,U⟩=I (V (I ⟨p.gb,0,U⟩)):=(h.box (j:=0) rfl).cell 7;obtain⟨F,bm, -,hP⟩:=h.get (j:=3) rfl;have G:=hid (Pu hP);unfold Fa;have H:=hid h
 cases r:(u.blk.tat 0).busy
 ·have hw:u.blk.waitTo 8=[]:=by rw[hB.wait,r];rfl
  rw[hw]at G;have e1:u.Hj=if (u.snd.next 12).err=0 then ({u with snd:=(u.snd.next 12).m,blk:=u.blk.set 0 ((u.blk.tat 0).Sf (YZ (u.snd.next 12).p))},0) else ({u with snd:=(u.snd.next 12).m},(u.snd.next 12).err):=by unfold UsrM.Hj;rw[r];rfl
  have x:=fun w'=>AoW p.ps u.snd 12 w'
  have z:=hB.least r;clear hP h hw
  by_cases y:(u.snd.next 12).err=0
  ·rw[Ab y]at e1;rw[e1];obtain⟨a,b,l,d,B,hd⟩:=T9 y;obtain⟨hz,hj⟩:=VH a b l d hd;rw[B,y]at x;rw[B];have ac:=fun wz=>Vk a b l d wz (by omega)
   have t:=fun(q:Option Addr) (wz:W) hI=>Agw [⟨1,Ik a b l d⟩] 20 q 1 1 wz hI rfl (by unfold maxLen;omega) (by omega)
   rw[hj]at t;have eT:(GN [⟨1,Ik a b l d⟩] 20).text=YZ ⟨a,b,l,d⟩:=by unfold YZ;rw[AN,AN]
   rw[eT]at t;have ad:=fun w'=>Ala p.gb u.blk (YZ ⟨a,b,l,d⟩) w' (by omega) z
   generalize YZ ⟨a,b,l,d⟩=T at*;generalize Ik a b l d=Z at*;dsimp only[PieceM.val]at x;generalize (u.snd.next 12).m=M at*;clear e1 B y hj eT z;go_enter func59,ntmps59
   go_upto_region 7 with(first
    | (go_at_call 57;refine G.out.mono ?_;rintro e w1 ⟨qa,qc,rfl, -,k⟩;have v:=H.out.below k;have c5:w1.cell? ⟨p.b,5,U⟩=I (V (I p.ps)):=(v.box (j:=0) rfl).cell 5)
    | (go_at_call 107;refine(v.act (j:=1) rfl (x w1)).mono ?_;rintro e w2 ⟨c',⟨rfl,rfl⟩,h2⟩))
   have P:=h2.Ii 11 216 [K .i64 (a:Int), K .i64 (b:Int), X l, J d];have s:=P.box (j:=11) rfl;change Hg w0 S (w2.alloc (.cells #[K .i64 (a:Int), K .i64 (b:Int), X l, J d] 216)) _ at P;change At (w2.alloc (.cells #[K .i64 (a:Int), K .i64 (b:Int), X l, J d] 216)) _ _ _ at s;obtain⟨gx, N⟩ := E7 w2.heap.size;rw[<-N]at P s ⊢;generalize (w2.alloc (.cells #[K .i64 (a:Int), K .i64 (b:Int), X l, J d] 216))=w3 at*;obtain⟨⟨y0,y1,y2,y3⟩, -⟩:=s.Ane;have H3:=hid P;clear N h2 v c5 c7 s P x
   go_wp2_with(first
    | (go_at_call 109;refine(ac _).mono ?_;rintro e w4 ⟨rfl,R⟩;have hI:Itms (w4.alloc (.cells #[K .i64 1, J Z] 223)) (I ⟨w4.heap.size,0,U⟩) [⟨1,Z⟩]:=fun _=>⟨_,_,rfl,fun i hi=>by have ab:i=0:=(by simpa using hi);subst ab;have ha:=Fc w4 223 [K .i64 1, J Z];exact⟨ha.cell 0,ha.cell 1⟩⟩;have HJ:=hid (t _ _ hI);clear hI t)
    | (go_at_call 108;refine HJ.out.mono ?_;rintro e w5 ⟨rfl,aa⟩;have h5:=H3.out.below (Fr (R.alloc R.size _) aa);have c7:w5.cell? ⟨p.b,7,U⟩=I (V (I ⟨p.gb,0,U⟩)):=(h5.box (j:=0) rfl).cell 7)
    | (go_at_call 110;refine(h5.act (j:=3) rfl (ad w5)).mono ?_;rintro e w6 ⟨c',⟨rfl,rfl⟩,h6⟩))
   go_ret2;refine⟨rfl,(h6.drop 11).conv fun j=>by rcases j with _ | _ | _ | _ | _ | _ | _ | _ | _ | _ | _ | _ | j<;>rfl⟩
  ·rw[Aa y]at e1;rw[e1];obtain⟨⟨pn,pf,pl,pd⟩,B⟩:∃q,q=(u.snd.next 12).p:=⟨_,rfl⟩;rw[<-B]at x;dsimp only[PieceM.val]at x;generalize (u.snd.next 12).err=E at*;generalize (u.snd.next 12).m=M at*;have hE:(E !=0)=true:=by simpa using y
   clear e1 B y z;go_enter func59,ntmps59
   go_wp2_with(first
    | (go_at_call 57;refine G.out.mono ?_;rintro e w1 ⟨qa,qc,rfl, -,k⟩;have v:=H.out.below k;have c5:w1.cell? ⟨p.b,5,U⟩=I (V (I p.ps)):=(v.box (j:=0) rfl).cell 5)
    | (go_at_call 107;refine(v.act (j:=1) rfl (x w1)).mono ?_;rintro e w2 ⟨c',⟨rfl,rfl⟩,h2⟩))
   go_ret2;refine⟨rfl,((h2.Ii 11 216 [K .i64 pn, K .i64 pf, X pl, J pd]).drop 11).conv fun j=>by rcases j with _ | _ | _ | _ | _ | _ | _ | _ | _ | _ | _ | _ | j<;>rfl⟩
 ·have hw:u.blk.waitTo 8=[0]:=by rw[hB.wait,r];rfl
  rw[hw]at G;have e1:u.Hj=(u,0):=by unfold UsrM.Hj;rw[r];rfl
  rw[e1];clear hP h hw e1;go_enter func59,ntmps59
  go_wp2_with(go_at_call 57;refine G.out.mono ?_;rintro e w1 ⟨qa,qc,rfl,hO,k⟩;obtain⟨gq,cq,eq, -⟩:=hO.Ako (m:=1) rfl (by omega);simp only[AE,Bs,Ao]at eq;cases eq;have z0:=hO.AmG (i:=0) (by simp);have v:=H.out.below k)
  go_ret2;exact⟨rfl,v⟩
end Go.Proofs.YtbjgfoiikhbonahGreatDoor
