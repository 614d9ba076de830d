import Derived.Test.YtbjgfoiikhbonahGreatDoorD28
import Derived.Deep.DeepCutAuto
set_option linter.unusedVariables false
set_option linter.unusedSimpArgs false
set_option maxRecDepth 100000
set_option maxHeartbeats 4000000
namespace Go.Proofs.YtbjgfoiikhbonahGreatDoor
open Go.ChangeShapes Go.WideShapes Go.ChangeAt Go.RowKit Go.Maps Go.Proofs.Tryz
open Value (int slice pointer string)
open IntKind (i64)
variable {D:Nat->Nat->Option Cm}{G b bm g i j k n:Nat}{M:Int->Option Value}{O:Nat->Option Cm}{S:List Nat}{args:Array Value}{c:Cm}{f:FuncId}{m:SendM}{ps:List (Int×Int)}{w w0:World}
def RI (p:Addr)(m:OutM):Cm:=⟨fun w F=>Snd w p F m,fun _ _ h=>AnU h,fun _ _ _ _ h hk hn=>Akq h hk hn⟩
def Adv (p:Addr)(r:InM):Cm:=⟨fun w F=>Rcv w p F r,fun _ _ h=>AnL h,fun _ _ _ _ h hk hn=>Ur h hk hn⟩
def Ju (T:TypeId)(k:Nat)(v:Value)(n:Nat)(xs:List Value):Cm:=⟨fun w F=>F=v.ownBlock.toList/\∃B,w.ownsRow B T k v n xs,fun w F ⟨e,B,h⟩=>by subst e;exact fun x hx=>(AB h x (by simpa using hx)).2,fun w w' F S ⟨e,B,h⟩ hk hn=>by subst e;exact⟨rfl,B,FY h hk fun x hx=>hn x (by simpa using hx)⟩⟩
def S9 (g:Nat)(m:SendM):Cm:=⟨fun w F=>∃bm,F=[g,bm]/\PSend w g bm m,fun w F ⟨bm,e,h⟩=>by
 subst e;intro x hx;simp only[Ar,Bt,BF]at hx
 rcases hx with rfl | rfl
 ·exact h.lt
 ·exact h.2.1.lt,fun w w' F S ⟨bm,e,h⟩ hk hn=>by subst e;exact⟨bm,rfl,h.kept hk (hn g (by simp)) (hn bm (by simp))⟩⟩
def Akp (g:Nat)(r:RecvM):Cm:=⟨fun w F=>F=[g]/\RTakes 302 w g r,fun w F ⟨e,h⟩=>by subst e;exact fun x hx=>by rw[AC]at hx;subst hx;exact h.lt,fun w w' F S ⟨e,h⟩ hk hn=>by subst e;exact⟨rfl,h.kept hk.block (hn g (by simp))⟩⟩
def sdC (g:Nat)(m:SdM):Cm:=⟨fun w F=>∃v,F=sdF g v/\PSd w g v m,fun w F ⟨v,e,h⟩=>by subst e;exact h.lt,fun w w' F S ⟨v,e,h⟩ hk hn=>by subst e;exact⟨v,rfl,h.kept hk hn⟩⟩
def gcC (g:Nat)(m:GcM):Cm:=⟨fun w F=>∃bm,F=gcF g bm/\PGc w g bm m,fun w F ⟨v,e,h⟩=>by subst e;exact h.lt,fun w w' F S ⟨v,e,h⟩ hk hn=>by subst e;exact⟨v,rfl,h.kept hk hn⟩⟩
def coC (c:Nat)(m:CoM)(n:Nat):Cm:=⟨fun w F=>PCo w c F m n,fun w F ⟨N,e,h⟩=>by subst e;exact h.lt,fun w w' F S ⟨N,e,h⟩ hk hn=>by subst e;exact⟨N,rfl,h.kept hk hn⟩⟩
def tuC (r last:Nat)(opn:Bool)(cr:Nat->Int):Cm:=⟨fun w F=>F=[r]/\PTurn w r 1 last opn cr,fun w F ⟨e,h⟩=>by subst e;exact fun x hx=>by rw[AC]at hx;subst hx;exact FunAt.lt h,fun w w' F S ⟨e,h⟩ hk hn=>by subst e;exact⟨rfl,FunAt.kept h hk (hn r (by simp))⟩⟩
def AfV (p:Addr)(S:Setg)(s:List Int):Cm:=⟨fun w F=>EarP w p F S 20 s,fun _ _ h=>BufR.lt h,fun _ _ _ _ h hk hn=>BufR.kept h hk hn⟩
theorem Ae1(p:Addr)(m:OutM)(s:ByteArray)(w:World)(l:s.size<=maxLen):NS 132 #[pointer (some p),string s] w (RI p m) fun e c=>e=.returned (int i64 (m.KW s).err)/\c=RI p (m.KW s).m:=fun _ _ _ h=>(AdO s h l).mono fun _ _ ⟨a,b,F',c,d⟩=>⟨_,⟨a,rfl⟩,b,F',c,d⟩
theorem AoW(p:Addr)(m:OutM)(z:Int)(w:World):NS 107 #[pointer (some p),int i64 z] w (RI p m) fun e c=>e=.returned (.tuple #[(m.next z).p.val,int i64 (m.next z).err])/\c=RI p (m.next z).m:=fun _ _ _ h=>(Akr z h).mono fun _ _ ⟨a,b,F',c,d⟩=>⟨_,⟨a,rfl⟩,b,F',c,d⟩
theorem Ake(p:Addr)(m:OutM)(w:World):NS 58 #[pointer (some p)] w (RI p m) fun e c=>e=.returned (int i64 (m.wait:Nat))/\c=RI p m:=fun _ _ _ h=>(Akt h).mono fun _ _ ⟨a,b,F',c,d⟩=>⟨_,⟨a,rfl⟩,b,F',c,d⟩
theorem AoU(p:Addr)(r:InM)(x:PieceM)(w:World)(B:x.data.size<=Wf):YJ 167 #[pointer (some p),x.val] w (Adv p r) fun e c d=>∃a k,e=.returned (.tuple #[slice a (r.take x).out.length k,int i64 (r.take x).err])/\(r.take x).out.length<=32/\c=Adv p (r.take x).m/\d=Ju 9 1 (slice a (r.take x).out.length k) (r.take x).out.length ((r.take x).out.map Value.string):=fun _ F _ h=>(Ahf x h B).mono fun e w' ⟨a,n,c,t,u,q,a',n',c',o,ht,A,J,v,F',E,H,I⟩=>by
 subst t;simp at o;obtain⟨rfl,rfl,rfl⟩:=o;subst A;refine⟨_,_,⟨a,c,rfl,u,rfl,rfl⟩,v,F',_,E,H,⟨rfl,_,q⟩,fun y C=>?_⟩;have l:(slice a (r.take x).out.length c).ownBlock=some y:=by simpa using C
 refine⟨(AB q y l).1,?_⟩;obtain⟨a',c',o, -, -,s⟩:=Fg q;simp only[Aq]at o;obtain⟨rfl, -,rfl⟩:=o
 cases a with
 | none=>cases l
 | some z=>
  obtain⟨g,rfl,hg⟩:=s z rfl;rw[hg]at l
  cases l;exact I _ rfl
theorem Al5(p:Addr)(r:InM)(w:World):YJ 33 #[pointer (some p)] w (Adv p r) fun e c d=>∃a k,e=.returned (.agg #[int i64 r.Fx.next,slice a r.Fx.miss.length k])/\r.Fx.miss.length<=maxLen/\c=Adv p r/\d=Ju 154 3 (slice a r.Fx.miss.length k) r.Fx.miss.length (GS r.Fx.miss):=fun _ F _ h=>(AaP h).mono fun e w' ⟨a,n,c,t,ht,v,x,H,u,F',B,C,E,_,o,_⟩=>by
 subst t;subst v;refine⟨_,_,⟨a,c,rfl,x,rfl,rfl⟩,u,F',_,B,C,⟨rfl,_,o⟩,fun y A=>?_⟩;have l:(slice a r.Fx.miss.length c).ownBlock=some y:=by simpa using A
 refine⟨(AB o y l).1,?_⟩;obtain⟨a',c',s, -, -,q⟩:=Fg o;simp only[Aq]at s;obtain⟨rfl, -,rfl⟩:=s
 cases a with
 | none=>cases l
 | some z=>
  obtain⟨g,rfl,hg⟩:=q z rfl;rw[hg]at l
  cases l;exact E _ rfl
def AmY (f:FuncId)(args:Array Value)(w:World)(c d:Cm)(R:Ending->Cm->Prop):Prop:=Tb w->∀F G,(∀x∈F,Oe<=x)->c.P w F->d.P w G->(∀x∈G,x∉F)->Calls prog f args w fun e w'=>∃c',R e c'/\Kept F w w'/\∃F',c'.P w' F'/\Ga w.heap.size F F'
theorem Hg.Am1(h:Hg w0 S w (setG D g O)){d:Cm}(hi:O i=some c)(t:O j=some d)(l:j≠i){R:Ending->Cm->Prop}(H:AmY f args w c d R):Calls prog f args w fun e w'=>∃c',R e c'/\Hg w0 S w' (setG D g (FQ O i (some c'))):=by
 obtain⟨F,h⟩:=h;have a:(fun i:Nat×Nat=>setG D g O i.1 i.2) (g,i)=some c:=by show setG D g O g i=_;rw[IW];exact hi
 have o:(fun i:Nat×Nat=>setG D g O i.1 i.2) (g,j)=some d:=by show setG D g O g j=_;rw[IW];exact t
 have y:=h.hi;refine(H h.tb (F (g,i)) (F (g,j)) (fun x v=>((h.each _ c a).2 x v).elim (h.lo x) (by omega)) (h.each _ c a).1 (h.each _ d o).1 (h.ap _ _ (by simpa using l) (fun q=>by grind) (fun q=>by grind))).mono ?_;rintro e w' ⟨c',s,u,F',r,hg⟩;have p:=h.step a u r hg;rw[JI]at p;exact⟨c',s,p⟩
theorem AoX(p:Addr)(m:OutM)(r:ReportM)(a:Option Addr)(k:Nat)(w:World)(l:r.miss.length<=maxLen):AmY 32 #[pointer (some p),.agg #[int i64 r.next,slice a r.miss.length k]] w (RI p m) (Ju 154 3 (slice a r.miss.length k) r.miss.length (GS r.miss)) fun e c=>e=.returned (int i64 (m.take r).err)/\c=RI p (m.take r).m:=fun _ F G _ h ⟨e,B,hd⟩ o=>by
 subst e;refine(Aks r a _ k h (AeH hd) (fun _ y q=>?_) rfl l).mono fun _ _ ⟨a,b,F',c,d⟩=>⟨_,⟨a,rfl⟩,b,F',c,d⟩
 grind [Fg]
theorem TJ{F F':List Nat}(h:Ga n F F'):Ga n (g::F) (g::F'):=by grind [Ga]
theorem Aov(g:Nat)(m:SdM)(d:ByteArray)(w:World)(hd:d.size<=500)(l:m.nxt<16777216):NS 131 #[pointer (some ⟨g,0,none⟩),string d] w (sdC g m) fun e c=>e=.returned (.tuple #[(QQ m.key m.nxt d).val,int i64 0])/\c=sdC g (m.Mw d):=fun _ F _ ⟨v,e,h⟩=>by
 subst e;exact(Ai0 h hd l).mono fun _ _ ⟨a,b,v',c,d⟩=>⟨_,⟨a,rfl⟩,b,_,⟨v',rfl,c⟩,TJ d⟩
def SdM.cf(m:SdM)(c:Nat):SdM:=if c<m.nxt then m.Kv c else m
theorem Aot(g:Nat)(m:SdM)(c:Nat)(w:World):NS 138 #[pointer (some ⟨g,0,none⟩),int i64 (c:Int)] w (sdC g m) fun e x=>(∃y:Int,e=.returned (int i64 y))/\x=sdC g (m.cf c):=fun _ F _ ⟨v,e,h⟩=>by
 subst e;unfold SdM.cf
 split
 ·next hc=>exact(AiV h hc).mono fun _ _ ⟨a,b,v',c,d⟩=>⟨_,⟨⟨_,a⟩,rfl⟩,b,_,⟨v',rfl,c⟩,TJ d⟩
 ·next hc=>exact(Af7 h (.inr (by omega))).mono fun _ w' ⟨a,b⟩=>⟨_,⟨⟨_,a⟩,rfl⟩,Kept.E5 b,_,⟨v,rfl,h.kept (S:=[]) (Kept.E5 b) (by simp)⟩,fun x l=> .inl l⟩
theorem Ang(g:Nat)(m:SdM)(k:Int)(w:World)(o:KZ k=true):YJ 140 #[pointer (some ⟨g,0,none⟩),int i64 k] w (sdC g m) fun e c d=>∃G,e=.returned (.tuple #[slice (some ⟨G,0,none⟩) m.wait.length m.wait.length,int i64 0])/\c=sdC g (m.move k)/\d=JP G 255 (FJ (m.NC k)):=fun _ F _ ⟨v,e,h⟩=>by
 subst e;refine(AiW h o).mono fun _ w' ⟨G,a,b,c,d,e⟩=>⟨_,_,⟨G,a,rfl,rfl⟩,d,_,[G],⟨v,rfl,e⟩,fun x l=> .inl l,⟨rfl,c⟩,fun x l=>?_⟩
 rw[AC]at l;subst l;exact⟨b,fun q=>by have:=h.lt _ q;omega⟩
theorem Anf(g:Nat)(m:GcM)(k:Int)(w:World)(d:KZ k=true):NS 139 #[pointer (some ⟨g,0,none⟩),int i64 k] w (gcC g m) fun e c=>e=.returned (int i64 0)/\c=gcC g (m.move k):=fun _ F _ ⟨v,e,h⟩=>by
 subst e;exact(Af9 h d).mono fun _ _ ⟨a,b,c⟩=>⟨_,⟨a,rfl⟩,b,_,⟨v,rfl,c⟩,fun x l=> .inl l⟩
theorem Alh{c:Nat}{m:CoM}{n':Nat}{r:CoR}(H:∀F,PCo w c F m n->Calls prog f args w (StepC w c F r n')):NS f args w (coC c m n) fun e x=>e=.returned (int i64 r.err)/\x=coC c r.m n':=fun _ F _ h=>(H F h).mono fun _ _ ⟨a,b,F',c,d⟩=>⟨_,⟨a,rfl⟩,b,F',c,d⟩
theorem Aoe(c:Nat)(m:CoM)(n:Nat)(k:Int)(w:World)(l:Gb k)(o:n<Jf):NS 78 #[Fa c,int i64 k] w (coC c m n) fun e x=>e=.returned (.tuple #[int i64 (m.Lu k:Nat),int i64 (m.QF k:Nat),int i64 (m.Gu k)])/\x=coC c (m.Ka k) (n+1):=fun _ F _ h=>(AfM h l o).mono fun _ _ ⟨a,b,F',c,d⟩=>⟨_,⟨a,rfl⟩,b,F',c,d⟩
theorem Ala(g:Nat)(m:SendM)(s:ByteArray)(w:World)(l:s.size<=1500)(d:m.least=0):NS 110 #[pointer (some ⟨g,0,none⟩),string s] w (S9 g m) fun e c=>e=.returned (.tuple #[int i64 0,int i64 0])/\c=S9 g (m.set 0 ((m.tat 0).Sf s)):=fun _ F _ ⟨v,e,h⟩=>by
 subst e;exact(Yd h s l 0 d (by omega)).mono fun _ _ ⟨a,b,c⟩=>⟨_,⟨a,rfl⟩,c,_,⟨v,rfl,b⟩,fun x o=> .inl o⟩
theorem Aod(g:Nat)(m:SendM)(w:World)(d:(m.tat 0).busy=true)(l:(m.tat 0).opn=false):NS 60 #[pointer (some ⟨g,0,none⟩),int i64 0] w (S9 g m) fun e c=>e=.returned (.tuple #[.agg #[int i64 0,int i64 (PA (m.tat 0).tries),.bool (m.tat 0).flag,string (m.tat 0).data],int i64 0])/\c=S9 g (m.set 0 (m.tat 0).tried):=fun ht F _ ⟨v,e,h⟩=>by
 subst e;exact(Adq h ht.ver 0 (by omega) d l).mono fun _ _ ⟨a,b,c⟩=>⟨_,⟨a,rfl⟩,c,_,⟨v,rfl,b⟩,fun x o=> .inl o⟩
theorem Apg(g:Nat)(m:SendM)(yes:Bool)(w:World)(s:m.Ok)(d:(m.tat 0).busy=true)(q:(m.tat 0).opn=true):NS 62 #[pointer (some ⟨g,0,none⟩),int i64 0,.bool yes] w (S9 g m) fun e c=>e=.returned (.tuple #[.bool (m.done 0 yes),int i64 0])/\c=S9 g (m.set 0 (m.GI 0 yes)):=fun _ F _ ⟨v,e,h⟩=>by
 subst e;have r:=NU m 0 yes;have t:=(s.each 0 (by omega) d).1 q
 cases yes with
 | true=>exact(AjR h 0 (by omega) d q (m.GI 0 true) (by simp[SendM.GI,SendM.done]) rfl r).mono fun _ _ ⟨a,b,c⟩=>⟨_,⟨by rw[a];simp[SendM.done],rfl⟩,c,_,⟨v,rfl,b⟩,fun x o=> .inl o⟩
 | false=>
  by_cases p:(m.tat 0).tries=m.limit
  ·exact(Adl h 0 (by omega) d q p (m.GI 0 false) (by simp[SendM.GI,SendM.done,p]) rfl r).mono fun _ _ ⟨a,b,c⟩=>⟨_,⟨by rw[a];simp[SendM.done,p],rfl⟩,c,_,⟨v,rfl,b⟩,fun x o=> .inl o⟩
  ·have l:¬m.limit<=(m.tat 0).tries:=by omega
   exact(Al0 h 0 (by omega) d q p (m.GI 0 false) (by simp[SendM.GI,SendM.done,l]) rfl r rfl).mono fun _ _ ⟨a,b,c⟩=>⟨_,⟨by rw[a];simp[SendM.done,l],rfl⟩,c,_,⟨v,rfl,b⟩,fun x o=> .inl o⟩
theorem Aoy(g:Nat)(r:RecvM)(l:Int)(o:Bool)(d:ByteArray)(hd:Bool)(w:World)(q:P9 l=true)(p:d.size<=1500):NS 113 #[pointer (some ⟨g,0,none⟩),(ShotM.mk 0 l o d).val,.bool hd] w (Akp g r) fun e c=>e=.returned (r.J7 ⟨0,l,o,d⟩ hd).val/\c=Akp g (r.next ⟨0,l,o,d⟩ hd):=fun _ F _ ⟨e,h⟩=>by
 subst e;exact(Adt h 0 l o d hd (by omega) q p).mono fun _ _ ⟨a,b,c⟩=>⟨_,⟨a,rfl⟩,c,_,⟨rfl,b⟩,fun x s=> .inl s⟩
theorem VS(L:List Int)(a:World):(convert 103 9 (slice (some ⟨a.heap.size,0,none⟩) L.length L.length)).run prog (a.alloc (.cells (L.map (Value.int .u8)).toArray 5))=.ok (string (strOfNums L)) (a.alloc (.cells (L.map (Value.int .u8)).toArray 5)):=by
 refine L6 (L:=L) ?_ _;intro _;refine⟨a.heap.size,0,rfl,fun j d=>?_⟩;rw[Al _ _ _ _ _ _ (Am a _)];simp[List.getD,d]
def Ik (n f:Nat)(l:Bool)(d:ByteArray):ByteArray:=strOfNums [(n:Int) % 256,(f:Int) / 256 % 256,(f:Int) % 256,if l then 1 else 0]++d
theorem Vk(n f:Nat)(l:Bool)(d:ByteArray)(w:World)(hd:d.size<=1500):Calls prog 109 #[.agg #[int i64 (n:Int),int i64 (f:Int),.bool l,string d]] w fun e w'=>e=.returned (string (Ik n f l d))/\Below w.heap.size w w':=by
 have a:=VS [(n:Int) % 256,(f:Int) / 256 % 256,(f:Int) % 256,if l then 1 else 0] (w.alloc (.cells #[int i64 (n:Int),int i64 (f:Int),.bool l,string d] 216));simp only[AE,Bs,Be,BE,Ao,Nat.reduceAdd,Ax]at a;have h:=hid (show strOfNums [(n:Int) % 256,(f:Int) / 256 % 256,(f:Int) % 256,if l then 1 else 0]++d=Ik n f l d from rfl);have o:(strOfNums [(n:Int) % 256,(f:Int) / 256 % 256,(f:Int) % 256,if l then 1 else 0]).size<=4:=by rw[BP];exact Ac _
 generalize strOfNums [(n:Int) % 256,(f:Int) / 256 % 256,(f:Int) % 256,if l then 1 else 0]=H at*
 cases l
 all_goals
  simp only[Ct,AV,AP]at a;go_enter func109,ntmps109;go_wp2;go_ret;exact⟨by rw[<-h.out];rfl,((Ad _ _).alloc (Ac _) _).alloc (by simp) _⟩
def Ou (s:Nat)(d l:ByteArray):ByteArray:=strOfNums [(s:Int) / 256 % 256,(s:Int) % 256]++l++d
theorem Ov(s:Nat)(d l:ByteArray)(w:World)(hd:d.size<=1500)(p:l.size<=1500):Calls prog 133 #[.agg #[int i64 (s:Int),string d,string l]] w fun e w'=>e=.returned (string (Ou s d l))/\Below w.heap.size w w':=by
 have h:=VS [(s:Int) / 256 % 256,(s:Int) % 256] (w.alloc (.cells #[int i64 (s:Int),string d,string l] 255));simp only[AE,Bs,Be,BE,Ao,Nat.reduceAdd,Ax]at h;have a:=hid (show strOfNums [(s:Int) / 256 % 256,(s:Int) % 256]++l++d=Ou s d l from rfl);have q:(strOfNums [(s:Int) / 256 % 256,(s:Int) % 256]).size<=2:=by rw[BP];exact Ac _
 have o:(strOfNums [(s:Int) / 256 % 256,(s:Int) % 256]++l).size<=1502:=by rw[CH];omega
 generalize strOfNums [(s:Int) / 256 % 256,(s:Int) % 256]=H at*;go_enter func133,ntmps133;go_wp2;go_ret;exact⟨by rw[<-a.out];rfl,((Ad _ _).alloc (Ac _) _).alloc (by simp) _⟩
def Ha (who:Nat):Setg:=if who % 2=1 then ⟨0,0,4,who,600⟩ else ⟨1,256,2,who,256⟩
theorem Yo(k:Nat)(w:World)(d:k<=16):Calls prog 160 #[int i64 (k:Int)] w fun e w'=>e=.returned (Ha k).val/\Below w.heap.size w w':=by
 by_cases h:k % 2=1
 ·have a:(k:Int).tmod 2=1:=by grind
  have e:Ha k=⟨0,0,4,k,600⟩:=Ab h;rw[e];clear e h;go_enter func160,ntmps160;go_wp2;refine Ah (BO (p:=2) (ty:=286) (by kernel_rfl) _ _ w.heap.size 286 _ (0,0) _ rfl (Am w _) underlying286 rfl (by kernel_rfl)) rfl ?_;exact⟨rfl,(Ad _ _).alloc (Ac _) _⟩
 ·have a:(k:Int).tmod 2=0:=by grind
  have e:Ha k=⟨1,256,2,k,256⟩:=Aa h;rw[e];clear e h;go_enter func160,ntmps160;go_wp2;refine Ah (BO (p:=2) (ty:=286) (by kernel_rfl) _ _ w.heap.size 286 _ (0,0) _ rfl (Am w _) underlying286 rfl (by kernel_rfl)) rfl ?_;exact⟨rfl,(Ad _ _).alloc (Ac _) _⟩
def two (a b:Nat):Int:=RowKit.wrap64 (RowKit.wrap64 (RowKit.wrap64 (a:Int)*256)+RowKit.wrap64 (b:Int))
def LR (t:ByteArray):PktM×Bool:=if t.size<5 then (.zero,false) else (⟨two (Fk t 0) (Fk t 1),t.extract 5 t.size,t.extract 2 5⟩,true)
theorem MF{t:ByteArray}(h:j<t.size):t[j].toNat=Fk t j:=by unfold Fk;rw[dif_pos h]
theorem SQ(t:ByteArray)(w:World):Calls prog 208 #[string t] w fun e w'=>e=.returned (.tuple #[(LR t).1.val,.bool (LR t).2])/\Below w.heap.size w w':=by
 by_cases h:t.size<5
 ·rw[show LR t=(.zero,false)from Ab h];have p:(t.size:Int)<5:=by omega
  go_enter func208,ntmps208;go_wp2;refine Ah (v:=.tuple #[PktM.zero.val,.bool false]) ?_ rfl ⟨rfl,?_⟩
  ·rw[AD rfl]
   go_simp;rfl
  ·exact(Ad _ _).alloc (Ac _) _
 ·rw[show LR t=(⟨two (Fk t 0) (Fk t 1),t.extract 5 t.size,t.extract 2 5⟩,true)from Aa h];have d:0<t.size:=by omega
  have g1:1<t.size:=by omega
  have l:(1:Int)<(t.size:Int):=by omega
  have o:(5:Int)<=(t.size:Int):=by omega
  have a:=MF d;have e1:=MF g1;rw[<-a,<-e1];clear a e1;go_enter func208,ntmps208;go_upto_region 3 with fail
  go_region;go_wp2;refine Ah (v:=.tuple #[(PktM.mk (two t[0].toNat t[1].toNat) (t.extract 5 t.size) (t.extract 2 5)).val,.bool true]) ?_ rfl ⟨rfl,?_⟩
  ·rw[AD rfl]
   go_simp;rfl
  ·exact((Ad _ _).alloc (Ac _) _).drew
def Yc (t:ByteArray):PieceM×Bool:=if t.size<4\/1<Fk t 3 then (.zero,false) else (⟨RowKit.wrap64 (Fk t 0:Int),two (Fk t 1) (Fk t 2),(Fk t 3:Int)==1,t.extract 4 t.size⟩,true)
theorem Ui(t:ByteArray)(w:World):Calls prog 203 #[string t] w fun e w'=>e=.returned (.tuple #[(Yc t).1.val,.bool (Yc t).2])/\Below w.heap.size w w':=by
 by_cases h:t.size<4
 ·rw[show Yc t=(.zero,false)from Ab (.inl h)];have y:(t.size:Int)<4:=by omega
  go_enter func203,ntmps203;go_wp2;refine Ah (v:=.tuple #[PieceM.zero.val,.bool false]) ?_ rfl ⟨rfl,?_⟩
  ·rw[AD rfl]
   go_simp;rfl
  ·exact(Ad _ _).alloc (Ac _) _
 ·have r:3<t.size:=by omega
  have s:(3:Int)<(t.size:Int):=by omega
  have u:¬(t.size:Int)<4:=by omega
  have e3:=MF r
  by_cases a:1<Fk t 3
  ·rw[show Yc t=(.zero,false)from Ab (.inr a)];rw[<-e3]at a;have d:(1:Int)<(t[3].toNat:Int):=by omega
   clear h e3;go_enter func203,ntmps203;go_wp2;refine Ah (v:=.tuple #[PieceM.zero.val,.bool false]) ?_ rfl ⟨rfl,?_⟩
   ·rw[AD rfl]
    go_simp;rfl
   ·exact(Ad _ _).alloc (Ac _) _
  ·rw[show Yc t=_ from Aa (fun q=>q.elim h a)];rw[<-e3]at a |-;have d:¬(1:Int)<(t[3].toNat:Int):=by omega
   have l:0<t.size:=by omega
   have g1:1<t.size:=by omega
   have g2:2<t.size:=by omega
   have o:(1:Int)<(t.size:Int):=by omega
   have p:(2:Int)<(t.size:Int):=by omega
   have x:(4:Int)<=(t.size:Int):=by omega
   rw[<-MF l,<-MF g1,<-MF g2];clear h e3;go_enter func203,ntmps203;go_upto_region 3 with fail
   go_region;go_wp2;refine Ah (v:=.tuple #[(PieceM.mk (RowKit.wrap64 (t[0].toNat:Int)) (two t[1].toNat t[2].toNat) ((t[3].toNat:Int)==1) (t.extract 4 t.size)).val,.bool true]) ?_ rfl ⟨rfl,?_⟩
   ·rw[AD rfl]
    go_simp;rfl
   ·exact((Ad _ _).alloc (Ac _) _).drew
def Hr (s:ByteArray):PieceM×Bool:=match KV s with
 | some [x]=>if x.ch=1 then Yc x.data else (.zero,false)
 | _=>(.zero,false)
theorem AcQ{B c:Nat}{a:Option Addr}{x:ItemM}{r:List ItemM}(h:OwnIt w B (slice a n c) (x::r)):∃g,a=some ⟨g,0,none⟩/\w.cell? ⟨g,0,none⟩=some (int i64 x.ch)/\w.cell? ⟨g,1,none⟩=some (string x.data):=by
 rcases h.2 with⟨e,o⟩ | ⟨g,l,cur,e,_,hg,_,_,_,ht⟩
 ·simp at o
 ·simp only[Aq]at e;obtain⟨rfl,_,_⟩:=e;have d:∀k,k<2->w.cell? ⟨g,k,none⟩=(Th (x::r))[k]?:=fun k p=>by
   rw[Al _ _ _ _ _ _ hg,<-ht,A3 (by simp;omega)];simp
  exact⟨g,rfl,(d 0 (by omega)).trans rfl,(d 1 (by omega)).trans rfl⟩
theorem At.Ane{T:TypeId}{c0 c1 c2 c3:Value}(h:At w b T [c0,c1,c2,c3]):(w.cell? ⟨b,0,none⟩=some c0/\w.cell? ⟨b,1,none⟩=some c1/\w.cell? ⟨b,2,none⟩=some c2/\w.cell? ⟨b,3,none⟩=some c3)/\w.frozen? ⟨b,0,none⟩=false/\w.frozen? ⟨b,1,none⟩=false/\w.frozen? ⟨b,2,none⟩=false/\w.frozen? ⟨b,3,none⟩=false:=⟨⟨h.cell 0,h.cell 1,h.cell 2,h.cell 3⟩,h.free 0,h.free 1,h.free 2,h.free 3⟩
theorem AhC(s:ByteArray)(w:World)(p:s.size<=65535):Calls prog 202 #[string s] w fun e w'=>∃a n c E,e=.returned (.tuple #[slice a n c,int i64 E])/\Below w.heap.size w w'/\((((n:Int) !=1)=true/\Hr s=(.zero,false))\/n=1/\∃x g,a=some ⟨g,0,none⟩/\w'.cell? ⟨g,0,none⟩=some (int i64 (ItemM.ch x))/\w'.cell? ⟨g,1,none⟩=some (string x.data)/\Hr s=if x.ch=1 then Yc x.data else (.zero,false)):=by
 refine(Abw s w p).mono ?_;rintro e w' ⟨⟨d,rfl⟩ | ⟨l,a,c,d,rfl,h,q⟩,o⟩
 ·exact⟨_,_,_,_,rfl,o,.inl ⟨by simp,by unfold Hr;rw[d]⟩⟩
 ·match l,d,h with
  | [],d,_=>exact⟨_,_,_,_,rfl,o,.inl ⟨by simp,by unfold Hr;rw[d]⟩⟩
  | [x],d,h=>
   grind [AcQ,Hr]
  | x::y::r,d,_=>grind [Hr]
theorem Aaz(s:ByteArray)(w:World)(hs:s.size<=65535):Calls prog 166 #[string s] w fun e w'=>e=.returned (.tuple #[(Hr s).1.val,.bool (Hr s).2])/\Below w.heap.size w w':=by
 have u:=fun H=>AhC s H hs
 have r:Below w.heap.size w (w.alloc (.cells #[int i64 0,int i64 0,.bool false,string {data:=#[]}] 216)):=(Ad _ w).alloc (Ac _) _;have Y:=hid (Fc w 216 [int i64 0,int i64 0,.bool false,string {data:=#[]}]);generalize Hr s=R at*;go_enter func166,ntmps166;go_upto_region 2 with(go_at_call 202;refine(u _).mono ?_;rintro e w1 ⟨a,n,c,E,rfl,l,Z⟩)
 have B:=Y.out.kept (S:=[]) (Kept.E5 l) (by simp);obtain⟨⟨U,V,W,X⟩,J,K,L,f3⟩:=B.Ane;have z:=hid (Fr r l);have y:=hid B;clear l u r B;have d:∀(q:PieceM) (w2:World),Below w.heap.size w w2->Below w.heap.size w ((((w2.setCell ⟨w.heap.size,0,none⟩ (int i64 q.num)).setCell ⟨w.heap.size,1,none⟩ (int i64 q.frm)).setCell ⟨w.heap.size,2,none⟩ (.bool q.last)).setCell ⟨w.heap.size,3,none⟩ (string q.data)):=fun q w2 h=>(((h.setCell (Ac _) _).setCell (Ac _) _).setCell (Ac _) _).setCell (Ac _) _
 have A:=hid d;clear d
 rcases Z with⟨hn,o⟩ | ⟨rfl,x,g,rfl,x0,x1,o⟩
 ·subst o
  go_wp2_with fail
  (try simp only[Exit.inBlock,Exit.then])
  refine Ah (v:=.tuple #[PieceM.zero.val,.bool false]) ?_ rfl ⟨rfl,A.out .zero w1 z.out⟩;rw[AD rfl]
  go_simp;rfl
 ·by_cases p:x.ch=1
  ·rw[Ab p]at o;have F:=fun H=>Ui x.data H
   obtain⟨C,I⟩:=E7 x.ch;rw[<-I]at x0 p;subst p;clear I;rw[<-o]at F;obtain⟨⟨T,P,Q,N⟩,pb⟩:=R;dsimp only[PieceM.val]at F;clear U V W X J K L f3
   go_wp2_with(go_at_call 203;refine(F _).mono ?_;rintro e w2 ⟨rfl,t⟩;obtain⟨⟨U,V,W,X⟩,J,K,L,f3⟩:=(y.out.kept (S:=[]) (Kept.E5 t) (by simp)).Ane)
   (try simp only[Exit.inBlock,Exit.then])
   refine Ah (v:=.tuple #[(PieceM.mk T P Q N).val,.bool pb]) ?_ rfl ⟨rfl,A.out ⟨T,P,Q,N⟩ w2 (Fr z.out t)⟩;rw[AD rfl]
   go_simp;rfl
  ·rw[Aa p]at o;subst o;have aa:(x.ch !=1)=true:=by simpa using p
   clear p
   go_wp2_with fail
   (try simp only[Exit.inBlock,Exit.then])
   refine Ah (v:=.tuple #[PieceM.zero.val,.bool false]) ?_ rfl ⟨rfl,A.out .zero w1 z.out⟩;rw[AD rfl]
   go_simp;rfl
def GMap (w:World)(bm n:Nat)(M:Int->Option Value):Prop:=∃D:DataW Value,w.ownsMap prog 3 V7 bm n D/\Maps.size D=n/\(∀k:Int,Maps.has D (.int i64 k)=(M k).isSome)/\∀(k:Int) x,M k=some x->∀z,D.atKey (.int i64 k) z=.held x
theorem GMap.im(h:GMap w bm n M):IMap w bm n M:=by
 obtain⟨D,a, -,d,e⟩:=h;exact⟨D,a,d,e⟩
theorem GMap.kept{w':World}(h:GMap w bm n M)(o:Kept S w w')(p:bm∉S):GMap w' bm n M:=by
 have e:=o.block bm h.im.lt p;obtain⟨D,⟨es,a,l,F,q,d⟩,r⟩:=h;exact⟨D,⟨es,a,by rw[e];exact l,F,q,d⟩,r⟩
theorem GMap.XT(w:World):GMap (w.alloc (.map #[] 0)) w.heap.size 0 (fun _=>none):=
 ⟨.map [],GQ (C9 w _ _ _) (by simp[Maps.size]),rfl,fun _=>rfl,fun _ _ a=>absurd a (by simp)⟩
theorem GMap.put{w:World}{bm n:Nat}{M:Int->Option Value}(h:GMap w bm n M)(t:n<maxLen){k:Int}(s:Gb k){mt vt:TypeId}(u:prog.underlying mt=some (.map 3 vt))(x:Value):
 ∃w',(Instr.mapUpdate mt (.map (some bm)) (.int i64 k) x).run prog w=.ok () w'/\GMap w' bm (if (M k).isSome then n else n+1) (J8 M k (some x))/\Kept [bm] w w':=by
 obtain⟨D,o,A,p,v⟩:=h;obtain⟨w',d,q,r⟩:=o.update Tryz.Vi u t (Agn s) (show V7 x=some (.held x,[])from rfl);have l:Maps.size (D.put (.int i64 k) (.held x))=if (M k).isSome then n else n+1:=by rw[size_put (o.tidy Tryz.Vi),p k,A]
 refine⟨w',d,⟨_,GQ q (Nat.le_of_eq l),l,fun j=>?_,fun j y a z=>?_⟩,Mb r⟩
 ·by_cases e:j=k
  ·subst e;rw[has_put_same o.isMap (SW _),Ih];rfl
  ·rw[has_put_other (Mf e),Hw M _ e];exact p j
 ·by_cases e:j=k
  ·subst e;rw[Ih]at a;have a:=AX a;rw[atKey_put_same o.isMap (SW _),a]
  ·rw[Hw M _ e]at a;rw[atKey_put_other (Mf e)];exact v j y a z
theorem GMap.del{w:World}{bm n:Nat}{M:Int->Option Value}(h:GMap w bm n M){k:Int}(s:Gb k){mt vt:TypeId}(t:prog.underlying mt=some (.map 3 vt))(ty:TypeId):
 ∃w',(Builtin.delete_ #[mt,3] ty #[.map (some bm),.int i64 k]).run prog w=.ok (.tuple #[]) w'/\GMap w' bm (n-if (M k).isSome then 1 else 0) (J8 M k none)/\Kept [bm] w w':=by
 obtain⟨D,p,v,o,u⟩:=h;obtain⟨w',a,q,r⟩:=p.drop Tryz.Vi t (Agn s) ty;have d:Maps.size (D.del (.int i64 k))=n-if (M k).isSome then 1 else 0:=by
  have:=size_del (k:=.int i64 k) (p.tidy Tryz.Vi);rw[o k,v]at this;omega
 refine⟨w',a,⟨_,GQ q (Nat.le_of_eq d),d,fun j=>?_,fun j y l z=>?_⟩,Mb r.grown⟩
 ·by_cases e:j=k
  ·subst e;rw[has_del_same,Ih];rfl
  ·rw[has_del_other (Mf e),Hw M _ e];exact o j
 ·by_cases e:j=k
  ·subst e;rw[Ih]at l
   cases l
  ·rw[Hw M _ e]at l;rw[atKey_del_other (Mf e)];exact u j y l z
theorem GMap.len{w:World}{bm n:Nat}{M:Int->Option Value}(h:GMap w bm n M){mt vt:TypeId}(d:prog.underlying mt=some (.map 3 vt))(ty:TypeId):(Builtin.len_ #[mt] ty #[.map (some bm)]).run prog w=.ok (.int i64 (n:Nat)) w:=by
 obtain⟨D,a,e, -, -⟩:=h;have:=a.len d ty;rw[e]at this;exact this
def gmC (b n:Nat)(M:Int->Option Value):Cm:=⟨fun w F=>F=[b]/\GMap w b n M,fun w F ⟨e,h⟩=>by subst e;exact fun x hx=>by rw[AC]at hx;subst hx;exact h.im.lt,fun w w' F S ⟨e,h⟩ hk hn=>by subst e;exact⟨rfl,h.kept hk (hn b (by simp))⟩⟩
structure AirM where
 lost:Bool
 deaf:Bool
 rough:Nat
structure EarS where
 sums:List Int
 flag:Bool
structure UsrM where
 who:Nat
 key:Nat
 air:AirM
 snd:OutM
 rcv:InM
 blk:SendM
 sht:RecvM
 ear:Option EarS
 sl:SdM
 op:GcM
 sent:Nat
 gr:Int->Option Value
 grN:Nat
 told:List ByteArray
structure UsrP where
 b:Nat
 ps:Addr
 pr:Addr
 gb:Nat
 gs:Nat
 me:Nat
 eb:Nat
 g1:Nat
 g2:Nat
 mg:Nat
 vt:Value
def S1 (p:UsrP)(u:UsrM):List Value:=[int i64 (u.who:Int),int i64 (u.key:Int),.bool u.air.lost,.bool u.air.deaf,int i64 (u.air.rough:Int),pointer (some p.ps),pointer (some p.pr),Fa p.gb,Fa p.gs,.map (some p.me),Fa p.g1,Fa p.g2,int i64 (u.sent:Int),.map (some p.mg),p.vt]
def Qu (p:UsrP)(u:UsrM):Int->Option Value:=fun k=>if k=0 then u.ear.map fun s=> .agg #[Fa p.eb,.bool s.flag] else none
def usO (p:UsrP)(u:UsrM):Nat->Option Cm
 | 0=>some (JP p.b 91 (S1 p u))
 | 1=>some (RI p.ps u.snd)
 | 2=>some (Adv p.pr u.rcv)
 | 3=>some (S9 p.gb u.blk)
 | 4=>some (Akp p.gs u.sht)
 | 5=>some (gmC p.me (if u.ear.isSome then 1 else 0) (Qu p u))
 | 6=>u.ear.map fun s=>AfV ⟨p.eb,0,none⟩ (Ha u.who) s.sums
 | 7=>some (sdC p.g1 u.sl)
 | 8=>some (gcC p.g2 u.op)
 | 9=>some (gmC p.mg u.grN u.gr)
 | 10=>some (Ju 9 1 p.vt u.told.length (u.told.map Value.string))
 | _=>none
theorem Kr(h:O j=some c):FQ O j (some c)=O:=funext fun k=>by
 unfold FQ
 split
 ·next e=>rw[e,h]
 ·rfl
theorem Hg.Ags(h:Hg w0 S w (setG D g O))(hi:O j=some (gmC b n M)):GMap w b n M:=by
 obtain⟨F, -,h⟩:=h.get hi;exact h
theorem Hg.conv{O':Nat->Option Cm}(h:Hg w0 S w (setG D g O))(e:∀j,O j=O' j):Hg w0 S w (setG D g O'):=by
 rw[<-funext e];exact h
def UsrM.AiR(u:UsrM):Bool:=decide (64<=u.snd.wait) || decide (64<=u.grN)
theorem AhV{p:UsrP}{u:UsrM}(h:Hg w0 S w (setG D g (usO p u))):Calls prog 77 #[Fa p.b] w fun e w'=>e=.returned (.bool u.AiR)/\Hg w0 S w' (setG D g (usO p u)):=by
 have z:w.cell? ⟨p.b,5,none⟩=some (pointer (some p.ps)):=(h.box (j:=0) rfl).cell 5;have l:=hid (h.act (j:=1) rfl (Ake p.ps u.snd w));unfold Fa;obtain⟨N,q⟩:=E7 u.snd.wait;obtain⟨G,o⟩:=E7 u.grN;have r:Hid (u.AiR=(decide (64<=N) || decide (64<=G))):=by unfold UsrM.AiR;rw[q,o];exact rfl
 rw[<-q]at l;have t:=hid o;clear q o h
 by_cases s:64<=N
 ·have x:decide ((64:Int)<=(N:Int))=true:=Ag (by omega);go_enter func77,ntmps77
  go_wp2_with(go_at_call 58;refine l.out.mono ?_;rintro e w1 ⟨c',⟨rfl,rfl⟩,a⟩;rw[Kr rfl]at a;have d:=hid a;clear a);go_ret;exact⟨by rw[r.out,Ag s];rfl,d.out⟩
 ·have x:decide ((64:Int)<=(N:Int))=false:=Ae (by omega);go_enter func77,ntmps77
  go_wp2_with(go_at_call 58;refine l.out.mono ?_;rintro e w1 ⟨c',⟨rfl,rfl⟩,a⟩;rw[Kr rfl]at a;have d:=hid a;have v:w1.cell? ⟨p.b,13,none⟩=some (.map (some p.mg)):=(a.box (j:=0) rfl).cell 13;have y:=(a.Ags (j:=9) rfl).len underlying89;rw[<-t.out]at y;clear a);go_ret;exact⟨by rw[r.out,Ae s];simp;omega,d.out⟩
def US (k:Int)(c:Nat)(d:ByteArray):ByteArray:=Ou (c % 4096) (LP d (Hb k c)) (If c d)
def UsrM.Mw(u:UsrM)(d:ByteArray)(x:Int):UsrM:={u with sl:=u.sl.Mw d,gr:=J8 u.gr (u.sent:Int) (some (int i64 x)),grN:=if (u.gr (u.sent:Int)).isSome then u.grN else u.grN+1,sent:=u.sent+1,snd:=(u.snd.KW (US u.sl.key u.sl.nxt d)).m}
theorem Ah1{p:UsrP}{u:UsrM}(d:ByteArray)(x:Int)(h:Hg w0 S w (setG D g (usO p u)))(hd:d.size<=500)(hn:u.sl.nxt<16777216)(hs:u.sent<=100000000)(hg:u.grN<=100000000):Calls prog 79 #[Fa p.b,.string d,.int i64 x] w fun e w'=>e=.returned (.int i64 0)/\Hg w0 S w' (setG D g (usO p (u.Mw d x))):=by
 have K:w.cell? ⟨p.b,10,none⟩=some (pointer (some ⟨p.g1,0,none⟩)):=(h.box (j:=0) rfl).cell 10;have X:=hid (h.act (j:=7) rfl (Aov p.g1 u.sl d w hd hn));have W:(LP d (Hb u.sl.key u.sl.nxt)).size<=1500:=by rw[Lg];omega
 have T:(If u.sl.nxt d).size<=1500:=by rw[UH];omega
 have V:=fun wz=>Ov (u.sl.nxt % 4096) (LP d (Hb u.sl.key u.sl.nxt)) (If u.sl.nxt d) wz W T
 unfold Fa QQ PktM.val at*;generalize hA:LP d (Hb u.sl.key u.sl.nxt)=A at*;generalize hB:If u.sl.nxt d=B at*;generalize hC:u.sl.nxt % 4096=C at*;go_enter func79,ntmps79;go_upto_region 4 with(go_at_call 131;refine X.out.mono ?_;rintro e w1 ⟨c',⟨rfl,rfl⟩,Y⟩)
 have o:=Y.Ii 11 255 [.int i64 (C:Int),.string A,.string B];have r:=o.box (j:=11) rfl;change Hg w0 S (w1.alloc (.cells #[.int i64 (C:Int),.string A,.string B] 255)) _ at o;change At (w1.alloc (.cells #[.int i64 (C:Int),.string A,.string B] 255)) _ _ _ at r;obtain⟨l,y⟩:=E7 w1.heap.size;rw[<-y]at o r |-;generalize (w1.alloc (.cells #[.int i64 (C:Int),.string A,.string B] 255))=w2 at*;clear y Y X K h;have N:w2.cell? ⟨p.b,13,none⟩=some (.map (some p.mg)):=(o.box (j:=0) rfl).cell 13;have L:w2.cell? ⟨p.b,12,none⟩=some (.int i64 (u.sent:Int)):=(o.box (j:=0) rfl).cell 12;have q:=o.below ((Ad _ w2).drew);obtain⟨w3,z,hM,hk⟩:=(q.Ags (j:=9) rfl).put (k:=(u.sent:Int)) (by unfold maxLen;omega) ⟨by omega,by omega⟩ underlying89 (.int i64 x);have H:=q.put (j:=9) rfl (c':=gmC p.mg _ _) (fun F ⟨e,_⟩=>by subst e;exact⟨hk,rfl,hM⟩);clear hM hk q
 go_region;have P:w3.cell? ⟨p.b,12,none⟩=some (.int i64 (u.sent:Int)):=(H.box (j:=0) rfl).cell 12;have Q:=(H.box (j:=0) rfl).free 12;have I:=H.GK (j:=0) rfl 12 (.int i64 ((u.sent:Int)+1));clear z N L o;go_upto_region 6 with fail
 generalize (w3.setCell ⟨p.b,12,none⟩ (.int i64 ((u.sent:Int)+1)))=t at*;have c5:t.cell? ⟨p.b,5,none⟩=some (pointer (some p.ps)):=(I.box (j:=0) rfl).cell 5;have a:At t l 255 [.int i64 (C:Int),.string A,.string B]:=I.box (j:=11) rfl;have y0:t.cell? ⟨l,0,none⟩=some (.int i64 (C:Int)):=a.cell 0;have y1:t.cell? ⟨l,1,none⟩=some (.string A):=a.cell 1;have y2:t.cell? ⟨l,2,none⟩=some (.string B):=a.cell 2;have H4:=hid I;clear I H r a P Q;have U:(Ou C A B).size<=maxLen:=by
  unfold Ou maxLen;rw[CH,CH,BP]
  show 2+_+_<=_;omega
 have HE:=hid (show Ou C A B=US u.sl.key u.sl.nxt d by unfold US;rw[hA,hB,hC])
 go_region_held3 (fun w'=>w'.cell? ⟨p.b,5,none⟩=some (pointer (some p.ps))/\w'.cell? ⟨l,0,none⟩=some (.int i64 (C:Int))/\w'.cell? ⟨l,1,none⟩=some (.string A)/\w'.cell? ⟨l,2,none⟩=some (.string B)) (first | exact⟨c5,y0,y1,y2⟩ | exact q1 | exact q2 | go_keep) (first
  | (go_at_call 133;refine(V _).mono ?_;rintro e E ⟨rfl,R⟩;have v:=hid (H4.out.below (Fr ((Ad _ t).drew) R));have q1:E.cell? ⟨p.b,5,none⟩=some (pointer (some p.ps))/\E.cell? ⟨l,0,none⟩=some (.int i64 (C:Int))/\E.cell? ⟨l,1,none⟩=some (.string A)/\E.cell? ⟨l,2,none⟩=some (.string B):=⟨(v.out.box (j:=0) rfl).cell 5,(v.out.box (j:=11) rfl).cell 0,(v.out.box (j:=11) rfl).cell 1,(v.out.box (j:=11) rfl).cell 2⟩)
  | (go_at_call 132;refine(v.out.act (j:=1) rfl (Ae1 p.ps u.snd (Ou C A B) E U)).mono ?_;rintro e J ⟨c',⟨rfl,rfl⟩,s⟩;have H6:=hid s;have q2:J.cell? ⟨p.b,5,none⟩=some (pointer (some p.ps))/\J.cell? ⟨l,0,none⟩=some (.int i64 (C:Int))/\J.cell? ⟨l,1,none⟩=some (.string A)/\J.cell? ⟨l,2,none⟩=some (.string B):=⟨(s.box (j:=0) rfl).cell 5,(s.box (j:=11) rfl).cell 0,(s.box (j:=11) rfl).cell 1,(s.box (j:=11) rfl).cell 2⟩;clear s))
 go_wp2_with fail;go_ret;refine⟨rfl,?_⟩;have Z:=H6.out.drop 11;rw[HE.out]at Z;exact Z.conv fun j=>by rcases j with _ | _ | _ | _ | _ | _ | _ | _ | _ | _ | _ | _ | j<;>rfl
theorem T9{m:OutM}(h:(m.next 12).err=0):∃a b l d,(m.next 12).p=⟨(a:Nat),(b:Nat),l,d⟩/\d.size<=12:=by
 have e:∀k u,∃a b l d,(m.Mw k u 12).p=⟨(a:Nat),(b:Nat),l,d⟩/\d.size<=12:=fun k u=>by
  refine⟨u % 64,m.hit k u,_,_,rfl,?_⟩;rw[CF];have o:m.hit k u<=m.sz u:=Nb _ (Af _);have q:m.cut k u 12<=min (m.sz u) (m.hit k u+12):=Nb _ (by omega);omega
 unfold OutM.next at h |-
 rw[Aa (by omega)]at h |-
 split at h
 ·rw[Ab (by assumption)];exact e _ _
 ·split at h
  ·rw[Aa (by assumption),Ab (by assumption)];exact e _ _
  ·cases h
def YZ (p:PieceM):ByteArray:=(GN [⟨1,Ik p.num.toNat p.frm.toNat p.last p.data⟩] 20).text
theorem AaA(a b:Nat)(l:Bool)(d:ByteArray):(Ik a b l d).size=4+d.size:=by unfold Ik;rw[CH,BP];rfl
theorem VH(a b:Nat)(l:Bool)(d:ByteArray)(hd:d.size<=12):(YZ ⟨a,b,l,d⟩).size=20/\(GN [⟨1,Ik a b l d⟩] 20).err=0:=by
 have r:=AaA a b l d;have o:[(⟨1,Ik a b l d⟩:ItemM)].all ItemM.ok=true:=by
  grind [ItemM.ok]
 have h:(Fp [⟨1,Ik a b l d⟩]).length<=20:=by
  have p:(Fp [⟨1,Ik a b l d⟩]).length=3+(Ik a b l d).data.size:=by simp[Fp,ItemM.bytes,ItemM.head,FN];omega
  have q:(Ik a b l d).data.size=(Ik a b l d).size:=rfl;omega
 have e:GN [⟨1,Ik a b l d⟩] 20=⟨strOfNums (No (Fp [⟨1,Ik a b l d⟩]) 20),0⟩:=by
  grind [GN]
 refine⟨?_,by rw[e]⟩
 show(GN [⟨1,Ik (a:Int).toNat (b:Int).toNat l d⟩] 20).text.size=20;rw[AN,AN,e]
 show(strOfNums _).size=20;rw[BP,Ss h]
structure Bk(m:SendM):Prop where
 ok:m.Ok
 idle:∀k,1<=k->k<8->(m.tat k).busy=false
 opn:(m.tat 0).opn=false
 len:(m.tat 0).busy=true->(m.tat 0).data.size=20
theorem Bk.wait(h:Bk m):m.waitTo 8=if (m.tat 0).busy then [0] else []:=by
 have d:m.waitTo 8=m.waitTo 1:=by rw[SendM.I1 (h.idle 7 (by omega) (by omega)),SendM.I1 (h.idle 6 (by omega) (by omega)),SendM.I1 (h.idle 5 (by omega) (by omega)),SendM.I1 (h.idle 4 (by omega) (by omega)),SendM.I1 (h.idle 3 (by omega) (by omega)),SendM.I1 (h.idle 2 (by omega) (by omega)),SendM.I1 (h.idle 1 (by omega) (by omega))]
 rw[d]
 cases a:(m.tat 0).busy
 ·rw[SendM.I1 a];rfl
 ·rw[SendM.UX a];rfl
def UsrM.Hj(u:UsrM):UsrM×Int:=if (u.blk.tat 0).busy then (u,0) else if (u.snd.next 12).err=0 then ({u with snd:=(u.snd.next 12).m,blk:=u.blk.set 0 ((u.blk.tat 0).Sf (YZ (u.snd.next 12).p))},0) else ({u with snd:=(u.snd.next 12).m},(u.snd.next 12).err)
theorem Bk.least(h:Bk m)(a:(m.tat 0).busy=false):m.least=0:=SendM.ZW h.ok.len (by omega) (fun j d=>by omega) a
theorem AhZ{p:UsrP}{u:UsrM}(h:Hg w0 S w (setG D g (usO p u)))(P:Bk u.blk):Calls prog 59 #[Fa p.b] w fun e w'=>e=.returned (.tuple #[int i64 0,int i64 u.Hj.2])/\Hg w0 S w' (setG D g (usO p u.Hj.1)):=by
 have c7:w.cell? ⟨p.b,7,none⟩=some (pointer (some ⟨p.gb,0,none⟩)):=(h.box (j:=0) rfl).cell 7;obtain⟨F,bm, -,Q⟩:=h.get (j:=3) rfl;have B:=hid (Pu Q);unfold Fa;have H:=hid h
 cases r:(u.blk.tat 0).busy
 ·have K:u.blk.waitTo 8=[]:=by rw[P.wait,r];rfl
  rw[K]at B;have e1:u.Hj=if (u.snd.next 12).err=0 then ({u with snd:=(u.snd.next 12).m,blk:=u.blk.set 0 ((u.blk.tat 0).Sf (YZ (u.snd.next 12).p))},0) else ({u with snd:=(u.snd.next 12).m},(u.snd.next 12).err):=by unfold UsrM.Hj;rw[r];rfl
  have x:=fun w'=>AoW p.ps u.snd 12 w'
  have z:=P.least r;clear Q h K
  by_cases y:(u.snd.next 12).err=0
  ·rw[Ab y]at e1;rw[e1];obtain⟨a,b,l,d,A,hd⟩:=T9 y;obtain⟨hz,hj⟩:=VH a b l d hd;rw[A,y]at x;rw[A];have V:=fun Y=>Vk a b l d Y (by omega)
   have t:=fun(q:Option Addr) (Y:World) N=>Agw [⟨1,Ik a b l d⟩] 20 q 1 1 Y N rfl (by unfold maxLen;omega) (by omega)
   rw[hj]at t;have eT:(GN [⟨1,Ik a b l d⟩] 20).text=YZ ⟨a,b,l,d⟩:=by unfold YZ;rw[AN,AN]
   rw[eT]at t;have W:=fun w'=>Ala p.gb u.blk (YZ ⟨a,b,l,d⟩) w' (by omega) z
   generalize YZ ⟨a,b,l,d⟩=T at*;generalize Ik a b l d=Z at*;dsimp only[PieceM.val]at x;generalize (u.snd.next 12).m=M at*;clear e1 A y hj eT z;go_enter func59,ntmps59
   go_upto_region 7 with(first
    | (go_at_call 57;refine B.out.mono ?_;rintro e w1 ⟨qa,qc,rfl, -,o⟩;have v:=H.out.below o;have c5:w1.cell? ⟨p.b,5,none⟩=some (pointer (some p.ps)):=(v.box (j:=0) rfl).cell 5)
    | (go_at_call 107;refine(v.act (j:=1) rfl (x w1)).mono ?_;rintro e w2 ⟨c',⟨rfl,rfl⟩,L⟩))
   have I:=L.Ii 11 216 [int i64 (a:Int),int i64 (b:Int),.bool l,string d];have s:=I.box (j:=11) rfl;change Hg w0 S (w2.alloc (.cells #[int i64 (a:Int),int i64 (b:Int),.bool l,string d] 216)) _ at I;change At (w2.alloc (.cells #[int i64 (a:Int),int i64 (b:Int),.bool l,string d] 216)) _ _ _ at s;obtain⟨gx,C⟩:=E7 w2.heap.size;rw[<-C]at I s |-;generalize (w2.alloc (.cells #[int i64 (a:Int),int i64 (b:Int),.bool l,string d] 216))=w3 at*;obtain⟨⟨y0,y1,y2,y3⟩, -⟩:=s.Ane;have H3:=hid I;clear C L v c5 c7 s I x
   go_wp2_with(first
    | (go_at_call 109;refine(V _).mono ?_;rintro e X ⟨rfl,J⟩;have N:Itms (X.alloc (.cells #[int i64 1,string Z] 223)) (some ⟨X.heap.size,0,none⟩) [⟨1,Z⟩]:=fun _=>⟨_,_,rfl,fun i hi=>by have U:i=0:=(by simpa using hi);subst U;have ha:=Fc X 223 [int i64 1,string Z];exact⟨ha.cell 0,ha.cell 1⟩⟩;have HJ:=hid (t _ _ N);clear N t)
    | (go_at_call 108;refine HJ.out.mono ?_;rintro e w5 ⟨rfl,R⟩;have h5:=H3.out.below (Fr (J.alloc J.size _) R);have c7:w5.cell? ⟨p.b,7,none⟩=some (pointer (some ⟨p.gb,0,none⟩)):=(h5.box (j:=0) rfl).cell 7)
    | (go_at_call 110;refine(h5.act (j:=3) rfl (W w5)).mono ?_;rintro e w6 ⟨c',⟨rfl,rfl⟩,h6⟩))
   go_ret2;refine⟨rfl,(h6.drop 11).conv fun j=>by rcases j with _ | _ | _ | _ | _ | _ | _ | _ | _ | _ | _ | _ | j<;>rfl⟩
  ·rw[Aa y]at e1;rw[e1];obtain⟨⟨pn,pf,pl,pd⟩,A⟩:∃q,q=(u.snd.next 12).p:=⟨_,rfl⟩;rw[<-A]at x;dsimp only[PieceM.val]at x;generalize (u.snd.next 12).err=E at*;generalize (u.snd.next 12).m=M at*;have hE:(E !=0)=true:=by simpa using y
   clear e1 A y z;go_enter func59,ntmps59
   go_wp2_with(first
    | (go_at_call 57;refine B.out.mono ?_;rintro e w1 ⟨qa,qc,rfl, -,o⟩;have v:=H.out.below o;have c5:w1.cell? ⟨p.b,5,none⟩=some (pointer (some p.ps)):=(v.box (j:=0) rfl).cell 5)
    | (go_at_call 107;refine(v.act (j:=1) rfl (x w1)).mono ?_;rintro e w2 ⟨c',⟨rfl,rfl⟩,L⟩))
   go_ret2;refine⟨rfl,((L.Ii 11 216 [int i64 pn,int i64 pf,.bool pl,string pd]).drop 11).conv fun j=>by rcases j with _ | _ | _ | _ | _ | _ | _ | _ | _ | _ | _ | _ | j<;>rfl⟩
 ·have K:u.blk.waitTo 8=[0]:=by rw[P.wait,r];rfl
  rw[K]at B;have e1:u.Hj=(u,0):=by unfold UsrM.Hj;rw[r];rfl
  rw[e1];clear Q h K e1;go_enter func59,ntmps59
  go_wp2_with(go_at_call 57;refine B.out.mono ?_;rintro e w1 ⟨qa,qc,rfl,hO,o⟩;obtain⟨gq,cq,eq, -⟩:=hO.Ako (m:=1) rfl (by omega);simp only[AE,Bs,Ao]at eq;cases eq;have z0:=hO.AmG (i:=0) (by simp);have v:=H.out.below o)
  go_ret2;exact⟨rfl,v⟩
theorem OwnP.at{w:World}{B g n:Nat}{ps:List (Int×Int)}(h:OwnP w B (slice (some ⟨g,0,none⟩) n n) ps):At w g 335 (Hf ps)/\B<=g/\ps.length=n/\n<=maxLen:=by
 rcases h.2 with⟨a,_⟩ | ⟨q,d,cur,a,l,hg,r,p,o,ht⟩
 ·simp at a
 ·simp only[Aq,Bl,BI,BJ]at a;obtain⟨rfl,e,rfl⟩:=a;refine⟨?_,l,e.symm,p⟩;unfold At;rw[hg,<-ht,Aw (by grind)]
def K3 (ps:List (Int×Int))(k:Nat):List (Int×Int):=(List.range ps.length).map fun i=>if i<k then (-(ps.getD i (0,0)).1, -(ps.getD i (0,0)).2) else ps.getD i (0,0)
theorem Gn(ps:List (Int×Int))(k:Nat):(K3 ps k).length=ps.length:=by simp[K3]
theorem Rb(ps:List (Int×Int))(k:Nat)(hi:i<ps.length):(K3 ps k).getD i (0,0)=if i<k then (-(ps.getD i (0,0)).1, -(ps.getD i (0,0)).2) else ps.getD i (0,0):=by simp[K3,List.getD,hi]
theorem Ad8(ps:List (Int×Int)):K3 ps 0=ps:=by
 refine AW (Gn _ _) fun i d a=>?_
 simp[K3,List.getD,a]
theorem Kg(ps:List (Int×Int))(i k:Nat)(hi:i<ps.length)(a:k<2):(Hf ps)[i*2+k]?=some (int i64 (if k=0 then (ps.getD i (0,0)).1 else (ps.getD i (0,0)).2)):=by
 induction ps generalizing i with
 | nil=>simp at hi
 | cons p r ih=>
  cases i with
  | zero=>rcases (show k=0\/k=1 by omega)with rfl | rfl<;>simp[Hf]
  | succ i=>
   grind [Hf]
theorem PH(ps:List (Int×Int)):(Hf ps).length=ps.length*2:=by induction ps with | nil=>rfl | cons p r ih=>grind [Hf]
theorem Ad7(ps:List (Int×Int))(k:Nat)(d:k<ps.length):((Hf (K3 ps k)).set (k*2) (int i64 (-(ps.getD k (0,0)).1))).set (k*2+1) (int i64 (-(ps.getD k (0,0)).2))=Hf (K3 ps (k+1)):=by
 refine Bf fun j=>?_
 by_cases a:j<ps.length*2
 ·obtain⟨i,q,rfl,e⟩:∃i q,j=i*2+q/\q<2:=⟨j / 2,j % 2,by omega,by omega⟩
  grind [Kg,Gn,Rb,Hf,K3,PH]
 grind [PH,Gn]
theorem An2(h:ps.all Kn=true)(k:Nat):(K3 ps k).all Kn=true:=by simp_all[Kn,K3];grind
def UR (r:Nat)(ps:List (Int×Int)):List (Int×Int):=K3 ps (min r ps.length)
theorem Afp{r:Nat}{lo x:Bool}(d:At w G 335 (Hf ps))(B:ps.length=n)(v:ps.all Kn=true)(W:n<=100000)(Z:r<=9223372036854775807):Calls prog 162 #[.agg #[.bool lo,.bool x,int i64 (r:Int)],slice (some ⟨G,0,none⟩) n n] w fun e w'=>e=.returned (.tuple #[])/\At w' G 335 (Hf (UR r ps))/\Kept [G] w w':=by
 have o:Below w.heap.size w (w.alloc (.cells #[.bool lo,.bool x,int i64 (r:Int)] 49)):=(Ad _ w).alloc (Ac _) _;have y:=hid (show At (w.alloc (.cells #[.bool lo,.bool x,int i64 (r:Int)] 49)) G 335 (Hf (K3 ps 0))by rw[Ad8];exact d.kept (S:=[]) (Kept.E5 o) (by simp));have z:=hid o;have A:=hid v;have J:=hid B;obtain⟨K,C⟩:=E7 (min r n);have L:min (r:Int) (n:Int)=(K:Int):=by omega
 have N:max (K:Int) 0=(K:Int):=by omega
 have P:K<=n:=by omega
 have E:(K:Int)<=(n:Int):=by omega
 have I:=hid (show UR r ps=K3 ps K by unfold UR;rw[C,B]);clear d B v C o;go_enter func162,ntmps162;go_wp2;generalize (w.alloc (.cells #[.bool lo,.bool x,int i64 (r:Int)] 49))=wA at*
 go_loopw [13] (fun i wr=>∃k:Nat,k<=K/\i=int i64 (k:Int)/\At wr G 335 (Hf (K3 ps k))/\Kept [G] w wr) (fun i _=>K-(intOf i).toNat)
 case atStart=>exact⟨0,Af _,rfl,y.out,Kept.E5 z.out⟩
 case round=>
  obtain⟨k,V,rfl,d,u⟩:=hrel;have p:=hid u;clear u
  by_cases R:k<K
  ·have Q:(k:Int)<(n:Int):=by omega
   have h:k<ps.length:=by rw[J.out];omega
   have a:Kn (ps.getD k (0,0))=true:=AM.1 A.out _ (by grind);unfold Kn at a;rw[Bq]at a;have F:wr.cell? ⟨G,k*2,none⟩=some (int i64 (ps.getD k (0,0)).1):=by
    have:=d.cell (k*2+0);rw[Kg _ k 0 (by rw[Gn];exact h) (by omega),Rb ps k h,Aa (Bp _)]at this;exact this
   have H:wr.cell? ⟨G,k*2+1,none⟩=some (int i64 (ps.getD k (0,0)).2):=by
    have:=d.cell (k*2+1)
    grind [Kg,Gn,Rb]
   have T:=d.free (k*2);have U:=d.free (k*2+1);have t:At ((wr.setCell ⟨G,k*2,none⟩ (int i64 (-(ps.getD k (0,0)).1))).setCell ⟨G,k*2+1,none⟩ (int i64 (-(ps.getD k (0,0)).2))) G 335 (Hf (K3 ps (k+1))):=by
    rw[<-Ad7 ps k h];exact(d.setCell _).setCell _
   have l:=hid t;obtain⟨⟨X,Y⟩,s⟩:∃q,q=ps.getD k (0,0):=⟨_,rfl⟩;rw[<-s]at F H a l;dsimp only at F H a l;clear s d t h;obtain⟨⟨q1,q2⟩,q3,q4⟩:=a;go_upto_region 4 with fail
   go_region;go_wp2;exact⟨⟨k+1,by omega,by go_num,l.out,((p.out.setCell (by simp) _).setCell (by simp) _).drew⟩,by simp[intOf];omega⟩
  ·obtain rfl:k=K:=by omega
   go_wp2
   go_end0;exact⟨rfl,by rw[I.out];exact d,p.out⟩
theorem Aos(w:World):Calls prog 219 #[int i64 1,int i64 256] w fun e w'=>e=.returned (.bool true)/\w=w':=by
 go_enter func219,ntmps219;go_wp2;go_ret;exact⟨rfl,rfl⟩
theorem Aor(w:World):Calls prog 219 #[int i64 0,int i64 0] w fun e w'=>e=.returned (.bool true)/\w=w':=by
 go_enter func219,ntmps219;go_wp2;go_ret;exact⟨rfl,rfl⟩
theorem Aop(w:World):Calls prog 220 #[int i64 2] w fun e w'=>e=.returned (.bool true)/\w=w':=by
 go_enter func220,ntmps220;go_wp2;go_ret;exact⟨rfl,rfl⟩
theorem Aoq(w:World):Calls prog 220 #[int i64 4] w fun e w'=>e=.returned (.bool true)/\w=w':=by
 go_enter func220,ntmps220;go_wp2;go_ret;exact⟨rfl,rfl⟩
theorem Aoo(w:World):Calls prog 221 #[int i64 256,int i64 2] w fun e w'=>e=.returned (.bool true)/\w=w':=by
 go_enter func221,ntmps221;go_wp2;go_ret;exact⟨rfl,rfl⟩
theorem Aon(w:World):Calls prog 221 #[int i64 600,int i64 4] w fun e w'=>e=.returned (.bool true)/\w=w':=by
 go_enter func221,ntmps221;go_wp2;go_ret;exact⟨rfl,rfl⟩
theorem TS(J:k<=16)(w:World):Calls prog 185 #[(Ha k).val,int i64 20] w fun e w'=>e=.returned (int i64 0)/\Below w.heap.size w w':=by
 have z:=fun I=>Ub k 0 I (by omega) (by omega)
 have A:∀w,Calls prog 195 #[int i64 20] w fun e w'=>e=.returned (int i64 (8*20+24))/\w=w':=fun w=>LE 20 w ⟨by omega,by omega⟩
 have x:prog.follows .mixedOrders=true:=by kernel_rfl
 unfold Ha Setg.val
 by_cases h:k % 2=1
 ·simp only[Ab h];clear h;go_enter func185,ntmps185
  go_wp2_with(first | (go_at_call 219;refine(Aor _).mono ?_;rintro e w1 ⟨rfl,rfl⟩) | (go_at_call 220;refine(Aoq _).mono ?_;rintro e w1 ⟨rfl,rfl⟩) | (go_at_call 221;refine(Aon _).mono ?_;rintro e w1 ⟨rfl,rfl⟩) | (go_at_call 222;refine(z _).mono ?_;rintro e w1 ⟨v1,rfl, -,l⟩;have r:=OM l 0;have s:=OM l 1;simp only[Eb,E0,Dt]at r s));have t:∀(wc:World),Below w1.heap.size w1 wc->∀q v,w1.cell? q=some v->wc.cell? q=some v:=fun wc d q v h=>(d.cell (Aj w1 _ h)).trans h
  refine Bi (Nr (Q:=fun e a' w'=>e=.normal/\a'=({tmps:=(_:List Value).toArray,defers:=[]}:Act)/\Below w1.heap.size w1 w') 9 42 (pointer (some ⟨w.heap.size,0,none⟩)) [(43,int i64 0),(44,.bool false),(45,.bool false),(46,undef),(47,undef),(48,undef),(49,undef),(50,undef)]
   [[2],[42],[43],[44],[1,45],[46,45],[2,45],[48,45],[47,49,45]] [1,2,3,9,5,8,7,8,9] w1 x rfl rfl (show([42,43,44,45,46,47,48,49,50]:List Nat).Nodup by decide) (by kernel_rfl) (by kernel_rfl) (by kernel_rfl) (by kernel_rfl) (by kernel_rfl) (fun p E F wc d a Q K o=>by
   have C:p=0\/p=1\/p=2\/p=3\/p=4\/p=5\/p=6\/p=7\/p=8:=by omega
   rcases C with rfl | rfl | rfl | rfl | rfl | rfl | rfl | rfl | rfl
   ·exact E6 rfl rfl (UA wc rfl (a 2 (by decide))) (o wc (Fb wc))
   ·exact E6 rfl rfl (F5 wc rfl (a 42 (by decide)) (t wc d _ _ r)) (o wc (Fb wc))
   ·exact E6 rfl rfl (Aa6 wc rfl (a 43 (by decide)) rfl) (o wc (Fb wc))
   ·exact E6 rfl rfl (Fd wc rfl (a 44 (by decide))) (o wc (Fb wc))
   ·exact IH (want:=true) rfl rfl rfl rfl (a 45 (by decide)) (o wc (Fb wc))
   ·exact IH (want:=true) rfl rfl rfl rfl (a 45 (by decide)) (o wc (Fb wc))
   ·exact IH (want:=true) rfl rfl rfl rfl (a 45 (by decide)) (o wc (Fb wc))
   ·exact IH (want:=true) rfl rfl rfl rfl (a 45 (by decide)) (o wc (Fb wc))
   ·exact IH (want:=true) rfl rfl rfl rfl (a 45 (by decide)) (o wc (Fb wc)))
   (fun wc d=>by
    refine E6 rfl rfl (RC wc rfl (Fj 45 (show([42,43,44,45,46,47,48,49,50]:List Nat).Nodup by decide) (by kernel_rfl)) rfl) ⟨rfl,G4 _ _ _,d⟩)) ?_
  rintro e a' w' ⟨rfl,rfl,u⟩;have y:=((Ad _ w).alloc (Ac _) (.cells #[int i64 0,int i64 0,int i64 4,int i64 (k:Int),int i64 600] 286)).trans ((l.trans (u.mono l.size)).mono (by simp));clear t u r s l;dsimp only[Ft,List.set,List.append_nil,List.cons_append,List.nil_append]
  go_wp2_with fail;go_ret;exact⟨rfl,y⟩
 ·simp only[Aa h];clear h;go_enter func185,ntmps185
  go_wp2_with(first | (go_at_call 219;refine(Aos _).mono ?_;rintro e w1 ⟨rfl,rfl⟩) | (go_at_call 220;refine(Aop _).mono ?_;rintro e w1 ⟨rfl,rfl⟩) | (go_at_call 221;refine(Aoo _).mono ?_;rintro e w1 ⟨rfl,rfl⟩) | (go_at_call 222;refine(z _).mono ?_;rintro e w1 ⟨v1,rfl, -,l⟩;have r:=OM l 0;have s:=OM l 1;simp only[Eb,E0,Dt]at r s) | (go_at_call 195;refine(A _).mono ?_;rintro e w2 ⟨rfl,rfl⟩));have t:∀(wc:World),Below w1.heap.size w1 wc->∀q v,w1.cell? q=some v->wc.cell? q=some v:=fun wc d q v h=>(d.cell (Aj w1 _ h)).trans h
  refine Bi (Nr (Q:=fun e a' w'=>e=.normal/\a'=({tmps:=(_:List Value).toArray,defers:=[]}:Act)/\Below w1.heap.size w1 w') 9 42 (pointer (some ⟨w.heap.size,0,none⟩)) [(43,int i64 1),(44,.bool true),(45,.bool true),(46,int i64 20),(47,int i64 (8*20+24)),(48,pointer (some ⟨w.heap.size,0+1,none⟩)),(49,int i64 256),(50,.bool (decide (256<8*20+24)))]
   [[2],[42],[43],[44],[1,45],[46,45],[2,45],[48,45],[47,49,45]] [1,2,3,9,5,8,7,8,9] w1 x rfl rfl (show([42,43,44,45,46,47,48,49,50]:List Nat).Nodup by decide) (by kernel_rfl) (by kernel_rfl) (by kernel_rfl) (by kernel_rfl) (by kernel_rfl) (fun p E F wc d a Q K o=>by
   have C:p=0\/p=1\/p=2\/p=3\/p=4\/p=5\/p=6\/p=7\/p=8:=by omega
   rcases C with rfl | rfl | rfl | rfl | rfl | rfl | rfl | rfl | rfl
   ·exact E6 rfl rfl (UA wc rfl (a 2 (by decide))) (o wc (Fb wc))
   ·exact E6 rfl rfl (F5 wc rfl (a 42 (by decide)) (t wc d _ _ r)) (o wc (Fb wc))
   ·exact E6 rfl rfl (Aa6 wc rfl (a 43 (by decide)) rfl) (o wc (Fb wc))
   ·exact E6 rfl rfl (Fd wc rfl (a 44 (by decide))) (o wc (Fb wc))
   ·exact O1 (want:=true) rfl rfl rfl rfl (a 45 (by decide)) (Fd wc rfl (a 1 (by decide))) (o wc (Fb wc))
   ·have B:F.eval (.tmp 46)=int i64 20:=a 46 (by decide);refine AjC (us:=#[int i64 20]) (want:=true) rfl rfl rfl rfl (a 45 (by decide)) rfl (enters_of func195 (by kernel_rfl) rfl) (by simp[B]) (A wc) (fun e L H=>?_);obtain⟨rfl,rfl⟩:=H;exact⟨_,rfl,o _ (Fb _)⟩
   ·exact O1 (want:=true) rfl rfl rfl rfl (a 45 (by decide)) (Aba wc rfl (a 2 (by decide))) (o wc (Fb wc))
   ·exact O1 (want:=true) rfl rfl rfl rfl (a 45 (by decide)) (F5 wc rfl (a 48 (by decide)) (t wc d _ _ s)) (o wc (Fb wc))
   ·exact O1 (want:=true) rfl rfl rfl rfl (a 45 (by decide)) (Aj6 wc rfl (a 47 (by decide)) (a 49 (by decide))) (o wc (Fb wc)))
   (fun wc d=>by
    refine E6 rfl rfl (RC wc rfl (Fj 45 (show([42,43,44,45,46,47,48,49,50]:List Nat).Nodup by decide) (by kernel_rfl)) ((Ab rfl).trans (Fj 50 (show([42,43,44,45,46,47,48,49,50]:List Nat).Nodup by decide) (by kernel_rfl)))) ⟨rfl,G4 _ _ _,d⟩)) ?_
  rintro e a' w' ⟨rfl,rfl,u⟩;have y:=((Ad _ w).alloc (Ac _) (.cells #[int i64 1,int i64 256,int i64 2,int i64 (k:Int),int i64 256] 286)).trans ((l.trans (u.mono l.size)).mono (by simp));clear t u r s l;dsimp only[Ft,List.set,List.append_nil,List.cons_append,List.nil_append]
  go_wp2_with fail;go_ret;exact⟨rfl,y⟩
theorem Akn:∀k:Fin 17,(RE (Ha k.val) 20=0/\0<=Ij (Ha k.val) 20)/\(0<=(Ha k.val).code/\(Ha k.val).code<=1)/\(0<=(Ha k.val).size/\(Ha k.val).size<=256)/\(0<=(Ha k.val).order/\(Ha k.val).order<=4)/\(0<=(Ha k.val).seed/\(Ha k.val).seed<=16)/\0<=(Ha k.val).count/\(Ha k.val).count<=600:=by decide+kernel
theorem UL(h:k<=16):RE (Ha k) 20=0/\(Ha k).In:=by
 obtain⟨⟨a, -⟩,d,e,l,o,p⟩:=Akn ⟨k,by omega⟩;dsimp only at a d e l o p;exact⟨a,⟨by unfold U8;omega,by unfold U8;omega,by unfold U8;omega,by unfold U8;omega,by unfold U8;omega⟩⟩
def Qc (k:Nat):List Int:=List.replicate (Ij (Ha k) 20).toNat 0
def UsrM.sums(u:UsrM)(fg:Bool):List Int:=match u.ear with
 | some s=>if s.flag=fg then s.sums else Qc u.who
 | none=>Qc u.who
def UsrM.pts(u:UsrM)(v:Nat)(d:ByteArray):List (Int×Int):=UR u.air.rough (Jo (Ha u.who) d v)
def UsrM.heard(u:UsrM)(v:Nat)(fg:Bool)(d:ByteArray):Told:=Kw (Ha u.who) 20 (u.sums fg) (u.pts v d) v
def UsrM.Agd(u:UsrM)(v:Nat)(fg:Bool)(d:ByteArray):UsrM:={u with ear:=some ⟨Jj (Ha u.who) (u.sums fg) (u.pts v d) v,fg⟩}
structure EarOk(k:Nat)(s:List Int):Prop where
 len:(s.length:Int)=Ij (Ha k) 20
 soft:Fy s=true
theorem Ak0(k:Nat)(h:k<=16):EarOk k (Qc k):=by
 have a:0<=Ij (Ha k) 20:=(Akn ⟨k,by omega⟩).1.2;exact⟨by unfold Qc;rw[A7];omega,by unfold Qc Fy;simp⟩
theorem Ae6{u:UsrM}(d:u.who<=16)(h:∀s,u.ear=some s->EarOk u.who s.sums)(a:Bool):EarOk u.who (u.sums a):=by grind [UsrM.sums,Ak0]
theorem Ahd{u:UsrM}(e:u.who<=16){d:ByteArray}(hd:d.size=20){v:Nat}(a:v<=3):Lo (Ha u.who) (u.pts v d) v=true/\(Jo (Ha u.who) d v).all Kn=true:=by grind [Lo,Ha,Jo,Kn,IR,UsrM.pts,UR,LO,PW,MT,UL,Y0,An2,Gn]
theorem Aoc(G n r:Nat)(lo l:Bool)(ps:List (Int×Int))(w:World)(p:ps.length=n)(d:ps.all Kn=true)(o:n<=100000)(q:r<=9223372036854775807):NS 162 #[.agg #[.bool lo,.bool l,int i64 (r:Int)],slice (some ⟨G,0,none⟩) n n] w (JP G 335 (Hf ps)) fun e c=>e=.returned (.tuple #[])/\c=JP G 335 (Hf (UR r ps)):=fun _ F _ ⟨e,h⟩=>by
 subst e;exact(Afp h p d o q).mono fun _ _ ⟨a,b,c⟩=>⟨_,⟨a,rfl⟩,c,_,⟨rfl,b⟩,fun x s=> .inl s⟩
theorem AnJ(h:At w G 335 (Hf ps)):Pts w (some ⟨G,0,none⟩) ps:=fun _=>⟨G,0,rfl,fun i hi=>by
 have a:=h.cell (i*2+0);have d:=h.cell (i*2+1);rw[Kg ps i 0 hi (by omega)]at a
 grind [Kg]⟩
theorem Aoj(b G n v k:Nat)(l:List Int)(ps:List (Int×Int))(w:World)(p:k<=16)(o:EarOk k l)(q:ps.length=n)(z:n<=100000)(hg:Lo (Ha k) ps v=true):AmY 164 #[pointer (some ⟨b,0,none⟩),slice (some ⟨G,0,none⟩) n n,int i64 (v:Int)] w (AfV ⟨b,0,none⟩ (Ha k) l) (JP G 335 (Hf ps)) fun e c=>e=.returned (Kw (Ha k) 20 l ps v).val/\c=AfV ⟨b,0,none⟩ (Ha k) (Jj (Ha k) l ps v):=fun ht F s hF h ⟨e,hd⟩ r=>by
 subst e;have u:b∈F:=by
  obtain⟨t,g,e,e2, -⟩:=EarP.block h
  cases e;rw[e2];simp
 refine(Ac5 ps (some ⟨G,0,none⟩) n n (v:Int) ht.rd h (MT (UL p).1) o.len o.soft (AnJ hd) q (by omega) hg).mono fun _ _ ⟨a,F',c,d,e⟩=>⟨_,⟨a,rfl⟩,e.sub fun x y=>?_,F',c,d⟩
 grind
theorem AhW{p:UsrP}{u:UsrM}(v:Nat)(a:Bool)(d:ByteArray)(h:Hg w0 S w (setG D g (usO p u)))(hw:u.who<=16)(hd:d.size=20)(hv:v<=3)(hr:u.air.rough<=9223372036854775807)(he:∀s,u.ear=some s->EarOk u.who s.sums):Calls prog 112 #[Fa p.b,.agg #[.int i64 0,.int i64 (v:Int),.bool a,.string d]] w fun e w'=>∃eb,e=.returned (.tuple #[.string (u.heard v a d).data,.bool (u.heard v a d).ok])/\Hg w0 S w' (setG D g (usO {p with eb:=eb} (u.Agd v a d))):=by
 have h1:=h.Ii 11 127 [.int i64 0,.int i64 (v:Int),.bool a,.string d];change Hg w0 S (w.alloc (.cells #[.int i64 0,.int i64 (v:Int),.bool a,.string d] 127)) _ at h1;have A:=fun o=>Yo u.who o hw
 obtain⟨ae,a8⟩:=UL hw;have R:=fun o hR=>AcY d (Ha u.who) v o hR (by rw[hd];exact ae) hv (by rw[hd];exact TS hw) (fun o=>Sn _ o (Ag (by omega)))
 have E:=fun o hR=>Ajl (Ha u.who) 20 o hR ae (TS hw)
 obtain⟨hg,ab⟩:=Ahd hw hd hv;have aw:=Ae6 hw he a;have ar:(Jo (Ha u.who) d v).length<=100000:=by
  grind [Y0,SetOk,Ha,MT,Akn]
 have H:=fun b G n o q1 q2=>Aoj b G n v u.who (u.sums a) (u.pts v d) o hw aw q1 q2 hg
 have ad:(u.pts v d).length=(Jo (Ha u.who) d v).length:=Gn _ _;obtain⟨g1,Y⟩:=E7 w.heap.size;rw[<-Y]at h1;have W:Hid ((u.heard v a d)=Kw (Ha u.who) 20 (u.sums a) (u.pts v d) v/\u.Agd v a d={u with ear:=some ⟨Jj (Ha u.who) (u.sums a) (u.pts v d) v,a⟩}):=⟨rfl,rfl⟩;have ag:Hid (u.pts v d=UR u.air.rough (Jo (Ha u.who) d v)):=rfl;obtain⟨Q,eQ⟩:∃q,q=Ha u.who:=⟨_,rfl⟩;have HQ:=hid eQ;rw[<-eQ]at A R E H ab ar ad W ag;unfold Setg.val at A R E;unfold Fa;have ay:=hid Y;clear h aw hg eQ Y ae a8;go_enter func112,ntmps112;go_upto_region 1 with fail
 rw[<-ay.out];generalize (w.alloc (.cells #[.int i64 0,.int i64 (v:Int),.bool a,.string d] 127))=w1 at*;have c0:w1.cell? ⟨p.b,0,none⟩=some (.int i64 (u.who:Int)):=(h1.box (j:=0) rfl).cell 0;go_upto_region 2 with(go_at_call 160;refine(A _).mono ?_;rintro e w2 ⟨rfl,al⟩)
 have C:=(h1.below al).Ii 12 286 [.int i64 Q.code,.int i64 Q.size,.int i64 Q.order,.int i64 Q.seed,.int i64 Q.count];change Hg w0 S (w2.alloc (.cells #[.int i64 Q.code,.int i64 Q.size,.int i64 Q.order,.int i64 Q.seed,.int i64 Q.count] 286)) _ at C;obtain⟨g2,ah⟩:=E7 w2.heap.size;rw[<-ah]at C |-;generalize (w2.alloc (.cells #[.int i64 Q.code,.int i64 Q.size,.int i64 Q.order,.int i64 Q.seed,.int i64 Q.count] 286))=w3 at*;clear ah al h1 c0 A;have s1:w3.cell? ⟨g1,1,none⟩=some (.int i64 (v:Int)):=(C.box (j:=11) rfl).cell 1;have s3:w3.cell? ⟨g1,3,none⟩=some (.string d):=(C.box (j:=11) rfl).cell 3;have t0:w3.cell? ⟨g2,0,none⟩=some (.int i64 Q.code):=(C.box (j:=12) rfl).cell 0;have t1:w3.cell? ⟨g2,1,none⟩=some (.int i64 Q.size):=(C.box (j:=12) rfl).cell 1;have t2:w3.cell? ⟨g2,2,none⟩=some (.int i64 Q.order):=(C.box (j:=12) rfl).cell 2;have t3:w3.cell? ⟨g2,3,none⟩=some (.int i64 Q.seed):=(C.box (j:=12) rfl).cell 3;have t4:w3.cell? ⟨g2,4,none⟩=some (.int i64 Q.count):=(C.box (j:=12) rfl).cell 4;go_upto_region 3 with(go_at_call 161;refine(R _ C.tb.rd).mono ?_;rintro e w4 ⟨G,n,rfl,am,hO⟩)
 obtain⟨aj,a0,ac, -⟩:=hO.at;have h4:=C.new 13 (Kept.E5 am) (d:=JP G 335 (Hf (Jo Q d v))) (L:=[G]) ⟨rfl,aj⟩ (fun x hx=>by rw[AC]at hx;omega);have a2:w4.cell? ⟨p.b,2,none⟩=some (.bool u.air.lost):=(h4.box (j:=0) rfl).cell 2;have a3:w4.cell? ⟨p.b,3,none⟩=some (.bool u.air.deaf):=(h4.box (j:=0) rfl).cell 3;have a4:w4.cell? ⟨p.b,4,none⟩=some (.int i64 (u.air.rough:Int)):=(h4.box (j:=0) rfl).cell 4;clear s1 s3 t0 t1 t2 t3 t4 am aj hO C a0 R;go_upto_region 4 with(go_at_call 162;refine(h4.act (j:=13) rfl (Aoc G n u.air.rough u.air.lost u.air.deaf (Jo Q d v) w4 ac ab (by omega) hr)).mono ?_;rintro e r ⟨c',⟨rfl,rfl⟩,U⟩)
 rw[<-ag.out]at U;have au:(u.pts v d).length=n:=ad.trans ac;have aq:n<=100000:=by omega
 clear a2 a3 a4 h4 ac ad ar ab;have af:=hid au;clear au;have a7:∃J b1 l,(∀o,Below r.heap.size r o->(Instr.lookup 84 (.map (some p.me)) (.int i64 0) true).run prog o=.ok (.tuple #[.agg #[.pointer J,.bool b1],.bool l]) o)/\((l=true/\b1=a/\J=some ⟨p.eb,0,none⟩/\∃s,u.ear=some s/\u.sums a=s.sums/\s.flag=a)\/((!l || (b1 !=a))=true/\u.sums a=Qc u.who)):=by
  have hM:=fun o hb=>((U.below (w':=o) hb).Ags (j:=5) rfl).im
  cases N:u.ear with
  | none=>
   refine⟨none,false,false,fun o hb=>(hM o hb).TX (k:=0) ⟨by omega,by omega⟩ underlying84 (zeroValue294 _) (by unfold Qu;rw[Ab rfl,N];rfl) (by unfold Qu;rw[Ab rfl,N];rfl) true,.inr ⟨rfl,by unfold UsrM.sums;rw[N]⟩⟩
  | some s=>
   refine⟨some ⟨p.eb,0,none⟩,s.flag,true,fun o hb=>(hM o hb).TX (k:=0) ⟨by omega,by omega⟩ underlying84 (zeroValue294 _) (by unfold Qu;rw[Ab rfl,N];rfl) (by unfold Qu;rw[Ab rfl,N];rfl) true,?_⟩
   grind [UsrM.sums]
 obtain⟨J,b1,l,z,ao⟩:=a7;have c9:r.cell? ⟨p.b,9,none⟩=some (.map (some p.me)):=(U.box (j:=0) rfl).cell 9;have s0:r.cell? ⟨g1,0,none⟩=some (.int i64 0):=(U.box (j:=11) rfl).cell 0;have P:Below r.heap.size r (r.alloc (.cells #[pointer none,.bool false] 294)):=(Ad _ r).alloc (Ac _) _;have a5:=z r.drew ((Ad _ _).drew);have a6:=z (r.alloc (.cells #[pointer none,.bool false] 294)).drew (P.drew);have az:(r.alloc (.cells #[pointer none,.bool false] 294)).cell? ⟨p.b,9,none⟩=some (.map (some p.me)):=((U.below P).box (j:=0) rfl).cell 9;have a9:(r.alloc (.cells #[pointer none,.bool false] 294)).cell? ⟨g1,0,none⟩=some (.int i64 0):=((U.below P).box (j:=11) rfl).cell 0;have ax:=hid ao;have H5:=hid U;clear ao U z P
 go_cut [9,10] (fun x y wx=>x=pointer (some ⟨r.heap.size,0,none⟩)/\y=.bool l/\wx=(r.alloc (.cells #[.pointer J,.bool b1] 294)).drew)
 case first=>
  go_region
  all_goals
   go_wp2
   go_meet;exact⟨rfl,rfl,rfl⟩
 case rest=>
  obtain⟨rfl,rfl,rfl⟩:=hcut;have t:=(H5.out.Ii 14 294 [.pointer J,.bool b1]).below ((Ad _ _).drew);change Hg w0 S (r.alloc (.cells #[.pointer J,.bool b1] 294)).drew _ at t;obtain⟨K,ai⟩:=E7 r.heap.size;rw[<-ai]at t |-;generalize (r.alloc (.cells #[.pointer J,.bool b1] 294)).drew=I at*;have e0:I.cell? ⟨K,0,none⟩=some (.pointer J):=(t.box (j:=14) rfl).cell 0;have e1:I.cell? ⟨K,1,none⟩=some (.bool b1):=(t.box (j:=14) rfl).cell 1;have s1:I.cell? ⟨g1,1,none⟩=some (.int i64 (v:Int)):=(t.box (j:=11) rfl).cell 1;have s2:I.cell? ⟨g1,2,none⟩=some (.bool a):=(t.box (j:=11) rfl).cell 2;clear a5 a6 az a9 c9 s0 ai H5
  rcases ax.out with⟨rfl,rfl,rfl,s,N,hS,hF⟩ | ⟨hc,hS⟩
  ·have ba:(b1 !=b1)=false:=by simp
   have X:=hid (t.Am1 (i:=6) (j:=13) (c:=AfV ⟨p.eb,0,none⟩ Q (u.sums b1)) (by rw[HQ.out,hS];show u.ear.map _=_;rw[N];rfl) rfl (by omega) (H p.eb G n I af.out aq));have V:=hid (And.intro N hF);obtain⟨T,eT⟩:=E7 (Kw Q 20 (u.sums b1) (u.pts v d) v);rw[<-eT]at X W;unfold Told.val at X;clear t hS eT H N hF E
   go_wp2_with(go_at_call 164;refine X.out.mono ?_;rintro e w7 ⟨c',⟨rfl,rfl⟩,B⟩;have H7:=hid B;clear B)
   go_ret2;refine⟨p.eb,by rw[W.out.1];rfl,?_⟩;rw[W.out.2];refine((((H7.out.drop 11).drop 12).drop 13).drop 14).conv fun j=>?_
   rcases j with _ | _ | _ | _ | _ | _ | _ | _ | _ | _ | _ | _ | _ | _ | _ | j
   case succ.succ.succ.succ.succ.zero=>
    show some (gmC _ _ _)=some (gmC _ _ _);have e9:Qu p u=Qu {p with eb:=p.eb} {u with ear:=some ⟨Jj Q (u.sums b1) (u.pts v d) v,b1⟩}:=funext fun k=>by unfold Qu;rw[V.out.1,<-V.out.2];rfl
    rw[e9,V.out.1];rfl
   case succ.succ.succ.succ.succ.succ.zero=>rw[HQ.out];rfl
   all_goals rfl
  ·have t0:I.cell? ⟨g2,0,none⟩=some (.int i64 Q.code):=(t.box (j:=12) rfl).cell 0;have t1:I.cell? ⟨g2,1,none⟩=some (.int i64 Q.size):=(t.box (j:=12) rfl).cell 1;have t2:I.cell? ⟨g2,2,none⟩=some (.int i64 Q.order):=(t.box (j:=12) rfl).cell 2;have t3:I.cell? ⟨g2,3,none⟩=some (.int i64 Q.seed):=(t.box (j:=12) rfl).cell 3;have t4:I.cell? ⟨g2,4,none⟩=some (.int i64 Q.count):=(t.box (j:=12) rfl).cell 4;have ap:l=false\/l=true/\(b1 !=a)=true:=by cases l<;>simp_all
   clear hc;go_upto_region 5 with fail
   go_cut [55] (fun x wx=>x=.bool true/\I=wx)
   case first=>
    rcases ap with rfl | ⟨rfl,a1⟩
    ·go_wp2
     go_meet;exact⟨rfl,rfl⟩
    ·go_wp2
     go_meet;exact⟨congrArg Value.bool a1,rfl⟩
   case rest=>
    obtain⟨rfl,rfl⟩:=hcut;have H6:=hid t;clear ap t e0 e1;go_upto_region 7 with(go_at_call 163;refine(E _ H6.out.tb.rd).mono ?_;rintro e w7 ⟨pe,Fe,rfl,aa,ak,an⟩;obtain⟨b,ge,rfl, -⟩:=EarP.block aa)
    have B:=H6.out.new 6 (Kept.E5 an) (d:=AfV ⟨b,0,none⟩ Q (u.sums a)) (L:=Fe) (by rw[hS];unfold Qc;rw[<-HQ.out];exact aa) ak;have u2:w7.cell? ⟨g1,2,none⟩=some (.bool a):=(B.box (j:=11) rfl).cell 2;have k0:w7.cell? ⟨K,0,none⟩=some (.pointer J):=(B.box (j:=14) rfl).cell 0;have k1:w7.cell? ⟨K,1,none⟩=some (.bool b1):=(B.box (j:=14) rfl).cell 1;have l0:=(B.box (j:=14) rfl).free 0;have l1:=(B.box (j:=14) rfl).free 1;have h8:=(B.GK (j:=14) rfl 0 (pointer (some ⟨b,0,none⟩))).GK (j:=14) rfl 1 (.bool a);clear t0 t1 t2 t3 t4 s1 s2 aa ak an H6 B E;go_upto_region 8 with fail
    generalize ((w7.setCell ⟨K,0,none⟩ (pointer (some ⟨b,0,none⟩))).setCell ⟨K,1,none⟩ (.bool a))=w8 at*;have c9:w8.cell? ⟨p.b,9,none⟩=some (.map (some p.me)):=(h8.box (j:=0) rfl).cell 9;have s0:w8.cell? ⟨g1,0,none⟩=some (.int i64 0):=(h8.box (j:=11) rfl).cell 0;have m0:w8.cell? ⟨K,0,none⟩=some (pointer (some ⟨b,0,none⟩)):=(h8.box (j:=14) rfl).cell 0;have m1:w8.cell? ⟨K,1,none⟩=some (.bool a):=(h8.box (j:=14) rfl).cell 1;have Z:=h8.below ((Ad _ w8).drew);obtain⟨w9,av,hM,hk⟩:=(Z.Ags (j:=5) rfl).put (k:=0) (by unfold maxLen;split<;>omega) ⟨by omega,by omega⟩ underlying84 (.agg #[pointer (some ⟨b,0,none⟩),.bool a]);have h9:=Z.put (j:=5) rfl (c':=gmC p.me _ _) (fun F ⟨e,_⟩=>by subst e;exact⟨hk,rfl,hM⟩);clear hM hk Z h8 k0 k1 l0 l1 u2
    go_region;have n0:w9.cell? ⟨K,0,none⟩=some (pointer (some ⟨b,0,none⟩)):=(h9.box (j:=14) rfl).cell 0;have s1:w9.cell? ⟨g1,1,none⟩=some (.int i64 (v:Int)):=(h9.box (j:=11) rfl).cell 1;have X:=hid (h9.Am1 (i:=6) (j:=13) (c:=AfV ⟨b,0,none⟩ Q (u.sums a)) rfl rfl (by omega) (H b G n w9 af.out aq));obtain⟨T,eT⟩:=E7 (Kw Q 20 (u.sums a) (u.pts v d) v);rw[<-eT]at X W;unfold Told.val at X;clear h9 eT H av c9 s0 m0 m1
    go_wp2_with(go_at_call 164;refine X.out.mono ?_;rintro e w7 ⟨c',⟨rfl,rfl⟩,B⟩;have H7:=hid B;clear B)
    go_ret2;refine⟨b,by rw[W.out.1];rfl,?_⟩;rw[W.out.2];refine((((H7.out.drop 11).drop 12).drop 13).drop 14).conv fun j=>?_
    rcases j with _ | _ | _ | _ | _ | _ | _ | _ | _ | _ | _ | _ | _ | _ | _ | j
    case succ.succ.succ.succ.succ.zero=>
     show some (gmC _ _ _)=some (gmC _ _ _);have e9:J8 (Qu p u) 0 (some (.agg #[pointer (some ⟨b,0,none⟩),.bool a]))=Qu {p with eb:=b} {u with ear:=some ⟨Jj Q (u.sums a) (u.pts v d) v,a⟩}:=funext fun k=>by unfold J8 Qu;split<;>rfl
     rw[e9];unfold Qu
     cases u.ear<;>rfl
    case succ.succ.succ.succ.succ.succ.zero=>rw[HQ.out];rfl
    all_goals rfl
theorem VU{p:UsrP}{u:UsrM}(h:u.ear=none):Qu p u=fun _=>none:=funext fun k=>by
 unfold Qu;rw[h]
 split<;>rfl
def AjS (O:Nat->Option Cm)(ps pr:Addr)(gb gs me:Nat):Nat->Option Cm:=FQ (FQ (FQ (FQ (FQ O 1 (some (RI ps (OutM.new 8)))) 2 (some (Adv pr (InM.new 8)))) 3 (some (S9 gb (SendM.new 4)))) 4 (some (Akp gs RecvM.new))) 5 (some (gmC me 0 fun _=>none))
theorem Vn(w:World):(Instr.makeMap 84 none).run prog w=.ok (.map (some w.heap.size)) (w.alloc (.map #[] 0)):=by
 simp[Instr.makeMap]
theorem Wi(h:Hg w0 S w (setG D g O))(Q:O 20=none):Calls prog 76 #[] w fun e w'=>∃ps pr gb gs me,e=.returned (.agg #[pointer (some ps),pointer (some pr),Fa gb,Fa gs,.map (some me)])/\Hg w0 S w' (setG D g (AjS O ps pr gb gs me)):=by
 have C:=h.Ii 20 86 [pointer none,pointer none,pointer none,pointer none,.map none];change Hg w0 S (w.alloc (.cells #[pointer none,pointer none,pointer none,pointer none,.map none] 86)) _ at C;obtain⟨b,eb⟩:=E7 w.heap.size;rw[<-eb]at C;have Z:=Vn;have W:=hid eb;have X:=hid Q;clear eb h Q;go_enter func76,ntmps76;go_upto_region 1 with fail
 rw[<-W.out];generalize (w.alloc (.cells #[pointer none,pointer none,pointer none,pointer none,.map none] 86))=w1 at*;go_upto_region 2 with(go_at_call 126;refine(Amj 8 w1 (by omega) (by omega)).mono ?_;rintro e w2 ⟨ps,R,rfl,r,o,v⟩)
 have I:=C.new 1 (Kept.E5 v) (d:=RI ps (OutM.new 8)) (L:=R) r o;clear C r o v;go_upto_region 3 with(go_at_call 127;refine(Al6 8 w2 (by omega) (by omega)).mono ?_;rintro e w3 ⟨pr,T,rfl,s,q,y⟩)
 have J:=I.new 2 (Kept.E5 y) (d:=Adv pr (InM.new 8)) (L:=T) s q;clear I s q y;go_upto_region 4 with(go_at_call 128;refine(AgZ 4 w3 (by omega) (by omega)).mono ?_;rintro e w4 ⟨gb,bm,rfl,F,H,t,z⟩)
 have K:=J.new 3 (Kept.E5 z) (d:=S9 gb (SendM.new 4)) (L:=[gb,bm]) ⟨bm,rfl,t⟩ (by intro x B;simp at B;omega);clear J t F H z;have U:=hid K;clear K
 go_wp2_with(go_at_call 129;refine(Rz w4).mono ?_;rintro e a ⟨gs,rfl,Y,u,A⟩;have N:=(U.out.new 4 (Kept.E5 A) (d:=Akp gs RecvM.new) (L:=[gs]) ⟨rfl,u⟩ (by intro x B;simp at B;omega));have l:=N.new 5 ((Kept.refl _ a).alloc (.map #[] 0)) (d:=gmC a.heap.size 0 fun _=>none) (L:=[a.heap.size]) ⟨rfl,GMap.XT a⟩ (by intro x B;simp at B;omega);have l0:=(l.box (j:=20) rfl).free 0;have l1:=(l.box (j:=20) rfl).free 1;have l2:=(l.box (j:=20) rfl).free 2;have l3:=(l.box (j:=20) rfl).free 3;have l4:=(l.box (j:=20) rfl).free 4;have k0:(a.alloc (.map #[] 0)).cell? ⟨b,0,none⟩=some (pointer none):=(l.box (j:=20) rfl).cell 0;have k1:(a.alloc (.map #[] 0)).cell? ⟨b,1,none⟩=some (pointer none):=(l.box (j:=20) rfl).cell 1;have k2:(a.alloc (.map #[] 0)).cell? ⟨b,2,none⟩=some (pointer none):=(l.box (j:=20) rfl).cell 2;have k3:(a.alloc (.map #[] 0)).cell? ⟨b,3,none⟩=some (pointer none):=(l.box (j:=20) rfl).cell 3;have k4:(a.alloc (.map #[] 0)).cell? ⟨b,4,none⟩=some (.map none):=(l.box (j:=20) rfl).cell 4;have V:=hid l;clear N l u A);have P:=((((V.out.GK (j:=20) rfl 0 (pointer (some ps))).GK (j:=20) rfl 1 (pointer (some pr))).GK (j:=20) rfl 2 (pointer (some ⟨gb,0,none⟩))).GK (j:=20) rfl 3 (pointer (some ⟨gs,0,none⟩))).GK (j:=20) rfl 4 (.map (some a.heap.size));have E:=P.box (j:=20) rfl;generalize (((((((a.alloc (.map #[] 0)).setCell ⟨b,0,none⟩ (pointer (some ps))).setCell ⟨b,1,none⟩ (pointer (some pr))).setCell ⟨b,2,none⟩ (pointer (some ⟨gb,0,none⟩))).setCell ⟨b,3,none⟩ (pointer (some ⟨gs,0,none⟩))).setCell ⟨b,4,none⟩ (.map (some a.heap.size))))=w7 at*;refine Ah (BO (p:=0) (ty:=86) (by kernel_rfl) _ _ b 86 _ (0,0) _ rfl E underlying86 rfl (by kernel_rfl)) rfl ?_;refine⟨ps,pr,gb,gs,a.heap.size,rfl,(P.drop 20).conv fun j=>?_⟩;unfold AjS FQ
 by_cases e:j=20
 ·rw[Ab e,e];exact X.out.symm
 ·simp only[e,AV]
def UsrM.new(k:Nat):UsrM:=⟨k,1000*k+1,⟨false,false,0⟩,OutM.new 8,InM.new 8,SendM.new 4,RecvM.new,none,SdM.new ((1000*k+1:Nat):Int),GcM.new ((1000*k+1:Nat):Int),0,fun _=>none,0,[]⟩
theorem Vo(w:World):(Instr.makeMap 89 none).run prog w=.ok (.map (some w.heap.size)) (w.alloc (.map #[] 0)):=by
 simp[Instr.makeMap]
theorem AgK(k:Nat)(h:Hg w0 S w (setG D g fun _=>none))(T:k<=16):Calls prog 36 #[int i64 (k:Int)] w fun e w'=>∃p,e=.returned (Fa p.b)/\Hg w0 S w' (setG D g (usO p (UsrM.new k))):=by
 have R:=Vo;have a:KZ ((1000*k+1:Nat):Int)=true:=by unfold KZ;simp;omega
 have hi:((1000:Int)*(k:Int)+1)=((1000*k+1:Nat):Int):=by omega
 obtain⟨K,v⟩:=E7 (1000*k+1);have P:Hid (UsrM.new k=⟨k,K,⟨false,false,0⟩,OutM.new 8,InM.new 8,SendM.new 4,RecvM.new,none,SdM.new (K:Int),GcM.new (K:Int),0,fun _=>none,0,[]⟩):=by rw[v];rfl
 rw[<-v]at a hi;have z:=fun B=>AiY (K:Int) B a
 have A:=fun B=>AiX (K:Int) B a
 have H:=hid h;clear v h a;go_enter func36,ntmps36;go_upto_region 2 with fail
 go_upto_region 3 with(go_at_call 74;refine(z w).mono ?_;rintro e w1 ⟨rfl,o,r⟩)
 have C:=H.out.new 7 (Kept.E5 r) (d:=sdC w.heap.size (SdM.new (K:Int))) (L:=[w.heap.size]) ⟨_,rfl,o⟩ (by intro x u;simp at u;omega);generalize w.heap.size=g1 at*;clear o r;go_upto_region 4 with(go_at_call 75;refine(A w1).mono ?_;rintro e w2 ⟨g2,bm,rfl,q,y,t,s⟩)
 have E:=C.new 8 (Kept.E5 s) (d:=gcC g2 (GcM.new (K:Int))) (L:=[g2,bm]) ⟨_,rfl,q⟩ (by intro x u;simp at u;omega);have J:=hid E;clear q y t s C E
 go_wp2_with(go_at_call 76;refine(Wi J.out rfl).mono ?_;rintro e l ⟨ps,pr,gb,gs,me,rfl,F⟩;have N:=hid F;clear F);go_ret;have Q:=(N.out.new 9 ((Kept.refl _ l).alloc (.map #[] 0)) (d:=gmC l.heap.size 0 fun _=>none) (L:=[l.heap.size]) ⟨rfl,GMap.XT l⟩ (by intro x u;simp at u;omega)).new 10 (Kept.refl _ _) (d:=Ju 9 1 (slice none 0 0) 0 []) (L:=[]) ⟨rfl,0,Bj _ _ _ _⟩ (by simp);have I:=Q.Ii 0 91 (S1 ⟨(l.alloc (.map #[] 0)).heap.size,ps,pr,gb,gs,me,0,g1,g2,l.heap.size,slice none 0 0⟩ (UsrM.new k));refine⟨⟨(l.alloc (.map #[] 0)).heap.size,ps,pr,gb,gs,me,0,g1,g2,l.heap.size,slice none 0 0⟩,?_,?_⟩
 ·unfold Fa;simp
 ·rw[P.out]at I |-;refine I.conv fun j=>?_
  rcases j with _ | _ | _ | _ | _ | _ | _ | _ | _ | _ | _ | j
  case succ.succ.succ.succ.succ.zero=>
   show some (gmC _ _ _)=some (gmC _ _ _);rw[VU rfl];rfl
  all_goals rfl
end Go.Proofs.YtbjgfoiikhbonahGreatDoor
