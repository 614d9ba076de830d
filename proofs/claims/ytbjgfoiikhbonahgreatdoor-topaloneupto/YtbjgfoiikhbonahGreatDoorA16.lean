import Derived.Test.YtbjgfoiikhbonahGreatDoorA15
set_option linter.unusedVariables false
set_option linter.unusedSimpArgs false
set_option maxRecDepth 100000
set_option maxHeartbeats 4000000
namespace Go.Proofs.YtbjgfoiikhbonahGreatDoor
open Go.ChangeShapes Go.WideShapes Go.ChangeAt Go.RowKit Go.Proofs.Tryz
open Value renaming string->A,int->D
open Option renaming none->C,some->F
open Ending renaming returned->E
open Go renaming World->G
open Obj renaming cells->H
open IntKind renaming i64->J
variable {B f j k n p:Nat}{I:ItemM}{L:List Int}{l pre:List ItemM}{r s:ByteArray}{size:Int}{v x y:Value}{w:G}
theorem ZP(h:(GN l size).err=0):0<=size/\size<=65535/\l.all ItemM.ok=true/\((Fp l).length:Int)<=size/\GN l size=⟨strOfNums (No (Fp l) size.toNat),0⟩:=by grind [GN,ItemM.ok,Fp,No]
theorem Agl(h:(GN l size).err≠0):(GN l size).text=ByteArray.empty:=by grind [GN,ItemM.ok,Fp]
theorem AoP(h:l.all ItemM.ok=true)(a:k<l.length):(l.getD k .zero).ok=true:=by grind
theorem U9{wr w1:G}{b:TypeId}{d:Obj}(c:Own wr B v L)(hg:((wr.alloc (H #[x,y] b)).alloc d).grownBy w1 v.ownBlock):w1.cell? ⟨wr.heap.size,1,C⟩=F y:=by
 refine hg.cell (a:=⟨wr.heap.size,1,C⟩) (v:=y) ?_ (fun e=>?_)
 ·rw[Al _ _ _ _ _ _ ((heap_alloc_old _ _ (by simp)).trans (Am wr _))];rfl
 ·have:=(c.lt _ e.symm).2;simp at this
theorem Agm(l:List ItemM)(n:Nat)(a:Option Addr)(u c:Nat)(w:G)(hI:Itms w a l)(ah:l.length=u)(hm:u<=maxLen)(hn:n<=65535)(z:l.all ItemM.ok=true)(ae:(Fp l).length<=n)
 (ad:∀wz,Itms wz a l->Calls prog 157 #[.slice a u c, D J (n:Int)] wz fun e w'=>e= E (D J 0)/\Below wz.heap.size wz w'):
 Calls prog 108 #[.slice a u c, D J (n:Int)] w fun e w'=>e= E (.tuple #[A (strOfNums (No (Fp l) n)), D J 0])/\Below w.heap.size w w':=by
 have HI:=hid hI;have P:=hid ah;have ab:=hid z;have a3:u<=9223372036854775807:=by unfold maxLen at hm;omega
 obtain⟨i0,hi,ay,az,a0⟩:=As Tryz.Of;clear ah hm z;go_enter func108,ntmps108
 go_wp2_with(first
  | (go_at_call 157;refine(ad _ hI).mono ?_;rintro e w1 ⟨rfl,d⟩)
  | (at_make;refine D4 _ rfl _ _ 103 rfl w.heap.size 5 i0 (D .u8 0) 1 underlying103 hi ay az J J _ n rfl rfl rfl (by rw[a0];omega) (by unfold maxLen;omega) d.size ?_;intro w2 g af;have m:Below w.heap.size w w2:=d.grown af d.size (by intro k hk;cases hk)))
 have ai:Own w2 w.heap.size (.slice (F ⟨w1.heap.size,0,C⟩) 0 n) (Fp (l.take 0)):=g;clear g af ad
 go_loopw [7,21] (fun v i wr=>∃k:Nat,k<=u/\i= D J k/\Own wr w.heap.size v (Fp (l.take k))/\Below w.heap.size w wr) (fun _ i _=>u-(intOf i).toNat)
 case atStart=>exact⟨0,by omega,rfl,ai,m⟩
 case round=>
  clear ai m d;obtain⟨k,hk,rfl,T,N⟩:=hrel
  by_cases av:k<u
  ·have q:k<l.length:=by rw[P.out];exact av
   obtain⟨b,o,rfl,hC⟩:=HI.out.at (i:=k) q;obtain⟨q0,q1⟩:=hC k q;have ac:=hid (Og q);have ax:=Oh l k;have t:=Oh l (k+1);rw[Og q,Ai,Ai,Gk]at t;have Z:=AoP ab.out q;obtain⟨I, eI⟩ := E7 (l.getD k .zero);rw[<-eI]at q0 q1 t ac Z;have q0:=NZ N q0;have q1:=NZ N q1;have h:=AQ Z;have hz:I.data.size<=1500:=h.2.2;have a1:1<=I.ch:=h.1;have a2:I.ch<=32:=h.2.1;have al:Hid ((Fp (l.take k)).length<70368744177664):=by show _<_;omega
   have am:Hid (((Fp (l.take k))++[I.ch,(I.data.size:Int) / 256,(I.data.size:Int) % 256]).length+I.data.size<=70368744177664):=by
    show _<=_
    grind
   have ak:=hid (show I.head=[I.ch,(I.data.size:Int) / 256,(I.data.size:Int) % 256]by unfold ItemM.head;grind);have aw:=fun(ob:Obj)=>(show Own (wr.alloc ob) w.heap.size _ _ from A6 T ob)
   have aq:=fun(ob:Obj)=>N.alloc N.size ob
   clear ax t eI Z h hC q
   go_wp2_with(first
    | (at_builtin;refine Vy w.heap.size w _ _ _ (aw _) rfl _ _ rfl rfl _ (by simp) rfl al.out (aq _) (by have:=N.size;simp;omega) ?_;intro v1 w1 Y d au;have a4:=U9 T au)
    | (at_builtin;refine YF w.heap.size w I.data Y rfl _ _ rfl rfl rfl am.out d d.size ?_;intro v2 w2 g m))
   go_roundw
   case rel=>exact⟨k+1,by omega,by go_num,by rw[ac.out,ak.out];exact g,m⟩
   case measure=>simp[intOf];omega
  ·have e:k=u:=by omega
   subst e;have aj:l.take k=l:=Aw (by rw[P.out];exact Ac _);rw[aj]at T;clear aj HI ab P;obtain⟨L, eL⟩ := E7 (Fp l);rw[<-eL]at T ae;have HL:=hid eL;clear eL;obtain⟨a6,c6,rfl, -, -, -⟩:=Own.FC T
   by_cases ag:L.length<n
   ·have y2:decide ((0:Int)<(n:Int)-(L.length:Int))=true:=Ag (by omega);have an:Hid (L.length<70368744177664):=by show _<_;omega
    have ao:Hid ((L++[63]).length+(n-L.length-1)<=70368744177664):=by show _<=_;simp;omega
    have aa:No (Fp l) n=L++[63]++List.replicate (n-L.length-1) 0:=by rw[<-HL.out];unfold No;rw[Ab ag]
    obtain⟨M, eM⟩ := E7 (L++[63]++List.replicate (n-L.length-1) 0);rw[<-eM]at aa;have Q:=hid aa;have HM:=hid eM;clear aa eM;have ap:=hid (show(n:Int)-(L.length:Int)-1=((n-L.length-1:Nat):Int)by omega)
    go_wp2_with(first
     | (at_builtin;refine AbR w.heap.size w 63 T rfl _ _ rfl rfl rfl an.out N N.size ?_;intro v1 w1 Y d)
     | (at_builtin;refine YG w.heap.size w (n-L.length-1) Y rfl _ _ rfl rfl _ rfl ap.out ao.out d d.size ?_;intro v2 w2 g m;rw[<-HM.out]at g;obtain⟨a7,c7,rfl, -, -, -⟩:=Own.FC g;have ar:=L6 g.rd c7))
    go_ret2;rw[Q.out];exact⟨rfl,m⟩
   ·have y2:decide ((0:Int)<(n:Int)-(L.length:Int))=false:=Ae (by omega);have Q:=hid (show No (Fp l) n=L by rw[<-HL.out];unfold No;rw[Aa ag]);have ar:=L6 T.rd c6
    go_wp2_with fail
    go_ret2;rw[Q.out];exact⟨rfl,N⟩
theorem Aja(l:List ItemM)(size er:Int)(a:Option Addr)(g c:Nat)(w:G)(i:(er !=0)=true)(d:∀wz,Itms wz a l->Calls prog 157 #[.slice a g c, D J size] wz fun e w'=>e= E (D J er)/\Below wz.heap.size wz w')(h:Itms w a l):
 Calls prog 108 #[.slice a g c, D J size] w fun e w'=>e= E (.tuple #[A ByteArray.empty, D J er])/\Below w.heap.size w w':=by
 go_enter func108,ntmps108
 go_wp2_with(go_at_call 157;refine(d _ h).mono ?_;rintro e w1 ⟨rfl,b⟩)
 go_ret2;exact⟨rfl,b⟩
theorem Agw(l:List ItemM)(size:Int)(a:Option Addr)(g c:Nat)(w:G)(o:Itms w a l)(i:l.length=g)(q:g<=maxLen)(d:g<=6000000000000):
 Calls prog 108 #[.slice a g c, D J size] w fun e w'=>e= E (.tuple #[A (GN l size).text, D J (GN l size).err])/\Below w.heap.size w w':=by
 have b:=fun M z=>Ac6 l size a g c M z i q d
 by_cases m:(GN l size).err=0
 ·obtain⟨N,P,t,Q,u⟩:=ZP m;obtain⟨n,rfl⟩:∃n:Nat,size=(n:Int):=⟨size.toNat,by omega⟩;rw[m]at b;rw[u];exact Agm l n a g c w o i q (by omega) t (by omega) b
 ·have h:=Aja l size (GN l size).err a g c w (by simpa using m) b o;rw[Agl m];exact h
theorem Tryz.Ano:(prog.info? 223).map (fun i=>(i.zero,i.size,i.bytes))=F (F (.agg #[D J 0, A {data:=#[]}]),2,24):=by kernel_rfl
def Th (l:List ItemM):List Value:=l.flatMap fun t=>[D J t.ch, A t.data]
theorem Y5(l:List ItemM)(t:ItemM):Th (l++[t])=Th l++[D J t.ch, A t.data]:=by
 unfold Th
 grind
def OwnIt(w:G)(B:Nat)(v:Value)(l:List ItemM):Prop:=w.ownsRow B 223 2 v l.length (Th l)
theorem OwnIt.nil(w:G)(B:Nat):OwnIt w B (.slice C 0 0) []:=Bj _ _ _ _
theorem OwnIt.E4(h:OwnIt w B v l):∀k,v.ownBlock=F k->B<=k:=fun k a=>(h.lt k a).1
theorem OwnIt.below{w':G}(h:OwnIt w B v l)(o:Below w.heap.size w w'):OwnIt w' B v l:=by
 refine⟨h.1,?_⟩
 rcases h.2 with c | ⟨g,a,cur,d,e,i,m⟩
 ·exact .inl c
 ·have b:g<w.heap.size:=by grind
  exact .inr ⟨g,a,cur,d,e,(o.block g b).trans i,m⟩
theorem OwnIt.FC(h:OwnIt w B v l):∃a c,v=.slice a l.length c/\l.length<=c/\c<=maxLen:=by
 rcases h.2 with⟨rfl,i⟩ | ⟨g,b,cur,rfl,_,_,d,e,_⟩
 ·grind
 ·exact⟨_,b,rfl,d,e⟩
def Fk (s:ByteArray)(j:Nat):Nat:=if h:j<s.size then s[j].toNat else 0
theorem Jc(s:ByteArray)(j:Nat)(h:j<s.size):Fk s j=s[j].toNat:=by simp[Fk,h]
theorem NY(s:ByteArray)(j:Nat):Fk s j<256:=by
 unfold Fk
 split
 ·exact D7 _
 ·omega
def Gh (s:ByteArray)(p:Nat):Nat:=256*Fk s (p+1)+Fk s (p+2)
def Id (s:ByteArray)(p:Nat):ItemM:=⟨(Fk s p:Int),s.extract (p+3) (p+3+Gh s p)⟩
def Gg (s:ByteArray):Nat->Nat->Option (List ItemM)
 | 0,_=>F []
 | f+1,p=>if p<s.size/\Fk s p≠63 then (if s.size<p+3 then C else if s.size<p+3+Gh s p then C else (Gg s f (p+3+Gh s p)).map (Id s p:: ·)) else F []
def KV (s:ByteArray):Option (List ItemM):=if 65535<s.size then C else match Gg s (s.size+1) 0 with
 | none=>C
 | some l=>if (GN l (s.size:Int)).err=0/\(GN l (s.size:Int)).text=s then F l else C
theorem Adn(a:0<f)(h:¬(p<s.size/\Fk s p≠63)):Gg s f p=F []:=by unfold Gg;repeat split<;>grind
theorem St(b:0<f)(h:p<s.size/\Fk s p≠63)(a:s.size<p+3\/s.size<p+3+Gh s p):Gg s f p=C:=by unfold Gg;repeat split<;>grind
theorem Uk(h:p<s.size/\Fk s p≠63)(a:p+3+Gh s p<=s.size):Gg s (f+1) p=(Gg s f (p+3+Gh s p)).map (Id s p:: ·):=by grind [Fk,Gh,Gg,Id]
def Byt (P:List Int):Prop:=∀x∈P,0<=x/\x<=255
theorem Ab8(s:ByteArray):Byt (FN s):=fun x a=>by
 unfold FN at a;obtain⟨b,_,rfl⟩:=Bb.1 a;have:=D7 b;exact⟨by omega,by omega⟩
theorem Ait{t:ItemM}(h:t.ok=true):Byt t.head:=fun x a=>by
 have b:1<=t.ch/\t.ch<=32/\t.data.size<=1500:=AQ h;unfold ItemM.head at a
 grind
theorem AfA(h:l.all ItemM.ok=true):Byt (Fp l):=by grind [ItemM.ok,Byt,Fp,ItemM.bytes,Ait,Ab8]
theorem Alg(h:Byt L)(n:Nat):Byt (No L n):=by grind [Byt,No]
theorem AfC{P:List Int}(h:Byt P)(a:j<P.length):(Fk (strOfNums P) j:Int)=P.getD j 0:=by
 have b:j<(strOfNums P).size:=by rw[BP];exact a
 rw[Jc _ _ b];have e:(strOfNums P)[j]=UInt8.ofNat (P[j]).toNat:=by
  show((P.map fun n=>UInt8.ofNat n.toNat).toArray)[j]'(by simpa using a)=_
  grind
 have c:=h P[j] (A4 a);rw[e];have e2:P.getD j 0=P[j]:=by simp[List.getD,a]
 rw[e2,UInt8.toNat_ofNat'];omega
theorem AhG(s:ByteArray):strOfNums (FN s)=s:=by
 refine EJ ?_;rw[D5];unfold FN;rw[CR]
 conv=>rhs;rw[<-List.map_id s.data.toList]
 refine Du fun b _=>?_
 simp
theorem IT{P:Program}{b:Func}{p u x:Tmp}{ty:TypeId}(h:b.results=#[.cell p ty,.tmp u,.tmp x])(tmps:Array Value)(w:G)(g:Nat)(t:TypeId)(cs:Array Value)(fr:Nat×Nat)(d:TypeDesc)
 (c:tmps.getD p undef=.pointer (F ⟨g,0,C⟩)) (hg:w.heap[g]?=F (H cs t fr))
 (e:P.underlying ty=F d) (hd:(match d with | .struct _ | .array _ _=>true | _=>false)=true) (hi:(P.info? ty).map (·.size)=F cs.size):
 (results b tmps).run P w=.ok (.tuple #[.agg cs,tmps.getD u undef,tmps.getD x undef]) w:=by
 have a:tmps[p]?.getD undef=.pointer (F ⟨g,0,C⟩):=by simpa using c
 simp[results,h,a,asAddr,run_loadVar_row w g t ty cs fr d hg e hd hi]
def KT (s:ByteArray):Option (ItemM×ByteArray):=if s.size<3 then C else if s.size<3+Gh s 0 then C else if (Id s 0).ok=false then C else F (Id s 0,s.extract (3+Gh s 0) s.size)
def TG (s:ByteArray):Value:=match KT s with
 | none=> .tuple #[.agg #[D J 0, A ByteArray.empty], A ByteArray.empty, D J 3]
 | some (I,r)=> .tuple #[.agg #[D J I.ch, A I.data], A r, D J 0]
theorem Ma(h:KT s=C):TG s=.tuple #[.agg #[D J 0, A ByteArray.empty], A ByteArray.empty, D J 3]:=by unfold TG;rw[h]
theorem Sb(h:KT s=F (I,r)):TG s=.tuple #[.agg #[D J I.ch, A I.data], A r, D J 0]:=by unfold TG;rw[h]
theorem WR{g:Nat}{T:TypeId}(h:w.heap[g]?=F (H #[x,y] T (0,0)))(u v:Value):w.cell? ⟨g,0,C⟩=F x/\w.frozen? ⟨g,0,C⟩=false/\w.cell? ⟨g,1,C⟩=F y/\(w.setCell ⟨g,0,C⟩ u).cell? ⟨g,1,C⟩=F y/\(w.setCell ⟨g,0,C⟩ u).frozen? ⟨g,1,C⟩=false/\
 ((w.setCell ⟨g,0,C⟩ u).setCell ⟨g,1,C⟩ v).heap[g]?=F (H #[u,v] T (0,0)):=by
 have a:(w.setCell ⟨g,0,C⟩ u).heap[g]?=F (H #[u,y] T (0,0)):=BK w g 0 _ _ u h;have b:((w.setCell ⟨g,0,C⟩ u).setCell ⟨g,1,C⟩ v).heap[g]?=F (H #[u,v] T (0,0)):=BK _ g 1 _ _ v a;refine⟨by rw[Al _ _ _ _ _ _ h];rfl,Bz _ _ _ _ _ h,by rw[Al _ _ _ _ _ _ h];rfl,by rw[Al _ _ _ _ _ _ a];rfl,Bz _ _ _ _ _ a,b⟩
theorem Af4(s:ByteArray)(w:G)(hs:s.size<=65535):
 Calls prog 242 #[A s] w fun e w'=>e= E (TG s)/\Below w.heap.size w w':=by
 by_cases h3:s.size<3
 ·have x3:decide ((s.size:Int)<3)=true:=Ag (by omega);have h:=hid (Ma (s:=s) (by unfold KT;rw[Ab h3]));clear h3;go_enter func242,ntmps242
  go_wp2_with fail
  (try simp only[Exit.inBlock,Exit.then])
  refine Ah (IT (p:=2) (ty:=223) rfl _ _ w.heap.size 223 _ (0,0) _ rfl (Am w _) underlying223 rfl (by kernel_rfl)) rfl ?_;rw[h.out];exact⟨rfl,(Ad _ w).alloc (Ac _) _⟩
 ·have x3:decide ((s.size:Int)<3)=false:=Ae (by omega);have g0:0<s.size:=by omega
  have g1:1<s.size:=by omega
  have g2:2<s.size:=by omega
  obtain⟨a,ag⟩:∃a,s[0].toNat=a:=⟨_,rfl⟩;obtain⟨P,T⟩:∃P,s[1].toNat=P:=⟨_,rfl⟩;obtain⟨Q,Y⟩:∃Q,s[2].toNat=Q:=⟨_,rfl⟩;have ab:=Jc s 0 g0;have q:=Jc s 1 g1;have t:=Jc s 2 g2;rw[ag]at ab;rw[T]at q;rw[Y]at t;have ao:=NY s 0;have ap:=NY s 1;have aq:=NY s 2;have ai:Gh s 0=256*P+Q:=by unfold Gh;rw[q,t]
  have aj:(1:Int)<(s.size:Int):=by omega
  have ak:(2:Int)<(s.size:Int):=by omega
  go_enter func242,ntmps242;go_upto_region 3 with fail
  go_region;go_upto_region 4 with fail
  obtain⟨N, eN⟩ := E7 (3+(256*P+Q));have Z:3+(P:Int)*256+(Q:Int)=(N:Int):=by omega
  rw[Z];have d:3+Gh s 0=N:=by omega
  have ar:N<=65538:=by omega
  clear q t Z eN ai T Y
  by_cases af:s.size<N
  ·have y4:decide ((s.size:Int)<(N:Int))=true:=Ag (by omega);have h:=hid (Ma (s:=s) (by unfold KT;grind))
   go_wp2_with fail
   (try simp only[Exit.inBlock,Exit.then])
   refine Ah (IT (p:=2) (ty:=223) rfl _ _ w.heap.size 223 _ (0,0) _ rfl (Am w _) underlying223 rfl (by kernel_rfl)) rfl ?_;rw[h.out];exact⟨rfl,((Ad _ w).alloc (Ac _) _).drew⟩
  ·have y4:decide ((s.size:Int)<(N:Int))=false:=Ae (by omega);have al:(3:Int)<=(N:Int):=by omega
   have am:(N:Int)<=(s.size:Int):=by omega
   have an:(0:Int)<=(N:Int):=by omega
   have aa:Id s 0=⟨(a:Int),s.extract 3 N⟩:=by unfold Id;rw[ab,<-d,Ao]
   have g:=VR ⟨(a:Int),s.extract 3 N⟩;have HP:=hid aa;clear aa;go_upto_region 6 with fail
   go_region;go_upto_region 7 with fail
   have i:=Am w (H #[D J (a:Int), A (s.extract 3 N)] 223);have i:(w.alloc (H #[D J (a:Int), A (s.extract 3 N)] 223)).drew.drew.heap[w.heap.size]?=F (H #[D J (a:Int), A (s.extract 3 N)] 223 (0,0)):=i;have ah:w.heap.size<(w.alloc (H #[D J (a:Int), A (s.extract 3 N)] 223)).drew.drew.heap.size:=by simp
   have ad:Below w.heap.size w (w.alloc (H #[D J (a:Int), A (s.extract 3 N)] 223)).drew.drew:=((Ad _ w).alloc (Ac _) _).drew.drew;generalize (w.alloc (H #[D J (a:Int), A (s.extract 3 N)] 223)).drew.drew=M at*;have ae:=fun(w1:G) (h1:Below M.heap.size M w1)=>(h1.block w.heap.size ah).trans i
   have ac:=fun(w1:G) (h1:Below M.heap.size M w1)=>ad.trans (h1.mono ad.size)
   have q0:M.cell? ⟨w.heap.size,0,C⟩=F (D J (a:Int)):=by rw[Al _ _ _ _ _ _ i];rfl
   have q1:M.cell? ⟨w.heap.size,1,C⟩=F (A (s.extract 3 N)):=by rw[Al _ _ _ _ _ _ i];rfl
   cases b:(⟨(a:Int),s.extract 3 N⟩:ItemM).ok with
   | false=>
    rw[ItemM.err_bad b]at g;have h:=hid (Ma (s:=s) (by unfold KT;rw[Aa h3,Aa (by rw[d];exact af),HP.out,Ab b]));clear b i
    go_wp2_with(go_at_call 184;refine(g _).mono ?_;rintro e w1 ⟨rfl,c⟩;have m:=ae _ c;have z:=ac _ c;obtain⟨c0,z0,c1,c2,z2,o⟩:=WR m (D J 0) (A ByteArray.empty);have u:Below w.heap.size w ((w1.setCell ⟨w.heap.size,0,C⟩ (D J 0)).setCell ⟨w.heap.size,1,C⟩ (A ByteArray.empty)):=(z.setCell (p:=⟨w.heap.size,0,C⟩) (Ac _) _).setCell (p:=⟨w.heap.size,1,C⟩) (Ac _) _)
    (try simp only[Exit.inBlock,Exit.then])
    refine Ah (IT (p:=2) (ty:=223) rfl _ _ w.heap.size 223 _ (0,0) _ rfl o underlying223 rfl (by kernel_rfl)) rfl ?_;rw[h.out];exact⟨rfl,u⟩
   | true=>
    rw[ItemM.Acs b]at g;have h:=hid (Sb (s:=s) (I:=⟨(a:Int),s.extract 3 N⟩) (r:=s.extract N s.size) (by unfold KT;rw[Aa h3,Aa (by rw[d];exact af),HP.out,Aa (by rw[b];decide),d]));clear b i;go_upto_region 9 with(go_at_call 184;refine(g _).mono ?_;rintro e w1 ⟨rfl,c⟩;have m:=ae _ c;have z:=ac _ c;obtain⟨c0,z0,c1,c2,z2,o⟩:=WR m (D J (a:Int)) (A (s.extract 3 N));have u:Below w.heap.size w ((w1.setCell ⟨w.heap.size,0,C⟩ (D J (a:Int))).setCell ⟨w.heap.size,1,C⟩ (A (s.extract 3 N))):=(z.setCell (p:=⟨w.heap.size,0,C⟩) (Ac _) _).setCell (p:=⟨w.heap.size,1,C⟩) (Ac _) _)
    go_region
    go_wp2_with fail
    (try simp only[Exit.inBlock,Exit.then])
    refine Ah (IT (p:=2) (ty:=223) rfl _ _ w.heap.size 223 _ (0,0) _ rfl o underlying223 rfl (by kernel_rfl)) rfl ?_;rw[h.out];exact⟨rfl,u.drew⟩
theorem Qw(s:ByteArray)(p q a b:Nat)(h:p+b<=q):(s.extract p q).extract a b=s.extract (p+a) (p+b):=by
 refine ByteArray.ext ?_;rw[CS,CS,CS,Array.extract_extract]
 congr 1
 omega
theorem Xx(s:ByteArray):s.extract 0 s.size=s:=by
 refine ByteArray.ext ?_;rw[CS];exact Array.extract_size
theorem Gy(s:ByteArray)(p q:Nat)(h:q<=s.size):(s.extract p q).size=q-p:=by
 rw[CF];omega
theorem IN(s:ByteArray)(p q j:Nat)(h:p+j<q)(b:q<=s.size):Fk (s.extract p q) j=Fk s (p+j):=by
 have a:j<(s.extract p q).size:=by rw[Gy s p q b];omega
 rw[Jc _ _ a,Jc s (p+j) (by omega)]
 congr 1
 show(s.extract p q).data[j]'_=s.data[p+j]'_;simp only[CS,Array.getElem_extract]
theorem Kd(s:ByteArray)(h:s.size<=j):Fk s j=0:=by
 unfold Fk;rw[dif_neg (by omega)]
theorem Qv(h:s.size=0):s.toList.isEmpty=true:=by
 rw[Cc];have:s.data.toList.length=0:=by rw[AH];exact h
 grind
theorem OQ(h:0<s.size):s.toList.isEmpty=false:=by
 rw[Cc]
 cases a:s.data.toList with
 | nil=>
  have e:s.data.toList.length=s.size:=by rw[AH];rfl
  rw[a]at e;simp at e;omega
 | cons x l=>rfl
def AdU:Value->Nat
 | A s=>s.size
 | _=>0
theorem AhR(s:ByteArray)(w:G)(hs:s.size<=65535):
 Calls prog 267 #[A s, D .u8 0] w fun e w'=>(∃p,p<=s.size/\e= E (A (s.extract p s.size))/\(∀j,j<p->Fk s j=0)/\(p=s.size\/Fk s p≠0))/\w'=w:=by
 go_enter func267,ntmps267;go_wp2
 go_loop [0] (fun q=>∃p:Nat,p<=s.size/\q= A (s.extract p s.size)/\Hid (∀j,j<p->Fk s j=0)) (fun q=>AdU q)
 case atStart=>exact⟨0,by omega,by rw[Xx],fun j P=>absurd P (CG _)⟩
 case round=>
  obtain⟨p,Q,rfl,m⟩:=hrel;have a:=Gy s p s.size (Ac _);obtain⟨u, c⟩ := E7 (s.extract p s.size);rw[<-c]at a ⊢;have N:=hid c
  by_cases ab:p<s.size
  ·have Y:0<u.size:=by omega
   have Z:(0:Int)<(u.size:Int):=by omega
   obtain⟨d,M⟩:∃d,u[0].toNat=d:=⟨_,rfl⟩;have g:=Jc u 0 Y;rw[M]at g;have aa:=NY u 0;have b:Fk s p=d:=by rw[<-g,c,IN s p s.size 0 (by omega) (Ac _)];rfl
   by_cases o:d=0
   ·have i:=hid (show u.extract 1 u.size=s.extract (p+1) s.size by rw[a,c,Qw _ _ _ _ _ (by omega),show p+(s.size-p)=s.size by omega]);have z:Hid (∀j,j<p+1->Fk s j=0):=fun j P=>by
     by_cases e:j=p
     ·rw[e,b,o]
     ·exact m.out j (by omega)
    subst o;have t:=hid a;have h:u.size<=65535:=by omega
    clear c b m a;go_wp2
    go_round
    case rel=>exact⟨p+1,by omega,by rw[i.out],z⟩
    case measure=>rw[i.out];show(s.extract (p+1) s.size).size<u.size;rw[Gy _ _ _ (Ac _),t.out];omega
   ·have xz:((d:Int)==0)=false:=by simp;omega
    have T:=hid (show Fk s p≠0 by rw[b];exact o);have h:u.size<=65535:=by omega
    clear c b o a;go_wp2;go_ret;exact⟨⟨p,Q,by rw[N.out];rfl,m.out,.inr T.out⟩,rfl⟩
  ·have e:p=s.size:=by omega
   have ac:u.size=0:=by omega
   have i:=hid e;clear c e a;go_wp2;go_ret;exact⟨⟨p,Q,by rw[N.out];rfl,m.out,.inl i.out⟩,rfl⟩
theorem AhS(s:ByteArray)(w:G)(hs:s.size<=65535):
 Calls prog 268 #[A s, D .u8 0] w fun e w'=>(∃m,m<=s.size/\e= E (A (s.extract 0 m))/\(∀j,m<=j->Fk s j=0)/\(m=0\/Fk s (m-1)≠0))/\w'=w:=by
 go_enter func268,ntmps268;go_wp2
 go_loop [0] (fun q=>∃m:Nat,m<=s.size/\q= A (s.extract 0 m)/\Hid (∀j,m<=j->Fk s j=0)) (fun q=>AdU q)
 case atStart=>exact⟨s.size,Ac _,by rw[Xx],fun j Q=>Kd s Q⟩
 case round=>
  obtain⟨m,t,rfl,o⟩:=hrel;have c:=Gy s 0 m t;obtain⟨u, b⟩ := E7 (s.extract 0 m);rw[<-b]at c ⊢;have P:=hid b
  by_cases h:0<m
  ·obtain⟨k,rfl⟩:∃k,m=k+1:=⟨m-1,by omega⟩;have aa:u.size=k+1:=by omega
   have Y:k<u.size:=by omega
   have x0:decide ((0:Int)<(u.size:Int))=true:=Ag (by omega);obtain⟨d,N⟩:∃d,u[k].toNat=d:=⟨_,rfl⟩;have g:=Jc u k Y;rw[N]at g;have a:Fk s k=d:=by rw[<-g,b,IN s 0 (k+1) k (by omega) t,Ao]
   have Z:(0:Int)<=(k:Int):=by omega
   by_cases z:d=0
   ·have i:=hid (show u.extract 0 k=s.extract 0 k by rw[b,Qw _ _ _ _ _ (by omega)];simp);have M:Hid (∀j,k<=j->Fk s j=0):=fun j Q=>by
     by_cases e:j=k
     ·rw[e,a,z]
     ·exact o.out j (by omega)
    subst z;clear b a o c h;go_wp2
    go_round
    case rel=>exact⟨k,by omega,by rw[i.out],M⟩
    case measure=>rw[i.out];show(s.extract 0 k).size<u.size;rw[Gy _ _ _ (by omega)];omega
   ·have xz:((d:Int)==0)=false:=by simp;omega
    have T:=hid (show Fk s (k+1-1)≠0 by rw[DD,a];exact z);clear b a z c h;go_wp2;go_ret;exact⟨⟨k+1,t,by rw[P.out];rfl,o.out,.inr T.out⟩,rfl⟩
  ·have e:m=0:=by omega
   have x0:decide ((0:Int)<(u.size:Int))=false:=Ae (by omega);have i:=hid e;clear b e;go_wp2;go_ret;exact⟨⟨m,t,by rw[P.out];rfl,o.out,.inl i.out⟩,rfl⟩
theorem exR(s:ByteArray):∀m,m<=s.size->(∀j,m<=j->Fk s j=0)->∃m0,m0<=s.size/\(∀j,m0<=j->Fk s j=0)/\(m0=0\/Fk s (m0-1)≠0)
 | 0,_,hz=>⟨0,by omega,hz,.inl rfl⟩
 | m+1,hm,hz=>by
  by_cases h:Fk s m=0
  ·refine exR s m (by omega) fun j a=>?_
   grind
  ·exact⟨m+1,hm,hz,.inr (by rw[DD];exact h)⟩
theorem Ao8{m:Nat}(a:∀j,m<=j->Fk s j=0)(b:m=0\/Fk s (m-1)≠0)(c:∀j,n<=j->Fk s j=0)(d:n=0\/Fk s (n-1)≠0):n=m:=by grind
theorem exL(s:ByteArray):∀f p,p+f=s.size->(∀j,j<p->Fk s j=0)->∃p0,p0<=s.size/\(∀j,j<p0->Fk s j=0)/\(p0=s.size\/Fk s p0≠0)
 | 0,p,hp,hz=>⟨p,by omega,hz,.inl (by omega)⟩
 | f+1,p,hp,hz=>by
  by_cases h:Fk s p=0
  ·refine exL s f (p+1) (by omega) fun j a=>?_
   grind
  ·exact⟨p,by omega,hz,.inr h⟩
theorem Ao7{q:Nat}(e:p<=s.size)(g:q<=s.size)(a:∀j,j<p->Fk s j=0)(b:p=s.size\/Fk s p≠0)(c:∀j,j<q->Fk s j=0)(d:q=s.size\/Fk s q≠0):q=p:=by grind
theorem AkG(s:ByteArray)(w:G)(hs:s.size<=65535):
 Calls prog 243 #[A s, A {data:=#[0]}] w fun e w'=>∃r,e= E (A r)/\(r.size=0↔∀j,Fk s j=0)/\Below w.heap.size w w':=by
 by_cases o:s.size=0
 ·have hx:=Qv o;have t:=hid (show s.size=0↔∀j,Fk s j=0 from⟨fun _ j=>Kd s (by omega),fun _=>o⟩);clear o;go_enter func243,ntmps243
  go_wp2_with fail;go_ret;exact⟨_,rfl,t.out,Ad _ _⟩
 ·have hx:=OQ (s:=s) (by omega);obtain⟨m,M,hz,T⟩:=exR s s.size (Ac _) (fun j q=>Kd s q);have Z:∀a,Calls prog 268 #[A s, D .u8 0] a fun e w'=>e= E (A (s.extract 0 m))/\w'=a:=fun a=>(AhS s a hs).mono fun e w' ⟨⟨m',_,z,c,b⟩,P⟩=>⟨by rw[z,Ao8 hz T c b],P⟩
  have h:=Gy s 0 m M;have g:∀j,j<m->Fk (s.extract 0 m) j=Fk s j:=fun j q=>by rw[IN s 0 m j (by omega) M,Ao]
  obtain⟨u, Q⟩ := E7 (s.extract 0 m);rw[<-Q]at Z h g;obtain⟨p,Y,i,d⟩:=exL u u.size 0 (by omega) (fun j q=>absurd q (CG _));have hl:∀a,Calls prog 267 #[A u, D .u8 0] a fun e w'=>e= E (A (u.extract p u.size))/\w'=a:=fun a=>(AhR u a (by omega)).mono fun e w' ⟨⟨p',N,z,c,b⟩,P⟩=>⟨by rw[z,Ao7 Y N i d c b],P⟩
  have t:Hid ((u.extract p u.size).size=0↔∀j,Fk s j=0):=by
   show _↔_;rw[Gy _ _ _ (Ac _)]
   grind
  clear hz T h g i d Y Q M o;go_enter func243,ntmps243;go_upto_region 4 with fail
  go_region_held3 (fun _=>True) (exact trivial) (first
   | (go_at_call 268;refine(Z _).mono ?_;rintro e w1 ⟨rfl,rfl⟩)
   | (go_at_call 267;refine(hl _).mono ?_;rintro e w1 ⟨rfl,rfl⟩))
  all_goals
   (try go_wp2_with fail)
   go_ret;exact⟨_,rfl,t.out,(Ad _ w).drew⟩
theorem Ke(s:ByteArray)(h:k<s.size):(FN s)[k]'(by rw[Gk];exact h)=(Fk s k:Int):=by
 rw[Jc s k h];unfold FN;simp;rfl
theorem Ab9(s:ByteArray)(a n:Nat)(h:a+n<=s.size):FN (s.extract a (a+n))=((FN s).drop a).take n:=by
 refine AW ?_ fun j b c=>?_
 ·rw[Gk,Gy _ _ _ h,Ay,AJ,Gk];omega
 ·have d:j<n:=by grind
  rw[Ke _ (by rw[Gy _ _ _ h];omega),IN s a (a+n) j (by omega) h,List.getElem_take,D8,Ke s (by omega)]
theorem AcR(c:Fp pre=(FN s).take p)(h:p+3+Gh s p<=s.size):Fp (pre++[Id s p])=(FN s).take (p+3+Gh s p):=by
 have e1:Fp (pre++[Id s p])=Fp pre++(Id s p).bytes:=by
  unfold Fp
  grind
 have e:(FN s).length=s.size:=Gk s;have hd:(Id s p).data.size=Gh s p:=by
  unfold Id
  show(s.extract (p+3) (p+3+Gh s p)).size=_;rw[Gy _ _ _ h];omega
 have d:=NY s (p+2);have a:(Id s p).data.size / 256=Fk s (p+1)/\(Id s p).data.size % 256=Fk s (p+2):=by
  rw[hd];unfold Gh;omega
 have e2:(Id s p).head=[(Fk s p:Int),(Fk s (p+1):Int),(Fk s (p+2):Int)]:=by
  unfold ItemM.head;rw[a.1,a.2];rfl
 have e3:FN (Id s p).data=((FN s).drop (p+3)).take (Gh s p):=Ab9 s (p+3) (Gh s p) h;have b:(FN s).take (p+3)=(FN s).take p++[(Fk s p:Int),(Fk s (p+1):Int),(Fk s (p+2):Int)]:=by
  rw[show p+3=p+2+1 by omega,Bu (by omega),Bu (by omega),Bu (by omega),Ke s (by omega),Ke s (by omega),Ke s (by omega)];simp
 rw[e1,c];unfold ItemM.bytes;rw[e2,e3,List.take_add,b,Bg]
theorem PY(a:p+3<=s.size):Gh (s.extract p s.size) 0=Gh s p:=by grind [Gh,IN]
theorem Su(a:p+3+Gh s p<=s.size):Id (s.extract p s.size) 0=Id s p:=by grind [Gh,Id,PY,IN,Qw]
theorem Acy(i:p<=s.size)(h:KT (s.extract p s.size)=F (I,r)):p+3+Gh s p<=s.size/\I=Id s p/\I.ok=true/\r=s.extract (p+3+Gh s p) s.size:=by
 have d:=Gy s p s.size (Ac _);unfold KT at h
 by_cases e:(s.extract p s.size).size<3
 ·rw[Ab e]at h;cases h
 ·rw[Aa e]at h;have b:p+3<=s.size:=by omega
  rw[PY b]at h
  by_cases g:(s.extract p s.size).size<3+Gh s p
  ·rw[Ab g]at h;cases h
  ·rw[Aa g]at h;have a:p+3+Gh s p<=s.size:=by omega
   rw[Su a]at h
   by_cases c:(Id s p).ok=false
   ·rw[Ab c]at h;cases h
   ·rw[Aa c]at h;simp only[Bl,Prod.mk.injEq]at h;obtain⟨rfl,rfl⟩:=h;refine⟨a,rfl,by simpa using c,?_⟩;rw[d,Qw _ _ _ _ _ (by omega),<-BZ,show p+(s.size-p)=s.size by omega]
theorem AcT(h:l.all ItemM.ok=false):(GN l (n:Int)).err≠0:=fun a=>by
 have:=(ZP a).2.2.1;rw[h]at this
 cases this
theorem Acx(M:s.size<=65535)(g:p<s.size)(z:s.size<p+f)(a:Fk s p≠63)(c:Gg s (s.size+1) 0=(Gg s f p).map (pre++ ·))(h:KT (s.extract p s.size)=C):KV s=C:=by
 have u:=Gy s p s.size (Ac _);have b:Gg s (s.size+1) 0=C->KV s=C:=fun h=>by unfold KV;rw[Aa (by omega),h]
 by_cases m:s.size<p+3
 ·exact b (by rw[c,St (by omega) ⟨g,a⟩ (.inl m)];rfl)
 ·by_cases o:s.size<p+3+Gh s p
  ·exact b (by rw[c,St (by omega) ⟨g,a⟩ (.inr o)];rfl)
  ·unfold KT at h;rw[Aa (by omega),PY (by omega),Aa (by omega),Su (by omega)]at h
   by_cases q:(Id s p).ok=false
   ·obtain⟨d,rfl⟩:∃d,f=d+1:=⟨f-1,by omega⟩;rw[Uk ⟨g,a⟩ (by omega)]at c
    cases i:Gg s d (p+3+Gh s p)with
    | none=>exact b (by rw[c,i];rfl)
    | some l=>
     rw[i]at c;have e:Gg s (s.size+1) 0=F (pre++(Id s p::l)):=c;unfold KV;rw[Aa (by omega),e];refine Aa fun t=>?_
     refine AcT (l:=pre++(Id s p::l)) ?_ t.1
     grind
   ·rw[Aa q]at h;cases h
theorem WG(hs:s.size<=65535)(hp:p<=s.size)(Z:s.size<p+f)(Q:p=s.size\/Fk s p=63)(z:Gg s (s.size+1) 0=(Gg s f p).map (pre++ ·))(q:pre.all ItemM.ok=true)(t:Fp pre=(FN s).take p):
 ((∀j,p<j->Fk s j=0)->KV s=F pre)/\((∃j,p<j/\Fk s j≠0)->KV s=C):=by
 have P:Gg s (s.size+1) 0=F pre:=by
  rw[z,Adn (by omega) (fun h=>by
   grind)]
  simp
 have hl:(FN s).length=s.size:=Gk s;have g:(Fp pre).length=p:=by rw[t,Ay];omega
 have hj:GN pre (s.size:Int)=⟨strOfNums (No (Fp pre) s.size),0⟩:=by
  unfold GN
  grind
 have d:KV s=if strOfNums (No (Fp pre) s.size)=s then F pre else C:=by
  unfold KV
  grind
 refine⟨fun Y=>?_,fun⟨j,N,b⟩=>?_⟩
 ·rw[d,Ab ?_];have c:No (Fp pre) s.size=FN s:=by
   unfold No
   by_cases o:p<s.size
   ·rw[Ab (by omega),g,t];have e:Fk s p=63:=by
     grind
    have e1:(FN s).drop p=(Fk s p:Int)::(FN s).drop (p+1):=by
     rw[CY (by omega),Ke s o]
    have e2:(FN s).drop (p+1)=List.replicate (s.size-p-1) 0:=by
     rw[Ew];refine⟨by rw[AJ];omega,fun x T=>?_⟩;obtain⟨i,hi,rfl⟩:=A5 T;rw[AJ]at hi;rw[D8,Ke s (by omega),Y _ (by omega)];rfl
    conv=>rhs;rw[<-Cs p (FN s),e1,e2,e]
    simp
   grind
  rw[c,AhG]
 ·rw[d,Aa ?_];intro M;have m:j<s.size:=by
   rcases AS j s.size with h | h
   ·exact h
   ·exact absurd (Kd s h) b
  have a:=AfC (Alg (AfA q) s.size) (j:=j) (by rw[Ss (by omega)];exact m);rw[M]at a;have u:(No (Fp pre) s.size).getD j 0=0:=by
   unfold No
   grind
  rw[u]at a;exact b (by omega)
theorem Vz{ops:Array Oper}{c:List Oper}{o:Oper}{a:Act}{Q:Exit->Act->G->Prop}{w0:G}(B:Nat)(d:G)(t:ItemM)(b:OwnIt w0 B v l)(e:o.guard=C)(s x:Operand)
 (T:o.op=.call {callee:=.builtin .append,args:=#[s,x],argTypes:=#[224,224]}) (hs:a.eval s=v) (g:Nat) (hg:g=w0.heap.size) (hx:a.eval x=.slice (F ⟨g,0,C⟩) 1 1) (hlen:l.length<1000000) (hbel:Below B d w0) (hB:B<=w0.heap.size)
 (h:∀v' w',OwnIt w' B v' (l++[t])->Below B d w'->wpList prog ops Q c (a.put o.dst v') w'):wpList prog ops Q (o::c) a (w0.alloc (H #[D J t.ch, A t.data] 223)):=by
 subst hg;obtain⟨Z,hi,i,m,q⟩:=As Tryz.Ano;have Y:=Am w0 (H #[D J t.ch, A t.data] 223);refine CJ _ e s x 224 T B 223 Z (.agg #[D J 0, A {data:=#[]}]) 2 24 underlying224 hi i m q rfl (by decide) v _ _ hs (A6 b _) ⟨w0.heap.size,0,C⟩ 1 1 [D J t.ch, A t.data] hx rfl ?_ ?_ ?_ ?_ ?_ ?_
 ·intro j u P;rw[BT,Ao,Al _ _ _ _ _ _ Y]
  simpa using P
 ·intro u z;simp at z;rcases z with rfl | rfl<;>rfl
 ·unfold maxLen;omega
 ·omega
 ·simp;omega
 ·intro v' w' M N _;refine h v' w' ?_ ((hbel.alloc hB _).grown N (by simp;omega) b.E4);unfold OwnIt;rw[Ai,Y5];exact M
theorem Abw(s:ByteArray)(w:G)(hs:s.size<=65535):
 Calls prog 202 #[A s] w fun e w'=>(KV s=C/\e= E (.tuple #[.slice C 0 0, D J 3])\/∃l a c,KV s=F l/\e= E (.tuple #[.slice a l.length c, D J 0])/\OwnIt w' w.heap.size (.slice a l.length c) l/\l.length<=s.size)/\Below w.heap.size w w':=by
 have d1:decide ((65535:Int)<(s.size:Int))=false:=Ae (by omega);go_enter func202,ntmps202
 go_wp2_with fail
 go_loopw [0,4] (fun q v wr=>∃(p f:Nat) (pre:List ItemM),p<=s.size/\s.size<p+f/\q= A (s.extract p s.size)/\OwnIt wr w.heap.size v pre/\Hid (Gg s (s.size+1) 0=(Gg s f p).map (pre++ ·))/\Hid (pre.all ItemM.ok=true)/\Hid (Fp pre=(FN s).take p)/\pre.length<=p/\Below w.heap.size w wr) (fun q _ _=>AdU q)
 case atStart=>exact⟨0,s.size+1,[],by omega,by omega,by rw[Xx],OwnIt.nil w _,(by show _=_;cases Gg s (s.size+1) 0<;>rfl),(by show _=_;rfl),(by show _=_;rfl),by simp,Ad _ w⟩
 case round=>
  obtain⟨p,f,pre,hp,hf,rfl,ho,HP,HO,HB,ad,P⟩:=hrel;have ag:Hid (pre.length<=s.size):=by show _<=_;omega
  have d:=Gy s p s.size (Ac _);obtain⟨u, M⟩ := E7 (s.extract p s.size);rw[<-M]at d ⊢;have aq:=hid d;have al:u.size<=65535:=by omega
  by_cases aj:p<s.size
  ·have g0:0<u.size:=by omega
   have xe:=OQ g0;obtain⟨B0,ar⟩:∃B0,u[0].toNat=B0:=⟨_,rfl⟩;have i:=Jc u 0 g0;rw[ar]at i;have g:Fk s p=B0:=by rw[<-i,M,IN s p s.size 0 (by omega) (Ac _)];rfl
   by_cases aa:B0=63
   ·have a0:((B0:Int) !=63)=false:=by simp;omega
    obtain⟨m,ac⟩:=WG hs hp hf (.inr (by rw[g,aa])) HP.out HO.out HB.out;have z:u.extract 1 u.size=s.extract (p+1) s.size:=by rw[d,M,Qw _ _ _ _ _ (by omega),show p+(s.size-p)=s.size by omega]
    have Y:=Gy s (p+1) s.size (Ac _);have ak:=fun wz=>AkG (u.extract 1 u.size) wz (by rw[z,Y];omega)
    have a2:(1:Int)<=(u.size:Int):=by omega
    obtain⟨a4,c4,rfl,au,av⟩:=OwnIt.FC ho;have hit:=hid ho
    by_cases hz:∀j,p<j->Fk s j=0
    ·have HR:=hid (m hz);have HZ:Hid (∀j,Fk (u.extract 1 u.size) j=0):=fun j=>by
      rw[z]
      by_cases hj:p+1+j<s.size
      ·rw[IN s (p+1) s.size j hj (Ac _)];exact hz _ (by omega)
      ·exact Kd _ (by rw[Y];omega)
     clear m ac hz d M g z Y i hp hf ad
     go_wp2_with(go_at_call 243;refine(ak _).mono ?_;rintro e w1 ⟨r0,rfl,t,b⟩;have xr:=Qv (t.2 HZ.out);clear t)
     go_ret2;exact⟨.inr ⟨pre,a4,c4,HR.out,rfl,hit.out.below b,ag.out⟩,P.trans (b.mono P.size)⟩
    ·obtain⟨j,ai,T⟩:∃j,p<j/\Fk s j≠0:=by
      grind
     have HR:=hid (ac ⟨j,ai,T⟩);have HZ:Hid (¬∀j,Fk (u.extract 1 u.size) j=0):=fun h=>by
      have a3:j<s.size:=by
       rcases AS j s.size with h | h
       ·exact h
       ·exact absurd (Kd s h) T
      have:=h (j-p-1);rw[z,IN s (p+1) s.size _ (by omega) (Ac _),show p+1+(j-p-1)=j by omega]at this;exact T this
     clear m ac hz d M g z Y i hp hf ad ai T
     go_wp2_with(go_at_call 243;refine(ak _).mono ?_;rintro e w1 ⟨r0,rfl,t,b⟩;have xr:=OQ (s:=r0) (EO (fun h=>HZ.out (t.1 h)));clear t)
     go_ret2;exact⟨.inl ⟨HR.out,rfl⟩,P.trans (b.mono P.size)⟩
   ·have a0:((B0:Int) !=63)=true:=by simp;omega
    have Q:=fun wz=>Af4 u wz al
    cases o:KT u with
    | none=>
     rw[Ma o]at Q;have HR:=hid (Acx hs aj hf (by rw[g];exact aa) HP.out (by rw[<-M];exact o));clear d M g i hp hf ad o
     go_wp2_with(go_at_call 242;refine(Q _).mono ?_;rintro e w1 ⟨rfl,b⟩)
     go_ret2;exact⟨.inl ⟨HR.out,rfl⟩,(P.trans (b.mono P.size)).alloc (by have:=P.size;have:=b.size;omega) _⟩
    | some Ir=>
     obtain⟨I,r⟩:=Ir;rw[Sb o]at Q;obtain⟨k1,k2,k3,k4⟩:=Acy hp (by rw[<-M];exact o);obtain⟨f',rfl⟩:∃f',f=f'+1:=⟨f-1,by omega⟩;have Z:Gg s (s.size+1) 0=(Gg s f' (p+3+Gh s p)).map ((pre++[I])++ ·):=by
      rw[HP.out,Uk ⟨aj,by rw[g];exact aa⟩ k1,k2]
      cases Gg s f' (p+3+Gh s p)<;>simp
     have ah:=hid Z;have ao:=hid (show(pre++[I]).all ItemM.ok=true by rw[List.all_append,HO.out,List.all_cons,k3];rfl);have af:=hid (show Fp (pre++[I])=(FN s).take (p+3+Gh s p)by rw[k2];exact AcR HB.out k1);have ae:=Gy s (p+3+Gh s p) s.size (Ac _);obtain⟨N, eN⟩ := E7 (p+3+Gh s p);rw[<-eN]at ah af ae k1 k4;have a1:p+3<=N:=by omega
     have am:=hid k4;have ap:=hid (show r.size=s.size-N by rw[k4];exact ae);have an:Hid (pre.length<1000000):=by show _<_;omega
     have az:=fun(w1:G) (h1:Below wr.heap.size wr w1)=>ho.below h1
     clear d M g i o Z k2 k3 k4 ae eN HP HO HB
     go_wp2_with(first
      | (go_at_call 242;refine(Q _).mono ?_;rintro e w1 ⟨rfl,b⟩;have ab:=P.trans (b.mono P.size);have ax:=az _ b)
      | (at_builtin;refine Vz w.heap.size w I (show OwnIt (w1.alloc _) _ _ _ from A6 ax _) rfl _ _ rfl rfl _ (by simp) rfl an.out (ab.alloc ab.size _) (by have:=ab.size;simp;omega) ?_;intro v2 w2 ay aw))
     go_roundw
     case rel=>exact⟨N,f',pre++[I],k1,by omega,by rw[am.out],ay,ah,ao,af,by simp;omega,aw⟩
     case measure=>show r.size<u.size;rw[ap.out,aq.out];omega
  ·have e:p=s.size:=by omega
   have xe:=Qv (s:=u) (by omega);obtain⟨m,_⟩:=WG hs hp hf (.inl e) HP.out HO.out HB.out;have HR:=hid (m (fun j hj=>Kd s (by omega)));obtain⟨a4,c4,rfl,au,av⟩:=OwnIt.FC ho;have hit:=hid ho;clear m d M e
   go_wp2_with fail
   go_ret2;exact⟨.inr ⟨pre,a4,c4,HR.out,rfl,hit.out,ag.out⟩,P⟩
end Go.Proofs.YtbjgfoiikhbonahGreatDoor
