import Derived.Test.YtbjgfoiikhbonahGreatDoorA17
set_option linter.unusedVariables false
set_option linter.unusedSimpArgs false
set_option maxRecDepth 100000
set_option maxHeartbeats 4000000
namespace Go.Proofs.YtbjgfoiikhbonahGreatDoor
open Go.ChangeShapes Go.WideShapes Go.ChangeAt Go.RowKit Go.Proofs.Tryz
open Value renaming int->B
open Bool renaming false->C,true->E
open Option renaming none->D
open Ending renaming returned->F
open Go renaming World->G
open IntKind renaming i64->H
variable {E4 k:Nat}{S S':List Nat}{a b:G}{bw fits:Nat->Int}{f:UsM->Int}{l:List UsM}{q:Int}{s:SlM}
def Mx (l:List UsM)(E4:Int):Prop:=(0<=E4/\E4<=100)/\OkU l
theorem Afq(l:List UsM)(k:Nat):YU l (k+1)=(l.getD k .zero).who:=by unfold YU;grind
theorem VT(l:List UsM)(E4:Int)(r c:Nat)(a:Option Addr)(w:G)(hU:Usr w a l)(O:l.length=r)(hm:r<=maxLen):
 Calls prog 53 #[.slice a r c, B H E4] w fun e w'=>((Mx l E4/\e= F (B H 0))\/(¬Mx l E4/\e= F (B H 1)))/\Below w.heap.size w w':=by
 have HU:=hid hU;have y:=hid O;have aa:r<=9223372036854775807:=by unfold maxLen at hm;omega
 clear hU O hm
 by_cases A:E4<0
 ·have d0:decide (E4<0)=E:=Ag A;have m:Hid (¬Mx l E4):=fun h=>by have:=h.1.1;omega
  clear A;go_enter func53,ntmps53
  go_wp2_with fail;go_ret;exact⟨.inr ⟨m.out,rfl⟩,Ad _ w⟩
 ·have d0:decide (E4<0)=C:=Ae A
  by_cases W:100<E4
  ·have d1:decide (100<E4)=E:=Ag W;have m:Hid (¬Mx l E4):=fun h=>by have:=h.1.2;omega
   clear A W;go_enter func53,ntmps53
   go_wp2_with fail;go_ret;exact⟨.inr ⟨m.out,rfl⟩,Ad _ w⟩
  ·have d1:decide (100<E4)=C:=Ae W;have HB:Hid (0<=E4/\E4<=100):=⟨by omega,by omega⟩;clear A W;go_enter func53,ntmps53
   go_wp2_with fail
   go_loopw [5,16] (fun b i wr=>∃(k:Nat) (V:Int),k<=r/\i= B H k/\b= B H V/\0<=V/\Hid (Aag l k/\V=YU l k)/\Below w.heap.size w wr) (fun _ i _=>r-(intOf i).toNat)
   case atStart=>exact⟨0,0,by omega,rfl,rfl,by omega,⟨fun j hj=>absurd hj (CG _),rfl⟩,Ad _ w⟩
   case round=>
    obtain⟨k,V,hk,rfl,rfl,hV,x,g⟩:=hrel
    by_cases M:k<r
    ·have p:k<l.length:=by rw[y.out];exact M
     obtain⟨b,o,rfl,Z⟩:=HU.out.at p;obtain⟨q0,q1,q2⟩:=Z k p;have d:Hid ((l.getD k .zero).ok V=C->¬Mx l E4):=fun h hA=>by
      have:=hA.2 k p;rw[<-x.out.2,h]at this;cases this
     have X:Hid ((l.getD k .zero).ok V=E->Aag l (k+1)/\(l.getD k .zero).who=YU l (k+1)):=fun h=>⟨fun i hi=>by
      by_cases e:i=k
      ·rw[e,<-x.out.2];exact h
      ·exact x.out.1 i (by omega),(Afq l k).symm⟩
     have q0:=Tg g q0;have q1:=Tg g q1;have q2:=Tg g q2;generalize l.getD k .zero=u at*;clear Z p x
     by_cases n:u.who<=V
     ·have x0:decide (u.who<=V)=E:=Ag n;have m:=hid (d.out (Ae (by omega)));clear n
      go_wp2_with fail;go_ret;exact⟨.inr ⟨m.out,rfl⟩,g.alloc g.size _⟩
     ·have x0:decide (u.who<=V)=C:=Ae n
      by_cases g1:16<u.who
      ·have x1:decide (16<u.who)=E:=Ag g1;have m:=hid (d.out (Ae (by omega)));clear n g1
       go_wp2_with fail;go_ret;exact⟨.inr ⟨m.out,rfl⟩,g.alloc g.size _⟩
      ·have x1:decide (16<u.who)=C:=Ae g1
       by_cases g2:u.byt<0
       ·have x2:decide (u.byt<0)=E:=Ag g2;have m:=hid (d.out (Ae (by omega)));clear n g1 g2
        go_wp2_with fail;go_ret;exact⟨.inr ⟨m.out,rfl⟩,g.alloc g.size _⟩
       ·have x2:decide (u.byt<0)=C:=Ae g2
        by_cases v:1000000<u.byt
        ·have x3:decide (1000000<u.byt)=E:=Ag v;have m:=hid (d.out (Ae (by omega)));clear n g1 g2 v
         go_wp2_with fail;go_ret;exact⟨.inr ⟨m.out,rfl⟩,g.alloc g.size _⟩
        ·have x3:decide (1000000<u.byt)=C:=Ae v
         by_cases z:u.fit<1
         ·have x4:decide (u.fit<1)=E:=Ag z;have m:=hid (d.out (Ae (by omega)));clear n g1 g2 v z
          go_wp2_with fail;go_ret;exact⟨.inr ⟨m.out,rfl⟩,g.alloc g.size _⟩
         ·have x4:decide (u.fit<1)=C:=Ae z
          by_cases U:10000<u.fit
          ·have x5:decide (10000<u.fit)=E:=Ag U;have m:=hid (d.out (Ae (by omega)));clear n g1 g2 v z U
           go_wp2_with fail;go_ret;exact⟨.inr ⟨m.out,rfl⟩,g.alloc g.size _⟩
          ·have x5:decide (10000<u.fit)=C:=Ae U;have t:=hid (X.out (Ag (by omega)));have Y:0<=u.who:=by omega
           clear n g1 g2 v z U
           go_wp2_with fail
           go_roundw
           case rel=>exact⟨k+1,u.who,by omega,by go_num,rfl,Y,t,g.alloc g.size _⟩
           case measure=>simp[intOf];omega
    ·have e:k=r:=by omega
     subst e;have m:Hid (Mx l E4):=⟨HB.out,show Aag l l.length by rw[y.out];exact x.out.1⟩;clear M
     go_wp2_with fail;go_ret;exact⟨.inl ⟨m.out,rfl⟩,g⟩
theorem Te(h:OkU l)(d:k<l.length):byF f (l.take (k+1))=Fw (byF f (l.take k)) (l.getD k .zero).who.toNat (f (l.getD k .zero)):=by
 funext a
 have e:l.getD k .zero=l[k]:=by simp[List.getD,d]
 have w:=(h.at d).1;unfold byF;rw[Bu d,List.find?_append]
 by_cases m:a=(l.getD k .zero).who.toNat
 ·have o:l[k].who=(a:Int):=by rw[<-e];omega
  have c:(l.take k).find? (fun u=>u.who==(a:Int))=D:=by
   rw[EP];intro u t;obtain⟨j,p,rfl⟩:=A5 t;have r:j<k:=by rw[Ay]at p;omega
   have n:l.getD j .zero=l[j]:=by grind
   intro v;have g:l[j].who=(a:Int):=by simpa using v
   have:=h.inj (i:=j) (j:=k) (by omega) d (by rw[n,e,g,o]);omega
  rw[c,m,Hy]
  grind
 ·rw[Ja _ _ m]
  grind
theorem Afz(h:OkU l)(c:k<l.length):byF f (l.take k) (l.getD k .zero).who.toNat=0:=by
 refine Qo fun i hi e=>?_
 have d:i<k:=by simp at hi;omega
 have e1:(l.take k).getD i .zero=l.getD i .zero:=by
  grind
 rw[e1]at e;have g:=(h.at c).1;have:=h.inj (i:=i) (j:=k) (by omega) c (by omega);omega
def YM (w:G)(sb ob n:Nat)(l:List UsM)(k:Nat):Prop:=PSlot w sb (byF UsM.who (l.take k)) (byF UsM.byt (l.take k)) (byF UsM.fit (l.take k)) (M9 (byF UsM.byt (l.take k)):Nat) ob n 0
def Yp (ob n:Nat):Obj:=.cells #[B H 0, B H 0, B H 0, B H 0, B H 0, B H 0, B H 0, B H 0, B H 0, B H 0, B H 0, B H 0, B H 0, B H 0, B H 0, B H 0, B H 0, B H 0, B H 0, B H 0, B H 0, B H 0, B H 0, B H 0, B H 0, B H 0, B H 0, B H 0, B H 0, B H 0, B H 0, B H 0, B H 0, B H 0, B H 0, B H 0, B H 0, B H 0, B H 0, B H 0, B H 0, B H 0, B H 0, B H 0, B H 0, B H 0, B H 0, B H 0, B H 0, B H 0, B H 0, B H 0,.slice (some ⟨ob,0,D⟩) n n, B H 0] 120
theorem Ahx(w:G)(c n:Nat)(l:List UsM):YM (w.alloc (Yp c n)) w.heap.size c n l 0:=Am w _
theorem AgH(l:List UsM)(E4 Y c:Nat)(a:Option Addr)(w:G)(hU:Usr w a l)(ak:l.length=Y)(hO:OkU l)(a2:Y<=16)(hb:E4<=100):
 Calls prog 54 #[.slice a Y c, B H (E4:Int)] w fun e w'=>∃sb ob,e= F (.pointer (some ⟨sb,0,D⟩))/\YM w' sb ob E4 l l.length/\ArrAt H 3 w' ob (List.replicate E4 0)/\sb≠ob/\w.heap.size<=sb/\w.heap.size<=ob/\Below w.heap.size w w':=by
 have HU:=hid hU;have ac:=hid ak;have HO:=hid hO;clear hU ak hO;go_enter func54,ntmps54
 go_wp2_with(at_make;refine FZ w.heap.size w E4 rfl _ _ rfl _ _ rfl rfl rfl rfl (by omega) (Ad _ w) (Ac _) ?_;intro w1 al z az ah);obtain⟨W, Z⟩ := E7 (w1.alloc (Yp w.heap.size E4));have ax:YM W w1.heap.size w.heap.size E4 l 0:=by rw[Z];exact Ahx w1 _ _ l
 have aw:ArrAt H 3 W w.heap.size (List.replicate E4 0):=by rw[Z];exact al.arr.1.alloc _
 have ay:Below w.heap.size w W:=by rw[Z];exact z.alloc z.size _
 unfold Yp at Z;rw[<-Z];clear Z al z ah
 go_loopw [14] (fun i wr=>∃k:Nat,k<=Y/\i= B H k/\YM wr w1.heap.size w.heap.size E4 l k/\ArrAt H 3 wr w.heap.size (List.replicate E4 0)/\Below w.heap.size w wr) (fun i _=>Y-(intOf i).toNat)
 case atStart=>grind
 case round=>
  clear ax aw ay;obtain⟨k,hk,rfl,hS,hA,V⟩:=hrel
  by_cases aj:k<Y
  ·have g:k<l.length:=by rw[ac.out];exact aj
   obtain⟨b,o,rfl,hC⟩:=HU.out.at g;obtain⟨q0,q1,q2⟩:=hC k g;have q0:=Tg V q0;have q1:=Tg V q1;have q2:=Tg V q2;have am:=HO.out.at g;obtain⟨u, eu⟩ := E7 (l.getD k .zero);rw[<-eu]at q0 q1 q2 am;have n:=hid eu;clear eu;have h:PSlot (wr.alloc (.cells #[B H u.who, B H u.byt, B H u.fit] 117)) w1.heap.size _ _ _ _ w.heap.size E4 0:=FunAt.below hS ((Ad _ wr).alloc (Ac _) _);have U:w1.heap.size≠wr.heap.size:=Nat.ne_of_lt (FunAt.lt hS);obtain⟨A,eA⟩:∃A:Nat,u.who=(A:Int):=⟨u.who.toNat,by omega⟩;rw[eA]at q0 h am;have aa:=hid eA;clear eA;have d:A<=16:=by omega
   obtain⟨p0,p1,p2⟩:=h.J5 d;have f0:=FunAt.free h (A*3);have f1:=FunAt.free h (A*3+1);have f2:=FunAt.free h (A*3+2);have a0:(0:Int)<=(A:Int):=by omega
   have a1:(A:Int)<17:=by omega
   have af:=h.AnR d (A:Int);have ag:=af.AmR d u.byt;have j:=ag.AoY d u.fit;have m:(l.getD k .zero).who.toNat=A:=by rw[<-n.out,aa.out,AN]
   have ad:byF UsM.who (l.take (k+1))=Fw (byF UsM.who (l.take k)) A (A:Int):=by rw[Te HO.out g,m,<-n.out,aa.out]
   have v:byF UsM.byt (l.take (k+1))=Fw (byF UsM.byt (l.take k)) A u.byt:=by rw[Te HO.out g,m,<-n.out]
   have ae:byF UsM.fit (l.take (k+1))=Fw (byF UsM.fit (l.take k)) A u.fit:=by rw[Te HO.out g,m,<-n.out]
   have eF:byF UsM.byt (l.take k) A=0:=by rw[<-m];exact Afz HO.out g
   have eC:=Aex (bw:=byF UsM.byt (l.take k)) (c:=A) (by omega) d u.byt;rw[eF,Aa (by omega),Bh,<-v]at eC;have ai:=Aew (byF UsM.byt (l.take k));rw[<-ad,<-v,<-ae]at j;have r0:=j.KX.1;have r1:=FunAt.free j 51;have y:=j.AmS (((M9 (byF UsM.byt (l.take k)):Nat):Int)+1);obtain⟨M, eM⟩ := E7 (M9 (byF UsM.byt (l.take k)));rw[<-eM]at r0 y ai eC;obtain⟨O, eO⟩ := E7 (.cells #[B H (A:Int), B H u.byt, B H u.fit] 117:Obj);have r:ArrAt H 3 ((((wr.alloc O).setCell ⟨w1.heap.size,A*3,D⟩ (B H (A:Int))).setCell ⟨w1.heap.size,A*3+1,D⟩ (B H u.byt)).setCell ⟨w1.heap.size,A*3+2,D⟩ (B H u.fit)) w.heap.size (List.replicate E4 0):=(((hA.alloc O).other _ _ (by show w.heap.size≠w1.heap.size;omega)).other _ _ (by show w.heap.size≠w1.heap.size;omega)).other _ _ (by show w.heap.size≠w1.heap.size;omega);have t:Below w.heap.size w ((((wr.alloc O).setCell ⟨w1.heap.size,A*3,D⟩ (B H (A:Int))).setCell ⟨w1.heap.size,A*3+1,D⟩ (B H u.byt)).setCell ⟨w1.heap.size,A*3+2,D⟩ (B H u.fit)):=(((V.alloc V.size O).setCell (by show w.heap.size<=w1.heap.size;omega) _).setCell (by show w.heap.size<=w1.heap.size;omega) _).setCell (by show w.heap.size<=w1.heap.size;omega) _;have x:=r.other ⟨w1.heap.size,51,D⟩ (B H ((M:Int)+1)) (by show w.heap.size≠w1.heap.size;omega);have X:=t.setCell (p:=⟨w1.heap.size,51,D⟩) (by show w.heap.size<=w1.heap.size;omega) (B H ((M:Int)+1));have z1:(((((wr.alloc O).setCell ⟨w1.heap.size,A*3,D⟩ (B H (A:Int))).setCell ⟨w1.heap.size,A*3+1,D⟩ (B H u.byt)).setCell ⟨w1.heap.size,A*3+2,D⟩ (B H u.fit))).cell? ⟨wr.heap.size,1,D⟩=some (B H u.byt):=by
    have h0:(wr.alloc O).heap[wr.heap.size]?=some O:=Am wr O;have h1:=(Co _ ⟨w1.heap.size,A*3+2,D⟩ wr.heap.size (B H u.fit) U.symm).trans ((Co _ ⟨w1.heap.size,A*3+1,D⟩ wr.heap.size (B H u.byt) U.symm).trans ((Co (wr.alloc O) ⟨w1.heap.size,A*3,D⟩ wr.heap.size (B H (A:Int)) U.symm).trans h0));rw[eO]at h1 ⊢;rw[Al _ _ _ _ _ _ h1];rfl
   rw[eO]at z1 r x t X;have an:=hid r;have ao:=hid x;have au:=hid t;have av:=hid X;have aq:=hid j;have ar:=hid y;have ab:=hid eC;have ap:=hid eM;clear hC g hS h af ag j y r x t X ad v ae eF eC eM eO m hA V
   by_cases hz:0<u.byt
   ·have xz:decide (0<u.byt)=E:=Ag hz;have HZ:=hid hz;clear hz;go_upto_region 5 with fail
    go_big_region
    go_wp2_with fail
    go_roundw
    case rel=>exact⟨k+1,by omega,by go_num,(show PSlot _ _ _ _ _ _ _ _ _ by
     have:=ab.out;rw[Ab HZ.out]at this;rw[this]
     exact ar.out),ao.out,av.out.drew⟩
    case measure=>simp[intOf];omega
   ·have xz:decide (0<u.byt)=C:=Ae hz;have HZ:=hid hz;clear hz;go_upto_region 5 with fail
    go_big_region
    go_wp2_with fail
    go_roundw
    case rel=>exact⟨k+1,by omega,by go_num,(show PSlot _ _ _ _ _ _ _ _ _ by
     have:=ab.out;rw[Aa HZ.out,Bh]at this;rw[this,ap.out]
     exact aq.out),an.out,au.out.drew⟩
    case measure=>simp[intOf];omega
  ·have e:k=Y:=by omega
   subst e;rw[<-ac.out]at hS;have HS:=hid hS;clear hS aj
   go_wp2_with fail;go_ret;exact⟨w1.heap.size,w.heap.size,rfl,HS.out,hA,by omega,by omega,Ac _,V⟩
def UO (l:List UsM)(last:Nat)(opn:Bool)(cr:Nat->Int):SlM:=⟨last,opn,cr,byF UsM.byt l,[]⟩
theorem AlS(h:OkU l):l.length<=16:=by
 rcases DF l.length with e | e
 ·omega
 ·have d:∀k,k<l.length->(k:Int)+1<=(l.getD k .zero).who:=by
   intro k
   induction k with
   | zero=>intro c;have:=(h.at c).1;omega
   | succ k ih=>
    intro c;have g:=ih (by omega);have j:=h.Ama 0 k (by omega)
    grind
  have g:=d (l.length-1) (by omega);have j:=(h.at (i:=l.length-1) (by omega)).1;omega
theorem AmC(f:Nat->Int)(a:Nat)(x y:Int):Fw (Fw f a x) a y=Fw f a y:=by
 funext b
 unfold Fw
 split<;>rfl
theorem Abk(fits:Nat->Int)(E4:Nat):∀(f:Nat) (s:SlM),FitOk fits s.bw->∀a,(F8 fits E4 f s).bw a<=s.bw a
 | 0,s,_,a=>Ci _
 | f+1,s,hF,a=>by
  unfold F8
  split
  ·rename_i c
   split
   ·exact Ci _
   ·refine DG (Abk fits E4 f (s.Ls fits) (hF.Ac2 (OT s c.1)) a) ?_;have:=hF.pos s.last c.1
    show Fw s.bw s.last (max (s.bw s.last-fits s.last) 0) a<=s.bw a
    by_cases e:a=s.last
    ·rw[e,Hy];omega
    ·rw[Ja _ _ e];exact Ci _
  ·exact Ci _
theorem AkR(hF:FitOk fits s.bw)(a:Nat):(Fu q fits E4 s).bw a<=s.bw a:=by
 unfold Fu
 split
 ·have c:∀t:SlM,t.IG.bw=t.bw:=fun t=>by unfold SlM.IG;split<;>rfl
  have hg:(s.Fq.gain q (!s.opn)).bw=s.bw:=by unfold SlM.gain;split<;>rfl
  rw[c];have:=Abk fits E4 (E4+1) (s.Fq.gain q (!s.opn)) (by rw[hg];exact hF) a
  rwa [hg]at this
 ·exact Ci _
def CrU (s:SlM):Prop:=CrB s/\∀a,s.bw a<=1000000
theorem Ab7(h:OkU l)(a:Nat):0<=byF UsM.byt l a/\byF UsM.byt l a<=1000000:=by
 by_cases c:∃i,i<l.length/\(l.getD i .zero).who=(a:Int)
 ·obtain⟨i,hi,e⟩:=c;have d:=Ab6 (f:=UsM.byt) h hi;rw[e,AN]at d;rw[d];exact(h.at hi).2.1
 ·rw[Qo fun i hi e=>c ⟨i,hi,e⟩];omega
structure VP(w:G)(r sb ob:Nat)(q:Int)(wf ft:Nat->Int)(n:Nat)(o:Bool)(s:SlM):Prop where
 t:PTurn w r q s.last o s.cr
 sl:PSlot w sb wf s.bw ft (M9 s.bw:Nat) ob n s.out.length
 ow:ArrAt H 3 w ob (MJ s.out n)
theorem VP.below{w w':G}{r e d:Nat}{q:Int}{g ft:Nat->Int}{n:Nat}{o:Bool}{s:SlM}(h:VP w r e d q g ft n o s)(c:Below w.heap.size w w'):VP w' r e d q g ft n o s:=⟨FunAt.below h.t c,FunAt.below h.sl c,h.ow.below c h.ow.lt⟩
structure Dis(r sb ob:Nat):Prop where
 a:r≠sb
 b:r≠ob
 c:sb≠ob
theorem AkP(h:∀a,0<=s.bw a):Fu q fits E4 s=(F8 fits E4 (E4+1) (s.Fq.gain q (!s.opn))).IG:=by
 by_cases c:0<s.Fq.bw s.Fq.last
 ·exact Ab c
 ·have d:s.bw s.Fq.last=0:=by
   have:=h s.Fq.last;have e:s.Fq.bw s.Fq.last=s.bw s.Fq.last:=rfl;omega
  have i:Fu q fits E4 s=s.Fq.MN:=Aa c;have e1:(s.Fq.gain q (!s.opn)).bw=s.bw:=by unfold SlM.gain;split<;>rfl
  have e2:(s.Fq.gain q (!s.opn)).last=s.Fq.last:=by unfold SlM.gain;split<;>rfl
  have e3:(s.Fq.gain q (!s.opn)).out=s.Fq.out:=by unfold SlM.gain;split<;>rfl
  have j:(s.Fq.gain q (!s.opn)).opn=s.Fq.opn:=by unfold SlM.gain;split<;>rfl
  rw[i,Nx (by rw[e1,e2,d];omega)];unfold SlM.IG;rw[Ab (by rw[e1,e2];exact d)];unfold SlM.MN;rw[e2];have g:Fw (s.Fq.gain q (!s.opn)).cr s.Fq.last 0=Fw s.Fq.cr s.Fq.last 0:=by
   unfold SlM.gain
   split
   ·exact AmC _ _ _ _
   ·rfl
  rw[g];have m:s.Fq.bw=s.bw:=rfl
  grind
theorem AeD(q:Int)(s:SlM):(s.Fq.gain q (!s.opn)).last=s.Fq.last/\(s.Fq.gain q (!s.opn)).opn=C/\(s.Fq.gain q (!s.opn)).out=s.out/\(s.Fq.gain q (!s.opn)).bw=s.bw/\(s.Fq.gain q (!s.opn)).cr=if s.opn=E then s.cr else Fw s.cr (FF s.last) (s.cr (FF s.last)+q):=by
 refine⟨?_,?_,?_,?_,?_⟩
 ·unfold SlM.gain;split<;>rfl
 ·unfold SlM.gain;split<;>rfl
 ·unfold SlM.gain;split<;>rfl
 ·unfold SlM.gain;split<;>rfl
 ·by_cases e:s.opn=E
  ·rw[Ab e];unfold SlM.gain;rw[e];rfl
  ·have c:s.opn=C:=by simpa using e
   rw[Aa e];unfold SlM.gain;rw[c]
   show Fw s.cr s.Fq.last (s.cr s.Fq.last+q)=_;have:s.Fq.last=FF s.last:=Aa e;rw[this]
theorem Ad1(q:Int)(r:Nat)(s:SlM)(w:G)(c:PTurn w r q s.last s.opn s.cr)(i:s.last<=16)(j:0<=q/\q<=10000)(h:∀a,0<=s.cr a/\s.cr a<=1000000):Calls prog 104 #[.pointer (some ⟨r,0,D⟩)] w fun e w'=>e= F (.tuple #[])/\PTurn w' r q (s.Fq.gain q (!s.opn)).last s.opn (s.Fq.gain q (!s.opn)).cr/\Kept [r] w w':=by
 obtain⟨g1, -, -, -,g⟩:=AeD q s;rw[g1,g]
 by_cases e:s.opn=E
 ·rw[Ab e];have el:s.Fq.last=s.last:=Ab e;rw[el,e];rw[e]at c;refine(Ab2 q r s.last s.cr w c).mono ?_;rintro e w' ⟨rfl,rfl⟩;exact⟨rfl,c,Kept.refl _ w⟩
 ·have d:s.opn=C:=by simpa using e
  rw[Aa e];have el:s.Fq.last=FF s.last:=Aa e;rw[el,d];rw[d]at c;refine(Ab1 q r s.last s.cr w c i j (h _)).mono ?_
  grind
theorem Aiz{c:Nat}(d:1<=c)(e:c<=16){x:Int}(h:0<=x)(g:0<bw c):(if x=0 then ((M9 bw:Nat):Int)-1 else ((M9 bw:Nat):Int))=((M9 (Fw bw c x):Nat):Int):=by grind [M9,Fw,Aex]
theorem Kept.sub(h:Kept S a b)(c:∀x∈S,x∈S'):Kept S' a b:=h.Fn c
theorem Ah3(q:Int)(r U Z n:Nat)(M ft:Nat->Int)(s:SlM)(w:G)(Y:VP w r U Z q M ft n s.opn s)(hD:Dis r U Z)(an:s.Ok n)(hF:FitOk ft s.bw)(ap:CrU s)(cc:1<=q)(b7:q<=10000)(hn:n<=100)(bo:∀a,1<=a->a<=16->0<s.bw a->M a=(a:Int))(bm:∀a,0<=ft a/\ft a<=10000):
 Calls prog 56 #[.pointer (some ⟨r,0,D⟩),.pointer (some ⟨U,0,D⟩)] w fun e w'=>e= F (.tuple #[])/\VP w' r U Z q M ft n (Fu q ft n s).opn (Fu q ft n s)/\Kept [r,U,Z] w w':=by
 have a8:=hid (AkP (q:=q) (fits:=ft) (E4:=n) an.bw);have ay:=Ad1 q r s w Y.t an.last ⟨by omega,b7⟩ (fun a=>⟨an.cr a,by have:=ap.1.le a;omega⟩);obtain⟨g1,g2,g3,g4,g5⟩:=AeD q s;obtain⟨c1,c2⟩:=MG an;have au:=(Xz (E4:=n) (q:=q) (by omega) (!s.opn) (SV an)).1;have az:(s.Fq.gain q (!s.opn)).cr s.Fq.last<40000:=by
  rw[g5];have h1:=ap.1.le s.Fq.last;have h2:=ap.1.le (FF s.last)
  split
  ·omega
  ·unfold Fw
   split<;>omega
 obtain⟨sg, eg⟩ := E7 (s.Fq.gain q (!s.opn));rw[<-eg]at ay g1 g2 g3 g4 au az a8;obtain⟨A, eA⟩ := E7 s.Fq.last;rw[<-eA]at g1 c1 c2 az;have bc:=hid g1;have bu:=hid g2;have bd:=hid g3;have a5:=hid g4;have a7:=hid Y;have HD:=hid hD;have HF:=hid hF;have bv:=hid au;have bq:=hid az;have bp:Hid (∀a,s.bw a<=1000000):=ap.2;have b0:=hid bo;have bt:=hid bm;have ai:=hD.a;have aj:=hD.b;have b3:=hD.c;obtain⟨o, eo⟩ := E7 s.opn;rw[<-eo]at ay a7;have a0:(0:Int)<=(A:Int):=by omega
 have a1:(A:Int)<17:=by omega
 clear Y an hF ap g1 g2 g3 g4 g5 au az bo bm eg eA eo hD;go_enter func56,ntmps56;go_upto_region 1 with(go_at_call 104;refine ay.mono ?_;rintro e wb ⟨rfl,bj,ax⟩)
 have ba:VP wb r U Z q M ft n o sg:=⟨bj,by rw[a5.out,bd.out];exact FunAt.kept a7.out.sl ax (by grind),by rw[bd.out];exact a7.out.ow.kept ax (by grind)⟩;have a3:Kept [r,U,Z] w wb:=ax.Fn (by simp);have t1:=ba.t.head.2.1;rw[bc.out]at t1;clear bj ax ay
 go_wp2_with fail
 go_loopg [] (n+1) (fun gg wr=>∃(f:Nat) (d:SlM),VP wr r U Z q M ft n o d/\Hid (d.last=A/\d.opn=C/\F8 ft n (n+1) sg=F8 ft n f d/\(∀a,d.bw a<=s.bw a)/\FitOk ft d.bw)/\Hid (d.Ok n)/\n<f+d.out.length/\f<=gg/\d.cr A<40000/\Kept [r,U,Z] w wr)
 case atStart=>exact⟨n+1,sg,ba,⟨bc.out,bu.out,rfl,by rw[a5.out];exact fun a=>Ci _,by rw[a5.out];exact HF.out⟩,bv,by omega,Ac _,bq.out,a3⟩
 case round=>
  clear ba a3 t1;obtain⟨f,d,Y,HI,ao,hf,cb,b9,hK⟩:=hrel;obtain⟨f',rfl⟩:∃f',f=f'+1:=⟨f-1,by have:=ao.out.out;omega⟩;have bn:=ao.out.out;have b8:=ao.out.cr A;have b1:=ao.out.bw A;have b2:=DG (HI.out.2.2.2.1 A) (bp.out A);have b6:=bt.out A;obtain⟨b4,b5⟩:=b6;have ca:=Aew d.bw;have HL:=hid HI.out.1;have HW:Hid (0<d.bw A->M A=(A:Int)):=fun h=>b0.out A c1 c2 (by have:=HI.out.2.2.2.1 A;omega)
  have ak:=fun(wz:G) (W:VP wz r U Z q M ft n o d)=>ZX U Z n d.out.length M d.bw ft (M9 d.bw:Nat) wz W.sl
  have O:=fun(wz:G) (W:VP wz r U Z q M ft n o d)=>PL (M A) (d.bw A) (ft A) q r d.last o d.cr wz W.t (fun h=>by rw[HW.out h];omega)
  have ac:Hid (¬(0<d.bw A/\ft A<=d.cr A)->Fu q ft n s=d.IG):=fun h=>by rw[a8.out,HI.out.2.2.1,Nx (by rw[HI.out.1];exact h)]
  have a4:Hid (0<d.bw A/\ft A<=d.cr A->d.out.length=n->Fu q ft n s={d with opn:=E}):=fun h hl=>by
   rw[a8.out,HI.out.2.2.1,UI (by rw[HI.out.1];exact h) hl];unfold SlM.IG;rw[Aa (show ¬({d with opn:=E}:SlM).bw ({d with opn:=E}:SlM).last=0 by show ¬d.bw d.last=0;rw[HI.out.1];omega)]
  by_cases X:d.out.length<n
  ·have xl:decide (d.out.length<n)=E:=Ag X
   by_cases W:0<d.bw A
   ·by_cases hy:ft A<=d.cr A
    ·have xe:decide (0<d.bw A/\ft A<=d.cr (M A).toNat)=E:=by rw[HW.out W,AN];exact Ag ⟨W,hy⟩
     rw[xe]at O;have bb:=fun(wz:G) (hz2:VP wz r U Z q M ft n o d)=>AhO U Z n d.out.length A M d.bw ft (M9 d.bw:Nat) _ wz hz2.sl hz2.ow (Na bn) b3 c2 X hn ⟨b1,b2⟩ ⟨b4,b5⟩ ⟨by omega,by omega⟩
     have eC:=Aiz (bw:=d.bw) c1 c2 (x:=max (d.bw A-ft A) 0) (by omega) W;rw[eC,AfY X]at bb;have aw:d.Ls ft=⟨d.last,d.opn,Fw d.cr A (d.cr A-ft A),Fw d.bw A (max (d.bw A-ft A) 0),d.out++[(A:Int)]⟩:=by unfold SlM.Ls;rw[HL.out]
     have a6:Hid ((d.Ls ft).last=A/\(d.Ls ft).opn=C/\F8 ft n (n+1) sg=F8 ft n f' (d.Ls ft)/\(∀a,(d.Ls ft).bw a<=s.bw a)/\FitOk ft (d.Ls ft).bw):=by
      refine⟨HL.out,HI.out.2.1,?_,fun a=>?_,HI.out.2.2.2.2.Ac2 (OT d (by rw[HL.out];exact W))⟩
      ·rw[HI.out.2.2.1,P3 (by rw[HL.out];exact⟨W,hy⟩) (by omega)]
      ·refine DG ?_ (HI.out.2.2.2.1 a);rw[aw]
       show Fw d.bw A (max (d.bw A-ft A) 0) a<=d.bw a
       by_cases e:a=A
       ·rw[e,Hy];omega
       ·rw[Ja _ _ e];exact Ci _
     have be:Hid ((d.Ls ft).Ok n):=AeG ao.out (by rw[HL.out];exact hy) X;have bz:Hid (n<f'+(d.Ls ft).out.length):=by
      show _<_
      grind
     have br:Hid ((d.Ls ft).cr A<40000):=by
      show _<_;rw[aw]
      show Fw d.cr A (d.cr A-ft A) A<40000;rw[Hy];omega
     have bs:=hid aw;clear xe X W hy eC aw
     go_upto_region 4 with(first
      | (go_at_call 55;refine(ak _ Y).mono ?_;rintro e wl ⟨rfl,u⟩;have j:=Y.below u;have p:=hK.trans (Kept.E5 u);obtain⟨u0,u1,u2⟩:=j.sl.J5 c2)
      | (go_at_call 105;refine(O _ j).mono ?_;rintro e we ⟨rfl,ah⟩;have V:=j.below ah;have ag:=p.trans (Kept.E5 ah);obtain⟨v0,v1,v2⟩:=V.sl.J5 c2)
      | (go_at_call 106;refine(bb _ V).mono ?_;rintro e wg ⟨rfl,bk,bf,bg⟩;have am:=FunAt.kept V.t bg (by grind);have bh:=ag.trans (bg.Fn (by simp))))
     have am:PTurn wg r q A o d.cr:=by rw[<-HL.out];exact am
     have ar:PSlot wg U M (Fw d.bw A (max (d.bw A-ft A) 0)) ft (M9 (Fw d.bw A (max (d.bw A-ft A) 0)):Nat) Z n (d.out.length+1):=bk;have k0:=am.Tr c2;have k1:=FunAt.free am (1+A);obtain⟨-, -,k2⟩:=ar.J5 c2;have bl:VP (wg.setCell ⟨r,1+A,D⟩ (B H (d.cr A-ft A))) r U Z q M ft n o (d.Ls ft):=by
      rw[bs.out];refine⟨by show PTurn _ r q d.last o _;rw[HL.out];exact am.Ae2 c2 _,?_,bf.other _ _ aj.symm⟩
      show PSlot _ U M _ ft _ Z n (d.out++[(A:Int)]).length;rw[Ai];exact FunAt.other ar _ _ ai.symm
     have bi:Kept [r,U,Z] w (wg.setCell ⟨r,1+A,D⟩ (B H (d.cr A-ft A))):=bh.setCell (by simp) _;have a9:=hid bl;have bx:=hid bi;clear bl bi am bk ar bf bh V j Y ag p hK bb O ak;go_upto_region 4 with fail
     go_big_region
     go_wp2_with fail
     go_roundg f'
     case measure=>omega
     case rel=>exact⟨f',d.Ls ft,⟨a9.out.t,a9.out.sl,a9.out.ow⟩,a6,be,bz.out,Ac _,br.out,bx.out.drew⟩
    ·have xe:decide (0<d.bw A/\ft A<=d.cr (M A).toNat)=C:=by rw[HW.out W,AN];exact Ae fun h=>hy h.2
     rw[xe]at O;have m:Hid (Fu q ft n s=d):=by
      show _=_;rw[ac.out (fun h=>hy h.2)];unfold SlM.IG;rw[Aa (by rw[HL.out];omega)]
     have ab:Hid ((Fu q ft n s).opn=C):=by rw[m.out];exact HI.out.2.1
     have xz:(d.bw A==0)=C:=DE (by omega);clear xe X W hy
     go_upto_region 5 with(first
      | (go_at_call 55;refine(ak _ Y).mono ?_;rintro e wl ⟨rfl,u⟩;have j:=Y.below u;have p:=hK.trans (Kept.E5 u);obtain⟨u0,u1,u2⟩:=j.sl.J5 c2)
      | (go_at_call 105;refine(O _ j).mono ?_;rintro e we ⟨rfl,ah⟩;have V:=j.below ah;have ag:=p.trans (Kept.E5 ah);obtain⟨v0,v1,v2⟩:=V.sl.J5 c2))
     have g:=V;have y:=ag;clear j V p ag Y hK;obtain⟨m0,m1,m2⟩:=g.sl.J5 c2;have v:=O _ g;have ad:=hid g;have aa:=hid y;clear g y
     go_wp2_with(go_at_call 105;refine v.mono ?_;rintro e a2 ⟨rfl,z⟩;have i:=ad.out.below z;have ae:=aa.out.trans (Kept.E5 z);have w0:=i.t.head.2.2;have w1:=FunAt.free i.t 19)
     go_end0;refine⟨rfl,?_,ae.setCell (by simp) _⟩;rw[ab.out,m.out];exact⟨PTurn.UM i.t C,FunAt.other i.sl _ _ ai.symm,i.ow.other _ _ aj.symm⟩
   ·have xe:decide (0<d.bw A/\ft A<=d.cr (M A).toNat)=C:=Ae fun h=>W h.1
    rw[xe]at O;have al:d.bw A=0:=by omega
    have m:Hid (Fu q ft n s=d.MN):=by
     show _=_;rw[ac.out (fun h=>W h.1)];unfold SlM.IG;rw[Ab (by rw[HL.out];exact al)]
    have ab:Hid ((Fu q ft n s).opn=C):=by rw[m.out];exact HI.out.2.1
    have xz:(d.bw A==0)=E:=by rw[al];rfl
    clear xe X W al
    go_upto_region 5 with(first
     | (go_at_call 55;refine(ak _ Y).mono ?_;rintro e wl ⟨rfl,u⟩;have j:=Y.below u;have p:=hK.trans (Kept.E5 u);obtain⟨u0,u1,u2⟩:=j.sl.J5 c2)
     | (go_at_call 105;refine(O _ j).mono ?_;rintro e we ⟨rfl,ah⟩;have V:=j.below ah;have ag:=p.trans (Kept.E5 ah);obtain⟨v0,v1,v2⟩:=V.sl.J5 c2))
    have g:=V;have y:=ag;clear j V p ag Y hK;have k0:=g.t.Tr c2;have k1:=FunAt.free g.t (1+A);obtain⟨m0,m1,m2⟩:=g.sl.J5 c2;have af:VP (we.setCell ⟨r,1+A,D⟩ (B H 0)) r U Z q M ft n o d.MN:=⟨by show PTurn _ r q d.last o (Fw d.cr d.last 0);rw[HL.out];have:=g.t.Ae2 c2 0;rw[HL.out]at this;exact this,FunAt.other g.sl _ _ ai.symm,g.ow.other _ _ aj.symm⟩;have aq:Kept [r,U,Z] w (we.setCell ⟨r,1+A,D⟩ (B H 0)):=y.setCell (by simp) _;obtain⟨n0,n1,n2⟩:=af.sl.J5 c2;have n0:(we.setCell ⟨r,1+A,D⟩ (B H 0)).cell? ⟨U,A*3,D⟩=some (B H (M A)):=n0;have n1:(we.setCell ⟨r,1+A,D⟩ (B H 0)).cell? ⟨U,A*3+1,D⟩=some (B H (d.bw A)):=n1;have v:=PL (M A) (d.bw A) (ft A) q r d.MN.last o d.MN.cr _ af.t (fun h=>by rw[HW.out h];omega);have av:decide (0<d.bw A/\ft A<=d.MN.cr (M A).toNat)=C:=by grind
    rw[av]at v;clear av;have ad:=hid af;have aa:=hid aq;clear g y af aq
    go_wp2_with(go_at_call 105;refine v.mono ?_;rintro e a2 ⟨rfl,z⟩;have i:=ad.out.below z;have ae:=aa.out.trans (Kept.E5 z);have w0:=i.t.head.2.2;have w1:=FunAt.free i.t 19)
    go_end0;refine⟨rfl,?_,ae.setCell (by simp) _⟩;rw[ab.out,m.out];exact⟨PTurn.UM i.t C,FunAt.other i.sl _ _ ai.symm,i.ow.other _ _ aj.symm⟩
  ·have xl:decide (d.out.length<n)=C:=Ae X
   by_cases W:0<d.bw A
   ·by_cases hy:ft A<=d.cr A
    ·have xe:decide (0<d.bw A/\ft A<=d.cr (M A).toNat)=E:=by rw[HW.out W,AN];exact Ag ⟨W,hy⟩
     rw[xe]at O;have m:Hid (Fu q ft n s={d with opn:=E}):=a4.out ⟨W,hy⟩ (by omega);have ab:Hid ((Fu q ft n s).opn=E):=by show(Fu q ft n s).opn=E;rw[m.out]
     have xz:(d.bw A==0)=C:=DE (by omega);clear xe X W hy;go_upto_region 5 with(go_at_call 55;refine(ak _ Y).mono ?_;rintro e wl ⟨rfl,u⟩;have j:=Y.below u;have p:=hK.trans (Kept.E5 u);obtain⟨u0,u1,u2⟩:=j.sl.J5 c2)
     have g:=j;have y:=p;clear j p Y hK;obtain⟨m0,m1,m2⟩:=g.sl.J5 c2;have v:=O _ g;have ad:=hid g;have aa:=hid y;clear g y
     go_wp2_with(go_at_call 105;refine v.mono ?_;rintro e a2 ⟨rfl,z⟩;have i:=ad.out.below z;have ae:=aa.out.trans (Kept.E5 z);have w0:=i.t.head.2.2;have w1:=FunAt.free i.t 19)
     go_end0;refine⟨rfl,?_,ae.setCell (by simp) _⟩;rw[ab.out,m.out];exact⟨PTurn.UM i.t E,FunAt.other i.sl _ _ ai.symm,i.ow.other _ _ aj.symm⟩
    ·have xe:decide (0<d.bw A/\ft A<=d.cr (M A).toNat)=C:=by rw[HW.out W,AN];exact Ae fun h=>hy h.2
     rw[xe]at O;have m:Hid (Fu q ft n s=d):=by
      show _=_;rw[ac.out (fun h=>hy h.2)];unfold SlM.IG;rw[Aa (by rw[HL.out];omega)]
     have ab:Hid ((Fu q ft n s).opn=C):=by rw[m.out];exact HI.out.2.1
     have xz:(d.bw A==0)=C:=DE (by omega);clear xe X W hy;go_upto_region 5 with(go_at_call 55;refine(ak _ Y).mono ?_;rintro e wl ⟨rfl,u⟩;have j:=Y.below u;have p:=hK.trans (Kept.E5 u);obtain⟨u0,u1,u2⟩:=j.sl.J5 c2)
     have g:=j;have y:=p;clear j p Y hK;obtain⟨m0,m1,m2⟩:=g.sl.J5 c2;have v:=O _ g;have ad:=hid g;have aa:=hid y;clear g y
     go_wp2_with(go_at_call 105;refine v.mono ?_;rintro e a2 ⟨rfl,z⟩;have i:=ad.out.below z;have ae:=aa.out.trans (Kept.E5 z);have w0:=i.t.head.2.2;have w1:=FunAt.free i.t 19)
     go_end0;refine⟨rfl,?_,ae.setCell (by simp) _⟩;rw[ab.out,m.out];exact⟨PTurn.UM i.t C,FunAt.other i.sl _ _ ai.symm,i.ow.other _ _ aj.symm⟩
   ·have xe:decide (0<d.bw A/\ft A<=d.cr (M A).toNat)=C:=Ae fun h=>W h.1
    rw[xe]at O;have al:d.bw A=0:=by omega
    have m:Hid (Fu q ft n s=d.MN):=by
     show _=_;rw[ac.out (fun h=>W h.1)];unfold SlM.IG;rw[Ab (by rw[HL.out];exact al)]
    have ab:Hid ((Fu q ft n s).opn=C):=by rw[m.out];exact HI.out.2.1
    have xz:(d.bw A==0)=E:=by rw[al];rfl
    clear xe X W al;go_upto_region 5 with(go_at_call 55;refine(ak _ Y).mono ?_;rintro e wl ⟨rfl,u⟩;have j:=Y.below u;have p:=hK.trans (Kept.E5 u);obtain⟨u0,u1,u2⟩:=j.sl.J5 c2)
    have g:=j;have y:=p;clear j p Y hK;have k0:=g.t.Tr c2;have k1:=FunAt.free g.t (1+A);obtain⟨m0,m1,m2⟩:=g.sl.J5 c2;have af:VP (wl.setCell ⟨r,1+A,D⟩ (B H 0)) r U Z q M ft n o d.MN:=⟨by show PTurn _ r q d.last o (Fw d.cr d.last 0);rw[HL.out];have:=g.t.Ae2 c2 0;rw[HL.out]at this;exact this,FunAt.other g.sl _ _ ai.symm,g.ow.other _ _ aj.symm⟩;have aq:Kept [r,U,Z] w (wl.setCell ⟨r,1+A,D⟩ (B H 0)):=y.setCell (by simp) _;obtain⟨n0,n1,n2⟩:=af.sl.J5 c2;have n0:(wl.setCell ⟨r,1+A,D⟩ (B H 0)).cell? ⟨U,A*3,D⟩=some (B H (M A)):=n0;have n1:(wl.setCell ⟨r,1+A,D⟩ (B H 0)).cell? ⟨U,A*3+1,D⟩=some (B H (d.bw A)):=n1;have v:=PL (M A) (d.bw A) (ft A) q r d.MN.last o d.MN.cr _ af.t (fun h=>by rw[HW.out h];omega);have av:decide (0<d.bw A/\ft A<=d.MN.cr (M A).toNat)=C:=by grind
    rw[av]at v;clear av;have ad:=hid af;have aa:=hid aq;clear g y af aq
    go_wp2_with(go_at_call 105;refine v.mono ?_;rintro e a2 ⟨rfl,z⟩;have i:=ad.out.below z;have ae:=aa.out.trans (Kept.E5 z);have w0:=i.t.head.2.2;have w1:=FunAt.free i.t 19)
    go_end0;refine⟨rfl,?_,ae.setCell (by simp) _⟩;rw[ab.out,m.out];exact⟨PTurn.UM i.t C,FunAt.other i.sl _ _ ai.symm,i.ow.other _ _ aj.symm⟩
theorem Kept.new{c:G}(h:Kept S a b)(k:Kept S' b c)(g:∀x∈S',x∈S\/a.heap.size<=x):Kept S a c:=
 ⟨k.os.trans h.os,k.tape.trans h.tape,k.output.trans h.output,Ak h.size k.size,fun i hi d=>(k.block i (AI hi h.size) (fun e=>(g i e).elim d (fun e2=>by omega))).trans (h.block i hi d)⟩
theorem Ale(h:OkU l)(a:Nat):0<=byF UsM.fit l a/\byF UsM.fit l a<=10000:=by
 by_cases c:∃i,i<l.length/\(l.getD i .zero).who=(a:Int)
 ·obtain⟨i,hi,e⟩:=c;have d:=Ab6 (f:=UsM.fit) h hi;rw[e,AN]at d;rw[d];have:=(h.at hi).2.2;omega
 ·rw[Qo fun i hi e=>c ⟨i,hi,e⟩];omega
theorem Alf(h:OkU l)(d:Only l bw){a:Nat}(c:0<bw a):byF UsM.who l a=(a:Int):=by grind [OkU,Only,byF]
theorem Ag9(l:List UsM)(E4:Int)(i c:Nat)(a:Option Addr)(r:Value)(w:G)(n:Usr w a l)(g:l.length=i)(o:i<=maxLen)(d:¬Mx l E4):
 Calls prog 29 #[r,.slice a i c, B H E4] w fun e w'=>e= F (.tuple #[.slice D 0 0, B H 1])/\Below w.heap.size w w':=by
 have m:Calls prog 53 #[.slice a i c, B H E4] w fun e w'=>e= F (B H 1)/\Below w.heap.size w w':=(VT l E4 i c a w n g o).mono fun e w' h=>⟨h.1.elim (fun x=>absurd x.1 d) (fun x=>x.2),h.2⟩
 clear n g o d;go_enter func29,ntmps29
 go_wp2_with(go_at_call 53;refine m.mono ?_;rintro e w1 ⟨rfl,j⟩)
 go_ret2;exact⟨rfl,j⟩
theorem Ads(l:List UsM)(E4 nl c r last:Nat)(opn:Bool)(cr:Nat->Int)(q:Int)(a:Option Addr)(w:G)(p:E4<=100)(hU:Usr w a l)(A:l.length=nl)(Y:OkU l)(hT:PTurn w r q last opn cr)(X:1<=q)(ao:q<=10000)(ai:∀a,0<=cr a)(u:CrB (UO l last opn cr))(ak:last<=16)(an:opn=E->1<=last):
 Calls prog 29 #[.pointer (some ⟨r,0,D⟩),.slice a nl c, B H (E4:Int)] w fun e w'=>∃go,e= F (.tuple #[.slice (some ⟨go,0,D⟩) E4 E4, B H 0])/\ArrAt H 3 w' go (MJ (J3 q (byF UsM.fit l) E4 (UO l last opn cr)).out E4)/\PTurn w' r q (J3 q (byF UsM.fit l) E4 (UO l last opn cr)).last (J3 q (byF UsM.fit l) E4 (UO l last opn cr)).opn (J3 q (byF UsM.fit l) E4 (UO l last opn cr)).cr/\w.heap.size<=go/\Kept [r] w w':=by
 have ac:=AlS Y;rw[A]at ac;have aj:Calls prog 53 #[.slice a nl c, B H (E4:Int)] w fun e w'=>e= F (B H 0)/\Below w.heap.size w w':=(VT l E4 nl c a w hU A (by unfold maxLen;omega)).mono fun e w' h=>⟨h.1.elim (fun x=>x.2) (fun x=>absurd ⟨⟨by omega,by omega⟩,Y⟩ x.1),h.2⟩
 have al:=fun(wz:G) (hz:Below w.heap.size w wz)=>AgH l E4 nl c a wz (hU.below hz) A Y ac p
 obtain⟨s0, y⟩ := E7 (UO l last opn cr);have ap:s0.Ok E4:=by rw[y];exact⟨ak,an,ai,fun a=>(Ab7 Y a).1,Af _⟩
 have U:=hid y;have aa:=hid ap;have HO:=hid Y;have HT:=hid hT;have ar:=hid u;have a5:=FunAt.lt hT;rw[<-y];clear hU A hT ak an ai u y Y ap;go_enter func29,ntmps29
 go_wp2_with(first
  | (go_at_call 53;refine aj.mono ?_;rintro e w1 ⟨rfl,m⟩)
  | (go_at_call 54;refine(al _ m).mono ?_;rintro e w2 ⟨O,v,rfl,z,ad,a1,aq,am,ag⟩))
 have V:Below w.heap.size w w2:=m.trans (ag.mono m.size);have a3:w.heap.size<=O:=Ak m.size aq;have M:w.heap.size<=v:=Ak m.size am;have hD:Dis r O v:=⟨by omega,by omega,a1⟩;have af:VP w2 r O v q (byF UsM.who l) (byF UsM.fit l) E4 s0.opn s0:=by
  rw[U.out];refine⟨FunAt.below HT.out V,?_,?_⟩
  ·unfold YM at z;rw[Et]at z;exact z
  ·show ArrAt H 3 w2 v (MJ [] E4);have e:MJ [] E4=List.replicate E4 0:=by simp[MJ]
   rw[e];exact ad
 have ae:Kept [r] w w2:=Kept.E5 V;clear aj al m ag z ad aq am V
 go_loopg [] (s0.mu E4) (fun gg wr=>∃s:SlM,VP wr r O v q (byF UsM.who l) (byF UsM.fit l) E4 s.opn s/\Hid (J3 q (byF UsM.fit l) E4 s0=J3 q (byF UsM.fit l) E4 s/\Only l s.bw)/\Hid (s.Ok E4)/\Hid (CrU s)/\s.mu E4<=gg/\Kept [r] w wr)
 case atStart=>exact⟨s0,af,⟨rfl,by rw[U.out];exact Only.SF l⟩,aa,(show Hid _ from by rw[U.out];exact⟨ar.out,fun a=>(Ab7 HO.out a).2⟩),Ac _,ae⟩
 case round=>
  clear af ae;obtain⟨s,Z,j,n,HC,a4,hK⟩:=hrel;have W:=fun(wz:G) (hz:VP wz r O v q (byF UsM.who l) (byF UsM.fit l) E4 s.opn s)=>ZX O v E4 s.out.length (byF UsM.who l) s.bw (byF UsM.fit l) (M9 s.bw:Nat) wz hz.sl
  have ah:=Alk s.bw;have u:decide (0<M9 s.bw)=Pc s.bw:=by grind
  by_cases i:s.out.length<E4
  ·have xl:decide (s.out.length<E4)=E:=Ag i
   cases ha:Pc s.bw with
   | false=>
    rw[ha]at ah u;have HX:Hid (J3 q (byF UsM.fit l) E4 s0=s):=by
     show _=_;rw[j.out.1];exact RH (fun h=>by grind)
    clear ha i
    go_wp2_with(go_at_call 55;refine(W _ Z).mono ?_;rintro e wl ⟨rfl,g⟩;have d:=Z.below g;have o:=hK.trans (Kept.E5 g);obtain⟨c0,c1,c2⟩:=d.sl.KX)
    go_ret2;exact⟨v,rfl,by rw[HX.out];exact d.ow,by rw[HX.out];exact d.t,M,o⟩
   | true=>
    rw[ha]at ah u;have hF:=Anc HO.out j.out.2;have a2:=fun(wz:G) (hz:VP wz r O v q (byF UsM.who l) (byF UsM.fit l) E4 s.opn s)=>Ah3 q r O v E4 (byF UsM.who l) (byF UsM.fit l) s wz hz hD n.out hF HC.out X ao p (fun a _ _ h=>Alf HO.out j.out.2 h) (Ale HO.out)
    have ax:Hid (J3 q (byF UsM.fit l) E4 s0=J3 q (byF UsM.fit l) E4 (Fu q (byF UsM.fit l) E4 s)):=by
     show _=_;rw[j.out.1];exact WC X hF n.out ⟨i,ha⟩
    have au:=hid (Rf X hF n.out i ha);have ab:=hid (OF (q:=q) (by omega) hF n.out);have aw:Hid (CrU (Fu q (byF UsM.fit l) E4 s)):=⟨HC.out.1.Afa ⟨by omega,ao⟩ n.out hF,fun a=>DG (AkR hF a) (HC.out.2 a)⟩;have av:=hid j.out.2;clear ha i hF
    go_wp2_with(first
     | (go_at_call 55;refine(W _ Z).mono ?_;rintro e wl ⟨rfl,g⟩;have d:=Z.below g;have o:=hK.trans (Kept.E5 g);obtain⟨c0,c1,c2⟩:=d.sl.KX)
     | (go_at_call 56;refine(a2 _ d).mono ?_;rintro e wv ⟨rfl,a0,ay⟩;have az:=o.new ay (by grind)))
    go_roundg ((Fu q (byF UsM.fit l) E4 s).mu E4)
    case measure=>have:=au.out;omega
    case rel=>exact⟨_,a0,⟨ax.out,av.out.Afa ab.out⟩,ab,aw,Ac _,az⟩
  ·have xl:decide (s.out.length<E4)=C:=Ae i;have HX:Hid (J3 q (byF UsM.fit l) E4 s0=s):=by
    show _=_;rw[j.out.1];exact RH (fun h=>i h.1)
   clear i
   go_wp2_with(go_at_call 55;refine(W _ Z).mono ?_;rintro e wl ⟨rfl,g⟩;have d:=Z.below g;have o:=hK.trans (Kept.E5 g);obtain⟨c0,c1,c2⟩:=d.sl.KX)
   go_ret2;exact⟨v,rfl,by rw[HX.out];exact d.ow,by rw[HX.out];exact d.t,M,o⟩
end Go.Proofs.YtbjgfoiikhbonahGreatDoor
