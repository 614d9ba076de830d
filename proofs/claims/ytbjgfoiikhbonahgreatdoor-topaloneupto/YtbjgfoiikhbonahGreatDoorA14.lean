import Derived.Test.YtbjgfoiikhbonahGreatDoorA13
import Derived.Laws.ResultCell
set_option linter.unusedVariables false
set_option linter.unusedSimpArgs false
set_option maxRecDepth 100000
set_option maxHeartbeats 4000000
namespace Go.Proofs.YtbjgfoiikhbonahGreatDoor
open Go.ChangeShapes Go.WideShapes Go.ChangeAt Go.RowKit Go.Maps Go.Proofs.Tryz
open Value renaming bool->A,int->E,string->I
open Bool renaming false->C,true->H
open Option renaming none->G,some->J
open Go renaming World->M
open IntKind renaming i64->N
variable {P:Program}{Q:Exit->Act->M->Prop}{S:List Nat}{a:Act}{b bm g j k:Nat}{o:Oper}{ops:Array Oper}{rest:List Oper}{v:Value}{w w':M}
def Ld (x:ShotM):Int:=if RF x=C then 1 else if 1500<x.data.size then 2 else 0
theorem AdN(x:ShotM):(Hd x.process=1/\Ld x=1)\/(Hd x.process=0/\x.version<0/\Ld x=1)\/(Hd x.process=0/\0<=x.version/\4<=x.version/\Ld x=1)\/(Hd x.process=0/\0<=x.version/\x.version<4/\1500<x.data.size/\Ld x=2)\/(Hd x.process=0/\0<=x.version/\x.version<4/\x.data.size<=1500/\Ld x=0):=by simp_all[Hd,Ld,RF];grind
theorem Ul(x:ShotM)(w:M):Calls prog 165 #[x.val] w fun e w'=>e=.returned (E N (Ld x))/\Below w.heap.size w w':=by
 have c:=fun t=>JY x.process t
 have i:Below w.heap.size w (w.alloc (.cells #[E N x.process, E N x.version, A x.flag, I x.data] 127)):=(Ad _ w).alloc (Ac _) _;unfold ShotM.val
 rcases AdN x with⟨h,d⟩ | ⟨h,m,d⟩ | ⟨h,m,n,d⟩ | ⟨h,m,n,q,d⟩ | ⟨h,m,n,q,d⟩
 ·have l:=hid d.symm;rw[h]at c;clear d h;go_enter func165,ntmps165
  go_wp2_with(go_at_call 159;refine(c _).mono ?_;rintro e w1 ⟨rfl,rfl⟩);go_ret;exact⟨by rw[<-l.out];rfl,i⟩
 ·have l:=hid d.symm;rw[h]at c;have p:decide (x.version<0)=H:=Ag m;clear d h m;go_enter func165,ntmps165
  go_wp2_with(go_at_call 159;refine(c _).mono ?_;rintro e w1 ⟨rfl,rfl⟩);go_ret;exact⟨by rw[<-l.out];rfl,i⟩
 ·have l:=hid d.symm;rw[h]at c;have p:decide (x.version<0)=C:=Ae (by omega);have r:decide (4<=x.version)=H:=Ag n;clear d h m n;go_enter func165,ntmps165
  go_wp2_with(go_at_call 159;refine(c _).mono ?_;rintro e w1 ⟨rfl,rfl⟩);go_ret;exact⟨by rw[<-l.out];rfl,i⟩
 ·have l:=hid d.symm;rw[h]at c;have p:decide (x.version<0)=C:=Ae (by omega);have r:decide (4<=x.version)=C:=Ae (by omega);have s:decide ((1500:Int)<(x.data.size:Int))=H:=Ag (by omega);clear d h m n q;go_enter func165,ntmps165
  go_wp2_with(go_at_call 159;refine(c _).mono ?_;rintro e w1 ⟨rfl,rfl⟩);go_ret;exact⟨by rw[<-l.out];rfl,i⟩
 ·have l:=hid d.symm;rw[h]at c;have p:decide (x.version<0)=C:=Ae (by omega);have r:decide (4<=x.version)=C:=Ae (by omega);have s:decide ((1500:Int)<(x.data.size:Int))=C:=Ae (by omega);clear d h m n q;go_enter func165,ntmps165
  go_wp2_with(go_at_call 159;refine(c _).mono ?_;rintro e w1 ⟨rfl,rfl⟩);go_ret;exact⟨by rw[<-l.out];rfl,i⟩
theorem Adt{r:RecvM}(hT:RTakes 302 w g r)(k:Nat)(l:Int)(c:Bool)(d:ByteArray)(hd:Bool)(hk:k<8)(hv:P9 l=H)(hs:d.size<=1500):
 Calls prog 113 #[.pointer (J ⟨g,0,G⟩),(ShotM.mk (k:Int) l c d).val, A hd] w fun e w'=>e=.returned (r.J7 ⟨(k:Int),l,c,d⟩ hd).val/\RTakes 302 w' g (r.next ⟨(k:Int),l,c,d⟩ hd)/\Kept [g] w w':=by
 have hE:Ld ⟨(k:Int),l,c,d⟩=0:=by
  unfold Ld;rw[P5 c d hk hv,Aa (by simp),Aa (by show ¬1500<d.size;omega)]
 have ae:=fun wz=>Ul ⟨(k:Int),l,c,d⟩ wz
 rw[hE]at ae;have ad:Below w.heap.size w (w.alloc (.cells #[E N k, E N l, A c, I d] 127)):=(Ad _ w).alloc (Ac _) _;have an:=hT.lt;have ak:=hT.old ad;have hq:(w.alloc (.cells #[E N k, E N l, A c, I d] 127)).heap[w.heap.size]?=_:=Am w _;have b0:(w.alloc (.cells #[E N k, E N l, A c, I d] 127)).cell? ⟨w.heap.size,0,G⟩=J (E N (k:Int)):=by rw[Al _ _ _ _ _ _ hq];rfl
 have b2:(w.alloc (.cells #[E N k, E N l, A c, I d] 127)).cell? ⟨w.heap.size,2,G⟩=J (A c):=by rw[Al _ _ _ _ _ _ hq];rfl
 have b3:(w.alloc (.cells #[E N k, E N l, A c, I d] 127)).cell? ⟨w.heap.size,3,G⟩=J (I d):=by rw[Al _ _ _ _ _ _ hq];rfl
 obtain⟨y, ah⟩ := E7 w.heap.size;have L:y≠g:=by omega
 clear hq hE;unfold ShotM.val at*;dsimp only at ae;go_enter func113,ntmps113
 go_wp2_with(go_at_call 165;refine(ae _).mono ?_;rintro e w1 ⟨rfl,K⟩;have D:=ak.old K;have U:Below w.heap.size w w1:=ad.trans (K.mono ad.size);have c0:=SU K b0;have c2:=SU K b2;have c3:=SU K b3;rw[<-ah]at c0 c2 c3 ⊢;clear ah b0 b2 b3 ak K ad ae);have cf:=D.flag hk;obtain⟨fl, af⟩ := E7 (r.flag.getD k C);rw[<-af]at cf;have ag:=hid af;clear af;have t:=AdJ r k l c d hd hk hv hs;have s:=Ac8 r k l c d hd hk hv hs
 go_region;have D:=D.drew;have U:=U.drew
 by_cases hf:fl=c
 ·have qf:(!(fl==c))=C:=by simp[hf]
  rw[qf];have ab:r.turned ⟨(k:Int),l,c,d⟩=r:=by unfold RecvM.turned;rw[AN,<-ag.out,Ab hf]
  obtain⟨T, eT⟩ := E7 (r.turned ⟨(k:Int),l,c,d⟩);have u:RTakes 302 w1.drew g T:=by rw[eT,ab];exact D
  rw[<-eT]at t s;have n:=hid t;have m:=hid s;have B:Kept [g] w w1.drew:=Kept.E5 U;have c0:w1.drew.cell? ⟨y,0,G⟩=_:=c0;have c3:w1.drew.cell? ⟨y,3,G⟩=_:=c3
  go_wp2_with fail;generalize w1.drew=R at*;clear t s ab eT hf;have ch:=u.heard hk;have aa:=u.free (8+k);have i:=u.QZ hk H;have z:=B.setCell (p:=⟨g,8+k,G⟩) (by simp) (A H);obtain⟨h, x⟩ := E7 (T.heard.getD k C);rw[<-x]at ch
  cases h with
  | true=>
   have F:(RecvM.mk T.flag (T.heard.set k H))=T:=by
    obtain⟨tf,th⟩:=T;rw[Abl x.symm]
   have hn:RTakes 302 R g (r.next ⟨(k:Int),l,c,d⟩ hd):=by
    rw[m.out]
    grind
   have q:=hid (show r.J7 ⟨(k:Int),l,c,d⟩ hd=⟨ByteArray.empty,C,H,0⟩by rw[n.out,<-x];rfl);clear F i z x
   go_region
   go_wp2_with fail
   (try simp only[Exit.inBlock,Exit.then]);refine Ah (IU rfl _ _ _) rfl ?_
   rw[q.out];exact⟨rfl,hn.drew,B.drew⟩
  | false=>
   cases hd with
   | false=>
    have hn:RTakes 302 R g (r.next ⟨(k:Int),l,c,d⟩ C):=by rw[m.out];exact u
    have q:=hid (show r.J7 ⟨(k:Int),l,c,d⟩ C=⟨ByteArray.empty,C,C,0⟩by rw[n.out,<-x];rfl);clear i z x
    go_region
    go_wp2_with fail
    (try simp only[Exit.inBlock,Exit.then]);refine Ah (IU rfl _ _ _) rfl ?_
    rw[q.out];exact⟨rfl,hn.drew,B.drew⟩
   | true=>
    have hn:RTakes 302 (R.setCell ⟨g,8+k,G⟩ (A H)) g (r.next ⟨(k:Int),l,c,d⟩ H):=by rw[m.out];exact i
    have q:=hid (show r.J7 ⟨(k:Int),l,c,d⟩ H=⟨d,H,H,0⟩by rw[n.out,<-x];rfl);have c4:(R.setCell ⟨g,8+k,G⟩ (A H)).cell? ⟨y,3,G⟩=J (I d):=(AF (w:=R) (BA R ⟨g,8+k,G⟩ (A H) y (fun e=>L e))).trans c3;clear i x
    go_region
    go_wp2_with fail
    go_region;go_wp2_with fail
    (try simp only[Exit.inBlock,Exit.then]);refine Ah (IU rfl _ _ _) rfl ?_
    rw[q.out];exact⟨rfl,hn.drew.drew,z.drew.drew⟩
 ·have qf:(!(fl==c))=H:=by simpa using hf
  rw[qf]
  go_wp2_with fail;have aa:=D.free k;have ac:=(D.Yn hk c).drew;have ai:=((Kept.E5 U:Kept [g] w w1.drew).setCell (p:=⟨g,k,G⟩) (by simp) (A c)).drew;have d0:(w1.drew.setCell ⟨g,k,G⟩ (A c)).drew.cell? ⟨y,0,G⟩=J (E N (k:Int)):=(AF (w:=w1) (BA w1 ⟨g,k,G⟩ (A c) y (fun e=>L e))).trans c0;have d3:(w1.drew.setCell ⟨g,k,G⟩ (A c)).drew.cell? ⟨y,3,G⟩=J (I d):=(AF (w:=w1) (BA w1 ⟨g,k,G⟩ (A c) y (fun e=>L e))).trans c3
  go_region
  go_wp2_with fail;rw[show(w1.setCell ⟨g,k,G⟩ (A c)).drew.drew=(w1.drew.setCell ⟨g,k,G⟩ (A c)).drew from rfl];generalize (w1.drew.setCell ⟨g,k,G⟩ (A c)).drew=w2 at*;clear D U c0 c2 c3 cf aa;have aa:=ac.free (8+k);have am:=ac.heard hk;have al:=(ac.QZ hk C).drew;have aj:=(ai.setCell (p:=⟨g,8+k,G⟩) (by simp) (A C)).drew;have c0:(w2.setCell ⟨g,8+k,G⟩ (A C)).drew.cell? ⟨y,0,G⟩=J (E N (k:Int)):=(AF (w:=w2) (BA w2 ⟨g,8+k,G⟩ (A C) y (fun e=>L e))).trans d0;have c3:(w2.setCell ⟨g,8+k,G⟩ (A C)).drew.cell? ⟨y,3,G⟩=J (I d):=(AF (w:=w2) (BA w2 ⟨g,8+k,G⟩ (A C) y (fun e=>L e))).trans d3
  go_region
  go_wp2_with fail;have ab:r.turned ⟨(k:Int),l,c,d⟩=⟨r.flag.set k c,r.heard.set k C⟩:=by unfold RecvM.turned;rw[AN,<-ag.out,Aa hf]
  obtain⟨T, eT⟩ := E7 (r.turned ⟨(k:Int),l,c,d⟩);have u:RTakes 302 (w2.setCell ⟨g,8+k,G⟩ (A C)).drew g T:=by rw[eT,ab];exact al
  have B:=aj;rw[<-eT]at t s;have n:=hid t;have m:=hid s;generalize (w2.setCell ⟨g,8+k,G⟩ (A C)).drew=R at*;clear t s ab eT hf ac ai d0 d3 aa am al aj;have ch:=u.heard hk;have aa:=u.free (8+k);have i:=u.QZ hk H;have z:=B.setCell (p:=⟨g,8+k,G⟩) (by simp) (A H);obtain⟨h, x⟩ := E7 (T.heard.getD k C);rw[<-x]at ch
  cases h with
  | true=>
   have F:(RecvM.mk T.flag (T.heard.set k H))=T:=by
    obtain⟨tf,th⟩:=T;rw[Abl x.symm]
   have hn:RTakes 302 R g (r.next ⟨(k:Int),l,c,d⟩ hd):=by
    rw[m.out]
    grind
   have q:=hid (show r.J7 ⟨(k:Int),l,c,d⟩ hd=⟨ByteArray.empty,C,H,0⟩by rw[n.out,<-x];rfl);clear F i z x
   go_region
   go_wp2_with fail
   (try simp only[Exit.inBlock,Exit.then]);refine Ah (IU rfl _ _ _) rfl ?_
   rw[q.out];exact⟨rfl,hn.drew,B.drew⟩
  | false=>
   cases hd with
   | false=>
    have hn:RTakes 302 R g (r.next ⟨(k:Int),l,c,d⟩ C):=by rw[m.out];exact u
    have q:=hid (show r.J7 ⟨(k:Int),l,c,d⟩ C=⟨ByteArray.empty,C,C,0⟩by rw[n.out,<-x];rfl);clear i z x
    go_region
    go_wp2_with fail
    (try simp only[Exit.inBlock,Exit.then]);refine Ah (IU rfl _ _ _) rfl ?_
    rw[q.out];exact⟨rfl,hn.drew,B.drew⟩
   | true=>
    have hn:RTakes 302 (R.setCell ⟨g,8+k,G⟩ (A H)) g (r.next ⟨(k:Int),l,c,d⟩ H):=by rw[m.out];exact i
    have q:=hid (show r.J7 ⟨(k:Int),l,c,d⟩ H=⟨d,H,H,0⟩by rw[n.out,<-x];rfl);have c4:(R.setCell ⟨g,8+k,G⟩ (A H)).cell? ⟨y,3,G⟩=J (I d):=(AF (w:=R) (BA R ⟨g,8+k,G⟩ (A H) y (fun e=>L e))).trans c3;clear i x
    go_region
    go_wp2_with fail
    go_region;go_wp2_with fail
    (try simp only[Exit.inBlock,Exit.then]);refine Ah (IU rfl _ _ _) rfl ?_
    rw[q.out];exact⟨rfl,hn.drew.drew,z.drew.drew⟩
theorem Pv{id:Nat}{h:List Value}(n k u:Nat)(S:List Nat)(U:M->Prop)(tb:List (Nat×Value))(reads:List (List Nat))(d:List Nat)(wr:M)(hm:P.follows .mixedOrders=H)(hn:ops.size=n)(B:k<n)
 (l:tb.length=k) (r:(tb.map (·.1)).Nodup) (z:((tb.map (·.1)).all fun s=>decide (s<h.length))=H)
 (c:((List.range k).all fun i=>(reads.getD i []).all fun s=>(List.range k).all fun j=>((tb.map (·.1)).getD j 0 !=s) || Ff ops i j)=H) (q:((List.range n).all fun i=>Gt ops i)=H)
 (D:((List.range k).all fun i=>(reads.getD i []).all fun s=>decide (s<h.length))=H)
 (t:((List.range k).all fun j=>decide (j<d.getD j 0) && (decide (d.getD j 0<=k) && Ff ops (d.getD j 0) j))=H) (p:((List.range n).all fun i=>decide (i<=k) || Ff ops i (i-1))=H)
 (hU:∀w w',U w->Kept [] w w'->U w')
 (F:∀i,i<k->i≠u->∀(a:Act) (w:M),Kept S wr w->(∀s∈reads.getD i [],a.eval (.tmp s)=lkp h tb s)->∀(Q:Exit->Act->M->Prop) (K:Act->M->Prop),(∀w',Kept [] w w'->K (a.put (J (tb.getD i (0,undef)).1) (tb.getD i (0,undef)).2) w')->wpOp P ops Q i K a w)
 (y:u<k->∀(a:Act) (w:M),Below wr.heap.size wr w->(∀s∈reads.getD u [],a.eval (.tmp s)=lkp h tb s)->∀(Q:Exit->Act->M->Prop) (K:Act->M->Prop),(∀w',Kept S w w'->U w'->K (a.put (J (tb.getD u (0,undef)).1) (tb.getD u (0,undef)).2) w')->wpOp P ops Q u K a w)
 (m:∀w,Kept S wr w->(u<k->U w)->LI P ops Q (List.range' k (n-k)) {tmps:=(Ft h tb).toArray,defers:=[]} w):
 (Code.region id ops H).wp P Q {tmps:=h.toArray,defers:=[]} wr:=by
 have L:=QE tb;have aa:∀i,i<k->∀(σ:Nat->Value),(∀j,j<k->Ff ops i j=H->σ j=(tb.getD j (0,undef)).2)->∀s∈reads.getD i [],lkp h (tbS (tb.map (·.1)) k σ) s=lkp h tb s:=fun i hi σ hσ s hs=>We l r fun j x e=>hσ j x (UY c hi hs x e)
 refine Ox n k u S (tb.map (·.1)) reads d (fun j σ w=>σ j=(tb.getD j (0,undef)).2/\(j=u->U w)) wr hm hn B (by simp[l]) r z c q D t p ?_ ?_ ?_ ?_ ?_
 ·grind
 ·grind
 ·grind
 ·grind
 ·intro σ w T R;rw[WJ l (fun j x=>(R j x).1)];exact m w T (fun hu=>(R u hu).2 rfl)
theorem NH(w:M):Kept [] w w:=Kept.refl _ w
structure TryM where
 busy:Bool
 flag:Bool
 opn:Bool
 data:ByteArray
 tries:Nat
def TryM.zero:TryM:=⟨C,C,C,ByteArray.empty,0⟩
def TryM.blk(t:TryM):Value:=.agg #[I t.data, E N t.tries, A t.opn]
structure SendM where
 limit:Nat
 p:List TryM
def SendM.new(l:Nat):SendM:=⟨l,List.replicate 8 TryM.zero⟩
def SendM.tat(m:SendM)(k:Nat):TryM:=m.p.getD k TryM.zero
def TryM.right(limit:Nat)(t:TryM):Prop:=t.busy=H->(t.opn=H->1<=t.tries/\t.tries<=limit)/\(t.opn=C->t.tries<limit)
structure SendM.Ok(m:SendM):Prop where
 len:m.p.length=8
 low:1<=m.limit
 high:m.limit<=8
 each:∀k,k<8->(m.tat k).right m.limit
def SendM.set(m:SendM)(k:Nat)(t:TryM):SendM:=⟨m.limit,m.p.set k t⟩
theorem SendM.Lf{m:SendM}(h:m.p.length=8)(c:k<8)(t:TryM)(j:Nat):(m.set k t).tat j=if j=k then t else m.tat j:=by grind [SendM.tat,SendM.set]
theorem SendM.Ok.set{m:SendM}(h:m.Ok){k:Nat}(d:k<8){t:TryM}(ht:t.right m.limit):(m.set k t).Ok:=by
 refine⟨by simp[SendM.set,h.len],h.low,h.high,fun j c=>?_⟩;rw[SendM.Lf h.len d]
 split
 ·exact ht
 ·exact h.each j c
theorem SendM.XX{l:Nat}(c:1<=l)(d:l<=8):(SendM.new l).Ok:=by
 refine⟨by simp[SendM.new],c,d,fun k i=>?_⟩;have e:(SendM.new l).tat k=TryM.zero:=by
  simp only[SendM.tat,SendM.new,List.getD,DA]
  split<;>rfl
 rw[e];intro h
 cases h
def SendM.Pf(m:SendM):Nat:=m.p.countP (·.busy)
theorem SendM.Td{m:SendM}(h:m.p.length=8):m.Pf<=8:=by rw[<-h];exact List.countP_le_length
theorem SendM.VM{m:SendM}(h:m.p.length=8)(n:k<8)(t:TryM):(m.set k t).Pf+(if (m.tat k).busy then 1 else 0)=m.Pf+(if t.busy then 1 else 0):=by
 have c:k<m.p.length:=by omega
 have e:m.tat k=m.p[k]:=by simp[SendM.tat,List.getD,c]
 rw[e];have d:=List.countP_set (p:=fun x:TryM=>x.busy) (l:=m.p) (i:=k) (a:=t) c
 show List.countP _ (m.p.set k t)+_=List.countP _ m.p+_
 grind
def SendM.least(m:SendM):Nat:=m.p.findIdx (fun t=>!t.busy)
theorem SendM.least_le{m:SendM}(h:m.p.length=8):m.least<=8:=by rw[<-h];exact List.findIdx_le_length
theorem SendM.TT{m:SendM}(h:m.p.length=8)(c:m.least<8):(m.tat m.least).busy=C:=by grind [SendM.tat,SendM.least]
theorem SendM.AcZ{m:SendM}(h:m.p.length=8)(l:j<m.least):(m.tat j).busy=H:=by
 have d:=List.not_of_lt_findIdx (p:=fun t:TryM=>!t.busy) (xs:=m.p) (i:=j) l;have c:j<m.p.length:=by have:=SendM.least_le h;omega
 have e:m.tat j=m.p[j]:=by simp[SendM.tat,List.getD,c]
 rw[e]
 simpa using d
theorem SendM.ZW{m:SendM}(h:m.p.length=8)(e:k<8)(c:∀j,j<k->(m.tat j).busy=H)(d:(m.tat k).busy=C):m.least=k:=by grind [SendM.TT,SendM.AcZ]
theorem SendM.Ac0{m:SendM}(h:m.p.length=8)(c:∀j,j<8->(m.tat j).busy=H):m.least=8:=by grind [SendM.least_le,SendM.TT]
def PA (t:Nat):Int:=([0,2,3,1]:List Int).getD (t % 4) 0
def TryM.tried(t:TryM):TryM:=⟨t.busy,t.flag,H,t.data,t.tries+1⟩
def SendM.done(m:SendM)(k:Nat)(yes:Bool):Bool:=yes || decide (m.limit<=(m.tat k).tries)
def SendM.GI(m:SendM)(k:Nat)(yes:Bool):TryM:=⟨!m.done k yes,(m.tat k).flag,C,(m.tat k).data,(m.tat k).tries⟩
def TryM.Sf(t:TryM)(d:ByteArray):TryM:=⟨H,!t.flag,C,d,0⟩
theorem SH{m:SendM}(h:m.Ok)(d:k<8)(c:(m.tat k).busy=H)(i:(m.tat k).opn=C):(m.tat k).tried.right m.limit:=by
 have:=(h.each k d c).2 i;intro _;exact⟨fun _=>⟨by show 1<=(m.tat k).tries+1;omega,by show(m.tat k).tries+1<=_;omega⟩,fun e=>by cases e⟩
theorem Sg{m:SendM}(h:m.Ok)(t:TryM)(d:ByteArray):(t.Sf d).right m.limit:=fun _=>⟨fun e=>(by cases e),fun _=>h.low⟩
theorem NU(m:SendM)(k:Nat)(yes:Bool):(m.GI k yes).right m.limit:=by
 intro d;refine⟨fun e=>(by cases e),fun _=>?_⟩;have c:(!m.done k yes)=H:=d;unfold SendM.done at c;have h:¬m.limit<=(m.tat k).tries:=by simp at c;omega
 show(m.tat k).tries<m.limit;omega
def Ib (v:Value):Option (DataW Value×List MemPlace):=J (.held v,[])
theorem Tryz.Agp:Keyed prog 3:=int_keyed underlying3
theorem Tryz.Apa(w:M):(zeroValue 213).run prog w=.ok (.agg #[I {data:=#[]}, E N 0, A C]) w:=by kernel_rfl
theorem AlA(h:k<8):keyOf prog 3 (.int N (k:Int))=J (.int N (k:Int)):=keyOf_int_mk underlying3 (Cy (by omega))
theorem AeO(k:Int):WideAt.IsKeyLit (.int N k):=by simp[WideAt.IsKeyLit]
theorem SX(h:j≠k):Lit.int N (j:Int)≠Lit.int N (k:Int):=by
 grind
def BlkMap(w:M)(bm:Nat)(m:SendM):Prop:=∃D:DataW Value,w.ownsMap prog 3 Ib bm 8 D/\Maps.size D=m.Pf/\∀k:Nat,k<8->Maps.has D (.int N (k:Int))=(m.tat k).busy/\((m.tat k).busy=H->∀z,D.atKey (.int N (k:Int)) z=.held (m.tat k).blk)
theorem Ms{k:TypeId}{R:Value->Option (DataW Value×List MemPlace)}{n n':Nat}{D:DataW Value}(h:w.ownsMap P k R b n D)(e:Maps.size D<=n'):w.ownsMap P k R b n' D:=by
 obtain⟨es,c,d,F,_,rfl⟩:=h;refine⟨es,c,d,F,?_,rfl⟩
 simpa [Maps.size,DB]using e
theorem BlkMap.same{m:SendM}(h:BlkMap w bm m)(e:w'.heap[bm]?=w.heap[bm]?):BlkMap w' bm m:=by
 obtain⟨D,⟨es,c,i,F,l,d⟩,r⟩:=h;exact⟨D,⟨es,c,by rw[e];exact i,F,l,d⟩,r⟩
theorem BlkMap.lt{m:SendM}(h:BlkMap w bm m):bm<w.heap.size:=by
 obtain⟨D,h,_⟩:=h;exact CQ h
theorem BlkMap.XT(w:M)(l:Nat):BlkMap (w.alloc (.map #[] 0)) w.heap.size (SendM.new l):=by
 refine⟨.map [],Ms (C9 w _ _ _) (by simp[Maps.size]),?_,fun k c=>?_⟩
 ·show 0=List.countP _ (List.replicate 8 TryM.zero)
  decide
 ·have e:(SendM.new l).tat k=TryM.zero:=by
   simp only[SendM.tat,SendM.new,List.getD,DA]
   split<;>rfl
  rw[e];exact⟨rfl,fun h=>by cases h⟩
theorem BlkMap.put{w w':M}{bm:Nat}{m:SendM}{D:DataW Value}{n:Nat}(l:m.p.length=8){k:Nat}(i:k<8)(t:TryM)(ht:t.busy=H)(q:w.ownsMap prog 3 Ib bm 8 D)(u:Maps.size D=m.Pf)(d:∀k:Nat,k<8->Maps.has D (.int N (k:Int))=(m.tat k).busy/\((m.tat k).busy=H->∀z,D.atKey (.int N (k:Int)) z=.held (m.tat k).blk))
 (h:w'.ownsMap prog 3 Ib bm n (D.put (.int N (k:Int)) (.held t.blk))):BlkMap w' bm (m.set k t):=by
 have c:Maps.size (D.put (.int N (k:Int)) (.held t.blk))=(m.set k t).Pf:=by
  rw[size_put (q.tidy Tryz.Agp),(d k i).1,u];have:=SendM.VM l i t
  grind
 refine⟨_,Ms h (by rw[c];exact SendM.Td (by simp[SendM.set,l])),c,fun j r=>?_⟩;rw[SendM.Lf l i]
 by_cases e:j=k
 ·subst e;rw[Ab rfl,has_put_same q.isMap (AeO _),ht];exact⟨rfl,fun _ z=>atKey_put_same q.isMap (AeO _) _ _⟩
 ·rw[Aa e,has_put_other (SX e)];exact⟨(d j r).1,fun s z=>by rw[atKey_put_other (SX e)];exact(d j r).2 s z⟩
theorem BlkMap.del{w w':M}{bm:Nat}{m:SendM}{D:DataW Value}{n:Nat}(l:m.p.length=8){k:Nat}(i:k<8)(t:TryM)(ht:t.busy=C)(u:w.ownsMap prog 3 Ib bm 8 D)(x:Maps.size D=m.Pf)(d:∀k:Nat,k<8->Maps.has D (.int N (k:Int))=(m.tat k).busy/\((m.tat k).busy=H->∀z,D.atKey (.int N (k:Int)) z=.held (m.tat k).blk))
 (h:w'.ownsMap prog 3 Ib bm n (D.del (.int N (k:Int)))):BlkMap w' bm (m.set k t):=by
 have c:Maps.size (D.del (.int N (k:Int)))=(m.set k t).Pf:=by
  have r:=size_del (k:=.int N (k:Int)) (u.tidy Tryz.Agp);rw[(d k i).1,x]at r;have:=SendM.VM l i t
  grind
 refine⟨_,Ms h (by rw[c];exact SendM.Td (by simp[SendM.set,l])),c,fun j q=>?_⟩;rw[SendM.Lf l i]
 by_cases e:j=k
 ·subst e;rw[Ab rfl,has_del_same,ht];exact⟨rfl,fun h=>by cases h⟩
 ·rw[Aa e,has_del_other (SX e)];exact⟨(d j q).1,fun s z=>by rw[atKey_del_other (SX e)];exact(d j q).2 s z⟩
theorem Ai4{x:DataW Value}{ps:List MemPlace}(h:Ib v=J (x,ps)):x=.held v:=by
 unfold Ib at h;simp at h;exact h.1.symm
def IV (m:SendM)(bm:Nat):Array Value:=(E N m.limit::m.p.map (fun t=>A t.flag)++[Value.map (J bm)]).toArray
def PSend(w:M)(g bm:Nat)(m:SendM):Prop:=w.heap[g]?=J (.cells (IV m bm) 211 (0,0))/\BlkMap w bm m/\m.Ok
theorem PSend.lt{m:SendM}(h:PSend w g bm m):g<w.heap.size:=(Array.getElem?_eq_some_iff.1 h.1).1
theorem PSend.ne{m:SendM}(h:PSend w g bm m):g≠bm:=by
 rintro rfl;obtain⟨D,⟨es,c,d,_⟩,_⟩:=h.2.1;rw[h.1]at d
 cases d
theorem PSend.old{m:SendM}(h:PSend w g bm m)(c:Below w.heap.size w w'):PSend w' g bm m:=⟨(c.block g h.lt).trans h.1,h.2.1.same (c.block bm h.2.1.lt),h.2.2⟩
theorem PSend.kept{m:SendM}(h:PSend w g bm m)(c:Kept S w w')(d:g∉S)(e:bm∉S):PSend w' g bm m:=⟨(c.block g h.lt d).trans h.1,h.2.1.same (c.block bm h.2.1.lt e),h.2.2⟩
theorem PSend.drew{m:SendM}(h:PSend w g bm m):PSend w.drew g bm m:=⟨h.1,h.2.1.same rfl,h.2.2⟩
theorem PSend.limit{m:SendM}(h:PSend w g bm m):w.cell? ⟨g,0,G⟩=J (E N m.limit):=by
 rw[Al _ _ _ _ _ _ h.1];simp[IV]
theorem PSend.flag{m:SendM}(h:PSend w g bm m)(d:k<8):w.cell? ⟨g,1+k,G⟩=J (A (m.tat k).flag):=by
 have e:=h.2.2.len;have c:k<m.p.length:=by omega
 rw[Al _ _ _ _ _ _ h.1];simp[IV,SendM.tat,List.getD,c,Nat.add_comm 1 k,BB]
theorem PSend.map{m:SendM}(h:PSend w g bm m):w.cell? ⟨g,9,G⟩=J (.map (J bm)):=by
 have c:=h.2.2.len;rw[Al _ _ _ _ _ _ h.1];simp[IV,c]
theorem PSend.free{m:SendM}(h:PSend w g bm m)(k:Nat):w.frozen? ⟨g,k,G⟩=C:=Bz w g k _ _ h.1
def Hz:Value:=.agg #[I {data:=#[]}, E N 0, A C]
theorem BlkMap.alloc{m:SendM}(h:BlkMap w bm m)(o:Obj):BlkMap (w.alloc o) bm m:=h.same (Bc w o bm h.lt)
theorem Hl(w:M)(hg:o.guard=G)(n x:Operand)(l:o.op=Op.lookup 209 n x H)
 {m:SendM} (r:a.eval n=.map (J bm)) (q:BlkMap w bm m) (e:k<8) (y:a.eval x=.int N (k:Int)) (v:Value) (b:Bool) (i:(m.tat k).busy=b) (p:v=if b then (m.tat k).blk else Hz)
 (d:wpList prog ops Q rest (a.put o.dst (.tuple #[v,.bool b])) w):wpList prog ops Q (o::rest) a w:=by
 obtain⟨D,s,_,h⟩:=q;refine wpList_lookup_own_ok w hg n x 209 l 3 213 Tryz.Agp underlying209 Ib (Tryz.Apa w) (.held Hz) [] rfl bm 8 D r s _ _ y (AlA e) (fun u ps t=>?_);have c:=Ai4 t;rw[(h k e).1,i]
 cases b with
 | true=>
  rw[(h k e).2 i]at c
  injection c with c
  subst p;rw[Ab rfl,c]at d;exact d
 | false=>
  rw[atKey_of_not_has (by rw[(h k e).1];exact i)]at c
  injection c with c
  subst p;rw[Aa (by simp),c]at d;exact d
theorem JG(h:w.grownBy w' (J b))(c:b∈S):Kept S w w':=⟨h.os,h.tape,h.output,h.size,fun k d i=>h.block k d (fun e=>i (by injection e with e;rw[e];exact c))⟩
theorem VA(w:M)(hg:o.guard=G)(e x v:Operand)(d:o.op=Op.mapUpdate 209 e x v)
 {m:SendM} (u:a.eval e=.map (J bm)) (q:BlkMap w bm m) (c:m.p.length=8) (h:k<8) (B:a.eval x=.int N (k:Int)) (t:TryM) (ht:t.busy=H) (z:a.eval v=t.blk)
 (s:∀w',BlkMap w' bm (m.set k t)->w.grownBy w' (J bm)->wpList prog ops Q rest (a.put o.dst undef) w'):wpList prog ops Q (o::rest) a w:=by
 obtain⟨D,i,y,r⟩:=q;exact EC w hg e x v 209 d 3 213 Tryz.Agp underlying209 Ib bm 8 D u i (by unfold maxLen;omega) _ _ _ B z (AlA h) (.held t.blk) [] rfl (fun w' l n=>s w' (BlkMap.put c h t ht i y r l) n)
theorem AdG{ρ:Operand->Value}(w:M)(l x v:Operand)(e:o.op=Op.mapUpdate 209 l x v)
 {m:SendM} (u:ρ l=.map (J bm)) (r:BlkMap w bm m) (c:m.p.length=8) (h:k<8) (B:ρ x=.int N (k:Int)) (t:TryM) (ht:t.busy=H) (z:ρ v=t.blk):
 ∃w',(execOp ρ o).run prog w=.ok .skip w'/\BlkMap w' bm (m.set k t)/\w.grownBy w' (J bm):=by
 obtain⟨D,i,y,s⟩:=r;obtain⟨w',d,n,q⟩:=i.update Tryz.Agp underlying209 (by unfold maxLen;omega) (AlA h) (show Ib t.blk=J (.held t.blk,[])from rfl);refine⟨w',?_,BlkMap.put c h t ht i y s n,q⟩;simp[execOp,e,u,B,z,d,Result.andThen]
theorem Wk{i:Nat}{K:Act->M->Prop}(hi:ops[i]?=J o)(hg:o.guard=G)(h x v:Operand)(e:o.op=Op.mapUpdate 209 h x v)
 {m:SendM} (q:BlkMap w bm m) (c:m.p.length=8) (s:k<8) (t:TryM) (ht:t.busy=H) (u:a.eval h=.map (J bm)) (z:a.eval x= E N (k:Int)) (y:a.eval v=t.blk)
 (r:∀w',BlkMap w' bm (m.set k t)->w.grownBy w' (J bm)->K (a.put o.dst undef) w'):wpOp prog ops Q i K a w:=by
 obtain⟨w',d,l,n⟩:=AdG w h x v e u q c s z t ht y;exact Aak hi hg d (r w' l n)
theorem PC(w:M)(hg:o.guard=G)(d x:Operand)(c:o.op=Op.call {callee:=Callee.builtin Builtin.delete,args:=#[d,x],argTypes:=#[209,3]})
 {m:SendM} (hm:a.eval d=.map (J bm)) (hB:BlkMap w bm m) (hlen:m.p.length=8) (hk:k<8) (hx:a.eval x=.int N (k:Int)) (t:TryM) (ht:t.busy=C)
 (hK:∀w',BlkMap w' bm (m.set k t)->w.grownBy w' (J bm)->wpList prog ops Q rest (a.put o.dst (.tuple #[])) w'):wpList prog ops Q (o::rest) a w:=by
 obtain⟨D,e,n,l⟩:=hB;exact wpList_delete_own w hg d x 209 3 c 213 Tryz.Agp underlying209 Ib bm 8 D hm e _ _ hx (AlA hk) (fun w' h i=>hK w' (BlkMap.del hlen hk t ht e n l h) i.grown)
theorem An7(p:Int)(d:Hd p=1):
 Calls prog 111 #[.pointer (J ⟨g,0,G⟩), E N p] w fun e w'=>e=.returned (.tuple #[Hz, E N 1])/\Below w.heap.size w w':=by
 have c:=fun h=>JY p h
 rw[d]at c;clear d;go_enter func111,ntmps111
 go_wp2_with(go_at_call 159;refine(c _).mono ?_;rintro e w1 ⟨rfl,rfl⟩)
 (try simp only[Exit.inBlock,Exit.then])
 refine Ah (v:=.tuple #[Hz, E N 1]) ?_ rfl ⟨rfl,?_⟩
 ·rw[AD rfl];unfold Hz
  go_simp
 ·exact((Ad _ w).alloc (Ac _) _)
theorem O2{m:SendM}(h:PSend w g bm m)(k:Nat)(t:k<8)(b:Bool)(v:Value)(er:Int)(p:(m.tat k).busy=b)(i:v=if b then (m.tat k).blk else Hz)(l:er=if b then 0 else 6):
 Calls prog 111 #[.pointer (J ⟨g,0,G⟩), E N (k:Int)] w fun e w'=>e=.returned (.tuple #[v, E N er])/\Below w.heap.size w w':=by
 have c:=fun x=>JY (k:Int) x
 rw[show Hd (k:Int)=0 by unfold Hd;rw[Ab (by omega)]]at c;have d:Below w.heap.size w (w.alloc (.cells #[I {data:=#[]}, E N 0, A C] 213)):=(Ad _ w).alloc (Ac _) _;have y:=SU d h.map;have s:=h.2.1;have q:=hid p;have r:=hid i
 cases b with
 | false=>
  obtain rfl:er=6:=by simpa using l
  obtain rfl:v=Hz:=by simpa using i
  clear l p i;unfold Hz at*;go_enter func111,ntmps111
  go_wp2_with(first
   | (go_at_call 159;refine(c _).mono ?_;rintro e w1 ⟨rfl,rfl⟩)
   | (at_lookup;refine Hl _ rfl _ _ rfl rfl (s.alloc _) t rfl _ _ q.out r.out ?_))
  (try simp only[Exit.inBlock,Exit.then])
  refine Ah (v:=.tuple #[Hz, E N 6]) ?_ rfl ⟨rfl,?_⟩
  ·rw[AD rfl];unfold Hz
   go_simp
  ·exact d.alloc (by simp) _
 | true=>
  obtain rfl:er=0:=by simpa using l
  obtain⟨T, n⟩ := E7 (m.tat k);rw[<-n,Ab rfl]at i;subst i;have u:=hid (show(.agg #[I T.data, E N T.tries, A T.opn]:Value)=if H then (m.tat k).blk else Hz by rw[<-n];rfl);clear l p r n;unfold TryM.blk;go_enter func111,ntmps111
  go_wp2_with(first
   | (go_at_call 159;refine(c _).mono ?_;rintro e w1 ⟨rfl,rfl⟩)
   | (at_lookup;refine Hl _ rfl _ _ rfl rfl (s.alloc _) t rfl (.agg #[I T.data, E N T.tries, A T.opn]) H q.out u.out ?_))
  (try simp only[Exit.inBlock,Exit.then])
  refine Ah (v:=.tuple #[.agg #[I T.data, E N T.tries, A T.opn], E N 0]) ?_ rfl ⟨rfl,?_⟩
  ·rw[AD rfl]
   go_simp
  ·exact((Ad _ w).alloc (Ac _) _).alloc (by simp) _
theorem Adp{m:SendM}(h:PSend w g bm m):
 Calls prog 158 #[.pointer (J ⟨g,0,G⟩)] w fun e w'=>e=.returned (E N (m.least:Int))/\Below w.heap.size w w':=by
 have d:=h.2.2.len;go_enter func158,ntmps158
 go_wp2_with fail
 go_loopw [6] (fun i wr=>∃k:Nat,k<=8/\i= E N k/\(∀j,j<k->(m.tat j).busy=H)/\Below w.heap.size w wr) (fun i _=>8-(intOf i).toNat)
 case atStart=>exact⟨0,by omega,rfl,fun j z=>by omega,Ad _ w⟩
 case round=>
  obtain⟨k,D,rfl,c,n⟩:=hrel
  by_cases l:k<8
  ·have r:=h.old n;have B:=r.map;have y:=r.2.1;obtain⟨T, x⟩ := E7 (m.tat k)
   cases p:(m.tat k).busy with
   | true=>
    have q:=hid p;have s:=hid c;have u:=hid (show(.agg #[I T.data, E N T.tries, A T.opn]:Value)=if H then (m.tat k).blk else Hz by rw[<-x];rfl);clear x p r c
    go_wp2_with(at_lookup;refine Hl _ rfl _ _ rfl rfl y l rfl (.agg #[I T.data, E N T.tries, A T.opn]) H q.out u.out ?_)
    go_roundw
    case rel=>exact⟨k+1,by omega,by go_num,fun j z=>by
     by_cases e:j=k
     ·subst e;exact q.out
     ·exact s.out j (by omega),n.alloc n.size _⟩
    case measure=>simp[intOf];omega
   | false=>
    have q:=hid p;have t:=hid (SendM.ZW d l c p);have u:=hid (show(.agg #[I {data:=#[]}, E N 0, A C]:Value)=if C then (m.tat k).blk else Hz from rfl);clear x p r c
    go_wp2_with(at_lookup;refine Hl _ rfl _ _ rfl rfl y l rfl (.agg #[I {data:=#[]}, E N 0, A C]) C q.out u.out ?_);go_ret;rw[t.out];exact⟨rfl,n.alloc n.size _⟩
  ·have e:k=8:=by omega
   subst e;have t:=hid (SendM.Ac0 d c);clear c
   go_wp2_with fail;go_ret;rw[t.out];exact⟨rfl,n⟩
def SendM.waitTo(m:SendM)(k:Nat):List Int:=((List.range k).filter fun j=>(m.tat j).busy).map fun j:Nat=>(j:Int)
theorem SendM.UX{m:SendM}(h:(m.tat k).busy=H):m.waitTo (k+1)=m.waitTo k++[(k:Int)]:=by simp[SendM.waitTo,Az,h]
theorem SendM.I1{m:SendM}(h:(m.tat k).busy=C):m.waitTo (k+1)=m.waitTo k:=by simp[SendM.waitTo,Az,h]
theorem SendM.waitTo_len(m:SendM)(k:Nat):(m.waitTo k).length<=k:=by grind [SendM.waitTo]
theorem Vx(w:M)(hg:o.guard=G)(d:Operand)(c:o.op=Op.call {callee:=Callee.builtin Builtin.len,args:=#[d],argTypes:=#[209]})
 {m:SendM} (hm:a.eval d=.map (J bm)) (hB:BlkMap w bm m) (hK:wpList prog ops Q rest (a.put o.dst (.int N (m.Pf:Int))) w):wpList prog ops Q (o::rest) a w:=by
 obtain⟨D,e,h,_⟩:=hB;rw[<-h]at hK;exact wpList_len_own w hg d 209 c 3 213 underlying209 Ib bm 8 D hm e hK
theorem YC(n:Nat)(y:n<=8)(d:o.guard=G)(l c:Operand)(u:o.op=Op.makeSlice 74 l c)(t:a.eval l= E N 0)(r:a.eval c= E N (n:Int))
 (h:∀w',OwnI w' w.heap.size (.slice (J ⟨w.heap.size,0,G⟩) 0 n) []->Below w.heap.size w w'->wpList prog ops Q rest (a.put o.dst (.slice (J ⟨w.heap.size,0,G⟩) 0 n)) w'):wpList prog ops Q (o::rest) a w:=by
 obtain⟨x,hi,e,i,m⟩:=As Tryz.Wa;exact D4 w d l c 74 u w.heap.size 3 x (E N 0) 1 underlying74 hi e i N N _ n t r rfl (by rw[m];omega) (by unfold maxLen;omega) (Ac _) fun w' p q=>h w' p ((Ad _ w).grown q (Ac _) (by intro k s;cases s))
theorem YD{w0:M}{L:List Int}(B:Nat)(c:M)(y:Int)(g:Nat)(hg:g=w0.heap.size)(d:OwnI w0 B v L)(e:o.guard=G)(s x:Operand)
 (i:o.op=.call {callee:=.builtin .append,args:=#[s,x],argTypes:=#[74,74]}) (hs:a.eval s=v)
 (hx:a.eval x=.slice (J ⟨g,0,G⟩) 1 1) (hlen:L.length<8796093022208) (hbel:Below B c w0) (hB:B<=w0.heap.size)
 (h:∀v' w',OwnI w' B v' (L++[y])->Below B c w'->wpList prog ops Q rest (a.put o.dst v') w'):wpList prog ops Q (o::rest) a (w0.alloc (.cells #[E N y] 3)):=by
 subst hg;exact Rj B c y d e s x i hs hx hlen hbel hB h
theorem Pu{m:SendM}(h:PSend w g bm m):
 Calls prog 57 #[.pointer (J ⟨g,0,G⟩)] w fun e w'=>∃a c,e=.returned (.slice a (m.waitTo 8).length c)/\OwnI w' w.heap.size (.slice a (m.waitTo 8).length c) (m.waitTo 8)/\Below w.heap.size w w':=by
 have cm:=h.map;have x:=h.2.1;have U:=SendM.Td h.2.2.len;go_enter func57,ntmps57
 go_wp2_with(first
  | (at_len;refine Vx _ rfl _ rfl rfl x ?_)
  | (at_make;refine YC m.Pf U rfl _ _ rfl rfl rfl ?_;intro w1 u r))
 go_loopw [3,13] (fun v i wr=>∃k:Nat,k<=8/\i= E N k/\OwnI wr w.heap.size v (m.waitTo k)/\Below w.heap.size w wr) (fun v i _=>8-(intOf i).toNat)
 case atStart=>exact⟨0,by omega,rfl,u,r⟩
 case round=>
  clear u r;obtain⟨k,hk,rfl,z,q⟩:=hrel
  by_cases t:k<8
  ·have y:=h.old q;have cm:=y.map;have x:=y.2.1;have s:=SendM.waitTo_len m k;obtain⟨T, L⟩ := E7 (m.tat k)
   cases p:(m.tat k).busy with
   | true=>
    have B:=hid p;have K:=hid (SendM.UX p);have D:Hid ((m.waitTo k).length<8796093022208):=by show _<_;omega
    have F:=hid (show(.agg #[I T.data, E N T.tries, A T.opn]:Value)=if H then (m.tat k).blk else Hz by rw[<-L];rfl);have d:Below wr.heap.size wr (wr.alloc (.cells #[I T.data, E N T.tries, A T.opn] 213)):=(Ad _ wr).alloc (Ac _) _;have n:=z.below d;have l:=q.trans (d.mono q.size);clear L p y s d
    go_wp2_with(first
     | (at_lookup;refine Hl _ rfl _ _ rfl rfl x t rfl (.agg #[I T.data, E N T.tries, A T.opn]) H B.out F.out ?_)
     | (at_builtin;refine YD w.heap.size w (k:Int) (wr.heap.size+1) (by simp) n rfl _ _ rfl rfl rfl D.out l l.size ?_;intro v' w' aa R))
    go_roundw
    case rel=>exact⟨k+1,by omega,by go_num,by rw[K.out];exact aa,R⟩
    case measure=>simp[intOf];omega
   | false=>
    have B:=hid p;have K:=hid (SendM.I1 p);have F:=hid (show(.agg #[I {data:=#[]}, E N 0, A C]:Value)=if C then (m.tat k).blk else Hz from rfl);have d:Below wr.heap.size wr (wr.alloc (.cells #[I {data:=#[]}, E N 0, A C] 213)):=(Ad _ wr).alloc (Ac _) _;have n:=z.below d;have l:=q.trans (d.mono q.size);clear L p y s d
    go_wp2_with(at_lookup;refine Hl _ rfl _ _ rfl rfl x t rfl (.agg #[I {data:=#[]}, E N 0, A C]) C B.out F.out ?_)
    go_roundw
    case rel=>exact⟨k+1,by omega,by go_num,by rw[K.out];exact n,l⟩
    case measure=>simp[intOf];omega
  ·have e:k=8:=by omega
   subst e
   go_wp2_with fail;go_ret;obtain⟨a,c,rfl,_,_⟩:=OwnI.FC z;exact⟨a,c,rfl,z,q⟩
theorem Wy{m:SendM}(k:Nat)(t:TryM):(m.set k t).p.map (fun t=>A t.flag)=(m.p.map (fun t=>A t.flag)).set k (A t.flag):=by
 simp[SendM.set,Di]
theorem PSend.Yn{m:SendM}(h:PSend w g bm m)(c:k<8)(t:TryM):(w.setCell ⟨g,1+k,G⟩ (A t.flag)).heap[g]?=J (.cells (IV (m.set k t) bm) 211 (0,0)):=by
 refine(BK w g (1+k) _ _ (A t.flag) h.1).trans ?_;have d:=h.2.2.len;unfold IV;rw[Wy];simp[Nat.add_comm 1 k,DL,d,c,SendM.set]
theorem J1{m:SendM}(n:m.p.length=8)(l:k<8)(t:TryM)(ht:t.flag=(m.tat k).flag)(bm:Nat):IV (m.set k t) bm=IV m bm:=by
 unfold IV;have e:(m.set k t).p.map (fun t=>A t.flag)=m.p.map (fun t=>A t.flag):=by
  rw[Wy];refine AW (by simp) fun i d h=>?_
  rw[B4]
  split
  ·rename_i e;subst e;have c:k<m.p.length:=by omega
   simp[ht,SendM.tat,List.getD,c]
  ·rfl
 rw[e];rfl
theorem AgZ(l:Nat)(w:M)(d:1<=l)(h:l<=8):Calls prog 128 #[E N (l:Int)] w fun e w'=>∃g bm,e=.returned (.tuple #[.pointer (J ⟨g,0,G⟩), E N 0])/\w.heap.size<=g/\w.heap.size<=bm/\PSend w' g bm (SendM.new l)/\Below w.heap.size w w':=by
 have m:decide ((l:Int)<1)=C:=Ae (by omega);have n:decide ((8:Int)<(l:Int))=C:=Ae (by omega);have c:=SendM.XX d h;have i:=@run_makeMap prog;go_enter func128,ntmps128;go_wp2
 go_ret2;refine⟨w.heap.size+1,w.heap.size,?_,by omega,Ac _,⟨?_,(BlkMap.XT w l).alloc _,c⟩,((Ad _ w).alloc (Ac _) _).alloc (by simp) _⟩
 ·rfl
 ·exact heap_alloc2_new w _ _
theorem Yd{m:SendM}(h:PSend w g bm m)(s:ByteArray)(F:s.size<=1500)(k:Nat)(B:m.least=k)(r:k<8):
 Calls prog 110 #[.pointer (J ⟨g,0,G⟩), I s] w fun e w'=>e=.returned (.tuple #[E N (k:Int), E N 0])/\PSend w' g bm (m.set k ((m.tat k).Sf s))/\Kept [g,bm] w w':=by
 have R:decide ((1500:Int)<(s.size:Int))=C:=Ae (by omega);have T:((k:Int)==8)=C:=by simp;omega
 have q:=Adp h;rw[B]at q;have p:=h.ne;have d:=h.2.2;clear F B;go_enter func110,ntmps110
 go_wp2_with(go_at_call 158;refine q.mono ?_;rintro e w1 ⟨rfl,l⟩;have i:=h.old l;have cf:=i.flag r;have U:=i.free (1+k))
 go_region;have c:=i.Yn r ((m.tat k).Sf s);have L:(w1.setCell ⟨g,1+k,G⟩ (A (!(m.tat k).flag))).drew.cell? ⟨g,9,G⟩=J (.map (J bm)):=by
  have z:(⟨g,1+k,G⟩:Addr)≠⟨g,9,G⟩:=by grind
  exact(World.cell?_setCell_other w1 _ _ _ z).trans i.map
 have D:BlkMap (w1.setCell ⟨g,1+k,G⟩ (A (!(m.tat k).flag))).drew bm m:=i.2.1.same (BA w1 ⟨g,1+k,G⟩ _ bm (fun e=>p e.symm));have u:Kept [g,bm] w (w1.setCell ⟨g,1+k,G⟩ (A (!(m.tat k).flag))).drew:=((Kept.E5 l).setCell (by simp) _).drew;have c:(w1.setCell ⟨g,1+k,G⟩ (A (!(m.tat k).flag))).drew.heap[g]?=_:=c;have x:g<(w1.setCell ⟨g,1+k,G⟩ (A (!(m.tat k).flag))).drew.heap.size:=by grind
 generalize (w1.setCell ⟨g,1+k,G⟩ (A (!(m.tat k).flag))).drew=w2 at*
 go_wp2_with(at_mapUpdate;refine VA _ rfl _ _ _ rfl rfl D d.len r rfl ((m.tat k).Sf s) rfl rfl ?_;intro K t n)
 go_ret2;have y:Kept [bm] w2 K:=JG n (by simp);exact⟨rfl,⟨(y.block g x (by simpa using p)).trans c,t,d.set r (Sg d _ s)⟩,u.trans (JG n (by simp))⟩
end Go.Proofs.YtbjgfoiikhbonahGreatDoor
