import Derived.Test.YtbjgfoiikhbonahGreatDoorD11
import Derived.Laws.ResultCell
set_option linter.unusedVariables false
set_option linter.unusedSimpArgs false
set_option maxRecDepth 100000
set_option maxHeartbeats 4000000
namespace Go.Proofs.YtbjgfoiikhbonahGreatDoor
open Go.ChangeShapes Go.WideShapes Go.ChangeAt Go.RowKit Go.Maps Go.Proofs.Tryz
open Value (int string)
open IntKind (i64)
variable {P:Program}{Q:Exit->Act->World->Prop}{S:List Nat}{a:Act}{b bm g j k:Nat}{o:Oper}{ops:Array Oper}{rest:List Oper}{v:Value}{w w':World}
def Ld (x:ShotM):Int:=if RF x=false then 1 else if 1500<x.data.size then 2 else 0
theorem AdN(x:ShotM):(Hd x.process=1/\Ld x=1)\/(Hd x.process=0/\x.version<0/\Ld x=1)\/(Hd x.process=0/\0<=x.version/\4<=x.version/\Ld x=1)\/(Hd x.process=0/\0<=x.version/\x.version<4/\1500<x.data.size/\Ld x=2)\/(Hd x.process=0/\0<=x.version/\x.version<4/\x.data.size<=1500/\Ld x=0):=by simp_all[Hd,Ld,RF];grind
theorem Ul(x:ShotM)(w:World):Calls prog 165 #[x.val] w fun e w'=>e=.returned (int i64 (Ld x))/\Below w.heap.size w w':=by
 have c:=fun s=>JY x.process s
 have h:Below w.heap.size w (w.alloc (.cells #[int i64 x.process,int i64 x.version,.bool x.flag,string x.data] 127)):=(Ad _ w).alloc (Ac _) _;unfold ShotM.val
 rcases AdN x with⟨f,d⟩ | ⟨f,l,d⟩ | ⟨f,l,m,d⟩ | ⟨f,l,m,p,d⟩ | ⟨f,l,m,p,d⟩
 ·have i:=hid d.symm;rw[f]at c;clear d f;go_enter func165,ntmps165
  go_wp2_with(go_at_call 159;refine(c _).mono ?_;rintro e w1 ⟨rfl,rfl⟩);go_ret;exact⟨by rw[<-i.out];rfl,h⟩
 ·have i:=hid d.symm;rw[f]at c;have n:decide (x.version<0)=true:=Ag l;clear d f l;go_enter func165,ntmps165
  go_wp2_with(go_at_call 159;refine(c _).mono ?_;rintro e w1 ⟨rfl,rfl⟩);go_ret;exact⟨by rw[<-i.out];rfl,h⟩
 ·have i:=hid d.symm;rw[f]at c;have n:decide (x.version<0)=false:=Ae (by omega);have q:decide (4<=x.version)=true:=Ag m;clear d f l m;go_enter func165,ntmps165
  go_wp2_with(go_at_call 159;refine(c _).mono ?_;rintro e w1 ⟨rfl,rfl⟩);go_ret;exact⟨by rw[<-i.out];rfl,h⟩
 ·have i:=hid d.symm;rw[f]at c;have n:decide (x.version<0)=false:=Ae (by omega);have q:decide (4<=x.version)=false:=Ae (by omega);have r:decide ((1500:Int)<(x.data.size:Int))=true:=Ag (by omega);clear d f l m p;go_enter func165,ntmps165
  go_wp2_with(go_at_call 159;refine(c _).mono ?_;rintro e w1 ⟨rfl,rfl⟩);go_ret;exact⟨by rw[<-i.out];rfl,h⟩
 ·have i:=hid d.symm;rw[f]at c;have n:decide (x.version<0)=false:=Ae (by omega);have q:decide (4<=x.version)=false:=Ae (by omega);have r:decide ((1500:Int)<(x.data.size:Int))=false:=Ae (by omega);clear d f l m p;go_enter func165,ntmps165
  go_wp2_with(go_at_call 159;refine(c _).mono ?_;rintro e w1 ⟨rfl,rfl⟩);go_ret;exact⟨by rw[<-i.out];rfl,h⟩
theorem Adt{r:RecvM}(hT:RTakes 302 w g r)(k:Nat)(i:Int)(c:Bool)(d:ByteArray)(hd:Bool)(J:k<8)(hv:P9 i=true)(hs:d.size<=1500):
 Calls prog 113 #[.pointer (some ⟨g,0,none⟩),(ShotM.mk (k:Int) i c d).val,.bool hd] w fun e w'=>e=.returned (r.J7 ⟨(k:Int),i,c,d⟩ hd).val/\RTakes 302 w' g (r.next ⟨(k:Int),i,c,d⟩ hd)/\Kept [g] w w':=by
 have hE:Ld ⟨(k:Int),i,c,d⟩=0:=by
  grind [Ld,P5]
 have M:=fun wz=>Ul ⟨(k:Int),i,c,d⟩ wz
 rw[hE]at M;have L:Below w.heap.size w (w.alloc (.cells #[int i64 k,int i64 i,.bool c,string d] 127)):=(Ad _ w).alloc (Ac _) _;have ab:=hT.lt;have Y:=hT.old L;have hq:(w.alloc (.cells #[int i64 k,int i64 i,.bool c,string d] 127)).heap[w.heap.size]?=_:=Am w _;have b0:(w.alloc (.cells #[int i64 k,int i64 i,.bool c,string d] 127)).cell? ⟨w.heap.size,0,none⟩=some (int i64 (k:Int)):=by rw[Al _ _ _ _ _ _ hq];rfl
 have b2:(w.alloc (.cells #[int i64 k,int i64 i,.bool c,string d] 127)).cell? ⟨w.heap.size,2,none⟩=some (.bool c):=by rw[Al _ _ _ _ _ _ hq];rfl
 have b3:(w.alloc (.cells #[int i64 k,int i64 i,.bool c,string d] 127)).cell? ⟨w.heap.size,3,none⟩=some (string d):=by rw[Al _ _ _ _ _ _ hq];rfl
 obtain⟨x,V⟩:=E7 w.heap.size;have D:x≠g:=by omega
 clear hq hE;unfold ShotM.val at*;dsimp only at M;go_enter func113,ntmps113
 go_wp2_with(go_at_call 165;refine(M _).mono ?_;rintro e w1 ⟨rfl,C⟩;have A:=Y.old C;have F:Below w.heap.size w w1:=L.trans (C.mono L.size);have c0:=SU C b0;have c2:=SU C b2;have c3:=SU C b3;rw[<-V]at c0 c2 c3 |-;clear V b0 b2 b3 Y C L M);have cf:=A.flag J;obtain⟨fl,O⟩:=E7 (r.flag.getD k false);rw[<-O]at cf;have U:=hid O;clear O;have s:=AdJ r k i c d hd J hv hs;have q:=Ac8 r k i c d hd J hv hs
 go_region;have A:=A.drew;have F:=F.drew
 by_cases R:fl=c
 ·have qf:(!(fl==c))=false:=by simp[R]
  rw[qf];have I:r.turned ⟨(k:Int),i,c,d⟩=r:=by unfold RecvM.turned;rw[AN,<-U.out,Ab R]
  obtain⟨T,N⟩:=E7 (r.turned ⟨(k:Int),i,c,d⟩);have t:RTakes 302 w1.drew g T:=by rw[N,I];exact A
  rw[<-N]at s q;have m:=hid s;have l:=hid q;have z:Kept [g] w w1.drew:=Kept.E5 F;have c0:w1.drew.cell? ⟨x,0,none⟩=_:=c0;have c3:w1.drew.cell? ⟨x,3,none⟩=_:=c3
  go_wp2_with fail;generalize w1.drew=E at*;clear s q I N R;have ch:=t.heard J;have G:=t.free (8+k);have f:=t.QZ J true;have y:=z.setCell (p:=⟨g,8+k,none⟩) (by simp) (.bool true);obtain⟨h,u⟩:=E7 (T.heard.getD k false);rw[<-u]at ch
  cases h with
  | true=>
   have B:(RecvM.mk T.flag (T.heard.set k true))=T:=by
    obtain⟨tf,th⟩:=T;rw[Abl u.symm]
   have H:RTakes 302 E g (r.next ⟨(k:Int),i,c,d⟩ hd):=by
    rw[l.out]
    grind
   have n:=hid (show r.J7 ⟨(k:Int),i,c,d⟩ hd=⟨ByteArray.empty,false,true,0⟩by rw[m.out,<-u];rfl);clear B f y u
   go_region
   go_wp2_with fail
   (try simp only[Exit.inBlock,Exit.then]);refine Ah (IU rfl _ _ _) rfl ?_
   rw[n.out];exact⟨rfl,H.drew,z.drew⟩
  | false=>
   cases hd with
   | false=>
    have H:RTakes 302 E g (r.next ⟨(k:Int),i,c,d⟩ false):=by rw[l.out];exact t
    have n:=hid (show r.J7 ⟨(k:Int),i,c,d⟩ false=⟨ByteArray.empty,false,false,0⟩by rw[m.out,<-u];rfl);clear f y u
    go_region
    go_wp2_with fail
    (try simp only[Exit.inBlock,Exit.then]);refine Ah (IU rfl _ _ _) rfl ?_
    rw[n.out];exact⟨rfl,H.drew,z.drew⟩
   | true=>
    have H:RTakes 302 (E.setCell ⟨g,8+k,none⟩ (.bool true)) g (r.next ⟨(k:Int),i,c,d⟩ true):=by rw[l.out];exact f
    have n:=hid (show r.J7 ⟨(k:Int),i,c,d⟩ true=⟨d,true,true,0⟩by rw[m.out,<-u];rfl);have c4:(E.setCell ⟨g,8+k,none⟩ (.bool true)).cell? ⟨x,3,none⟩=some (string d):=(AF (w:=E) (BA E ⟨g,8+k,none⟩ (.bool true) x (fun e=>D e))).trans c3;clear f u
    go_region
    go_wp2_with fail
    go_region;go_wp2_with fail
    (try simp only[Exit.inBlock,Exit.then]);refine Ah (IU rfl _ _ _) rfl ?_
    rw[n.out];exact⟨rfl,H.drew.drew,y.drew.drew⟩
 ·have qf:(!(fl==c))=true:=by simpa using R
  rw[qf]
  go_wp2_with fail;have G:=A.free k;have K:=(A.Yn J c).drew;have W:=((Kept.E5 F:Kept [g] w w1.drew).setCell (p:=⟨g,k,none⟩) (by simp) (.bool c)).drew;have d0:(w1.drew.setCell ⟨g,k,none⟩ (.bool c)).drew.cell? ⟨x,0,none⟩=some (int i64 (k:Int)):=(AF (w:=w1) (BA w1 ⟨g,k,none⟩ (.bool c) x (fun e=>D e))).trans c0;have d3:(w1.drew.setCell ⟨g,k,none⟩ (.bool c)).drew.cell? ⟨x,3,none⟩=some (string d):=(AF (w:=w1) (BA w1 ⟨g,k,none⟩ (.bool c) x (fun e=>D e))).trans c3
  go_region
  go_wp2_with fail;rw[show(w1.setCell ⟨g,k,none⟩ (.bool c)).drew.drew=(w1.drew.setCell ⟨g,k,none⟩ (.bool c)).drew from rfl];generalize (w1.drew.setCell ⟨g,k,none⟩ (.bool c)).drew=w2 at*;clear A F c0 c2 c3 cf G;have G:=K.free (8+k);have aa:=K.heard J;have Z:=(K.QZ J false).drew;have X:=(W.setCell (p:=⟨g,8+k,none⟩) (by simp) (.bool false)).drew;have c0:(w2.setCell ⟨g,8+k,none⟩ (.bool false)).drew.cell? ⟨x,0,none⟩=some (int i64 (k:Int)):=(AF (w:=w2) (BA w2 ⟨g,8+k,none⟩ (.bool false) x (fun e=>D e))).trans d0;have c3:(w2.setCell ⟨g,8+k,none⟩ (.bool false)).drew.cell? ⟨x,3,none⟩=some (string d):=(AF (w:=w2) (BA w2 ⟨g,8+k,none⟩ (.bool false) x (fun e=>D e))).trans d3
  go_region
  go_wp2_with fail;have I:r.turned ⟨(k:Int),i,c,d⟩=⟨r.flag.set k c,r.heard.set k false⟩:=by unfold RecvM.turned;rw[AN,<-U.out,Aa R]
  obtain⟨T,N⟩:=E7 (r.turned ⟨(k:Int),i,c,d⟩);have t:RTakes 302 (w2.setCell ⟨g,8+k,none⟩ (.bool false)).drew g T:=by rw[N,I];exact Z
  have z:=X;rw[<-N]at s q;have m:=hid s;have l:=hid q;generalize (w2.setCell ⟨g,8+k,none⟩ (.bool false)).drew=E at*;clear s q I N R K W d0 d3 G aa Z X;have ch:=t.heard J;have G:=t.free (8+k);have f:=t.QZ J true;have y:=z.setCell (p:=⟨g,8+k,none⟩) (by simp) (.bool true);obtain⟨h,u⟩:=E7 (T.heard.getD k false);rw[<-u]at ch
  cases h with
  | true=>
   have B:(RecvM.mk T.flag (T.heard.set k true))=T:=by
    obtain⟨tf,th⟩:=T;rw[Abl u.symm]
   have H:RTakes 302 E g (r.next ⟨(k:Int),i,c,d⟩ hd):=by
    rw[l.out]
    grind
   have n:=hid (show r.J7 ⟨(k:Int),i,c,d⟩ hd=⟨ByteArray.empty,false,true,0⟩by rw[m.out,<-u];rfl);clear B f y u
   go_region
   go_wp2_with fail
   (try simp only[Exit.inBlock,Exit.then]);refine Ah (IU rfl _ _ _) rfl ?_
   rw[n.out];exact⟨rfl,H.drew,z.drew⟩
  | false=>
   cases hd with
   | false=>
    have H:RTakes 302 E g (r.next ⟨(k:Int),i,c,d⟩ false):=by rw[l.out];exact t
    have n:=hid (show r.J7 ⟨(k:Int),i,c,d⟩ false=⟨ByteArray.empty,false,false,0⟩by rw[m.out,<-u];rfl);clear f y u
    go_region
    go_wp2_with fail
    (try simp only[Exit.inBlock,Exit.then]);refine Ah (IU rfl _ _ _) rfl ?_
    rw[n.out];exact⟨rfl,H.drew,z.drew⟩
   | true=>
    have H:RTakes 302 (E.setCell ⟨g,8+k,none⟩ (.bool true)) g (r.next ⟨(k:Int),i,c,d⟩ true):=by rw[l.out];exact f
    have n:=hid (show r.J7 ⟨(k:Int),i,c,d⟩ true=⟨d,true,true,0⟩by rw[m.out,<-u];rfl);have c4:(E.setCell ⟨g,8+k,none⟩ (.bool true)).cell? ⟨x,3,none⟩=some (string d):=(AF (w:=E) (BA E ⟨g,8+k,none⟩ (.bool true) x (fun e=>D e))).trans c3;clear f u
    go_region
    go_wp2_with fail
    go_region;go_wp2_with fail
    (try simp only[Exit.inBlock,Exit.then]);refine Ah (IU rfl _ _ _) rfl ?_
    rw[n.out];exact⟨rfl,H.drew.drew,y.drew.drew⟩
theorem Pv{I:Nat}{f:List Value}(n k u:Nat)(S:List Nat)(U:World->Prop)(tb:List (Nat×Value))(reads:List (List Nat))(d:List Nat)(wr:World)(D:P.follows .mixedOrders=true)(E:ops.size=n)(x:k<n)
 (m:tb.length=k) (p:(tb.map (·.1)).Nodup) (t:((tb.map (·.1)).all fun s=>decide (s<f.length))=true)
 (c:((List.range k).all fun i=>(reads.getD i []).all fun s=>(List.range k).all fun j=>((tb.map (·.1)).getD j 0 !=s) || Ff ops i j)=true) (l:((List.range n).all fun i=>Gt ops i)=true)
 (z:((List.range k).all fun i=>(reads.getD i []).all fun s=>decide (s<f.length))=true)
 (q:((List.range k).all fun j=>decide (j<d.getD j 0) && (decide (d.getD j 0<=k) && Ff ops (d.getD j 0) j))=true) (h:((List.range n).all fun i=>decide (i<=k) || Ff ops i (i-1))=true)
 (J:∀w w',U w->Kept [] w w'->U w')
 (A:∀i,i<k->i≠u->∀(a:Act) (w:World),Kept S wr w->(∀s∈reads.getD i [],a.eval (.tmp s)=lkp f tb s)->∀(Q:Exit->Act->World->Prop) (K:Act->World->Prop),(∀w',Kept [] w w'->K (a.put (some (tb.getD i (0,undef)).1) (tb.getD i (0,undef)).2) w')->wpOp P ops Q i K a w)
 (r:u<k->∀(a:Act) (w:World),Below wr.heap.size wr w->(∀s∈reads.getD u [],a.eval (.tmp s)=lkp f tb s)->∀(Q:Exit->Act->World->Prop) (K:Act->World->Prop),(∀w',Kept S w w'->U w'->K (a.put (some (tb.getD u (0,undef)).1) (tb.getD u (0,undef)).2) w')->wpOp P ops Q u K a w)
 (y:∀w,Kept S wr w->(u<k->U w)->LI P ops Q (List.range' k (n-k)) {tmps:=(Ft f tb).toArray,defers:=[]} w):
 (Code.region I ops true).wp P Q {tmps:=f.toArray,defers:=[]} wr:=by
 have B:=QE tb;have F:∀i,i<k->∀(σ:Nat->Value),(∀j,j<k->Ff ops i j=true->σ j=(tb.getD j (0,undef)).2)->∀s∈reads.getD i [],lkp f (tbS (tb.map (·.1)) k σ) s=lkp f tb s:=fun i hi σ H s G=>We m p fun j C e=>H j C (UY c hi G C e)
 refine Ox n k u S (tb.map (·.1)) reads d (fun j σ w=>σ j=(tb.getD j (0,undef)).2/\(j=u->U w)) wr D E x (by simp[m]) p t c l z q h ?_ ?_ ?_ ?_ ?_
 ·grind
 ·grind
 ·grind
 ·grind
 grind [WJ]
theorem NH(w:World):Kept [] w w:=Kept.refl _ w
structure TryM where
 busy:Bool
 flag:Bool
 opn:Bool
 data:ByteArray
 tries:Nat
def TryM.zero:TryM:=⟨false,false,false,ByteArray.empty,0⟩
def TryM.blk(t:TryM):Value:=.agg #[string t.data,int i64 t.tries,.bool t.opn]
structure SendM where
 limit:Nat
 p:List TryM
def SendM.new(l:Nat):SendM:=⟨l,List.replicate 8 TryM.zero⟩
def SendM.tat(m:SendM)(k:Nat):TryM:=m.p.getD k TryM.zero
def TryM.right(limit:Nat)(t:TryM):Prop:=t.busy=true->(t.opn=true->1<=t.tries/\t.tries<=limit)/\(t.opn=false->t.tries<limit)
structure SendM.Ok(m:SendM):Prop where
 len:m.p.length=8
 low:1<=m.limit
 high:m.limit<=8
 each:∀k,k<8->(m.tat k).right m.limit
def SendM.set(m:SendM)(k:Nat)(t:TryM):SendM:=⟨m.limit,m.p.set k t⟩
theorem SendM.Lf{m:SendM}(h:m.p.length=8)(c:k<8)(t:TryM)(j:Nat):(m.set k t).tat j=if j=k then t else m.tat j:=by grind [SendM.tat,SendM.set]
theorem SendM.Ok.set{m:SendM}(h:m.Ok){k:Nat}(d:k<8){t:TryM}(ht:t.right m.limit):(m.set k t).Ok:=by
 refine⟨by simp[SendM.set,h.len],h.low,h.high,fun j c=>?_⟩;rw[SendM.Lf h.len d]
 split
 ·exact ht
 ·exact h.each j c
theorem SendM.XX{l:Nat}(c:1<=l)(d:l<=8):(SendM.new l).Ok:=by
 refine⟨by simp[SendM.new],c,d,fun k f=>?_⟩;have e:(SendM.new l).tat k=TryM.zero:=by
  simp only[SendM.tat,SendM.new,List.getD,DA]
  split<;>rfl
 rw[e];intro h
 cases h
def SendM.Pf(m:SendM):Nat:=m.p.countP (·.busy)
theorem SendM.Td{m:SendM}(h:m.p.length=8):m.Pf<=8:=by rw[<-h];exact List.countP_le_length
theorem SendM.VM{m:SendM}(h:m.p.length=8)(f:k<8)(t:TryM):(m.set k t).Pf+(if (m.tat k).busy then 1 else 0)=m.Pf+(if t.busy then 1 else 0):=by
 have c:k<m.p.length:=by omega
 have e:m.tat k=m.p[k]:=by simp[SendM.tat,List.getD,c]
 rw[e];have d:=List.countP_set (p:=fun x:TryM=>x.busy) (l:=m.p) (i:=k) (a:=t) c
 show List.countP _ (m.p.set k t)+_=List.countP _ m.p+_
 grind
def SendM.least(m:SendM):Nat:=m.p.findIdx (fun t=>!t.busy)
theorem SendM.least_le{m:SendM}(h:m.p.length=8):m.least<=8:=by rw[<-h];exact List.findIdx_le_length
theorem SendM.TT{m:SendM}(h:m.p.length=8)(c:m.least<8):(m.tat m.least).busy=false:=by grind [SendM.tat,SendM.least]
theorem SendM.AcZ{m:SendM}(h:m.p.length=8)(f:j<m.least):(m.tat j).busy=true:=by
 have d:=List.not_of_lt_findIdx (p:=fun t:TryM=>!t.busy) (xs:=m.p) (i:=j) f;have c:j<m.p.length:=by have:=SendM.least_le h;omega
 have e:m.tat j=m.p[j]:=by simp[SendM.tat,List.getD,c]
 rw[e]
 simpa using d
theorem SendM.ZW{m:SendM}(h:m.p.length=8)(e:k<8)(c:∀j,j<k->(m.tat j).busy=true)(d:(m.tat k).busy=false):m.least=k:=by grind [SendM.TT,SendM.AcZ]
theorem SendM.Ac0{m:SendM}(h:m.p.length=8)(c:∀j,j<8->(m.tat j).busy=true):m.least=8:=by grind [SendM.least_le,SendM.TT]
def PA (t:Nat):Int:=([0,2,3,1]:List Int).getD (t % 4) 0
def TryM.tried(t:TryM):TryM:=⟨t.busy,t.flag,true,t.data,t.tries+1⟩
def SendM.done(m:SendM)(k:Nat)(yes:Bool):Bool:=yes || decide (m.limit<=(m.tat k).tries)
def SendM.GI(m:SendM)(k:Nat)(yes:Bool):TryM:=⟨!m.done k yes,(m.tat k).flag,false,(m.tat k).data,(m.tat k).tries⟩
def TryM.Sf(t:TryM)(d:ByteArray):TryM:=⟨true,!t.flag,false,d,0⟩
theorem SH{m:SendM}(h:m.Ok)(d:k<8)(c:(m.tat k).busy=true)(f:(m.tat k).opn=false):(m.tat k).tried.right m.limit:=by
 have:=(h.each k d c).2 f;intro _;exact⟨fun _=>⟨by show 1<=(m.tat k).tries+1;omega,by show(m.tat k).tries+1<=_;omega⟩,fun e=>by cases e⟩
theorem Sg{m:SendM}(h:m.Ok)(t:TryM)(d:ByteArray):(t.Sf d).right m.limit:=fun _=>⟨fun e=>(by cases e),fun _=>h.low⟩
theorem NU(m:SendM)(k:Nat)(yes:Bool):(m.GI k yes).right m.limit:=by
 intro d;refine⟨fun e=>(by cases e),fun _=>?_⟩;have c:(!m.done k yes)=true:=d;unfold SendM.done at c;have f:¬m.limit<=(m.tat k).tries:=by simp at c;omega
 show(m.tat k).tries<m.limit;omega
def Ib (v:Value):Option (DataW Value×List MemPlace):=some (.held v,[])
theorem Tryz.Agp:Keyed prog 3:=int_keyed underlying3
theorem Tryz.Apa(w:World):(zeroValue 213).run prog w=.ok (.agg #[string {data:=#[]},int i64 0,.bool false]) w:=by kernel_rfl
theorem AlA(h:k<8):keyOf prog 3 (.int i64 (k:Int))=some (.int i64 (k:Int)):=keyOf_int_mk underlying3 (Cy (by omega))
theorem AeO(k:Int):WideAt.IsKeyLit (.int i64 k):=by simp[WideAt.IsKeyLit]
theorem SX(h:j≠k):Lit.int i64 (j:Int)≠Lit.int i64 (k:Int):=by
 grind
def BlkMap(w:World)(bm:Nat)(m:SendM):Prop:=∃D:DataW Value,w.ownsMap prog 3 Ib bm 8 D/\Maps.size D=m.Pf/\∀k:Nat,k<8->Maps.has D (.int i64 (k:Int))=(m.tat k).busy/\((m.tat k).busy=true->∀z,D.atKey (.int i64 (k:Int)) z=.held (m.tat k).blk)
theorem Ms{k:TypeId}{R:Value->Option (DataW Value×List MemPlace)}{n n':Nat}{D:DataW Value}(h:w.ownsMap P k R b n D)(e:Maps.size D<=n'):w.ownsMap P k R b n' D:=by
 obtain⟨es,c,d,F,_,rfl⟩:=h;refine⟨es,c,d,F,?_,rfl⟩
 simpa [Maps.size,DB]using e
theorem BlkMap.same{m:SendM}(h:BlkMap w bm m)(e:w'.heap[bm]?=w.heap[bm]?):BlkMap w' bm m:=by
 obtain⟨D,⟨es,c,f,F,i,d⟩,r⟩:=h;exact⟨D,⟨es,c,by rw[e];exact f,F,i,d⟩,r⟩
theorem BlkMap.lt{m:SendM}(h:BlkMap w bm m):bm<w.heap.size:=by
 obtain⟨D,h,_⟩:=h;exact CQ h
theorem BlkMap.XT(w:World)(l:Nat):BlkMap (w.alloc (.map #[] 0)) w.heap.size (SendM.new l):=by
 refine⟨.map [],Ms (C9 w _ _ _) (by simp[Maps.size]),?_,fun k c=>?_⟩
 ·show 0=List.countP _ (List.replicate 8 TryM.zero)
  decide
 ·have e:(SendM.new l).tat k=TryM.zero:=by
   simp only[SendM.tat,SendM.new,List.getD,DA]
   split<;>rfl
  rw[e];exact⟨rfl,fun h=>by cases h⟩
theorem BlkMap.put{w w':World}{bm:Nat}{m:SendM}{D:DataW Value}{n:Nat}(i:m.p.length=8){k:Nat}(f:k<8)(t:TryM)(ht:t.busy=true)(l:w.ownsMap prog 3 Ib bm 8 D)(s:Maps.size D=m.Pf)(d:∀k:Nat,k<8->Maps.has D (.int i64 (k:Int))=(m.tat k).busy/\((m.tat k).busy=true->∀z,D.atKey (.int i64 (k:Int)) z=.held (m.tat k).blk))
 (h:w'.ownsMap prog 3 Ib bm n (D.put (.int i64 (k:Int)) (.held t.blk))):BlkMap w' bm (m.set k t):=by
 have c:Maps.size (D.put (.int i64 (k:Int)) (.held t.blk))=(m.set k t).Pf:=by
  rw[size_put (l.tidy Tryz.Agp),(d k f).1,s];have:=SendM.VM i f t
  grind
 refine⟨_,Ms h (by rw[c];exact SendM.Td (by simp[SendM.set,i])),c,fun j q=>?_⟩;rw[SendM.Lf i f]
 by_cases e:j=k
 ·subst e;rw[Ab rfl,has_put_same l.isMap (AeO _),ht];exact⟨rfl,fun _ z=>atKey_put_same l.isMap (AeO _) _ _⟩
 ·rw[Aa e,has_put_other (SX e)];exact⟨(d j q).1,fun r z=>by rw[atKey_put_other (SX e)];exact(d j q).2 r z⟩
theorem BlkMap.del{w w':World}{bm:Nat}{m:SendM}{D:DataW Value}{n:Nat}(i:m.p.length=8){k:Nat}(f:k<8)(t:TryM)(ht:t.busy=false)(s:w.ownsMap prog 3 Ib bm 8 D)(u:Maps.size D=m.Pf)(d:∀k:Nat,k<8->Maps.has D (.int i64 (k:Int))=(m.tat k).busy/\((m.tat k).busy=true->∀z,D.atKey (.int i64 (k:Int)) z=.held (m.tat k).blk))
 (h:w'.ownsMap prog 3 Ib bm n (D.del (.int i64 (k:Int)))):BlkMap w' bm (m.set k t):=by
 have c:Maps.size (D.del (.int i64 (k:Int)))=(m.set k t).Pf:=by
  have q:=size_del (k:=.int i64 (k:Int)) (s.tidy Tryz.Agp);rw[(d k f).1,u]at q;have:=SendM.VM i f t
  grind
 refine⟨_,Ms h (by rw[c];exact SendM.Td (by simp[SendM.set,i])),c,fun j l=>?_⟩;rw[SendM.Lf i f]
 by_cases e:j=k
 ·subst e;rw[Ab rfl,has_del_same,ht];exact⟨rfl,fun h=>by cases h⟩
 ·rw[Aa e,has_del_other (SX e)];exact⟨(d j l).1,fun r z=>by rw[atKey_del_other (SX e)];exact(d j l).2 r z⟩
theorem Ai4{x:DataW Value}{ps:List MemPlace}(h:Ib v=some (x,ps)):x=.held v:=by
 unfold Ib at h;simp at h;exact h.1.symm
def IV (m:SendM)(bm:Nat):Array Value:=(int i64 m.limit::m.p.map (fun t=>Value.bool t.flag)++[Value.map (some bm)]).toArray
def PSend(w:World)(g bm:Nat)(m:SendM):Prop:=w.heap[g]?=some (.cells (IV m bm) 211 (0,0))/\BlkMap w bm m/\m.Ok
theorem PSend.lt{m:SendM}(h:PSend w g bm m):g<w.heap.size:=(Array.getElem?_eq_some_iff.1 h.1).1
theorem PSend.ne{m:SendM}(h:PSend w g bm m):g≠bm:=by
 rintro rfl;obtain⟨D,⟨es,c,d,_⟩,_⟩:=h.2.1;rw[h.1]at d
 cases d
theorem PSend.old{m:SendM}(h:PSend w g bm m)(c:Below w.heap.size w w'):PSend w' g bm m:=⟨(c.block g h.lt).trans h.1,h.2.1.same (c.block bm h.2.1.lt),h.2.2⟩
theorem PSend.kept{m:SendM}(h:PSend w g bm m)(c:Kept S w w')(d:g∉S)(e:bm∉S):PSend w' g bm m:=⟨(c.block g h.lt d).trans h.1,h.2.1.same (c.block bm h.2.1.lt e),h.2.2⟩
theorem PSend.drew{m:SendM}(h:PSend w g bm m):PSend w.drew g bm m:=⟨h.1,h.2.1.same rfl,h.2.2⟩
theorem PSend.limit{m:SendM}(h:PSend w g bm m):w.cell? ⟨g,0,none⟩=some (int i64 m.limit):=by
 rw[Al _ _ _ _ _ _ h.1];simp[IV]
theorem PSend.flag{m:SendM}(h:PSend w g bm m)(d:k<8):w.cell? ⟨g,1+k,none⟩=some (.bool (m.tat k).flag):=by
 have e:=h.2.2.len;have c:k<m.p.length:=by omega
 rw[Al _ _ _ _ _ _ h.1];simp[IV,SendM.tat,List.getD,c,Nat.add_comm 1 k,BB]
theorem PSend.map{m:SendM}(h:PSend w g bm m):w.cell? ⟨g,9,none⟩=some (.map (some bm)):=by
 have c:=h.2.2.len;rw[Al _ _ _ _ _ _ h.1];simp[IV,c]
theorem PSend.free{m:SendM}(h:PSend w g bm m)(k:Nat):w.frozen? ⟨g,k,none⟩=false:=Bz w g k _ _ h.1
def Hz:Value:=.agg #[string {data:=#[]},int i64 0,.bool false]
theorem BlkMap.alloc{m:SendM}(h:BlkMap w bm m)(o:Obj):BlkMap (w.alloc o) bm m:=h.same (Bc w o bm h.lt)
theorem Hl(w:World)(hg:o.guard=none)(l x:Operand)(i:o.op=Op.lookup 209 l x true)
 {m:SendM} (q:a.eval l=.map (some bm)) (p:BlkMap w bm m) (e:k<8) (t:a.eval x=.int i64 (k:Int)) (v:Value) (b:Bool) (h:(m.tat k).busy=b) (n:v=if b then (m.tat k).blk else Hz)
 (d:wpList prog ops Q rest (a.put o.dst (.tuple #[v,.bool b])) w):wpList prog ops Q (o::rest) a w:=by
 obtain⟨D,r,_,f⟩:=p;refine wpList_lookup_own_ok w hg l x 209 i 3 213 Tryz.Agp underlying209 Ib (Tryz.Apa w) (.held Hz) [] rfl bm 8 D q r _ _ t (AlA e) (fun u ps s=>?_);have c:=Ai4 s;rw[(f k e).1,h]
 cases b with
 | true=>
  rw[(f k e).2 h]at c
  injection c with c
  subst n;rw[Ab rfl,c]at d;exact d
 | false=>
  rw[atKey_of_not_has (by rw[(f k e).1];exact h)]at c
  injection c with c
  subst n;rw[Aa (by simp),c]at d;exact d
theorem JG(h:w.grownBy w' (some b))(c:b∈S):Kept S w w':=⟨h.os,h.tape,h.output,h.size,fun k d f=>h.block k d (fun e=>f (by injection e with e;rw[e];exact c))⟩
theorem VA(w:World)(hg:o.guard=none)(e x v:Operand)(d:o.op=Op.mapUpdate 209 e x v)
 {m:SendM} (s:a.eval e=.map (some bm)) (n:BlkMap w bm m) (c:m.p.length=8) (f:k<8) (z:a.eval x=.int i64 (k:Int)) (t:TryM) (ht:t.busy=true) (y:a.eval v=t.blk)
 (r:∀w',BlkMap w' bm (m.set k t)->w.grownBy w' (some bm)->wpList prog ops Q rest (a.put o.dst undef) w'):wpList prog ops Q (o::rest) a w:=by
 obtain⟨D,h,u,q⟩:=n;exact EC w hg e x v 209 d 3 213 Tryz.Agp underlying209 Ib bm 8 D s h (by unfold maxLen;omega) _ _ _ z y (AlA f) (.held t.blk) [] rfl (fun w' i l=>r w' (BlkMap.put c f t ht h u q i) l)
theorem AdG{ρ:Operand->Value}(w:World)(i x v:Operand)(e:o.op=Op.mapUpdate 209 i x v)
 {m:SendM} (s:ρ i=.map (some bm)) (q:BlkMap w bm m) (c:m.p.length=8) (f:k<8) (z:ρ x=.int i64 (k:Int)) (t:TryM) (ht:t.busy=true) (y:ρ v=t.blk):
 ∃w',(execOp ρ o).run prog w=.ok .skip w'/\BlkMap w' bm (m.set k t)/\w.grownBy w' (some bm):=by
 obtain⟨D,h,u,r⟩:=q;obtain⟨w',d,l,n⟩:=h.update Tryz.Agp underlying209 (by unfold maxLen;omega) (AlA f) (show Ib t.blk=some (.held t.blk,[])from rfl);refine⟨w',?_,BlkMap.put c f t ht h u r l,n⟩;simp[execOp,e,s,z,y,d,Result.andThen]
theorem Wk{i:Nat}{K:Act->World->Prop}(hi:ops[i]?=some o)(hg:o.guard=none)(f x v:Operand)(e:o.op=Op.mapUpdate 209 f x v)
 {m:SendM} (n:BlkMap w bm m) (c:m.p.length=8) (r:k<8) (t:TryM) (ht:t.busy=true) (s:a.eval f=.map (some bm)) (y:a.eval x=int i64 (k:Int)) (u:a.eval v=t.blk)
 (q:∀w',BlkMap w' bm (m.set k t)->w.grownBy w' (some bm)->K (a.put o.dst undef) w'):wpOp prog ops Q i K a w:=by
 obtain⟨w',d,h,l⟩:=AdG w f x v e s n c r y t ht u;exact Aak hi hg d (q w' h l)
theorem PC(w:World)(hg:o.guard=none)(d x:Operand)(c:o.op=Op.call {callee:=Callee.builtin Builtin.delete,args:=#[d,x],argTypes:=#[209,3]})
 {m:SendM} (hm:a.eval d=.map (some bm)) (hB:BlkMap w bm m) (hlen:m.p.length=8) (hk:k<8) (hx:a.eval x=.int i64 (k:Int)) (t:TryM) (ht:t.busy=false)
 (hK:∀w',BlkMap w' bm (m.set k t)->w.grownBy w' (some bm)->wpList prog ops Q rest (a.put o.dst (.tuple #[])) w'):wpList prog ops Q (o::rest) a w:=by
 obtain⟨D,e,l,i⟩:=hB;exact wpList_delete_own w hg d x 209 3 c 213 Tryz.Agp underlying209 Ib bm 8 D hm e _ _ hx (AlA hk) (fun w' f h=>hK w' (BlkMap.del hlen hk t ht e l i f) h.grown)
theorem An7(p:Int)(d:Hd p=1):
 Calls prog 111 #[.pointer (some ⟨g,0,none⟩),int i64 p] w fun e w'=>e=.returned (.tuple #[Hz,int i64 1])/\Below w.heap.size w w':=by
 have c:=fun f=>JY p f
 rw[d]at c;clear d;go_enter func111,ntmps111
 go_wp2_with(go_at_call 159;refine(c _).mono ?_;rintro e w1 ⟨rfl,rfl⟩)
 (try simp only[Exit.inBlock,Exit.then])
 refine Ah (v:=.tuple #[Hz,int i64 1]) ?_ rfl ⟨rfl,?_⟩
 ·rw[AD rfl];unfold Hz
  go_simp
 ·exact((Ad _ w).alloc (Ac _) _)
theorem O2{m:SendM}(h:PSend w g bm m)(k:Nat)(s:k<8)(b:Bool)(v:Value)(er:Int)(n:(m.tat k).busy=b)(f:v=if b then (m.tat k).blk else Hz)(i:er=if b then 0 else 6):
 Calls prog 111 #[.pointer (some ⟨g,0,none⟩),int i64 (k:Int)] w fun e w'=>e=.returned (.tuple #[v,int i64 er])/\Below w.heap.size w w':=by
 have c:=fun u=>JY (k:Int) u
 rw[show Hd (k:Int)=0 by unfold Hd;rw[Ab (by omega)]]at c;have d:Below w.heap.size w (w.alloc (.cells #[string {data:=#[]},int i64 0,.bool false] 213)):=(Ad _ w).alloc (Ac _) _;have x:=SU d h.map;have r:=h.2.1;have p:=hid n;have q:=hid f
 cases b with
 | false=>
  obtain rfl:er=6:=by simpa using i
  obtain rfl:v=Hz:=by simpa using f
  clear i n f;unfold Hz at*;go_enter func111,ntmps111
  go_wp2_with(first
   | (go_at_call 159;refine(c _).mono ?_;rintro e w1 ⟨rfl,rfl⟩)
   | (at_lookup;refine Hl _ rfl _ _ rfl rfl (r.alloc _) s rfl _ _ p.out q.out ?_))
  (try simp only[Exit.inBlock,Exit.then])
  refine Ah (v:=.tuple #[Hz,int i64 6]) ?_ rfl ⟨rfl,?_⟩
  ·rw[AD rfl];unfold Hz
   go_simp
  ·exact d.alloc (by simp) _
 | true=>
  obtain rfl:er=0:=by simpa using i
  obtain⟨T,l⟩:=E7 (m.tat k);rw[<-l,Ab rfl]at f;subst f;have t:=hid (show(.agg #[string T.data,int i64 T.tries,.bool T.opn]:Value)=if true then (m.tat k).blk else Hz by rw[<-l];rfl);clear i n q l;unfold TryM.blk;go_enter func111,ntmps111
  go_wp2_with(first
   | (go_at_call 159;refine(c _).mono ?_;rintro e w1 ⟨rfl,rfl⟩)
   | (at_lookup;refine Hl _ rfl _ _ rfl rfl (r.alloc _) s rfl (.agg #[string T.data,int i64 T.tries,.bool T.opn]) true p.out t.out ?_))
  (try simp only[Exit.inBlock,Exit.then])
  refine Ah (v:=.tuple #[.agg #[string T.data,int i64 T.tries,.bool T.opn],int i64 0]) ?_ rfl ⟨rfl,?_⟩
  ·rw[AD rfl]
   go_simp
  ·exact((Ad _ w).alloc (Ac _) _).alloc (by simp) _
theorem Adp{m:SendM}(h:PSend w g bm m):
 Calls prog 158 #[.pointer (some ⟨g,0,none⟩)] w fun e w'=>e=.returned (int i64 (m.least:Int))/\Below w.heap.size w w':=by
 have d:=h.2.2.len;go_enter func158,ntmps158
 go_wp2_with fail
 go_loopw [6] (fun i wr=>∃k:Nat,k<=8/\i=int i64 k/\(∀j,j<k->(m.tat j).busy=true)/\Below w.heap.size w wr) (fun i _=>8-(intOf i).toNat)
 case atStart=>exact⟨0,by omega,rfl,fun j y=>by omega,Ad _ w⟩
 case round=>
  obtain⟨k,A,rfl,c,l⟩:=hrel
  by_cases f:k<8
  ·have q:=h.old l;have z:=q.map;have x:=q.2.1;obtain⟨T,u⟩:=E7 (m.tat k)
   cases n:(m.tat k).busy with
   | true=>
    have p:=hid n;have r:=hid c;have t:=hid (show(.agg #[string T.data,int i64 T.tries,.bool T.opn]:Value)=if true then (m.tat k).blk else Hz by rw[<-u];rfl);clear u n q c
    go_wp2_with(at_lookup;refine Hl _ rfl _ _ rfl rfl x f rfl (.agg #[string T.data,int i64 T.tries,.bool T.opn]) true p.out t.out ?_)
    go_roundw
    case rel=>exact⟨k+1,by omega,by go_num,fun j y=>by
     by_cases e:j=k
     ·subst e;exact p.out
     ·exact r.out j (by omega),l.alloc l.size _⟩
    case measure=>simp[intOf];omega
   | false=>
    have p:=hid n;have s:=hid (SendM.ZW d f c n);have t:=hid (show(.agg #[string {data:=#[]},int i64 0,.bool false]:Value)=if false then (m.tat k).blk else Hz from rfl);clear u n q c
    go_wp2_with(at_lookup;refine Hl _ rfl _ _ rfl rfl x f rfl (.agg #[string {data:=#[]},int i64 0,.bool false]) false p.out t.out ?_);go_ret;rw[s.out];exact⟨rfl,l.alloc l.size _⟩
  ·have e:k=8:=by omega
   subst e;have s:=hid (SendM.Ac0 d c);clear c
   go_wp2_with fail;go_ret;rw[s.out];exact⟨rfl,l⟩
def SendM.waitTo(m:SendM)(k:Nat):List Int:=((List.range k).filter fun j=>(m.tat j).busy).map fun j:Nat=>(j:Int)
theorem SendM.UX{m:SendM}(h:(m.tat k).busy=true):m.waitTo (k+1)=m.waitTo k++[(k:Int)]:=by simp[SendM.waitTo,Az,h]
theorem SendM.I1{m:SendM}(h:(m.tat k).busy=false):m.waitTo (k+1)=m.waitTo k:=by simp[SendM.waitTo,Az,h]
theorem SendM.waitTo_len(m:SendM)(k:Nat):(m.waitTo k).length<=k:=by grind [SendM.waitTo]
theorem Vx(w:World)(hg:o.guard=none)(d:Operand)(c:o.op=Op.call {callee:=Callee.builtin Builtin.len,args:=#[d],argTypes:=#[209]})
 {m:SendM} (hm:a.eval d=.map (some bm)) (hB:BlkMap w bm m) (hK:wpList prog ops Q rest (a.put o.dst (.int i64 (m.Pf:Int))) w):wpList prog ops Q (o::rest) a w:=by
 obtain⟨D,e,f,_⟩:=hB;rw[<-f]at hK;exact wpList_len_own w hg d 209 c 3 213 underlying209 Ib bm 8 D hm e hK
theorem YC(n:Nat)(x:n<=8)(d:o.guard=none)(l c:Operand)(t:o.op=Op.makeSlice 74 l c)(s:a.eval l=int i64 0)(q:a.eval c=int i64 (n:Int))
 (h:∀w',OwnI w' w.heap.size (.slice (some ⟨w.heap.size,0,none⟩) 0 n) []->Below w.heap.size w w'->wpList prog ops Q rest (a.put o.dst (.slice (some ⟨w.heap.size,0,none⟩) 0 n)) w'):wpList prog ops Q (o::rest) a w:=by
 obtain⟨u,hi,e,f,i⟩:=As Tryz.Wa;exact D4 w d l c 74 t w.heap.size 3 u (int i64 0) 1 underlying74 hi e f i64 i64 _ n s q rfl (by rw[i];omega) (by unfold maxLen;omega) (Ac _) fun w' m p=>h w' m ((Ad _ w).grown p (Ac _) (by intro k r;cases r))
theorem YD{w0:World}{L:List Int}(B:Nat)(c:World)(y:Int)(g:Nat)(hg:g=w0.heap.size)(d:OwnI w0 B v L)(e:o.guard=none)(s x:Operand)
 (f:o.op=.call {callee:=.builtin .append,args:=#[s,x],argTypes:=#[74,74]}) (hs:a.eval s=v)
 (hx:a.eval x=.slice (some ⟨g,0,none⟩) 1 1) (hlen:L.length<8796093022208) (hbel:Below B c w0) (hB:B<=w0.heap.size)
 (h:∀v' w',OwnI w' B v' (L++[y])->Below B c w'->wpList prog ops Q rest (a.put o.dst v') w'):wpList prog ops Q (o::rest) a (w0.alloc (.cells #[int i64 y] 3)):=by
 subst hg;exact Rj B c y d e s x f hs hx hlen hbel hB h
theorem Pu{m:SendM}(h:PSend w g bm m):
 Calls prog 57 #[.pointer (some ⟨g,0,none⟩)] w fun e w'=>∃a c,e=.returned (.slice a (m.waitTo 8).length c)/\OwnI w' w.heap.size (.slice a (m.waitTo 8).length c) (m.waitTo 8)/\Below w.heap.size w w':=by
 have H:=h.map;have u:=h.2.1;have F:=SendM.Td h.2.2.len;go_enter func57,ntmps57
 go_wp2_with(first
  | (at_len;refine Vx _ rfl _ rfl rfl u ?_)
  | (at_make;refine YC m.Pf F rfl _ _ rfl rfl rfl ?_;intro w1 t q))
 go_loopw [3,13] (fun v i wr=>∃k:Nat,k<=8/\i=int i64 k/\OwnI wr w.heap.size v (m.waitTo k)/\Below w.heap.size w wr) (fun v i _=>8-(intOf i).toNat)
 case atStart=>exact⟨0,by omega,rfl,t,q⟩
 case round=>
  clear t q;obtain⟨k,I,rfl,y,p⟩:=hrel
  by_cases s:k<8
  ·have x:=h.old p;have H:=x.map;have u:=x.2.1;have r:=SendM.waitTo_len m k;obtain⟨T,D⟩:=E7 (m.tat k)
   cases n:(m.tat k).busy with
   | true=>
    have z:=hid n;have C:=hid (SendM.UX n);have A:Hid ((m.waitTo k).length<8796093022208):=by show _<_;omega
    have B:=hid (show(.agg #[string T.data,int i64 T.tries,.bool T.opn]:Value)=if true then (m.tat k).blk else Hz by rw[<-D];rfl);have d:Below wr.heap.size wr (wr.alloc (.cells #[string T.data,int i64 T.tries,.bool T.opn] 213)):=(Ad _ wr).alloc (Ac _) _;have l:=y.below d;have f:=p.trans (d.mono p.size);clear D n x r d
    go_wp2_with(first
     | (at_lookup;refine Hl _ rfl _ _ rfl rfl u s rfl (.agg #[string T.data,int i64 T.tries,.bool T.opn]) true z.out B.out ?_)
     | (at_builtin;refine YD w.heap.size w (k:Int) (wr.heap.size+1) (by simp) l rfl _ _ rfl rfl rfl A.out f f.size ?_;intro v' w' G E))
    go_roundw
    case rel=>exact⟨k+1,by omega,by go_num,by rw[C.out];exact G,E⟩
    case measure=>simp[intOf];omega
   | false=>
    have z:=hid n;have C:=hid (SendM.I1 n);have B:=hid (show(.agg #[string {data:=#[]},int i64 0,.bool false]:Value)=if false then (m.tat k).blk else Hz from rfl);have d:Below wr.heap.size wr (wr.alloc (.cells #[string {data:=#[]},int i64 0,.bool false] 213)):=(Ad _ wr).alloc (Ac _) _;have l:=y.below d;have f:=p.trans (d.mono p.size);clear D n x r d
    go_wp2_with(at_lookup;refine Hl _ rfl _ _ rfl rfl u s rfl (.agg #[string {data:=#[]},int i64 0,.bool false]) false z.out B.out ?_)
    go_roundw
    case rel=>exact⟨k+1,by omega,by go_num,by rw[C.out];exact l,f⟩
    case measure=>simp[intOf];omega
  ·have e:k=8:=by omega
   subst e
   go_wp2_with fail;go_ret;obtain⟨a,c,rfl,_,_⟩:=OwnI.FC y;exact⟨a,c,rfl,y,p⟩
theorem Wy{m:SendM}(k:Nat)(t:TryM):(m.set k t).p.map (fun t=>Value.bool t.flag)=(m.p.map (fun t=>Value.bool t.flag)).set k (.bool t.flag):=by
 simp[SendM.set,Di]
theorem PSend.Yn{m:SendM}(h:PSend w g bm m)(c:k<8)(t:TryM):(w.setCell ⟨g,1+k,none⟩ (.bool t.flag)).heap[g]?=some (.cells (IV (m.set k t) bm) 211 (0,0)):=by
 refine(BK w g (1+k) _ _ (.bool t.flag) h.1).trans ?_;have d:=h.2.2.len;unfold IV;rw[Wy];simp[Nat.add_comm 1 k,DL,d,c,SendM.set]
theorem J1{m:SendM}(h:m.p.length=8)(f:k<8)(t:TryM)(ht:t.flag=(m.tat k).flag)(bm:Nat):IV (m.set k t) bm=IV m bm:=by
 unfold IV;have e:(m.set k t).p.map (fun t=>Value.bool t.flag)=m.p.map (fun t=>Value.bool t.flag):=by
  rw[Wy];refine AW (by simp) fun i c d=>?_
  grind [SendM.tat]
 rw[e];rfl
theorem AgZ(l:Nat)(w:World)(d:1<=l)(f:l<=8):Calls prog 128 #[int i64 (l:Int)] w fun e w'=>∃g bm,e=.returned (.tuple #[.pointer (some ⟨g,0,none⟩),int i64 0])/\w.heap.size<=g/\w.heap.size<=bm/\PSend w' g bm (SendM.new l)/\Below w.heap.size w w':=by
 have i:decide ((l:Int)<1)=false:=Ae (by omega);have m:decide ((8:Int)<(l:Int))=false:=Ae (by omega);have c:=SendM.XX d f;have h:=@run_makeMap prog;go_enter func128,ntmps128;go_wp2
 go_ret2;refine⟨w.heap.size+1,w.heap.size,?_,by omega,Ac _,⟨?_,(BlkMap.XT w l).alloc _,c⟩,((Ad _ w).alloc (Ac _) _).alloc (by simp) _⟩
 ·rfl
 ·exact heap_alloc2_new w _ _
theorem Yd{m:SendM}(h:PSend w g bm m)(s:ByteArray)(B:s.size<=1500)(k:Nat)(z:m.least=k)(q:k<8):
 Calls prog 110 #[.pointer (some ⟨g,0,none⟩),string s] w fun e w'=>e=.returned (.tuple #[int i64 (k:Int),int i64 0])/\PSend w' g bm (m.set k ((m.tat k).Sf s))/\Kept [g,bm] w w':=by
 have E:decide ((1500:Int)<(s.size:Int))=false:=Ae (by omega);have F:((k:Int)==8)=false:=by simp;omega
 have p:=Adp h;rw[z]at p;have n:=h.ne;have d:=h.2.2;clear B z;go_enter func110,ntmps110
 go_wp2_with(go_at_call 158;refine p.mono ?_;rintro e w1 ⟨rfl,i⟩;have f:=h.old i;have cf:=f.flag q;have G:=f.free (1+k))
 go_region;have c:=f.Yn q ((m.tat k).Sf s);have D:(w1.setCell ⟨g,1+k,none⟩ (.bool (!(m.tat k).flag))).drew.cell? ⟨g,9,none⟩=some (.map (some bm)):=by
  have y:(⟨g,1+k,none⟩:Addr)≠⟨g,9,none⟩:=by grind
  exact(World.cell?_setCell_other w1 _ _ _ y).trans f.map
 have A:BlkMap (w1.setCell ⟨g,1+k,none⟩ (.bool (!(m.tat k).flag))).drew bm m:=f.2.1.same (BA w1 ⟨g,1+k,none⟩ _ bm (fun e=>n e.symm));have t:Kept [g,bm] w (w1.setCell ⟨g,1+k,none⟩ (.bool (!(m.tat k).flag))).drew:=((Kept.E5 i).setCell (by simp) _).drew;have c:(w1.setCell ⟨g,1+k,none⟩ (.bool (!(m.tat k).flag))).drew.heap[g]?=_:=c;have u:g<(w1.setCell ⟨g,1+k,none⟩ (.bool (!(m.tat k).flag))).drew.heap.size:=by grind
 generalize (w1.setCell ⟨g,1+k,none⟩ (.bool (!(m.tat k).flag))).drew=w2 at*
 go_wp2_with(at_mapUpdate;refine VA _ rfl _ _ _ rfl rfl A d.len q rfl ((m.tat k).Sf s) rfl rfl ?_;intro C r l)
 go_ret2;have x:Kept [bm] w2 C:=JG l (by simp);exact⟨rfl,⟨(x.block g u (by simpa using n)).trans c,r,d.set q (Sg d _ s)⟩,t.trans (JG l (by simp))⟩
end Go.Proofs.YtbjgfoiikhbonahGreatDoor
