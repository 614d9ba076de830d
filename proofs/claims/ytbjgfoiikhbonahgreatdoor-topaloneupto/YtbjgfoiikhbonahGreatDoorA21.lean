import Derived.Test.YtbjgfoiikhbonahGreatDoorA20
import Derived.Test.YtbjgfoiikhbonahGreatDoorA03
set_option linter.unusedVariables false
set_option linter.unusedSimpArgs false
set_option maxRecDepth 100000
set_option maxHeartbeats 4000000
namespace Go.Proofs.YtbjgfoiikhbonahGreatDoor
open Go.ChangeShapes Go.WideShapes Go.ChangeAt Go.RowKit Go.Proofs.Tryz
open Value renaming int->A,slice->D
open Option renaming none->C,some->E
open Obj renaming cells->F
open Bool renaming false->G
open Go renaming World->I
open IntKind renaming i64->J
variable {B a b c g n o z:Nat}{S:List Nat}{T:TypeId}{cur:List Value}{l:Sps}{v:Value}{w w':I}
structure PtrPost(w w':I)(b o:Nat)(S:List Nat)(v':Value):Prop where
 kept:Kept (b::S) w w'
 row:∀T cur,At w b T cur->At w' b T (cur.set o v')
theorem At.setCell(h:At w b T cur)(v:Value):At (w.setCell ⟨b,o,C⟩ v) b T (cur.set o v):=by
 unfold At at h ⊢;rw[BK w b o _ _ v h,EQ]
theorem At.MU(h:At w b T cur)(p:Addr)(v:Value)(d:b≠p.block):At (w.setCell p v) b T cur:=(Co w p b v d).trans h
theorem FT(w:I)(b o:Nat)(v:Value):Kept [b] w (w.setCell ⟨b,o,C⟩ v):=(Kept.refl _ w).setCell (by simp) _
theorem PtrPost.store{W:I}(d:Kept S w W)(f:b∉S):PtrPost w (W.setCell ⟨b,o,C⟩ v) b o S v:=
 ⟨(d.Fn (fun x e=>AU _ e)).trans ((FT W b o v).Fn (fun x e=>by grind)),fun T cur h=>(h.kept d f).setCell v⟩
theorem PtrPost.same(d:Kept S w w')(k:b∉S)(j:w.cell? ⟨b,o,C⟩=E v):PtrPost w w' b o S v:=by
 refine⟨d.Fn (fun x m=>AU _ m),fun T cur h=>?_⟩;have e:=h.cell o;rw[j]at e;have f:cur.set o v=cur:=by
  refine Bf fun i=>?_
  grind
 rw[f];exact h.kept d k
theorem PtrPost.later{i:I}(h:PtrPost w w' b o S v)(e:Kept [w.heap.size] w' i)(p:b<w.heap.size):PtrPost w i b o S v:=by
 have d:=h.kept;refine⟨⟨e.os.trans d.os,e.tape.trans d.tape,e.output.trans d.output,Ak d.size e.size,fun k f m=>?_⟩,fun T cur j=>(h.row T cur j).kept e (by simp;omega)⟩;rw[e.block k (AI f d.size) (by simp;omega),d.block k f m]
theorem Ic(e:Kept S w w'){a:Addr}(h:w.frozen? a=G)(d:a.block<w.heap.size)(f:a.block∉S):w'.frozen? a=G:=by
 unfold World.frozen? at*;rw[e.block _ d f];exact h
def Ak2 (w:I)(b o g x m:Nat)(l:Sps):Ending->I->Prop:=fun e w'=>∃v',e=.returned (.agg #[A J (x:Int), A J ((m:Nat):Int)])/\PtrPost w w' b o [g] v'/\OwnSp w' v' l/\v'.ownBlock=E g
theorem AhB{x y:Nat}{r:Sps}{size:Nat}(hp:w.cell? ⟨b,o,C⟩=E (D (E ⟨g,0,C⟩) n c))(an:w.frozen? ⟨b,o,C⟩=G)(h:OwnSp w (D (E ⟨g,0,C⟩) n c) ((x,y)::r))(ah:g≠b)(hr:r.length<=4000)(a3:x<y)(hy:y<=4000)(h1:1<=size)(h2:size<=4000):
 Calls prog 155 #[.pointer (E ⟨b,o,C⟩), A J (size:Int)] w (Ak2 w b o g x (min y (x+size)) (if y<=x+size then r else (x+size,y)::r)):=by
 have hl:=O6 h;subst hl;obtain⟨cur,hA, -,hn,hc,ab,ac,ak⟩:=F9 h;have hC:=(h.at (i:=0) (by simp));obtain⟨g',e,az,hC⟩:=hC
 cases e;obtain⟨c0,c1⟩:=hC 0 (by simp);have c0:w.cell? ⟨g,0,C⟩=E (A J (x:Int)):=c0;have c1:w.cell? ⟨g,1,C⟩=E (A J (y:Int)):=c1;have ay:=hA.free 0;have q:=Aj w _ hp;obtain⟨n', L⟩ := E7 (((x,y)::r).length);have a1:0<n':=by rw[L];simp
 rw[<-L]at hp;have HA:=hid hA;have HN:=hid L;have H:=hid h;clear h hA hC L;obtain⟨m, em⟩ := E7 (min y (x+size));have hm:(if (x:Int)+(size:Int)<(y:Int) then (x:Int)+(size:Int) else (y:Int))=(m:Int):=by
  rw[em]
  split<;>omega
 have a2:IntKind.i64.wrap ((x:Int)+(size:Int))=(x:Int)+(size:Int):=by rw[AO];omega
 have EM:=hid em;obtain⟨lr, Q⟩ := E7 ((if y<=x+size then r else (x+size,y)::r));have ad:=hid Q;rw[<-em,<-Q];clear em Q;go_enter func155,ntmps155;go_upto_region 2 with fail
 go_region;go_upto_region 4 with fail
 have f1:Kept [g] w (((w.setCell ⟨g,0,C⟩ (A J (m:Int))).alloc (F #[A J 0, A J 0] 146)).alloc (F #[A J (x:Int), A J (m:Int)] 146)).drew:=((((Kept.refl _ w).setCell (by simp) _).alloc _).alloc _).drew;have f2:At (((w.setCell ⟨g,0,C⟩ (A J (m:Int))).alloc (F #[A J 0, A J 0] 146)).alloc (F #[A J (x:Int), A J (m:Int)] 146)).drew g 146 (cur.set 0 (A J (m:Int))):=(HA.out.setCell (A J (m:Int))).kept (S:=[]) ((((Kept.refl _ _).alloc _).alloc _).drew) (by simp);have f3:At (((w.setCell ⟨g,0,C⟩ (A J (m:Int))).alloc (F #[A J 0, A J 0] 146)).alloc (F #[A J (x:Int), A J (m:Int)] 146)).drew w.heap.size 146 [A J 0, A J 0]:=by
  have h0:At ((w.setCell ⟨g,0,C⟩ (A J (m:Int))).alloc (F #[A J 0, A J 0] 146)) w.heap.size 146 [A J 0, A J 0]:=by
   have:=Fc (w.setCell ⟨g,0,C⟩ (A J (m:Int))) 146 [A J 0, A J 0]
   rwa [Ef]at this
  exact h0.kept (S:=[]) (((Kept.refl _ _).alloc _).drew) (by simp)
 have f4:At (((w.setCell ⟨g,0,C⟩ (A J (m:Int))).alloc (F #[A J 0, A J 0] 146)).alloc (F #[A J (x:Int), A J (m:Int)] 146)).drew (w.heap.size+1) 146 [A J (x:Int), A J (m:Int)]:=by
  have:=Fc ((w.setCell ⟨g,0,C⟩ (A J (m:Int))).alloc (F #[A J 0, A J 0] 146)) 146 [A J (x:Int), A J (m:Int)];rw[Ax,Ef]at this;exact this
 generalize (((w.setCell ⟨g,0,C⟩ (A J (m:Int))).alloc (F #[A J 0, A J 0] 146)).alloc (F #[A J (x:Int), A J (m:Int)] 146)).drew=W at*;have am:0<cur.length:=by
  grind
 have d0:W.cell? ⟨g,0,C⟩=E (A J (m:Int)):=by
  rw[f2.cell];simp[am]
 have d1:W.cell? ⟨g,1,C⟩=E (A J (y:Int)):=by
  rw[f2.cell,CV (by omega),<-HA.out.cell];exact c1
 have k:b∉[g]:=by simpa using fun e=>ah e.symm
 have dp:=E8 f1 hp k;have al:=Ic f1 an q k;have x0:W.cell? ⟨w.heap.size+1,0,C⟩=E (A J (x:Int)):=f4.cell 0;have x1:W.cell? ⟨w.heap.size+1,1,C⟩=E (A J (m:Int)):=f4.cell 1;have z0:W.cell? ⟨w.heap.size,0,C⟩=E (A J 0):=f3.cell 0;have z1:W.cell? ⟨w.heap.size,1,C⟩=E (A J 0):=f3.cell 1;have ap:=f3.free 0;have aq:=f3.free 1;have j:W.ownsRow 0 146 2 (D (E ⟨g,0,C⟩) n' c) n' (FD ((m,y)::r)):=by
  rw[HN.out];refine f2.row (by rw[Zb];rfl) hn hc (by rw[An,ab]) ?_;rw[CW,ac];rfl
 have au:w.heap.size+1<W.heap.size:=f4.lt;have F1:=hid f1;have F3:=hid f3;have ao:n'-1=r.length:=by rw[HN.out];rfl
 by_cases ai:y<=x+size
 ·have t:m=y:=by rw[EM.out];omega
  have ag:=(Xr (w:=W.drew) j (R7 _) (show 1<=n' by omega));have af:=hid j;have E2:=hid (show lr=r by rw[ad.out,Ab ai]);subst t;have hF:∀w1,Kept (D (E ⟨g,0,C⟩) n' c).ownBlock.toList W.drew w1->w1.cell? ⟨b,o,C⟩=E (D (E ⟨g,0,C⟩) n' c)/\w1.frozen? ⟨b,o,C⟩=G/\w1.cell? ⟨w.heap.size+1,0,C⟩=E (A J (x:Int))/\w1.cell? ⟨w.heap.size+1,1,C⟩=E (A J (m:Int))/\w1.cell? ⟨w.heap.size,0,C⟩=E (A J 0)/\w1.cell? ⟨w.heap.size,1,C⟩=E (A J 0)/\w1.frozen? ⟨w.heap.size,0,C⟩=G/\w1.frozen? ⟨w.heap.size,1,C⟩=G:=fun w1 d=>by
   have d:Kept [g] W.drew w1:=d;have ae:w.heap.size+1∉[g]:=by simp;omega
   have u:w.heap.size∉[g]:=by simp;omega
   exact⟨E8 d dp k,Ic d al (AI q f1.size) k,E8 d x0 ae,E8 d x1 ae,E8 d z0 u,E8 d z1 u,Ic d ap (show w.heap.size<W.heap.size by omega) u,Ic d aq (show w.heap.size<W.heap.size by omega) u⟩
  clear j f1 f2 f3 f4 c0 c1 hm ab ac ak
  go_region;go_upto_region 6 with(go_at_call 183;refine ag.mono ?_;rintro e w1 ⟨rfl,aj,d⟩;obtain⟨ax,ar,a4,a5,a6,a7,av,aw⟩:=hF _ d)
  have G1:=hid aj;have G2:=hid d;clear aj d;have aa:¬(b=w.heap.size):=by have:b<w.heap.size:=q;omega
  have N:¬(w.heap.size=b):=fun e=>aa e.symm
  have hZ:At w1 w.heap.size 146 [A J 0, A J 0]:=At.kept (w:=W.drew) F3.out G2.out (by simp[Value.ownBlock];omega);go_wp2;have hP:PtrPost w (w1.setCell ⟨b,o,C⟩ (D (E ⟨g,0,C⟩) r.length c)) b o [g] (D (E ⟨g,0,C⟩) r.length c):=PtrPost.store (F1.out.drew.trans G2.out) k;have hO:OwnSp (w1.setCell ⟨b,o,C⟩ (D (E ⟨g,0,C⟩) r.length c)) (D (E ⟨g,0,C⟩) r.length c) r:=by
   have h1:OwnSp w1 (D (E ⟨g,0,C⟩) r.length c) r:=by
    have:=G1.out;rw[ao,Qp]at this;exact this
   exact h1.kept (FT w1 b o _) (fun g' f=>by simp[Value.ownBlock]at f;subst f;simpa using ah)
  have Y:=hZ.MU ⟨b,o,C⟩ (D (E ⟨g,0,C⟩) r.length c) N;generalize w1.setCell ⟨b,o,C⟩ (D (E ⟨g,0,C⟩) r.length c)=W2 at*;have Z:At ((W2.setCell ⟨w.heap.size,0,C⟩ (A J (x:Int))).setCell ⟨w.heap.size,1,C⟩ (A J (m:Int))) w.heap.size 146 [A J (x:Int), A J (m:Int)]:=(Y.setCell (o:=0) (A J (x:Int))).setCell (o:=1) (A J (m:Int));have s:Kept [w.heap.size] W2 ((W2.setCell ⟨w.heap.size,0,C⟩ (A J (x:Int))).setCell ⟨w.heap.size,1,C⟩ (A J (m:Int))):=((Kept.refl _ _).setCell (by simp) _).setCell (by simp) _;refine Ah (BO (p:=4) (ty:=146) (by kernel_rfl) _ _ w.heap.size 146 _ (0,0) _ rfl Z underlying146 rfl (by kernel_rfl)) rfl ?_;rw[E2.out];exact⟨_,rfl,hP.later s q,hO.kept s (fun g' f=>by simp[Value.ownBlock]at f;subst f;simp;omega),rfl⟩
 ·have t:m=x+size:=by rw[EM.out];omega
  have a0:¬((m:Int)=(y:Int)):=by omega
  have af:=hid j;have e2:lr=(x+size,y)::r:=by rw[ad.out,Aa ai]
  have aa:¬(b=w.heap.size):=by have:b<w.heap.size:=q;omega
  have N:¬(w.heap.size=b):=fun e=>aa e.symm
  clear j f1 f2 f3 f4 c0 c1 hm ab ac ak;rw[<-t]at e2;have E2:=hid e2;clear e2 t
  go_region;go_wp2;have hP:PtrPost w W b o [g] (D (E ⟨g,0,C⟩) n' c):=PtrPost.same F1.out k hp;have hO:OwnSp W (D (E ⟨g,0,C⟩) n' c) ((m,y)::r):=by
   have:=af.out;rw[HN.out]at this ⊢;exact this
  have Y:At W w.heap.size 146 [A J 0, A J 0]:=F3.out;have Z:At ((W.setCell ⟨w.heap.size,0,C⟩ (A J (x:Int))).setCell ⟨w.heap.size,1,C⟩ (A J (m:Int))).drew w.heap.size 146 [A J (x:Int), A J (m:Int)]:=(Y.setCell (o:=0) (A J (x:Int))).setCell (o:=1) (A J (m:Int));have s:Kept [w.heap.size] W ((W.setCell ⟨w.heap.size,0,C⟩ (A J (x:Int))).setCell ⟨w.heap.size,1,C⟩ (A J (m:Int))).drew:=(((Kept.refl _ _).setCell (by simp) _).setCell (by simp) _).drew;refine Ah (BO (p:=4) (ty:=146) (by kernel_rfl) _ _ w.heap.size 146 _ (0,0) _ rfl Z underlying146 rfl (by kernel_rfl)) rfl ?_;rw[E2.out];exact⟨_,rfl,hP.later s q,hO.kept s (fun g' f=>by simp[Value.ownBlock]at f;subst f;simp;omega),rfl⟩
theorem JO{a:I}(h:Below B a w)(n:Nat):Below B a (w.drewN n):=⟨h.os,h.tape,h.output,h.size,h.block⟩
def Ak1 (w:I)(b o:Nat)(v:Value)(l:Sps)(a z:Nat):Ending->I->Prop:=fun e w'=>e=.returned (.tuple #[])/\∃v' l',PtrPost w w' b o v.ownBlock.toList v'/\OwnSp w' v' l'/\Srt l'/\(∀i,inS l' i↔inS l i\/(a<=i/\i<z))/\(∀g,v'.ownBlock=E g->v.ownBlock=E g\/w.heap.size<=g)
theorem WE(hp:w.cell? ⟨b,o,C⟩=E v)(a4:w.frozen? ⟨b,o,C⟩=G)(h:OwnSp w v l)(a5:∀g,v.ownBlock=E g->g≠b)(hs:Srt l)(hE:Qe l 3000)(ap:a<z)(hz:z<=3000):
 Calls prog 118 #[.pointer (E ⟨b,o,C⟩),.agg #[A J (a:Int), A J (z:Int)]] w (Ak1 w b o v l a z):=by
 obtain⟨u,c,rfl,hn,hc,hx⟩:=h.FC;have ba:=hs.few hE;obtain⟨N, hN⟩ := E7 l.length;have ak:b<w.heap.size:=Aj w _ hp;have bc:¬(b=w.heap.size):=by omega
 have HN:=hid hN;have H:=hid h;have bb:N<=3000:=by omega
 have ab:∀k,k<N->∃g,u=E ⟨g,0,C⟩/\g<w.heap.size/\w.cell? ⟨g,k*2,C⟩=E (A J ((l.getD k (0,0)).1:Int))/\w.cell? ⟨g,k*2+1,C⟩=E (A J ((l.getD k (0,0)).2:Int)):=fun k hk=>by
  obtain⟨g,e,h1,Y⟩:=h.at (i:=k) (by omega);exact⟨g,e,h1,Y k (by omega)⟩
 have HC:=hid ab;rw[<-hN]at hp;clear h hx hN ab;go_enter func118,ntmps118
 go_wp2_with fail
 go_loopw [4] (fun vb wr=>∃k:Nat,k<=N/\vb= A J k/\(∀j,j<k->(l.getD j (0,0)).2<a)/\Below (w.heap.size+1) (w.alloc (F #[A J (a:Int), A J (z:Int)] 146)) wr) (fun vb _=>N-(intOf vb).toNat)
 case atStart=>exact⟨0,by omega,rfl,fun j hj=>by omega,Ad _ _⟩
 case round=>
  obtain⟨k,hk,rfl,hj,hb⟩:=hrel;have hx:=Fc w 146 [A J (a:Int), A J (z:Int)];have x0:wr.cell? ⟨w.heap.size,0,C⟩=E (A J (a:Int)):=(AF (hb.block w.heap.size (by omega))).trans (hx.cell 0);have x1:wr.cell? ⟨w.heap.size,1,C⟩=E (A J (z:Int)):=(AF (hb.block w.heap.size (by omega))).trans (hx.cell 1);have L:Below w.heap.size w wr:=((Ad _ w).alloc (Ac _) _).trans (hb.mono (by omega));have p0:wr.cell? ⟨b,o,C⟩=E (D u N c):=(AF (L.block b ak)).trans hp;have HJ:=hid hj;have HB:=hid hb;clear hx hb hj;go_upto_region 2 with fail
  go_cut [23]from 6 to 25 (fun t wx=>t=.bool (decide (k<N/\(l.getD k (0,0)).2<a))/\∃m,wx=wr.drewN m)
  case first=>
   by_cases ai:k<N
   ·obtain⟨g,eg,hg,q0,q1⟩:=HC.out k ai;have r1:=(AF (L.block g hg)).trans q1;rw[eg]at p0;have d2:decide ((k:Int)<(N:Int))=true:=Ag (by omega);generalize (l.getD k (0,0)).2=Q at*
    by_cases ae:Q<a
    ·have d1:decide ((Q:Int)<(a:Int))=true:=Ag (by omega);have hd:=hid (show decide (k<N/\Q<a)=true from Ag ⟨ai,ae⟩);clear L q0 q1 eg
     go_quiet (fail);go_wp2
     go_meet;exact⟨by rw[hd.out],_,rfl⟩
    ·have d1:decide ((Q:Int)<(a:Int))=G:=Ae (by omega);have hd:=hid (show decide (k<N/\Q<a)=G from Ae (fun h=>ae h.2));clear L q0 q1 eg
     go_quiet (fail);go_wp2
     go_meet;exact⟨by rw[hd.out],_,rfl⟩
   ·have ah:k=N:=by omega
    subst ah;have hd:=hid (show decide (k<k/\(l.getD k (0,0)).2<a)=G from Ae (fun h=>ai h.1));clear L ai
    go_quiet (fail);go_wp2
    go_meet;exact⟨by rw[hd.out],_,rfl⟩
  case rest=>
   obtain⟨rfl,m,rfl⟩:=hcut
   by_cases d:k<N/\(l.getD k (0,0)).2<a
   ·have hd:decide (k<N/\(l.getD k (0,0)).2<a)=true:=Ag d;rw[hd];have HG:=hid d;have ah:k<N:=d.1;clear d hd x0 x1 p0 L hp
    go_wp2_with fail;refine⟨⟨k+1,by omega,by go_num,fun j hj=>?_,JO HB.out _⟩,by simp[intOf];omega⟩
    rcases AS j k with h' | h'
    ·exact HJ.out j h'
    ·rw[show j=k by omega];exact HG.out.2
   ·have hd:decide (k<N/\(l.getD k (0,0)).2<a)=G:=Ae d;rw[hd]
    have a2:=hid (Joins.SF (l:=l) (a:=a) (z:=z) (b:=k) (by rw[<-HN.out];exact hk) HJ.out hs (fun h'=>by
     rw[<-HN.out]at h'
     grind))
    have aj:=hid hp;clear d hd x0 x1 p0 L hp
    go_wp2_with fail
    go_loopw [5] (fun ve aw=>∃e x y:Nat,e<=N/\ve= A J e/\y<=3000/\Joins l a z k e x y/\Kept [w.heap.size] (w.alloc (F #[A J (a:Int), A J (z:Int)] 146)) aw/\At aw w.heap.size 146 [A J (x:Int), A J (y:Int)]) (fun ve _=>N-(intOf ve).toNat)
    case atStart=>
     refine⟨k,a,z,hk,rfl,hz,a2.out,(Kept.E5 (by rw[Ax];exact JO HB.out _)),?_⟩;exact(Fc w 146 [A J (a:Int), A J (z:Int)]).kept (S:=[]) (Kept.E5 (by rw[Ax];exact JO HB.out _)) (by simp)
    case round=>
     obtain⟨e,x,y,he,rfl,hy,hJ,hK,hX⟩:=hrel;have al:Kept [w.heap.size] w wr:=((Kept.refl _ w).alloc _).trans hK;have x0:wr.cell? ⟨w.heap.size,0,C⟩=E (A J (x:Int)):=hX.cell 0;have x1:wr.cell? ⟨w.heap.size,1,C⟩=E (A J (y:Int)):=hX.cell 1;have bg:=hX.free 0;have bh:=hX.free 1;have p0:=E8 al aj.out (by simp;omega);have af:=hid hJ;have ay:=hid hK;have a3:=hid hX;have W:=hid al;clear hJ hK hX al;go_upto_region 5 with fail
     go_cut [44]from 27 to 67 (fun t wx=>t=.bool (decide (e<N/\(l.getD e (0,0)).1<=y))/\∃m,wx=wr.drewN m)
     case first=>
      by_cases s:e<N
      ·obtain⟨g,eg,hg,q0,q1⟩:=HC.out e s;have r0:=E8 W.out q0 (by simp;omega);rw[eg]at p0;have d2:decide ((e:Int)<(N:Int))=true:=Ag (by omega);generalize (l.getD e (0,0)).1=Q at*
       by_cases ae:Q<=y
       ·have d1:decide ((Q:Int)<=(y:Int))=true:=Ag (by omega);have hd:=hid (show decide (e<N/\Q<=y)=true from Ag ⟨s,ae⟩);clear q0 q1 eg
        go_quiet (fail);go_wp2
        go_meet;exact⟨by rw[hd.out],_,rfl⟩
       ·have d1:decide ((Q:Int)<=(y:Int))=G:=Ae (by omega);have hd:=hid (show decide (e<N/\Q<=y)=G from Ae (fun h=>ae h.2));clear q0 q1 eg
        go_quiet (fail);go_wp2
        go_meet;exact⟨by rw[hd.out],_,rfl⟩
      ·have ah:e=N:=by omega
       subst ah;have hd:=hid (show decide (e<e/\(l.getD e (0,0)).1<=y)=G from Ae (fun h=>s h.1));clear s
       go_quiet (fail);go_wp2
       go_meet;exact⟨by rw[hd.out],_,rfl⟩
     case rest=>
      obtain⟨rfl,m2,rfl⟩:=hcut
      by_cases d:e<N/\(l.getD e (0,0)).1<=y
      ·have hd:decide (e<N/\(l.getD e (0,0)).1<=y)=true:=Ag d;rw[hd];obtain⟨s,aq⟩:=d;obtain⟨g,eg,hg,q0,q1⟩:=HC.out e s;have r0:=E8 W.out q0 (by simp;omega);have r1:=E8 W.out q1 (by simp;omega);rw[eg]at p0;have an:=hid (af.out.step hs ap (by rw[<-HN.out];exact s) aq);have bd:(l.getD e (0,0)).2<=3000:=hE _ (Rp (by rw[<-HN.out];exact s));clear aq hd eg q0 q1;generalize (l.getD e (0,0)).1=Q1 at*;generalize (l.getD e (0,0)).2=Q2 at*;have m1:(if Q1<x then (Q1:Int) else (x:Int))=((min x Q1:Nat):Int):=by split<;>omega
       have m2:(if y<Q2 then (Q2:Int) else (y:Int))=((max y Q2:Nat):Int):=by split<;>omega
       have bf:(if (y:Int)<(Q2:Int) then (Q2:Int) else (y:Int))=((max y Q2:Nat):Int):=by split<;>omega
       have a7:max y Q2<=3000:=by omega
       generalize min x Q1=X' at*;generalize max y Q2=Y' at*;go_upto_region 6 with fail
       go_region
       go_wp2_with fail;refine⟨⟨e+1,X',Y',by omega,by go_num,a7,an.out,?_,?_⟩,by simp[intOf];omega⟩
       ·exact((ay.out.drewN _).setCell (by simp) _).setCell (by simp) _
       ·exact((At.setCell (w:=wr.drewN _) a3.out (o:=0) (A J (X':Int))).setCell (o:=1) (A J (Y':Int)))
      ·have hd:decide (e<N/\(l.getD e (0,0)).1<=y)=G:=Ae d;rw[hd]
       have r:=hid (af.out.done hs ap (fun h'=>by
        rw[<-HN.out]at h'
        exact Nat.lt_of_not_le fun Y=>d ⟨h',Y⟩))
       have ac:∀q,Kept [] wr ((wr.drewN q).alloc (F #[A J (x:Int), A J (y:Int)] 146)):=fun q=>((Kept.refl _ wr).drewN q).alloc _
       have f:∀q,Kept [w.heap.size] w ((wr.drewN q).alloc (F #[A J (x:Int), A J (y:Int)] 146)):=fun q=>W.out.trans ((ac q).Fn (by simp))
       have ar:∀g,(D u l.length c).ownBlock=E g->g∉[w.heap.size]:=fun g hg=>by
        have:=H.out.lt hg;simp;omega
       obtain⟨L', eL⟩ := E7 (l.take k++(x,y)::l.drop e);rw[<-eL]at r;obtain⟨N', eN⟩ := E7 L'.length;have av:∀q,Calls prog 169 #[D u N c, A J (k:Int), A J (e:Int), D (E ⟨wr.heap.size,0,C⟩) 1 1] ((wr.drewN q).alloc (F #[A J (x:Int), A J (y:Int)] 146)) (I7 ((wr.drewN q).alloc (F #[A J (x:Int), A J (y:Int)] 146)) u N' (FD L') (D u N c).ownBlock.toList):=fun q=>by
        have h1:OwnSp ((wr.drewN q).alloc (F #[A J (x:Int), A J (y:Int)] 146)) (D u l.length c) l:=H.out.kept (f q) ar
        have Y:=AaW (w:=(wr.drewN q).alloc (F #[A J (x:Int), A J (y:Int)] 146)) (i:=k) (j:=e) (p:=(x:Int)) (q:=(y:Int)) h1 (R7 l) (by omega) (Fc (wr.drewN q) _ _) (fun yy a9=>by
         obtain⟨_,_,e1,_,_,h4⟩:=H.out.FC;simp only[Aq]at e1;obtain⟨rfl, -,rfl⟩:=e1;obtain⟨g,rfl,h5⟩:=h4 yy a9;have h6:=H.out.lt h5;have h7:=W.out.size
         show wr.heap.size≠g
         omega) af.out.be af.out.el
        rw[eN,r.out.2.2,HN.out,eL,Za,<-Xd,<-HN.out];have e5:FD ((x,y)::l.drop e)=[A J (x:Int), A J (y:Int)]++FD (l.drop e):=rfl;rw[e5,<-Qp];rw[<-HN.out]at Y;exact Y
       have aa:b∉[w.heap.size]:=by simp;omega
       have hF:∀q w1,Kept (D u N c).ownBlock.toList ((wr.drewN q).alloc (F #[A J (x:Int), A J (y:Int)] 146)) w1->w1.cell? ⟨b,o,C⟩=E (D u N c)/\w1.frozen? ⟨b,o,C⟩=G:=fun q w1 Z=>by
        have ag:b∉(D u N c).ownBlock.toList:=by
         intro hm;have:(D u l.length c).ownBlock=E b:=by
          rw[<-HN.out]
          simpa using hm
         exact a5 b this rfl
        have h8:=E8 (f q) aj.out aa;have h9:=Ic (f q) a4 ak aa;exact⟨E8 Z h8 ag,Ic Z h9 (AI ak (f q).size) ag⟩
       have pA:∀q,((wr.drewN q).alloc (F #[A J (x:Int), A J (y:Int)] 146)).cell? ⟨b,o,C⟩=E (D u N c):=fun q=>E8 (f q) aj.out aa
       have az:=hid f;have EN:=hid eN;clear d hd ac f ar eL eN;go_upto_region 8 with fail
       go_region_with (go_at_call 169;refine(av _).mono ?_;rintro e' w1 ⟨v',rfl,am,ao,Z⟩;obtain⟨s1,s2⟩:=hF _ _ Z;obtain⟨a',c',rfl, -, -, -⟩:=Fg am;have a1:=hid am;have a0:=hid ao;have ax:=hid Z;clear am ao Z)
       all_goals
        go_end0;have a6:Kept (D u l.length c).ownBlock.toList w w1:=by
         have h1:=az.out (m2+1);have Y:=ax.out;rw[HN.out]at Y;refine⟨Y.os.trans h1.os,Y.tape.trans h1.tape,Y.output.trans h1.output,Ak h1.size Y.size,fun j hj a8=>?_⟩;rw[Y.block j (AI hj h1.size) a8,h1.block j hj (by simp;omega)]
        have ag:b∉(D u l.length c).ownBlock.toList:=by
         grind
        have au:∀g,(D a' N' c').ownBlock=E g->(D u l.length c).ownBlock=E g\/w.heap.size<=g:=fun g hg=>by
         rcases a0.out g hg with⟨o',e1⟩ | h1
         ·left;rw[e1];rfl
         ·right;exact Ak W.out.size (Ak (by simp) h1)
        refine⟨rfl, D a' N' c',L',PtrPost.store a6 ag,?_,r.out.1,r.out.2.1,au⟩;have h5:OwnSp w1 (D a' N' c') L':=by
         have:=a1.out;rw[EN.out]at this ⊢;exact this
        refine h5.kept (FT w1 b o _) (fun g hg=>?_)
        grind
abbrev Sis:=List (Int×Int)
def K5 (l:Sis):List Value:=l.flatMap fun q=>[A J q.1, A J q.2]
theorem Y9(l r:Sis):K5 (l++r)=K5 l++K5 r:=by simp[K5]
theorem Acd(l:Sis):∀i,i<l.length->(K5 l)[i*2]?=E (A J (l.getD i (0,0)).1)/\(K5 l)[i*2+1]?=E (A J (l.getD i (0,0)).2):=by
 induction l with
 | nil=>intro i h;simp at h
 | cons q l ih=>
  intro i h;have e:K5 (q::l)= A J q.1:: A J q.2::K5 l:=rfl
  grind
def OwnSi(w:I)(B:Nat)(v:Value)(l:Sis):Prop:=w.ownsRow B 146 2 v l.length (K5 l)
def Ip (l:Sps):Sis:=l.map fun q=>((q.1:Int),(q.2:Int))
theorem Hi(l:Sps):(Ip l).length=l.length:=by simp[Ip]
theorem OwnSi.nil(w:I)(B:Nat):OwnSi w B (D C 0 0) []:=Bj _ _ _ _
theorem OwnSi.at{w:I}{B:Nat}{a:Option Addr}{c n:Nat}{l:Sis}(h:OwnSi w B (D a n c) l){i:Nat}(hi:i<l.length):∃g,a=E ⟨g,0,C⟩/\g<w.heap.size/\∀k,k<l.length->w.cell? ⟨g,k*2,C⟩=E (A J (l.getD k (0,0)).1)/\w.cell? ⟨g,k*2+1,C⟩=E (A J (l.getD k (0,0)).2):=by
 have q:=O6 h;subst q
 rcases h.2 with⟨_,s⟩ | ⟨g,m,cur,f,_⟩
 ·omega
 ·simp only[Aq]at f;obtain⟨rfl, -,rfl⟩:=f;obtain⟨cur,d, -, -, -, -,e,r⟩:=F9 h;refine⟨g,rfl,d.lt,fun k p=>?_⟩;have j:=Acd l k p;rw[d.cell,d.cell,<-j.1,<-j.2,<-e,A3 (by omega),A3 (by omega)];exact⟨rfl,rfl⟩
theorem OwnSi.AkU{e:Nat}{l:Sis}(h:OwnSi w B v l)(m:e<=B):OwnSi w e v l:=by
 refine⟨h.1,?_⟩
 rcases h.2 with f | ⟨g,d,cur,i,j,k⟩
 ·exact .inl f
 ·exact .inr ⟨g,d,cur,i,Ak m j,k⟩
theorem Mz{ops:Array Oper}{e:List Oper}{o:Oper}{a:Act}{Q:Exit->Act->I->Prop}{w0:I}{L:Sis}(B:Nat)(f:I)(p q:Int)(d:OwnSi w0 B v L)(i:o.guard=C)(s x:Operand)
 (W:o.op=.call {callee:=.builtin .append,args:=#[s,x],argTypes:=#[141,141]}) (hs:a.eval s=v)
 (gx:Nat) (hgx:gx=w0.heap.size) (hx:a.eval x= D (E ⟨gx,0,C⟩) 1 1) (hlen:L.length<=100000) (hbel:Below B f w0) (hB:B<=w0.heap.size)
 (h:∀v' w',OwnSi w' B v' (L++[(p,q)])->Below B f w'->(w0.alloc (F #[A J p, A J q] 146)).grownBy w' v.ownBlock->wpList prog ops Q e (a.put o.dst v') w'):wpList prog ops Q (o::e) a (w0.alloc (F #[A J p, A J q] 146)):=by
 subst hgx;obtain⟨i0,hi,m,r,t⟩:=As Tryz.PS;have Y:=Am w0 (F #[A J p, A J q] 146);refine CJ _ i s x 141 W B 146 i0 _ 2 16 underlying141 hi m r t rfl (by decide) v _ _ hs (A6 d _) ⟨w0.heap.size,0,C⟩ 1 1 [A J p, A J q] hx rfl ?_ On ?_ ?_ ?_ ?_
 ·intro j u Z;rw[BT,Ao,Al _ _ _ _ _ _ Y]
  simpa using Z
 ·unfold maxLen;omega
 ·omega
 ·simp;omega
 ·intro v' w' H y _;refine h v' w' ?_ ((hbel.alloc hB _).grown y (by simp;omega) (fun k N=>(d.lt k N).1)) y;unfold OwnSi;rw[Y9,Ai];exact H
def Qf (w:I)(l:Sps)(lo hi:Nat):Ending->I->Prop:=fun e w'=>∃v',e=.returned v'/\OwnSi w' w.heap.size v' (Ip (F7 hi lo l))/\Below w.heap.size w w'
theorem P6{a:Option Addr}{lo hi:Nat}(h:OwnSp w (D a n c) l)(hs:Srt l)(hE:Qe l 3000)(ar:lo<=3000)(aw:hi<=3000):
 Calls prog 120 #[D a n c,.agg #[A J (lo:Int), A J (hi:Int)]] w (Qf w l lo hi):=by
 have hl:=O6 h;have ax:=hs.few hE;obtain⟨N, hN⟩ := E7 l.length;rw[hl,<-hN];have HN:=hid hN;have az:N<=3000:=by omega
 have u:∀k,k<N->∃g,a=E ⟨g,0,C⟩/\g<w.heap.size/\w.cell? ⟨g,k*2,C⟩=E (A J ((l.getD k (0,0)).1:Int))/\w.cell? ⟨g,k*2+1,C⟩=E (A J ((l.getD k (0,0)).2:Int)):=fun k hk=>by
  obtain⟨g,e,h1,h2⟩:=h.at (i:=k) (by omega);exact⟨g,e,h1,h2 k (by omega)⟩
 have HC:=hid u;clear h u hl hN;go_enter func120,ntmps120
 go_wp2_with fail
 go_loopw [5,6,14] (fun vf vl vi wr=>∃k f nf cf:Nat,∃Z:Option Addr,∃L:Sps,k<=N/\f<=3000/\vf= D Z nf cf/\vi= A J k/\vl= A J (f:Int)/\F7 hi lo l=L++F7 hi f (l.drop k)/\L.length<=k/\OwnSi wr (w.heap.size+1) (D Z nf cf) (Ip L)/\Below (w.heap.size+1) (w.alloc (F #[A J (lo:Int), A J (hi:Int)] 146)) wr) (fun _ _ vi _=>N-(intOf vi).toNat)
 case atStart=>exact⟨0,lo,0,0,C,[],by omega,ar,rfl,rfl,rfl,rfl,Ac _,OwnSi.nil _ _,Ad _ _⟩
 case round=>
  obtain⟨k,f,nf,cf,Z,L,hk,hf,rfl,rfl,rfl,hg,ay,ho,hb⟩:=hrel;have hx:=Fc w 146 [A J (lo:Int), A J (hi:Int)];have x1:wr.cell? ⟨w.heap.size,1,C⟩=E (A J (hi:Int)):=(AF (hb.block w.heap.size (by omega))).trans (hx.cell 1);have y:Below w.heap.size w wr:=((Ad _ w).alloc (Ac _) _).trans (hb.mono (by omega));have an:w.heap.size+1<=wr.heap.size:=by have:=hb.size;simpa using this
  by_cases H:k<N
  ·obtain⟨g,rfl,ak,q0,q1⟩:=HC.out k H;have r0:=(AF (y.block g ak)).trans q0;have r1:=(AF (y.block g ak)).trans q1;have x:l.drop k=l.getD k (0,0)::l.drop (k+1):=by
    have h1:k<l.length:=by rw[<-HN.out];exact H
    rw[CY h1,Au,Ap h1];rfl
   have av:(l.getD k (0,0)).2<=3000:=hE _ (Rp (by rw[<-HN.out];exact H));have a3:=hs.XC (j:=k) (by rw[<-HN.out];exact H);have al:F7 hi f (l.drop k)=(if f<min hi (l.getD k (0,0)).1 then [(f,min hi (l.getD k (0,0)).1)] else [])++F7 hi (max f (l.getD k (0,0)).2) (l.drop (k+1)):=by
    rw[x];rfl
   rw[al]at hg;have HG:=hid hg;have HO:=hid ho;have HB:=hid hb;clear hg al x ho hb hx q0 q1 y;generalize (l.getD k (0,0)).1=m at*;generalize (l.getD k (0,0)).2=d at*;have m1:(if m<hi then (m:Int) else (hi:Int))=((min hi m:Nat):Int):=by split<;>omega
   have m2:(if f<d then (d:Int) else (f:Int))=((max f d:Nat):Int):=by split<;>omega
   have a4:(if (m:Int)<(hi:Int) then (m:Int) else (hi:Int))=((min hi m:Nat):Int):=by split<;>omega
   have ap:(if (f:Int)<(d:Int) then (d:Int) else (f:Int))=((max f d:Nat):Int):=by split<;>omega
   have au:max f d<=3000:=by omega
   have ai:Below (w.heap.size+1) (w.alloc (F #[A J (lo:Int), A J (hi:Int)] 146)) (wr.alloc (F #[A J (m:Int), A J (d:Int)] 146)):=HB.out.alloc an _;have ac:=Fc wr 146 [A J (m:Int), A J (d:Int)];have y0:(wr.alloc (F #[A J (m:Int), A J (d:Int)] 146)).cell? ⟨wr.heap.size,0,C⟩=E (A J (m:Int)):=ac.cell 0;have y1:(wr.alloc (F #[A J (m:Int), A J (d:Int)] 146)).cell? ⟨wr.heap.size,1,C⟩=E (A J (d:Int)):=ac.cell 1;have a5:(wr.alloc (F #[A J (m:Int), A J (d:Int)] 146)).cell? ⟨w.heap.size,1,C⟩=E (A J (hi:Int)):=(AF (Bc wr _ w.heap.size (by omega))).trans x1;have hF:∀(p q:Int) (w2:I),((wr.alloc (F #[A J (m:Int), A J (d:Int)] 146)).alloc (F #[A J p, A J q] 146)).grownBy w2 (D Z nf cf).ownBlock->w2.cell? ⟨wr.heap.size,1,C⟩=E (A J (d:Int)):=fun p q w2 s=>by
    have h1:(D Z nf cf).ownBlock≠E wr.heap.size:=fun e=>by
     have:=(HO.out.lt _ e).2;omega
    refine(AF (s.block wr.heap.size (by simp;omega) (fun e=>h1 e.symm))).trans ?_;exact(AF (Bc _ _ wr.heap.size (by simp))).trans y1
   have ae:=hid ai;have am:OwnSi (wr.alloc (F #[A J (m:Int), A J (d:Int)] 146)) (w.heap.size+1) (D Z nf cf) (Ip L):=A6 HO.out _;have ag:=hid am;have ao:w.heap.size+1<=(wr.alloc (F #[A J (m:Int), A J (d:Int)] 146)).heap.size:=by simp;omega
   clear ai ac am
   by_cases ab:f<min hi m
   ·have d1:decide ((f:Int)<((min hi m:Nat):Int))=true:=Ag (by omega);have W:Hid (F7 hi lo l=(L++[(f,min hi m)])++F7 hi d (l.drop (k+1))):=by
     grind
    have aa:(Ip L).length<=100000:=by rw[Hi];omega
    clear HG;generalize min hi m=M1 at*;have a0:f<d:=by omega
    clear m2 ap
    go_wp2_with(at_builtin;refine Mz (w.heap.size+1) _ (f:Int) (M1:Int) ag.out rfl _ _ rfl rfl (wr.heap.size+1) (by simp) rfl aa ae.out ao ?_;intro v2 w2 r t s;obtain⟨a2,c2,rfl, -, -, -⟩:=Fg r;have Y:=hid r;have Q:=hid t;have y2:=hF _ _ _ s;clear r t s);refine⟨⟨k+1,d,_,c2,a2,L++[(f,M1)],by omega,av,rfl,by go_num,rfl,W.out,by simp;omega,?_,Q.out⟩,by simp[intOf];omega⟩;have e:Ip (L++[(f,M1)])=Ip L++[((f:Int),(M1:Int))]:=by simp[Ip]
    rw[e];have h5:=Y.out
    grind
   ·have d1:decide ((f:Int)<((min hi m:Nat):Int))=G:=Ae (by omega);have W:Hid (F7 hi lo l=L++F7 hi (max f d) (l.drop (k+1))):=by
     grind
    clear HG;have aq:=hid m2;generalize min hi m=M1 at*;clear m2 ap
    go_wp2_with fail;refine⟨⟨k+1,max f d,nf,cf,Z,L,by omega,au,rfl,by go_num,by rw[<-aq.out],W.out,by omega,ag.out,ae.out⟩,by simp[intOf];omega⟩
  ·have a1:k=N:=by omega
   have aj:l.drop k=[]:=Dd (by rw[<-HN.out];omega);rw[aj]at hg;have HO:=hid ho;have HB:=hid hb;have HG:=hid hg;have ah:∀w2,Below (w.heap.size+1) (w.alloc (F #[A J (lo:Int), A J (hi:Int)] 146)) w2->Below w.heap.size w w2:=fun w2 h2=>((Ad _ w).alloc (Ac _) _).trans (h2.mono (by omega))
   have ad:=hid ah;have aa:(Ip L).length<=100000:=by rw[Hi];omega
   clear hg ho hb aj hx y ah
   by_cases ab:f<hi
   ·have d1:decide ((f:Int)<(hi:Int))=true:=Ag (by omega)
    go_wp2_with(at_builtin;refine Mz (w.heap.size+1) _ (f:Int) (hi:Int) HO.out rfl _ _ rfl rfl wr.heap.size rfl rfl aa HB.out an ?_;intro v2 w2 r t s;obtain⟨a2,c2,rfl, -, -, -⟩:=Fg r;have Y:=hid r;have Q:=hid t;clear r t s);go_ret;refine⟨_,rfl,?_,ad.out _ Q.out⟩;have e1:F7 hi lo l=L++[(f,hi)]:=by
     rw[HG.out];unfold F7;rw[Ab ab]
    have e:Ip (L++[(f,hi)])=Ip L++[((f:Int),(hi:Int))]:=by simp[Ip]
    rw[e1,e];have h5:=Y.out;rw[Ai]at h5;exact h5.AkU (Bx _)
   ·have d1:decide ((f:Int)<(hi:Int))=G:=Ae (by omega)
    go_wp2_with fail;go_ret;refine⟨_,rfl,?_,ad.out _ HB.out⟩;have e1:F7 hi lo l=L:=by
     rw[HG.out];unfold F7;rw[Aa ab,AA]
    rw[e1];exact HO.out.AkU (by omega)
structure UnP where
 text:ByteArray
 sent:Nat
 av:Value
 al:Sps
 dn:Bool
def UnP.zero:UnP:=⟨ByteArray.empty,0, D C 0 0,[],G⟩
def UnP.cells(x:UnP):List Value:=[.string x.text, A J (x.sent:Int),x.av,.bool x.dn]
structure UnAt(w:I)(g o:Nat)(x:UnP):Prop where
 c0:w.cell? ⟨g,o,C⟩=E (.string x.text)
 c1:w.cell? ⟨g,o+1,C⟩=E (A J (x.sent:Int))
 c2:w.cell? ⟨g,o+2,C⟩=E x.av
 c3:w.cell? ⟨g,o+3,C⟩=E (.bool x.dn)
 fr:∀j,w.frozen? ⟨g,j,C⟩=G
 ag:OwnSp w x.av x.al
 sep:∀g',x.av.ownBlock=E g'->g'≠g
theorem UnAt.kept{w w':I}{g o:Nat}{x:UnP}{S:List Nat}(h:UnAt w g o x)(d:Kept S w w')(hg:g∉S)(e:∀g',x.av.ownBlock=E g'->g'∉S):UnAt w' g o x:=
 ⟨E8 d h.c0 hg,E8 d h.c1 hg,E8 d h.c2 hg,E8 d h.c3 hg,fun j=>Ic d (h.fr j) (Aj w ⟨g,o,C⟩ h.c0) hg,h.ag.kept d e,h.sep⟩
def Qg (w:I)(g o:Nat)(x:UnP)(a z:Nat):Ending->I->Prop:=fun e w'=>e=.returned (.tuple #[])/\∃v' l',PtrPost w w' g (o+2) x.av.ownBlock.toList v'/\OwnSp w' v' l'/\Srt l'/\(∀i,inS l' i↔inS x.al i\/(x.dn=G/\a<=i/\i<min z x.sent))/\(∀g',v'.ownBlock=E g'->x.av.ownBlock=E g'\/w.heap.size<=g')
theorem Z0{x:UnP}(h:UnAt w g o x)(hs:Srt x.al)(hE:Qe x.al 3000)(ab:x.sent<=3000)(ae:a<=3000)(hz:z<=3000):
 Calls prog 66 #[.pointer (E ⟨g,o,C⟩),.agg #[A J (a:Int), A J (z:Int)]] w (Qg w g o x a z):=by
 obtain⟨c0,c1,c2,c3,fr,ag,sep⟩:=h;have N:g<w.heap.size:=Aj w _ c1;obtain⟨m, s⟩ := E7 (min z x.sent);have Y:(if x.sent<z then (x.sent:Int) else (z:Int))=(m:Int):=by rw[s];split<;>omega
 have Z:(if (x.sent:Int)<(z:Int) then (x.sent:Int) else (z:Int))=(m:Int):=by rw[s];split<;>omega
 have aa:m<=3000:=by omega
 have EM:=hid s;obtain⟨ad,c,p, -, -, -⟩:=ag.FC;have t:=hid ag;have ac:=hid p;have k:=hid sep;have u:=hid c2;have FR:=hid fr;have f:Kept [] w ((w.alloc (F #[A J (a:Int), A J (m:Int)] 146)).drew):=(((Kept.refl _ w).alloc _).drew);clear s ag p sep c2 c0 fr;obtain⟨text,sent,av,al,dn⟩:=x;dsimp only at*;go_enter func66,ntmps66;go_upto_region 1 with fail
 go_region;go_upto_region 2 with fail
 have j:At ((w.alloc (F #[A J (a:Int), A J (m:Int)] 146)).drew) w.heap.size 146 [A J (a:Int), A J (m:Int)]:=Fc w _ _;generalize (w.alloc (F #[A J (a:Int), A J (m:Int)] 146)).drew=W at*;have k2:=E8 f u.out (by simp);have k3:=E8 f c3 (by simp);have x0:W.cell? ⟨w.heap.size,0,C⟩=E (A J (a:Int)):=j.cell 0;have x1:W.cell? ⟨w.heap.size,1,C⟩=E (A J (m:Int)):=j.cell 1;have r:g∉av.ownBlock.toList:=fun hm=>k.out g (by simpa using hm) rfl
 have d:=hid f;have K2:=hid k2;clear j f c1 c3 k2 Y Z
 cases dn with
 | true=>
  go_wp2_with fail
  go_end0;exact⟨rfl,av,al,PtrPost.same (d.out.Fn (by simp)) r u.out,t.out.kept d.out (by simp),hs,fun i=>⟨.inl,fun h=>h.elim id fun h=>by simp at h⟩,fun y e=> .inl e⟩
 | false=>
  by_cases Q:a<m
  ·have d1:decide ((a:Int)<(m:Int))=true:=Ag (by omega);have L:W.frozen? ⟨g,o+2,C⟩=G:=Ic d.out (FR.out _) N (by simp);have q:=WE (w:=W.drew) (b:=g) (o:=o+2) (v:=av) (l:=al) (a:=a) (z:=m) K2.out L (t.out.kept (d.out.drew) (by simp)) k.out hs hE Q aa;go_upto_region 3 with fail
   go_region_with (go_at_call 118;refine q.mono ?_;rintro e' w1 ⟨rfl,v',l',q1,q2,q3,q4,q5⟩)
   go_end0;refine⟨rfl,v',l',⟨?_,fun T cur hA=>q1.row T cur (At.kept (w':=W.drew) hA d.out.drew (by simp))⟩,q2,q3,fun i=>?_,fun y e=>?_⟩
   ·exact((d.out.drew).Fn (by simp)).trans q1.kept
   ·rw[q4 i,EM.out];simp
   ·rcases q5 y e with H | H
    ·exact .inl H
    ·exact .inr (Ak d.out.size H)
  ·have d1:decide ((a:Int)<(m:Int))=G:=Ae (by omega)
   go_wp2_with fail
   go_end0;refine⟨rfl,av,al,PtrPost.same (d.out.Fn (by simp)) r u.out,t.out.kept d.out (by simp),hs,fun i=>⟨.inl,fun h=>h.elim id fun h=>?_⟩,fun y e=> .inl e⟩;have:=EM.out;dsimp only at h;omega
theorem Acu{x:UnP}(h:UnAt w g o x):
 Calls prog 67 #[.pointer (E ⟨g,o,C⟩)] w fun e w'=>e=.returned (.tuple #[])/\w'=(w.setCell ⟨g,o+3,C⟩ (.bool true)).setCell ⟨g,o+2,C⟩ (D C 0 0):=by
 obtain⟨c0,c1,c2,c3,fr,ag,sep⟩:=h;obtain⟨f,c,d, -, -, -⟩:=ag.FC;rw[d]at c2;have i:=fr (o+2);have f3:=fr (o+3);clear c0 c1 fr ag sep d;go_enter func67,ntmps67
 go_wp2_with fail
 go_end0;exact⟨rfl,rfl⟩
theorem Aam{x:UnP}(h:UnAt w g o x)(j:x.text.size<=3000)(f:x.sent<=3000):
 Calls prog 156 #[.pointer (E ⟨g,o,C⟩)] w fun e w'=>e=.returned (.bool (!x.dn && decide (x.sent<x.text.size)))/\∃n,w'=w.drewN n:=by
 obtain⟨c0,c1,c2,c3,fr,ag,sep⟩:=h;clear c2 fr ag sep;obtain⟨text,sent,av,al,dn⟩:=x;dsimp only at*
 cases dn with
 | true=>
  go_enter func156,ntmps156
  go_wp2_with fail
  go_quiet (fail)
  go_wp2_with fail;go_ret;exact⟨rfl,_,rfl⟩
 | false=>
  by_cases d:sent<text.size
  ·have i:decide ((sent:Int)<(text.size:Int))=true:=Ag (by omega);have hd:=hid (show(!G && decide (sent<text.size))=true by simp[d]);go_enter func156,ntmps156
   go_wp2_with fail
   go_quiet (fail)
   go_wp2_with fail;go_ret;exact⟨by rw[hd.out];rfl,_,rfl⟩
  ·have i:decide ((sent:Int)<(text.size:Int))=G:=Ae (by omega);have hd:=hid (show(!G && decide (sent<text.size))=G by simp[d]);go_enter func156,ntmps156
   go_wp2_with fail
   go_quiet (fail)
   go_wp2_with fail;go_ret;exact⟨by rw[hd.out];rfl,_,rfl⟩
end Go.Proofs.YtbjgfoiikhbonahGreatDoor
