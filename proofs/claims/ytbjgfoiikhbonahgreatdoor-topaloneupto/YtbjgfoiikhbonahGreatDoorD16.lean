import Derived.Test.YtbjgfoiikhbonahGreatDoorD15
import Derived.Test.YtbjgfoiikhbonahGreatDoorD03
set_option linter.unusedVariables false
set_option linter.unusedSimpArgs false
set_option maxRecDepth 100000
set_option maxHeartbeats 4000000
namespace Go.Proofs.YtbjgfoiikhbonahGreatDoor
open Go.ChangeShapes Go.WideShapes Go.ChangeAt Go.RowKit Go.Proofs.Tryz
open Value (int slice)
open IntKind (i64)
variable {B a b c g n o z:Nat}{S:List Nat}{T:TypeId}{cur:List Value}{l:Sps}{v:Value}{w w':World}
structure PtrPost(w w':World)(b o:Nat)(S:List Nat)(v':Value):Prop where
 kept:Kept (b::S) w w'
 row:∀T cur,At w b T cur->At w' b T (cur.set o v')
theorem At.setCell(h:At w b T cur)(v:Value):At (w.setCell ⟨b,o,none⟩ v) b T (cur.set o v):=by
 unfold At at h |-;rw[BK w b o _ _ v h,EQ]
theorem At.MU(h:At w b T cur)(p:Addr)(v:Value)(d:b≠p.block):At (w.setCell p v) b T cur:=(Co w p b v d).trans h
theorem FT(w:World)(b o:Nat)(v:Value):Kept [b] w (w.setCell ⟨b,o,none⟩ v):=(Kept.refl _ w).setCell (by simp) _
theorem PtrPost.store{W:World}(d:Kept S w W)(f:b∉S):PtrPost w (W.setCell ⟨b,o,none⟩ v) b o S v:=
 ⟨(d.Fn (fun x e=>AU _ e)).trans ((FT W b o v).Fn (fun x e=>by grind)),fun T cur h=>(h.kept d f).setCell v⟩
theorem PtrPost.same(d:Kept S w w')(k:b∉S)(j:w.cell? ⟨b,o,none⟩=some v):PtrPost w w' b o S v:=by
 refine⟨d.Fn (fun x m=>AU _ m),fun T cur h=>?_⟩;have e:=h.cell o;rw[j]at e;have f:cur.set o v=cur:=by
  refine Bf fun i=>?_
  grind
 rw[f];exact h.kept d k
theorem PtrPost.later{i:World}(h:PtrPost w w' b o S v)(e:Kept [w.heap.size] w' i)(p:b<w.heap.size):PtrPost w i b o S v:=by
 have d:=h.kept;refine⟨⟨e.os.trans d.os,e.tape.trans d.tape,e.output.trans d.output,Ak d.size e.size,fun k f m=>?_⟩,fun T cur j=>(h.row T cur j).kept e (by simp;omega)⟩;rw[e.block k (AI f d.size) (by simp;omega),d.block k f m]
theorem Ic(e:Kept S w w'){a:Addr}(h:w.frozen? a=false)(d:a.block<w.heap.size)(f:a.block∉S):w'.frozen? a=false:=by
 unfold World.frozen? at*;rw[e.block _ d f];exact h
def Ak2 (w:World)(b o g x m:Nat)(l:Sps):Ending->World->Prop:=fun e w'=>∃v',e=.returned (.agg #[int i64 (x:Int),int i64 ((m:Nat):Int)])/\PtrPost w w' b o [g] v'/\OwnSp w' v' l/\v'.ownBlock=some g
theorem AhB{x y:Nat}{r:Sps}{size:Nat}(Z:w.cell? ⟨b,o,none⟩=some (slice (some ⟨g,0,none⟩) n c))(ac:w.frozen? ⟨b,o,none⟩=false)(h:OwnSp w (slice (some ⟨g,0,none⟩) n c) ((x,y)::r))(Q:g≠b)(hr:r.length<=4000)(aq:x<y)(hy:y<=4000)(h1:1<=size)(h2:size<=4000):
 Calls prog 155 #[.pointer (some ⟨b,o,none⟩),int i64 (size:Int)] w (Ak2 w b o g x (min y (x+size)) (if y<=x+size then r else (x+size,y)::r)):=by
 have hl:=O6 h;subst hl;obtain⟨cur,hA, -,hn,hc,I,J,V⟩:=F9 h;have Y:=(h.at (i:=0) (by simp));obtain⟨g',e,am,Y⟩:=Y
 cases e;obtain⟨c0,c1⟩:=Y 0 (by simp);have c0:w.cell? ⟨g,0,none⟩=some (int i64 (x:Int)):=c0;have c1:w.cell? ⟨g,1,none⟩=some (int i64 (y:Int)):=c1;have al:=hA.free 0;have q:=Aj w _ Z;obtain⟨n',A⟩:=E7 (((x,y)::r).length);have ao:0<n':=by rw[A];simp
 rw[<-A]at Z;have HA:=hid hA;have HN:=hid A;have H:=hid h;clear h hA Y A;obtain⟨m,X⟩:=E7 (min y (x+size));have hm:(if (x:Int)+(size:Int)<(y:Int) then (x:Int)+(size:Int) else (y:Int))=(m:Int):=by
  rw[X]
  split<;>omega
 have ap:IntKind.i64.wrap ((x:Int)+(size:Int))=(x:Int)+(size:Int):=by rw[AO];omega
 have EM:=hid X;obtain⟨lr,D⟩:=E7 ((if y<=x+size then r else (x+size,y)::r));have L:=hid D;rw[<-X,<-D];clear X D;go_enter func155,ntmps155;go_upto_region 2 with fail
 go_region;go_upto_region 4 with fail
 have K:Kept [g] w (((w.setCell ⟨g,0,none⟩ (int i64 (m:Int))).alloc (.cells #[int i64 0,int i64 0] 146)).alloc (.cells #[int i64 (x:Int),int i64 (m:Int)] 146)).drew:=((((Kept.refl _ w).setCell (by simp) _).alloc _).alloc _).drew;have M:At (((w.setCell ⟨g,0,none⟩ (int i64 (m:Int))).alloc (.cells #[int i64 0,int i64 0] 146)).alloc (.cells #[int i64 (x:Int),int i64 (m:Int)] 146)).drew g 146 (cur.set 0 (int i64 (m:Int))):=(HA.out.setCell (int i64 (m:Int))).kept (S:=[]) ((((Kept.refl _ _).alloc _).alloc _).drew) (by simp);have f3:At (((w.setCell ⟨g,0,none⟩ (int i64 (m:Int))).alloc (.cells #[int i64 0,int i64 0] 146)).alloc (.cells #[int i64 (x:Int),int i64 (m:Int)] 146)).drew w.heap.size 146 [int i64 0,int i64 0]:=by
  have h0:At ((w.setCell ⟨g,0,none⟩ (int i64 (m:Int))).alloc (.cells #[int i64 0,int i64 0] 146)) w.heap.size 146 [int i64 0,int i64 0]:=by
   have:=Fc (w.setCell ⟨g,0,none⟩ (int i64 (m:Int))) 146 [int i64 0,int i64 0]
   rwa [Ef]at this
  exact h0.kept (S:=[]) (((Kept.refl _ _).alloc _).drew) (by simp)
 have f4:At (((w.setCell ⟨g,0,none⟩ (int i64 (m:Int))).alloc (.cells #[int i64 0,int i64 0] 146)).alloc (.cells #[int i64 (x:Int),int i64 (m:Int)] 146)).drew (w.heap.size+1) 146 [int i64 (x:Int),int i64 (m:Int)]:=by
  have:=Fc ((w.setCell ⟨g,0,none⟩ (int i64 (m:Int))).alloc (.cells #[int i64 0,int i64 0] 146)) 146 [int i64 (x:Int),int i64 (m:Int)];rw[Ax,Ef]at this;exact this
 generalize (((w.setCell ⟨g,0,none⟩ (int i64 (m:Int))).alloc (.cells #[int i64 0,int i64 0] 146)).alloc (.cells #[int i64 (x:Int),int i64 (m:Int)] 146)).drew=W at*;have ab:0<cur.length:=by
  grind
 have d0:W.cell? ⟨g,0,none⟩=some (int i64 (m:Int)):=by
  rw[M.cell];simp[ab]
 have d1:W.cell? ⟨g,1,none⟩=some (int i64 (y:Int)):=by
  rw[M.cell,CV (by omega),<-HA.out.cell];exact c1
 have k:b∉[g]:=by simpa using fun e=>Q e.symm
 have dp:=E8 K Z k;have aa:=Ic K ac q k;have x0:W.cell? ⟨w.heap.size+1,0,none⟩=some (int i64 (x:Int)):=f4.cell 0;have x1:W.cell? ⟨w.heap.size+1,1,none⟩=some (int i64 (m:Int)):=f4.cell 1;have z0:W.cell? ⟨w.heap.size,0,none⟩=some (int i64 0):=f3.cell 0;have z1:W.cell? ⟨w.heap.size,1,none⟩=some (int i64 0):=f3.cell 1;have ae:=f3.free 0;have af:=f3.free 1;have j:W.ownsRow 0 146 2 (slice (some ⟨g,0,none⟩) n' c) n' (FD ((m,y)::r)):=by
  rw[HN.out];refine M.row (by rw[Zb];rfl) hn hc (by rw[An,I]) ?_;rw[CW,J];rfl
 have ah:w.heap.size+1<W.heap.size:=f4.lt;have F1:=hid K;have F3:=hid f3;have ad:n'-1=r.length:=by rw[HN.out];rfl
 by_cases R:y<=x+size
 ·have t:m=y:=by rw[EM.out];omega
  have P:=(Xr (w:=W.drew) j (R7 _) (show 1<=n' by omega));have O:=hid j;have E2:=hid (show lr=r by rw[L.out,Ab R]);subst t;have hF:∀w1,Kept (slice (some ⟨g,0,none⟩) n' c).ownBlock.toList W.drew w1->w1.cell? ⟨b,o,none⟩=some (slice (some ⟨g,0,none⟩) n' c)/\w1.frozen? ⟨b,o,none⟩=false/\w1.cell? ⟨w.heap.size+1,0,none⟩=some (int i64 (x:Int))/\w1.cell? ⟨w.heap.size+1,1,none⟩=some (int i64 (m:Int))/\w1.cell? ⟨w.heap.size,0,none⟩=some (int i64 0)/\w1.cell? ⟨w.heap.size,1,none⟩=some (int i64 0)/\w1.frozen? ⟨w.heap.size,0,none⟩=false/\w1.frozen? ⟨w.heap.size,1,none⟩=false:=fun w1 d=>by
   have d:Kept [g] W.drew w1:=d;have N:w.heap.size+1∉[g]:=by simp;omega
   have u:w.heap.size∉[g]:=by simp;omega
   exact⟨E8 d dp k,Ic d aa (AI q K.size) k,E8 d x0 N,E8 d x1 N,E8 d z0 u,E8 d z1 u,Ic d ae (show w.heap.size<W.heap.size by omega) u,Ic d af (show w.heap.size<W.heap.size by omega) u⟩
  clear j K M f3 f4 c0 c1 hm I J V
  go_region;go_upto_region 6 with(go_at_call 183;refine P.mono ?_;rintro e w1 ⟨rfl,U,d⟩;obtain⟨ak,ag,ar,au,av,aw,ai,aj⟩:=hF _ d)
  have G1:=hid U;have G2:=hid d;clear U d;have G:¬(b=w.heap.size):=by have:b<w.heap.size:=q;omega
  have C:¬(w.heap.size=b):=fun e=>G e.symm
  have hZ:At w1 w.heap.size 146 [int i64 0,int i64 0]:=At.kept (w:=W.drew) F3.out G2.out (by simp[Value.ownBlock];omega);go_wp2;have hP:PtrPost w (w1.setCell ⟨b,o,none⟩ (slice (some ⟨g,0,none⟩) r.length c)) b o [g] (slice (some ⟨g,0,none⟩) r.length c):=PtrPost.store (F1.out.drew.trans G2.out) k;have hO:OwnSp (w1.setCell ⟨b,o,none⟩ (slice (some ⟨g,0,none⟩) r.length c)) (slice (some ⟨g,0,none⟩) r.length c) r:=by
   have h1:OwnSp w1 (slice (some ⟨g,0,none⟩) r.length c) r:=by
    have:=G1.out;rw[ad,Qp]at this;exact this
   exact h1.kept (FT w1 b o _) (fun g' f=>by simp[Value.ownBlock]at f;subst f;simpa using Q)
  have E:=hZ.MU ⟨b,o,none⟩ (slice (some ⟨g,0,none⟩) r.length c) C;generalize w1.setCell ⟨b,o,none⟩ (slice (some ⟨g,0,none⟩) r.length c)=W2 at*;have F:At ((W2.setCell ⟨w.heap.size,0,none⟩ (int i64 (x:Int))).setCell ⟨w.heap.size,1,none⟩ (int i64 (m:Int))) w.heap.size 146 [int i64 (x:Int),int i64 (m:Int)]:=(E.setCell (o:=0) (int i64 (x:Int))).setCell (o:=1) (int i64 (m:Int));have s:Kept [w.heap.size] W2 ((W2.setCell ⟨w.heap.size,0,none⟩ (int i64 (x:Int))).setCell ⟨w.heap.size,1,none⟩ (int i64 (m:Int))):=((Kept.refl _ _).setCell (by simp) _).setCell (by simp) _;refine Ah (BO (p:=4) (ty:=146) (by kernel_rfl) _ _ w.heap.size 146 _ (0,0) _ rfl F underlying146 rfl (by kernel_rfl)) rfl ?_;rw[E2.out];exact⟨_,rfl,hP.later s q,hO.kept s (fun g' f=>by simp[Value.ownBlock]at f;subst f;simp;omega),rfl⟩
 ·have t:m=x+size:=by rw[EM.out];omega
  have an:¬((m:Int)=(y:Int)):=by omega
  have O:=hid j;have e2:lr=(x+size,y)::r:=by rw[L.out,Aa R]
  have G:¬(b=w.heap.size):=by have:b<w.heap.size:=q;omega
  have C:¬(w.heap.size=b):=fun e=>G e.symm
  clear j K M f3 f4 c0 c1 hm I J V;rw[<-t]at e2;have E2:=hid e2;clear e2 t
  go_region;go_wp2;have hP:PtrPost w W b o [g] (slice (some ⟨g,0,none⟩) n' c):=PtrPost.same F1.out k Z;have hO:OwnSp W (slice (some ⟨g,0,none⟩) n' c) ((m,y)::r):=by
   have:=O.out;rw[HN.out]at this |-;exact this
  have E:At W w.heap.size 146 [int i64 0,int i64 0]:=F3.out;have F:At ((W.setCell ⟨w.heap.size,0,none⟩ (int i64 (x:Int))).setCell ⟨w.heap.size,1,none⟩ (int i64 (m:Int))).drew w.heap.size 146 [int i64 (x:Int),int i64 (m:Int)]:=(E.setCell (o:=0) (int i64 (x:Int))).setCell (o:=1) (int i64 (m:Int));have s:Kept [w.heap.size] W ((W.setCell ⟨w.heap.size,0,none⟩ (int i64 (x:Int))).setCell ⟨w.heap.size,1,none⟩ (int i64 (m:Int))).drew:=(((Kept.refl _ _).setCell (by simp) _).setCell (by simp) _).drew;refine Ah (BO (p:=4) (ty:=146) (by kernel_rfl) _ _ w.heap.size 146 _ (0,0) _ rfl F underlying146 rfl (by kernel_rfl)) rfl ?_;rw[E2.out];exact⟨_,rfl,hP.later s q,hO.kept s (fun g' f=>by simp[Value.ownBlock]at f;subst f;simp;omega),rfl⟩
theorem JO{a:World}(h:Below B a w)(n:Nat):Below B a (w.drewN n):=⟨h.os,h.tape,h.output,h.size,h.block⟩
def Ak1 (w:World)(b o:Nat)(v:Value)(l:Sps)(a z:Nat):Ending->World->Prop:=fun e w'=>e=.returned (.tuple #[])/\∃v' l',PtrPost w w' b o v.ownBlock.toList v'/\OwnSp w' v' l'/\Srt l'/\(∀i,inS l' i↔inS l i\/(a<=i/\i<z))/\(∀g,v'.ownBlock=some g->v.ownBlock=some g\/w.heap.size<=g)
theorem WE(hp:w.cell? ⟨b,o,none⟩=some v)(av:w.frozen? ⟨b,o,none⟩=false)(h:OwnSp w v l)(aw:∀g,v.ownBlock=some g->g≠b)(hs:Srt l)(hE:Qe l 3000)(ag:a<z)(hz:z<=3000):
 Calls prog 118 #[.pointer (some ⟨b,o,none⟩),.agg #[int i64 (a:Int),int i64 (z:Int)]] w (Ak1 w b o v l a z):=by
 obtain⟨u,c,rfl,hn,hc,hx⟩:=h.FC;have a1:=hs.few hE;obtain⟨N,hN⟩:=E7 l.length;have aa:b<w.heap.size:=Aj w _ hp;have a3:¬(b=w.heap.size):=by omega
 have L:=hid hN;have H:=hid h;have a2:N<=3000:=by omega
 have I:∀k,k<N->∃g,u=some ⟨g,0,none⟩/\g<w.heap.size/\w.cell? ⟨g,k*2,none⟩=some (int i64 ((l.getD k (0,0)).1:Int))/\w.cell? ⟨g,k*2+1,none⟩=some (int i64 ((l.getD k (0,0)).2:Int)):=fun k hk=>by
  obtain⟨g,e,F,D⟩:=h.at (i:=k) (by omega);exact⟨g,e,F,D k (by omega)⟩
 have HC:=hid I;rw[<-hN]at hp;clear h hx hN I;go_enter func118,ntmps118
 go_wp2_with fail
 go_loopw [4] (fun vb wr=>∃k:Nat,k<=N/\vb=int i64 k/\(∀j,j<k->(l.getD j (0,0)).2<a)/\Below (w.heap.size+1) (w.alloc (.cells #[int i64 (a:Int),int i64 (z:Int)] 146)) wr) (fun vb _=>N-(intOf vb).toNat)
 case atStart=>exact⟨0,by omega,rfl,fun j hj=>by omega,Ad _ _⟩
 case round=>
  obtain⟨k,hk,rfl,hj,hb⟩:=hrel;have hx:=Fc w 146 [int i64 (a:Int),int i64 (z:Int)];have x0:wr.cell? ⟨w.heap.size,0,none⟩=some (int i64 (a:Int)):=(AF (hb.block w.heap.size (by omega))).trans (hx.cell 0);have x1:wr.cell? ⟨w.heap.size,1,none⟩=some (int i64 (z:Int)):=(AF (hb.block w.heap.size (by omega))).trans (hx.cell 1);have A:Below w.heap.size w wr:=((Ad _ w).alloc (Ac _) _).trans (hb.mono (by omega));have p0:wr.cell? ⟨b,o,none⟩=some (slice u N c):=(AF (A.block b aa)).trans hp;have HJ:=hid hj;have HB:=hid hb;clear hx hb hj;go_upto_region 2 with fail
  go_cut [23]from 6 to 25 (fun t wx=>t=.bool (decide (k<N/\(l.getD k (0,0)).2<a))/\∃m,wx=wr.drewN m)
  case first=>
   by_cases U:k<N
   ·obtain⟨g,M,hg,V,W⟩:=HC.out k U;have r1:=(AF (A.block g hg)).trans W;rw[M]at p0;have d2:decide ((k:Int)<(N:Int))=true:=Ag (by omega);generalize (l.getD k (0,0)).2=Q at*
    by_cases K:Q<a
    ·have d1:decide ((Q:Int)<(a:Int))=true:=Ag (by omega);have hd:=hid (show decide (k<N/\Q<a)=true from Ag ⟨U,K⟩);clear A V W M
     go_quiet (fail);go_wp2
     go_meet;exact⟨by rw[hd.out],_,rfl⟩
    ·have d1:decide ((Q:Int)<(a:Int))=false:=Ae (by omega);have hd:=hid (show decide (k<N/\Q<a)=false from Ae (fun h=>K h.2));clear A V W M
     go_quiet (fail);go_wp2
     go_meet;exact⟨by rw[hd.out],_,rfl⟩
   ·have R:k=N:=by omega
    subst R;have hd:=hid (show decide (k<k/\(l.getD k (0,0)).2<a)=false from Ae (fun h=>U h.1));clear A U
    go_quiet (fail);go_wp2
    go_meet;exact⟨by rw[hd.out],_,rfl⟩
  case rest=>
   obtain⟨rfl,m,rfl⟩:=hcut
   by_cases d:k<N/\(l.getD k (0,0)).2<a
   ·have hd:decide (k<N/\(l.getD k (0,0)).2<a)=true:=Ag d;rw[hd];have HG:=hid d;have R:k<N:=d.1;clear d hd x0 x1 p0 A hp
    go_wp2_with fail;refine⟨⟨k+1,by omega,by go_num,fun j hj=>?_,JO HB.out _⟩,by simp[intOf];omega⟩
    rcases AS j k with Z | Z
    ·exact HJ.out j Z
    ·rw[show j=k by omega];exact HG.out.2
   ·have hd:decide (k<N/\(l.getD k (0,0)).2<a)=false:=Ae d;rw[hd]
    have ar:=hid (Joins.SF (l:=l) (a:=a) (z:=z) (b:=k) (by rw[<-L.out];exact hk) HJ.out hs (fun Z=>by
     rw[<-L.out]at Z
     grind))
    have Y:=hid hp;clear d hd x0 x1 p0 A hp
    go_wp2_with fail
    go_loopw [5] (fun ve al=>∃e x y:Nat,e<=N/\ve=int i64 e/\y<=3000/\Joins l a z k e x y/\Kept [w.heap.size] (w.alloc (.cells #[int i64 (a:Int),int i64 (z:Int)] 146)) al/\At al w.heap.size 146 [int i64 (x:Int),int i64 (y:Int)]) (fun ve _=>N-(intOf ve).toNat)
    case atStart=>
     refine⟨k,a,z,hk,rfl,hz,ar.out,(Kept.E5 (by rw[Ax];exact JO HB.out _)),?_⟩;exact(Fc w 146 [int i64 (a:Int),int i64 (z:Int)]).kept (S:=[]) (Kept.E5 (by rw[Ax];exact JO HB.out _)) (by simp)
    case round=>
     obtain⟨e,x,y,he,rfl,hy,hJ,hK,hX⟩:=hrel;have ab:Kept [w.heap.size] w wr:=((Kept.refl _ w).alloc _).trans hK;have x0:wr.cell? ⟨w.heap.size,0,none⟩=some (int i64 (x:Int)):=hX.cell 0;have x1:wr.cell? ⟨w.heap.size,1,none⟩=some (int i64 (y:Int)):=hX.cell 1;have a6:=hX.free 0;have a7:=hX.free 1;have p0:=E8 ab Y.out (by simp;omega);have O:=hid hJ;have an:=hid hK;have au:=hid hX;have C:=hid ab;clear hJ hK hX ab;go_upto_region 5 with fail
     go_cut [44]from 27 to 67 (fun t wx=>t=.bool (decide (e<N/\(l.getD e (0,0)).1<=y))/\∃m,wx=wr.drewN m)
     case first=>
      by_cases s:e<N
      ·obtain⟨g,M,hg,V,W⟩:=HC.out e s;have r0:=E8 C.out V (by simp;omega);rw[M]at p0;have d2:decide ((e:Int)<(N:Int))=true:=Ag (by omega);generalize (l.getD e (0,0)).1=Q at*
       by_cases K:Q<=y
       ·have d1:decide ((Q:Int)<=(y:Int))=true:=Ag (by omega);have hd:=hid (show decide (e<N/\Q<=y)=true from Ag ⟨s,K⟩);clear V W M
        go_quiet (fail);go_wp2
        go_meet;exact⟨by rw[hd.out],_,rfl⟩
       ·have d1:decide ((Q:Int)<=(y:Int))=false:=Ae (by omega);have hd:=hid (show decide (e<N/\Q<=y)=false from Ae (fun h=>K h.2));clear V W M
        go_quiet (fail);go_wp2
        go_meet;exact⟨by rw[hd.out],_,rfl⟩
      ·have R:e=N:=by omega
       subst R;have hd:=hid (show decide (e<e/\(l.getD e (0,0)).1<=y)=false from Ae (fun h=>s h.1));clear s
       go_quiet (fail);go_wp2
       go_meet;exact⟨by rw[hd.out],_,rfl⟩
     case rest=>
      obtain⟨rfl,m2,rfl⟩:=hcut
      by_cases d:e<N/\(l.getD e (0,0)).1<=y
      ·have hd:decide (e<N/\(l.getD e (0,0)).1<=y)=true:=Ag d;rw[hd];obtain⟨s,ah⟩:=d;obtain⟨g,M,hg,V,W⟩:=HC.out e s;have r0:=E8 C.out V (by simp;omega);have r1:=E8 C.out W (by simp;omega);rw[M]at p0;have ae:=hid (O.out.step hs ag (by rw[<-L.out];exact s) ah);have a4:(l.getD e (0,0)).2<=3000:=hE _ (Rp (by rw[<-L.out];exact s));clear ah hd M V W;generalize (l.getD e (0,0)).1=Q1 at*;generalize (l.getD e (0,0)).2=X at*;have m1:(if Q1<x then (Q1:Int) else (x:Int))=((min x Q1:Nat):Int):=by split<;>omega
       have m2:(if y<X then (X:Int) else (y:Int))=((max y X:Nat):Int):=by split<;>omega
       have a5:(if (y:Int)<(X:Int) then (X:Int) else (y:Int))=((max y X:Nat):Int):=by split<;>omega
       have ay:max y X<=3000:=by omega
       generalize min x Q1=X' at*;generalize max y X=Y' at*;go_upto_region 6 with fail
       go_region
       go_wp2_with fail;refine⟨⟨e+1,X',Y',by omega,by go_num,ay,ae.out,?_,?_⟩,by simp[intOf];omega⟩
       ·exact((an.out.drewN _).setCell (by simp) _).setCell (by simp) _
       ·exact((At.setCell (w:=wr.drewN _) au.out (o:=0) (int i64 (X':Int))).setCell (o:=1) (int i64 (Y':Int)))
      ·have hd:decide (e<N/\(l.getD e (0,0)).1<=y)=false:=Ae d;rw[hd]
       have r:=hid (O.out.done hs ag (fun Z=>by
        rw[<-L.out]at Z
        exact Nat.lt_of_not_le fun D=>d ⟨Z,D⟩))
       have J:∀q,Kept [] wr ((wr.drewN q).alloc (.cells #[int i64 (x:Int),int i64 (y:Int)] 146)):=fun q=>((Kept.refl _ wr).drewN q).alloc _
       have f:∀q,Kept [w.heap.size] w ((wr.drewN q).alloc (.cells #[int i64 (x:Int),int i64 (y:Int)] 146)):=fun q=>C.out.trans ((J q).Fn (by simp))
       have ai:∀g,(slice u l.length c).ownBlock=some g->g∉[w.heap.size]:=fun g hg=>by
        have:=H.out.lt hg;simp;omega
       obtain⟨L',eL⟩:=E7 (l.take k++(x,y)::l.drop e);rw[<-eL]at r;obtain⟨N',eN⟩:=E7 L'.length;have ak:∀q,Calls prog 169 #[slice u N c,int i64 (k:Int),int i64 (e:Int),slice (some ⟨wr.heap.size,0,none⟩) 1 1] ((wr.drewN q).alloc (.cells #[int i64 (x:Int),int i64 (y:Int)] 146)) (I7 ((wr.drewN q).alloc (.cells #[int i64 (x:Int),int i64 (y:Int)] 146)) u N' (FD L') (slice u N c).ownBlock.toList):=fun q=>by
        have F:OwnSp ((wr.drewN q).alloc (.cells #[int i64 (x:Int),int i64 (y:Int)] 146)) (slice u l.length c) l:=H.out.kept (f q) ai
        have D:=AaW (w:=(wr.drewN q).alloc (.cells #[int i64 (x:Int),int i64 (y:Int)] 146)) (i:=k) (j:=e) (p:=(x:Int)) (q:=(y:Int)) F (R7 l) (by omega) (Fc (wr.drewN q) _ _) (fun yy a0=>by
         obtain⟨_,_,e1,_,_,h4⟩:=H.out.FC;simp only[Aq]at e1;obtain⟨rfl, -,rfl⟩:=e1;obtain⟨g,rfl,h5⟩:=h4 yy a0;have h6:=H.out.lt h5;have h7:=C.out.size
         show wr.heap.size≠g
         omega) O.out.be O.out.el
        rw[eN,r.out.2.2,L.out,eL,Za,<-Xd,<-L.out];have e5:FD ((x,y)::l.drop e)=[int i64 (x:Int),int i64 (y:Int)]++FD (l.drop e):=rfl;rw[e5,<-Qp];rw[<-L.out]at D;exact D
       have G:b∉[w.heap.size]:=by simp;omega
       have hF:∀q w1,Kept (slice u N c).ownBlock.toList ((wr.drewN q).alloc (.cells #[int i64 (x:Int),int i64 (y:Int)] 146)) w1->w1.cell? ⟨b,o,none⟩=some (slice u N c)/\w1.frozen? ⟨b,o,none⟩=false:=fun q w1 E=>by
        have P:b∉(slice u N c).ownBlock.toList:=by
         intro hm;have:(slice u l.length c).ownBlock=some b:=by
          rw[<-L.out]
          simpa using hm
         exact aw b this rfl
        have h8:=E8 (f q) Y.out G;have h9:=Ic (f q) av aa G;exact⟨E8 E h8 P,Ic E h9 (AI aa (f q).size) P⟩
       have pA:∀q,((wr.drewN q).alloc (.cells #[int i64 (x:Int),int i64 (y:Int)] 146)).cell? ⟨b,o,none⟩=some (slice u N c):=fun q=>E8 (f q) Y.out G
       have ao:=hid f;have EN:=hid eN;clear d hd J f ai eL eN;go_upto_region 8 with fail
       go_region_with (go_at_call 169;refine(ak _).mono ?_;rintro e' w1 ⟨v',rfl,ac,af,E⟩;obtain⟨s1,s2⟩:=hF _ _ E;obtain⟨a',c',rfl, -, -, -⟩:=Fg ac;have aq:=hid ac;have ap:=hid af;have am:=hid E;clear ac af E)
       all_goals
        go_end0;have ax:Kept (slice u l.length c).ownBlock.toList w w1:=by
         have F:=ao.out (m2+1);have D:=am.out;rw[L.out]at D;refine⟨D.os.trans F.os,D.tape.trans F.tape,D.output.trans F.output,Ak F.size D.size,fun j hj az=>?_⟩;rw[D.block j (AI hj F.size) az,F.block j hj (by simp;omega)]
        have P:b∉(slice u l.length c).ownBlock.toList:=by
         grind
        have aj:∀g,(slice a' N' c').ownBlock=some g->(slice u l.length c).ownBlock=some g\/w.heap.size<=g:=fun g hg=>by
         rcases ap.out g hg with⟨o',e1⟩ | F
         ·left;rw[e1];rfl
         ·right;exact Ak C.out.size (Ak (by simp) F)
        refine⟨rfl,slice a' N' c',L',PtrPost.store ax P,?_,r.out.1,r.out.2.1,aj⟩;have h5:OwnSp w1 (slice a' N' c') L':=by
         have:=aq.out;rw[EN.out]at this |-;exact this
        refine h5.kept (FT w1 b o _) (fun g hg=>?_)
        grind
abbrev Sis:=List (Int×Int)
def K5 (l:Sis):List Value:=l.flatMap fun q=>[int i64 q.1,int i64 q.2]
theorem Y9(l r:Sis):K5 (l++r)=K5 l++K5 r:=by simp[K5]
theorem Acd(l:Sis):∀i,i<l.length->(K5 l)[i*2]?=some (int i64 (l.getD i (0,0)).1)/\(K5 l)[i*2+1]?=some (int i64 (l.getD i (0,0)).2):=by
 induction l with
 | nil=>intro i h;simp at h
 | cons q l ih=>
  intro i h;have e:K5 (q::l)=int i64 q.1:: int i64 q.2::K5 l:=rfl
  grind
def OwnSi(w:World)(B:Nat)(v:Value)(l:Sis):Prop:=w.ownsRow B 146 2 v l.length (K5 l)
def Ip (l:Sps):Sis:=l.map fun q=>((q.1:Int),(q.2:Int))
theorem Hi(l:Sps):(Ip l).length=l.length:=by simp[Ip]
theorem OwnSi.nil(w:World)(B:Nat):OwnSi w B (slice none 0 0) []:=Bj _ _ _ _
theorem OwnSi.at{w:World}{B:Nat}{a:Option Addr}{c n:Nat}{l:Sis}(h:OwnSi w B (slice a n c) l){i:Nat}(hi:i<l.length):∃g,a=some ⟨g,0,none⟩/\g<w.heap.size/\∀k,k<l.length->w.cell? ⟨g,k*2,none⟩=some (int i64 (l.getD k (0,0)).1)/\w.cell? ⟨g,k*2+1,none⟩=some (int i64 (l.getD k (0,0)).2):=by
 have q:=O6 h;subst q
 rcases h.2 with⟨_,s⟩ | ⟨g,m,cur,f,_⟩
 ·omega
 ·simp only[Aq]at f;obtain⟨rfl, -,rfl⟩:=f;obtain⟨cur,d, -, -, -, -,e,r⟩:=F9 h;refine⟨g,rfl,d.lt,fun k p=>?_⟩;have j:=Acd l k p;rw[d.cell,d.cell,<-j.1,<-j.2,<-e,A3 (by omega),A3 (by omega)];exact⟨rfl,rfl⟩
theorem OwnSi.AkU{e:Nat}{l:Sis}(h:OwnSi w B v l)(m:e<=B):OwnSi w e v l:=by
 refine⟨h.1,?_⟩
 rcases h.2 with f | ⟨g,d,cur,i,j,k⟩
 ·exact .inl f
 ·exact .inr ⟨g,d,cur,i,Ak m j,k⟩
theorem Mz{ops:Array Oper}{e:List Oper}{o:Oper}{a:Act}{Q:Exit->Act->World->Prop}{w0:World}{L:Sis}(B:Nat)(f:World)(p q:Int)(d:OwnSi w0 B v L)(i:o.guard=none)(s x:Operand)
 (D:o.op=.call {callee:=.builtin .append,args:=#[s,x],argTypes:=#[141,141]}) (hs:a.eval s=v)
 (gx:Nat) (hgx:gx=w0.heap.size) (hx:a.eval x=slice (some ⟨gx,0,none⟩) 1 1) (hlen:L.length<=100000) (hbel:Below B f w0) (hB:B<=w0.heap.size)
 (h:∀v' w',OwnSi w' B v' (L++[(p,q)])->Below B f w'->(w0.alloc (.cells #[int i64 p,int i64 q] 146)).grownBy w' v.ownBlock->wpList prog ops Q e (a.put o.dst v') w'):wpList prog ops Q (o::e) a (w0.alloc (.cells #[int i64 p,int i64 q] 146)):=by
 subst hgx;obtain⟨G,hi,m,r,t⟩:=As Tryz.PS;have E:=Am w0 (.cells #[int i64 p,int i64 q] 146);refine CJ _ i s x 141 D B 146 G _ 2 16 underlying141 hi m r t rfl (by decide) v _ _ hs (A6 d _) ⟨w0.heap.size,0,none⟩ 1 1 [int i64 p,int i64 q] hx rfl ?_ On ?_ ?_ ?_ ?_
 ·intro j u F;rw[BT,Ao,Al _ _ _ _ _ _ E]
  simpa using F
 ·unfold maxLen;omega
 ·omega
 ·simp;omega
 ·intro v' w' A y _;refine h v' w' ?_ ((hbel.alloc hB _).grown y (by simp;omega) (fun k C=>(d.lt k C).1)) y;unfold OwnSi;rw[Y9,Ai];exact A
def Qf (w:World)(l:Sps)(lo hi:Nat):Ending->World->Prop:=fun e w'=>∃v',e=.returned v'/\OwnSi w' w.heap.size v' (Ip (F7 hi lo l))/\Below w.heap.size w w'
theorem P6{a:Option Addr}{lo hi:Nat}(h:OwnSp w (slice a n c) l)(hs:Srt l)(hE:Qe l 3000)(ah:lo<=3000)(ak:hi<=3000):
 Calls prog 120 #[slice a n c,.agg #[int i64 (lo:Int),int i64 (hi:Int)]] w (Qf w l lo hi):=by
 have hl:=O6 h;have al:=hs.few hE;obtain⟨N,hN⟩:=E7 l.length;rw[hl,<-hN];have HN:=hid hN;have an:N<=3000:=by omega
 have u:∀k,k<N->∃g,a=some ⟨g,0,none⟩/\g<w.heap.size/\w.cell? ⟨g,k*2,none⟩=some (int i64 ((l.getD k (0,0)).1:Int))/\w.cell? ⟨g,k*2+1,none⟩=some (int i64 ((l.getD k (0,0)).2:Int)):=fun k hk=>by
  obtain⟨g,e,M,h2⟩:=h.at (i:=k) (by omega);exact⟨g,e,M,h2 k (by omega)⟩
 have HC:=hid u;clear h u hl hN;go_enter func120,ntmps120
 go_wp2_with fail
 go_loopw [5,6,14] (fun vf vl vi wr=>∃k f K cf:Nat,∃F:Option Addr,∃L:Sps,k<=N/\f<=3000/\vf=slice F K cf/\vi=int i64 k/\vl=int i64 (f:Int)/\F7 hi lo l=L++F7 hi f (l.drop k)/\L.length<=k/\OwnSi wr (w.heap.size+1) (slice F K cf) (Ip L)/\Below (w.heap.size+1) (w.alloc (.cells #[int i64 (lo:Int),int i64 (hi:Int)] 146)) wr) (fun _ _ vi _=>N-(intOf vi).toNat)
 case atStart=>exact⟨0,lo,0,0,none,[],by omega,ah,rfl,rfl,rfl,rfl,Ac _,OwnSi.nil _ _,Ad _ _⟩
 case round=>
  obtain⟨k,f,K,cf,F,L,hk,hf,rfl,rfl,rfl,hg,am,ho,H⟩:=hrel;have hx:=Fc w 146 [int i64 (lo:Int),int i64 (hi:Int)];have x1:wr.cell? ⟨w.heap.size,1,none⟩=some (int i64 (hi:Int)):=(AF (H.block w.heap.size (by omega))).trans (hx.cell 1);have y:Below w.heap.size w wr:=((Ad _ w).alloc (Ac _) _).trans (H.mono (by omega));have ac:w.heap.size+1<=wr.heap.size:=by have:=H.size;simpa using this
  by_cases A:k<N
  ·obtain⟨g,rfl,Z,q0,q1⟩:=HC.out k A;have r0:=(AF (y.block g Z)).trans q0;have r1:=(AF (y.block g Z)).trans q1;have x:l.drop k=l.getD k (0,0)::l.drop (k+1):=by
    have M:k<l.length:=by rw[<-HN.out];exact A
    rw[CY M,Au,Ap M];rfl
   have aj:(l.getD k (0,0)).2<=3000:=hE _ (Rp (by rw[<-HN.out];exact A));have aq:=hs.XC (j:=k) (by rw[<-HN.out];exact A);have aa:F7 hi f (l.drop k)=(if f<min hi (l.getD k (0,0)).1 then [(f,min hi (l.getD k (0,0)).1)] else [])++F7 hi (max f (l.getD k (0,0)).2) (l.drop (k+1)):=by
    rw[x];rfl
   rw[aa]at hg;have Q:=hid hg;have R:=hid ho;have HB:=hid H;clear hg aa x ho H hx q0 q1 y;generalize (l.getD k (0,0)).1=m at*;generalize (l.getD k (0,0)).2=d at*;have m1:(if m<hi then (m:Int) else (hi:Int))=((min hi m:Nat):Int):=by split<;>omega
   have m2:(if f<d then (d:Int) else (f:Int))=((max f d:Nat):Int):=by split<;>omega
   have ar:(if (m:Int)<(hi:Int) then (m:Int) else (hi:Int))=((min hi m:Nat):Int):=by split<;>omega
   have ae:(if (f:Int)<(d:Int) then (d:Int) else (f:Int))=((max f d:Nat):Int):=by split<;>omega
   have ai:max f d<=3000:=by omega
   have X:Below (w.heap.size+1) (w.alloc (.cells #[int i64 (lo:Int),int i64 (hi:Int)] 146)) (wr.alloc (.cells #[int i64 (m:Int),int i64 (d:Int)] 146)):=HB.out.alloc ac _;have J:=Fc wr 146 [int i64 (m:Int),int i64 (d:Int)];have y0:(wr.alloc (.cells #[int i64 (m:Int),int i64 (d:Int)] 146)).cell? ⟨wr.heap.size,0,none⟩=some (int i64 (m:Int)):=J.cell 0;have y1:(wr.alloc (.cells #[int i64 (m:Int),int i64 (d:Int)] 146)).cell? ⟨wr.heap.size,1,none⟩=some (int i64 (d:Int)):=J.cell 1;have au:(wr.alloc (.cells #[int i64 (m:Int),int i64 (d:Int)] 146)).cell? ⟨w.heap.size,1,none⟩=some (int i64 (hi:Int)):=(AF (Bc wr _ w.heap.size (by omega))).trans x1;have hF:∀(p q:Int) (w2:World),((wr.alloc (.cells #[int i64 (m:Int),int i64 (d:Int)] 146)).alloc (.cells #[int i64 p,int i64 q] 146)).grownBy w2 (slice F K cf).ownBlock->w2.cell? ⟨wr.heap.size,1,none⟩=some (int i64 (d:Int)):=fun p q w2 s=>by
    have M:(slice F K cf).ownBlock≠some wr.heap.size:=fun e=>by
     have:=(R.out.lt _ e).2;omega
    refine(AF (s.block wr.heap.size (by simp;omega) (fun e=>M e.symm))).trans ?_;exact(AF (Bc _ _ wr.heap.size (by simp))).trans y1
   have P:=hid X;have ab:OwnSi (wr.alloc (.cells #[int i64 (m:Int),int i64 (d:Int)] 146)) (w.heap.size+1) (slice F K cf) (Ip L):=A6 R.out _;have U:=hid ab;have ad:w.heap.size+1<=(wr.alloc (.cells #[int i64 (m:Int),int i64 (d:Int)] 146)).heap.size:=by simp;omega
   clear X J ab
   by_cases I:f<min hi m
   ·have d1:decide ((f:Int)<((min hi m:Nat):Int))=true:=Ag (by omega);have D:Hid (F7 hi lo l=(L++[(f,min hi m)])++F7 hi d (l.drop (k+1))):=by
     grind
    have G:(Ip L).length<=100000:=by rw[Hi];omega
    clear Q;generalize min hi m=V at*;have ao:f<d:=by omega
    clear m2 ae
    go_wp2_with(at_builtin;refine Mz (w.heap.size+1) _ (f:Int) (V:Int) U.out rfl _ _ rfl rfl (wr.heap.size+1) (by simp) rfl G P.out ad ?_;intro v2 w2 r t s;obtain⟨a2,c2,rfl, -, -, -⟩:=Fg r;have E:=hid r;have C:=hid t;have y2:=hF _ _ _ s;clear r t s);refine⟨⟨k+1,d,_,c2,a2,L++[(f,V)],by omega,aj,rfl,by go_num,rfl,D.out,by simp;omega,?_,C.out⟩,by simp[intOf];omega⟩;have e:Ip (L++[(f,V)])=Ip L++[((f:Int),(V:Int))]:=by simp[Ip]
    rw[e];have h5:=E.out
    grind
   ·have d1:decide ((f:Int)<((min hi m:Nat):Int))=false:=Ae (by omega);have D:Hid (F7 hi lo l=L++F7 hi (max f d) (l.drop (k+1))):=by
     grind
    clear Q;have ag:=hid m2;generalize min hi m=V at*;clear m2 ae
    go_wp2_with fail;refine⟨⟨k+1,max f d,K,cf,F,L,by omega,ai,rfl,by go_num,by rw[<-ag.out],D.out,by omega,U.out,P.out⟩,by simp[intOf];omega⟩
  ·have ap:k=N:=by omega
   have Y:l.drop k=[]:=Dd (by rw[<-HN.out];omega);rw[Y]at hg;have R:=hid ho;have HB:=hid H;have Q:=hid hg;have W:∀w2,Below (w.heap.size+1) (w.alloc (.cells #[int i64 (lo:Int),int i64 (hi:Int)] 146)) w2->Below w.heap.size w w2:=fun w2 h2=>((Ad _ w).alloc (Ac _) _).trans (h2.mono (by omega))
   have O:=hid W;have G:(Ip L).length<=100000:=by rw[Hi];omega
   clear hg ho H Y hx y W
   by_cases I:f<hi
   ·have d1:decide ((f:Int)<(hi:Int))=true:=Ag (by omega)
    go_wp2_with(at_builtin;refine Mz (w.heap.size+1) _ (f:Int) (hi:Int) R.out rfl _ _ rfl rfl wr.heap.size rfl rfl G HB.out ac ?_;intro v2 w2 r t s;obtain⟨a2,c2,rfl, -, -, -⟩:=Fg r;have E:=hid r;have C:=hid t;clear r t s);go_ret;refine⟨_,rfl,?_,O.out _ C.out⟩;have e1:F7 hi lo l=L++[(f,hi)]:=by
     rw[Q.out];unfold F7;rw[Ab I]
    have e:Ip (L++[(f,hi)])=Ip L++[((f:Int),(hi:Int))]:=by simp[Ip]
    rw[e1,e];have h5:=E.out;rw[Ai]at h5;exact h5.AkU (Bx _)
   ·have d1:decide ((f:Int)<(hi:Int))=false:=Ae (by omega)
    go_wp2_with fail;go_ret;refine⟨_,rfl,?_,O.out _ HB.out⟩;have e1:F7 hi lo l=L:=by
     rw[Q.out];unfold F7;rw[Aa I,AA]
    rw[e1];exact R.out.AkU (by omega)
structure UnP where
 text:ByteArray
 sent:Nat
 av:Value
 al:Sps
 dn:Bool
def UnP.zero:UnP:=⟨ByteArray.empty,0,slice none 0 0,[],false⟩
def UnP.cells(x:UnP):List Value:=[.string x.text,int i64 (x.sent:Int),x.av,.bool x.dn]
structure UnAt(w:World)(g o:Nat)(x:UnP):Prop where
 c0:w.cell? ⟨g,o,none⟩=some (.string x.text)
 c1:w.cell? ⟨g,o+1,none⟩=some (int i64 (x.sent:Int))
 c2:w.cell? ⟨g,o+2,none⟩=some x.av
 c3:w.cell? ⟨g,o+3,none⟩=some (.bool x.dn)
 fr:∀j,w.frozen? ⟨g,j,none⟩=false
 ag:OwnSp w x.av x.al
 sep:∀g',x.av.ownBlock=some g'->g'≠g
theorem UnAt.kept{w w':World}{g o:Nat}{x:UnP}{S:List Nat}(h:UnAt w g o x)(d:Kept S w w')(hg:g∉S)(e:∀g',x.av.ownBlock=some g'->g'∉S):UnAt w' g o x:=
 ⟨E8 d h.c0 hg,E8 d h.c1 hg,E8 d h.c2 hg,E8 d h.c3 hg,fun j=>Ic d (h.fr j) (Aj w ⟨g,o,none⟩ h.c0) hg,h.ag.kept d e,h.sep⟩
def Qg (w:World)(g o:Nat)(x:UnP)(a z:Nat):Ending->World->Prop:=fun e w'=>e=.returned (.tuple #[])/\∃v' l',PtrPost w w' g (o+2) x.av.ownBlock.toList v'/\OwnSp w' v' l'/\Srt l'/\(∀i,inS l' i↔inS x.al i\/(x.dn=false/\a<=i/\i<min z x.sent))/\(∀g',v'.ownBlock=some g'->x.av.ownBlock=some g'\/w.heap.size<=g')
theorem Z0{x:UnP}(h:UnAt w g o x)(I:Srt x.al)(V:Qe x.al 3000)(J:x.sent<=3000)(Q:a<=3000)(hz:z<=3000):
 Calls prog 66 #[.pointer (some ⟨g,o,none⟩),.agg #[int i64 (a:Int),int i64 (z:Int)]] w (Qg w g o x a z):=by
 obtain⟨c0,c1,c2,c3,fr,ag,sep⟩:=h;have D:g<w.heap.size:=Aj w _ c1;obtain⟨m,s⟩:=E7 (min z x.sent);have F:(if x.sent<z then (x.sent:Int) else (z:Int))=(m:Int):=by rw[s];split<;>omega
 have G:(if (x.sent:Int)<(z:Int) then (x.sent:Int) else (z:Int))=(m:Int):=by rw[s];split<;>omega
 have H:m<=3000:=by omega
 have K:=hid s;obtain⟨ad,c,p, -, -, -⟩:=ag.FC;have t:=hid ag;have N:=hid p;have k:=hid sep;have u:=hid c2;have O:=hid fr;have f:Kept [] w ((w.alloc (.cells #[int i64 (a:Int),int i64 (m:Int)] 146)).drew):=(((Kept.refl _ w).alloc _).drew);clear s ag p sep c2 c0 fr;obtain⟨text,sent,av,al,dn⟩:=x;dsimp only at*;go_enter func66,ntmps66;go_upto_region 1 with fail
 go_region;go_upto_region 2 with fail
 have j:At ((w.alloc (.cells #[int i64 (a:Int),int i64 (m:Int)] 146)).drew) w.heap.size 146 [int i64 (a:Int),int i64 (m:Int)]:=Fc w _ _;generalize (w.alloc (.cells #[int i64 (a:Int),int i64 (m:Int)] 146)).drew=W at*;have L:=E8 f u.out (by simp);have k3:=E8 f c3 (by simp);have x0:W.cell? ⟨w.heap.size,0,none⟩=some (int i64 (a:Int)):=j.cell 0;have x1:W.cell? ⟨w.heap.size,1,none⟩=some (int i64 (m:Int)):=j.cell 1;have r:g∉av.ownBlock.toList:=fun X=>k.out g (by simpa using X) rfl
 have d:=hid f;have P:=hid L;clear j f c1 c3 L F G
 cases dn with
 | true=>
  go_wp2_with fail
  go_end0;exact⟨rfl,av,al,PtrPost.same (d.out.Fn (by simp)) r u.out,t.out.kept d.out (by simp),I,fun i=>⟨.inl,fun h=>h.elim id fun h=>by simp at h⟩,fun y e=> .inl e⟩
 | false=>
  by_cases E:a<m
  ·have R:decide ((a:Int)<(m:Int))=true:=Ag (by omega);have C:W.frozen? ⟨g,o+2,none⟩=false:=Ic d.out (O.out _) D (by simp);have q:=WE (w:=W.drew) (b:=g) (o:=o+2) (v:=av) (l:=al) (a:=a) (z:=m) P.out C (t.out.kept (d.out.drew) (by simp)) k.out I V E H;go_upto_region 3 with fail
   go_region_with (go_at_call 118;refine q.mono ?_;rintro e' w1 ⟨rfl,v',Y,M,Z,q3,q4,q5⟩)
   go_end0;refine⟨rfl,v',Y,⟨?_,fun T cur U=>M.row T cur (At.kept (w':=W.drew) U d.out.drew (by simp))⟩,Z,q3,fun i=>?_,fun y e=>?_⟩
   ·exact((d.out.drew).Fn (by simp)).trans M.kept
   ·rw[q4 i,K.out];simp
   ·rcases q5 y e with A | A
    ·exact .inl A
    ·exact .inr (Ak d.out.size A)
  ·have R:decide ((a:Int)<(m:Int))=false:=Ae (by omega)
   go_wp2_with fail
   go_end0;refine⟨rfl,av,al,PtrPost.same (d.out.Fn (by simp)) r u.out,t.out.kept d.out (by simp),I,fun i=>⟨.inl,fun h=>h.elim id fun h=>?_⟩,fun y e=> .inl e⟩;have:=K.out;dsimp only at h;omega
theorem Acu{x:UnP}(h:UnAt w g o x):
 Calls prog 67 #[.pointer (some ⟨g,o,none⟩)] w fun e w'=>e=.returned (.tuple #[])/\w'=(w.setCell ⟨g,o+3,none⟩ (.bool true)).setCell ⟨g,o+2,none⟩ (slice none 0 0):=by
 obtain⟨c0,c1,c2,c3,fr,ag,sep⟩:=h;obtain⟨f,c,d, -, -, -⟩:=ag.FC;rw[d]at c2;have i:=fr (o+2);have f3:=fr (o+3);clear c0 c1 fr ag sep d;go_enter func67,ntmps67
 go_wp2_with fail
 go_end0;exact⟨rfl,rfl⟩
theorem Aam{x:UnP}(h:UnAt w g o x)(j:x.text.size<=3000)(f:x.sent<=3000):
 Calls prog 156 #[.pointer (some ⟨g,o,none⟩)] w fun e w'=>e=.returned (.bool (!x.dn && decide (x.sent<x.text.size)))/\∃n,w'=w.drewN n:=by
 obtain⟨c0,c1,c2,c3,fr,ag,sep⟩:=h;clear c2 fr ag sep;obtain⟨text,sent,av,al,dn⟩:=x;dsimp only at*
 cases dn with
 | true=>
  go_enter func156,ntmps156
  go_wp2_with fail
  go_quiet (fail)
  go_wp2_with fail;go_ret;exact⟨rfl,_,rfl⟩
 | false=>
  by_cases d:sent<text.size
  ·have i:decide ((sent:Int)<(text.size:Int))=true:=Ag (by omega);have hd:=hid (show(!false && decide (sent<text.size))=true by simp[d]);go_enter func156,ntmps156
   go_wp2_with fail
   go_quiet (fail)
   go_wp2_with fail;go_ret;exact⟨by rw[hd.out];rfl,_,rfl⟩
  ·have i:decide ((sent:Int)<(text.size:Int))=false:=Ae (by omega);have hd:=hid (show(!false && decide (sent<text.size))=false by simp[d]);go_enter func156,ntmps156
   go_wp2_with fail
   go_quiet (fail)
   go_wp2_with fail;go_ret;exact⟨by rw[hd.out];rfl,_,rfl⟩
end Go.Proofs.YtbjgfoiikhbonahGreatDoor
