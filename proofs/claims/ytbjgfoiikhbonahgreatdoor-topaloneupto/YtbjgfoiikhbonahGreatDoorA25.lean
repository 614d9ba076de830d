import Derived.Test.YtbjgfoiikhbonahGreatDoorA24
set_option linter.unusedVariables false
set_option linter.unusedSimpArgs false
set_option maxRecDepth 100000
set_option maxHeartbeats 4000000
namespace Go.Proofs.YtbjgfoiikhbonahGreatDoor
open Go.ChangeShapes Go.WideShapes Go.ChangeAt Go.RowKit Go.Proofs.Tryz
open Value renaming int->C,slice->I,string->K
open Option renaming some->F,none->J
open Bool renaming false->M
open Obj renaming cells->O
open IntKind renaming i64->R
variable {D:List Int}{T:TypeId}{cur:List Value}{g gd m o p:Nat}{s:ByteArray}{w:World}
theorem At.Apw{b:Nat}{c:TypeId}{a:List Value}(h:At w b T cur)(e:At w b c a):T=c/\cur=a:=by grind [At]
theorem Ahm{P:Program}(w:World)(l A ty c tb:TypeId)(g o a e:Nat)(s:ByteArray)(cur:List Value)
 (x:P.underlying l=F (.slice c)) (u:(P.info? c).map (·.size)=F 1)
 (hg:At w g tb cur) (t:a<=s.size) (f:o+a<=cur.length):
 (Builtin.copy_ #[l,A] ty #[I (F ⟨g,o,J⟩) a e, K s]).run P w=
  .ok (goInt a) (w.setRow g (splice cur o ((s.data.toList.take a).map fun b=>C .u8 b.toNat)).toArray):=by
 have q:((s.data.toList.take a).map fun b=>C .u8 b.toNat).length=a:=by
  rw[Bo,Ay,AH];have:s.data.size=s.size:=rfl;omega
 have k:=CU P g o tb ((s.data.toList.take a).map fun b=>C .u8 b.toNat) 0 cur.toArray w hg (by rw[q];simpa using f) (by
  intro v z;obtain⟨b, -,rfl⟩:=Bb.1 z
  rfl)
 have h:Nat.min s.size a=a:=Dv t;have r:(s.data.toList.map fun b=>C .u8 b.toNat).take a=(s.data.toList.take a).map fun b=>C .u8 b.toNat:=by rw[Dx]
 generalize ((s.data.toList.take a).map fun b=>C .u8 b.toNat)=cs at*
 cases n:P.info? c with
 | none=>simp[n]at u
 | some i=>
  simp only[Bh]at k;simp only[Builtin.copy_,Builtin.lenOf,Builtin.firstCells,sizeOf,typeInfo];simp[Av x,n,h,r,k,splice]
def AaL (D:List Int)(p m:Nat)(s:ByteArray):List Int:=D.take p++((s.data.toList.take m).map fun b=>(b.toNat:Int))++D.drop (p+m)
theorem AaM(h:p+m<=D.length)(a:m<=s.size):(AaL D p m s).length=D.length:=by simp_all[AaL];grind
theorem Al4(h:p+m<=D.length)(k:m<=s.size)(t:Nat):(AaL D p m s).getD t 0=if p<=t/\t<p+m then ((s.get! (t-p)).toNat:Int) else D.getD t 0:=by
 have f:s.data.size=s.size:=rfl;have a:(D.take p).length=p:=by rw[Ay];omega
 have c:((s.data.toList.take m).map fun b=>(b.toNat:Int)).length=m:=by
  grind
 unfold AaL;rw[Au]
 by_cases i:t<p
 ·grind
 ·by_cases e:t<p+m
  ·rw[Ab ⟨by omega,e⟩,Bg,BL (by omega),BB (by omega),a,A9,A3 (by omega),Ap (by rw[AH];omega)]
   show(((s.data.toList[t-p]'(by rw[AH];omega)).toNat:Int))=_;have:s.get! (t-p)=s.data.toList[t-p]'(by rw[AH];omega):=by
    rw[Array.getElem_toList]
    show s.data[t-p]! =_
    grind
   rw[this]
  ·rw[Aa (by omega),BL (by rw[Ai];omega),Ai,a,c,Dc,show p+m+(t-(p+m))=t by omega,<-Au]
theorem Own.Aoi{n c:Nat}(h:Own w 0 (I (F ⟨gd,0,J⟩) n c) D)(B:p+m<=D.length)(x:m<=s.size):
 ∃W,(∀ty f,(Builtin.copy_ #[103,9] ty #[I (F ⟨gd,p,J⟩) m f, K s]).run prog w=.ok (goInt m) W)/\Own W 0 (I (F ⟨gd,0,J⟩) n c) (AaL D p m s)/\Kept [gd] w W:=by
 obtain⟨Q,hi,L,t,P⟩:=As Tryz.Of;obtain⟨cur,u,A,r,q,k,a,H⟩:=F9 h;subst A;rw[By]at k a;refine⟨_,fun ty f=>Ahm w 103 9 ty 5 5 gd p m f s cur underlying103 (by rw[hi];show F Q.size=_;rw[t]) u x (by omega),?_,FO _ _ _⟩;have v:=AaM B x;have E:s.data.size=s.size:=rfl;have e:((s.data.toList.take m).map fun b=>C .u8 b.toNat).length=m:=by
  grind
 unfold Own;rw[v];have key:∀(xs:List Value),xs=(AaL D p m s).map (Value.int .u8)->(splice cur p ((s.data.toList.take m).map fun b=>C .u8 b.toNat)).take (D.length*1)=xs:=fun xs G=>by
  rw[By,G];unfold splice AaL;have e1:cur.take p=(D.take p).map (Value.int .u8):=by
   rw[Dx,<-a,List.take_take,B8 (by omega)]
  have e2:((D.take p).map (Value.int IntKind.u8)).length=p:=by simp;omega
  have e3:(cur.drop (p+m)).take (D.length-(p+m))=(D.drop (p+m)).map (Value.int .u8):=by rw[List.map_drop,<-a,List.drop_take]
  have z:((s.data.toList.take m).map fun b=>(b.toNat:Int)).map (Value.int .u8)=(s.data.toList.take m).map fun b=>C .u8 b.toNat:=by rw[CR];rfl
  rw[e,e1,AR,AR,z,<-e3,<-Bg];have i:((D.take p).map (Value.int IntKind.u8)++(s.data.toList.take m).map fun b=>C .u8 b.toNat).length=p+m:=by rw[Ai,e2,e]
  generalize ((D.take p).map (Value.int IntKind.u8)++(s.data.toList.take m).map fun b=>C .u8 b.toNat)=X at i ⊢;rw[List.take_append,Aw (l:=X) (by rw[i];omega),i]
 refine At.row u.set ?_ r q ?_ (key _ rfl)
 ·rw[Bo,v,By]
 ·unfold splice
  grind
theorem Wz{v:Value}(h:cur[o]?=F v):cur.set o v=cur:=by
 refine Bf fun i=>?_
 grind
theorem ZE{a i:Nat}(h:a+i<s.size):(s.extract a s.size).get! i=s.get! (a+i):=by
 have b:s.data.size=s.size:=rfl;have hd:(s.extract a s.size).data=s.data.extract a s.size:=CS
 show(s.extract a s.size).data[i]! =s.data[a+i]!
 grind
theorem Ao4{l:Sps}{k:Nat}(h:k<l.length):l.take (k+1)=l.take k++[l.getD k (0,0)]:=by
 rw[Br,Au,Ap h];rfl
theorem Ae8{wr r A:World}{x:TkP}{dv v':Value}{Q:Sps}{ln:Nat}
 (h:TkAt w g o x) (G:At w g T cur) (P:Kept (g::(x.blk M).toList) w wr) (u:At wr g T (cur.set o dv)) (H:Own wr 0 dv D) (f:dv.ownBlock=F gd) (i:x.blk M=F gd\/w.heap.size<=gd)
 (V:PtrPost wr r g (o+1) x.tv.ownBlock.toList v') (q2:OwnSp r v' Q) (q5:∀q,v'.ownBlock=F q->x.tv.ownBlock=F q\/wr.heap.size<=q)
 (c:Kept [g] r A) (z:At r g T ((cur.set o dv).set (o+1) v')->At A g T (((cur.set o dv).set (o+1) v').set (o+2) (C R (ln:Int)))):TkPost w A g o x ⟨dv,D,v',Q,ln⟩:=by
 have X:=G.lt;have aa:=(AB H gd f).2;have ac:=P.size;have W:gd≠g:=by
  rcases i with b | b
  ·exact h.sd gd b
  ·omega
 have ab:∀q,x.tv.ownBlock=F q->q<w.heap.size/\q≠g/\q≠gd:=fun q a=>by
  have b:=h.ot.lt a;refine⟨b,h.st q a,?_⟩;rintro rfl
  rcases i with E | E
  ·exact h.dt q E a
  ·omega
 have n:∀q,v'.ownBlock=F q->q≠g/\q≠gd:=by grind
 have l:Kept (g::x.tv.ownBlock.toList) wr r:=V.kept;have L:gd∉g::x.tv.ownBlock.toList:=by
  grind
 refine⟨?_,fun T' B t=>?_,?_,?_,fun k q a=>?_,fun q a v=>?_⟩
 ·refine GY (GY (P.Fn (fun q a=>?_)) l (fun q a=> .inl ?_)) c (fun q a=> .inl ?_)
  ·grind
  ·rw[Ar]at a ⊢
   rcases a with e | e
   ·exact .inl e
   ·exact .inr (DH _ e)
  grind
 ·obtain⟨rfl,rfl⟩:=G.Apw t;exact z (V.row _ _ u)
 ·refine Ky (Ky H l (fun q a=>?_)) c (fun q a=>?_)
  ·grind
  grind
 ·refine q2.kept c (fun q a=>?_)
  simpa using (n q a).1
 ·cases k
  ·have a:dv.ownBlock=F q:=a
   grind
  ·rcases q5 q a with b | b
   ·exact .inl b
   ·exact .inr (by omega)
 ·have a:dv.ownBlock=F q:=a;rw[f]at a
  cases a;exact(n gd v).2 rfl
def YN (w:World)(g o:Nat)(x:TkP)(p:PieceM):Ending->World->Prop:=fun e w'=>e=.returned (.tuple #[])/\∃x',TkPost w w' g o x x'/\AddM x x' p.a p.b p.data p.last
theorem Akz{x:TkP}(p:PieceM)(h:TkAt w g o x)(hA:At w g T cur)(hs:Srt x.th)(hE:G8 x.th<=1500)(ct:x.data.length=G8 x.th)(hf:0<=p.frm)(hb:p.b<=1500)(h0:0<p.data.size):
 Calls prog 206 #[.pointer (F ⟨g,o,J⟩),p.val] w (YN w g o x p):=by
 have el:=hA.lt;have eb:(p.b:Int)=p.frm+p.data.size:=by unfold PieceM.b;omega
 have ea:(p.a:Int)=p.frm:=by unfold PieceM.a;omega
 have cl:p.a+p.data.size=p.b:=by unfold PieceM.a PieceM.b;omega
 obtain⟨aD,cD,eD, -, -, -⟩:=h.od.FC;obtain⟨aT,cT,eT, -, -, -⟩:=h.ot.FC;have cd:Qe x.th 3000:=fun q E=>Ak (hs.Tz q E) (by omega)
 generalize hP:YN w g o x p=Pst;have H:=hid h;have HP:=hid hP;have HS:=hid hs;have bk:=hid cd;have ap:=hid ct;have aq:=hid eD;have ar:=hid eT;have c0:=h.c0;have c1:=h.c1;have c2:=h.c2;rw[eD]at c0;rw[eT]at c1;clear h hP hs cd ct eD eT;obtain⟨A, eA⟩ := E7 p.a;obtain⟨B, eB⟩ := E7 p.b;obtain⟨c, av⟩ := E7 x.data.length;obtain⟨LT, bo⟩ := E7 x.th.length;obtain⟨LN, bn⟩ := E7 x.len;rw[<-eA]at ea cl;rw[<-eB]at eb cl hb;rw[<-av]at c0;rw[<-bo]at c1;rw[<-bn]at c2;have V:=hid av;have au:=hid bo;have b7:=hid bn;have ef:c<=1500:=by rw[av,ap.out];exact hE
 have es:p.data.size<=1500:=by omega
 have d4:A<=1500:=by omega
 have b4:=hid eA;have b5:=hid eB;clear av bo bn eA eB;obtain⟨num,frm,last,data⟩:=p;dsimp only[PieceM.val]at*;subst ea;have ed:(A:Int)+(data.size:Int)=(B:Int):=by omega
 clear eb;go_enter func206,ntmps206;go_upto_region 2 with fail
 obtain⟨W1, eW⟩ := E7 ((w.alloc (O #[C R num, C R (A:Int),.bool last, K data] 216)).alloc (O #[C R (A:Int), C R (B:Int)] 146));have hk:Kept [] w W1:=by rw[eW];exact((Kept.refl _ w).alloc _).alloc _
 have ee:W1.heap.size=w.heap.size+2:=by rw[eW];simp
 have dy:At W1 w.heap.size 216 [C R num, C R (A:Int),.bool last, K data]:=by
  rw[eW];exact At.kept (Fc w _ [C R num, C R (A:Int),.bool last, K data]) ((Kept.refl [] _).alloc _) (by simp)
 have c4:At W1 (w.heap.size+1) 146 [C R (A:Int), C R (B:Int)]:=by
  rw[eW];have:=Fc (w.alloc (O #[C R num, C R (A:Int),.bool last, K data] 216)) 146 [C R (A:Int), C R (B:Int)]
  simpa using this
 rw[<-eW];clear eW;have c0:=E8 hk c0 (by simp);have x1:W1.cell? ⟨w.heap.size+1,1,J⟩=F (C R (B:Int)):=c4.cell 1;have bq:At W1 g T cur:=hA.kept hk (by simp);have c3:Own W1 0 (I aD c cD) x.data:=by
  have:=Ky H.out.od hk (by simp);rw[aq.out,<-V.out]at this;exact this
 have ah:=hid c3;have HK:=hid hk;clear c3 hk c1 c2;have bh:Hid (x.blk M=(I aD c cD).ownBlock):=by
  show _=_;unfold TkP.blk;rw[aq.out,<-V.out];rfl
 go_region
 go_upto_if 23 with fail
 go_cut []from 7 (fun wx=>∃gd c1:Nat,Own wx 0 (I (F ⟨gd,0,J⟩) (max c B) c1) (x.data++List.replicate (B-c) 0)/\At wx g T (cur.set o (I (F ⟨gd,0,J⟩) (max c B) c1))/\Kept (g::(x.blk M).toList) W1 wx/\(x.blk M=F gd\/W1.heap.size<=gd))
 case first=>
  by_cases cx:c<B
  ·have d1:decide ((c:Int)<(B:Int))=true:=Ag (by omega);have ec:(B:Int)-(c:Int)=((B-c:Nat):Int):=by omega
   have dz:IntKind.i64.wrap ((B-c:Nat):Int)=((B-c:Nat):Int):=by rw[AO];omega
   obtain⟨v',W2,hR,hO,hG,hN⟩:=Own.Apc (w:=W1.drew.drew) (n:=B-c) ah.out (by rw[<-V.out];omega);obtain⟨a',c',ev,cy, -, -⟩:=Own.FC hO;subst ev;have bu:g∉(I aD c cD).ownBlock.toList:=fun hm=>by
    have h5:=H.out.sd g;rw[aq.out,<-V.out]at h5;exact h5 (by simpa using hm) rfl
   have W:Kept (I aD c cD).ownBlock.toList W1.drew.drew W2:=Kept.PR hG;have s1:W2.cell? ⟨g,o,J⟩=F (I aD c cD):=E8 W c0 bu;have aj:At W2 g T cur:=At.kept (w:=W1.drew.drew) bq W bu;have s2:W2.frozen? ⟨g,o,J⟩=M:=aj.free o;have ae:(x.data++List.replicate (B-c) 0).length=max c B:=by rw[Ai,A7,<-V.out];omega
   rw[ae]at hR hO;have HR:=hid hR;have HO:=hid hO;have dk:=hid W;have de:=hid aj;have HN:=hid hN;have dp:=hid cy;rw[ae]at hN;have HN:=hid hN;clear hR hO hG hN cy bu W aj ae;go_upto_region 3 with fail
   go_region_law (refine KJ rfl .append (.tmp 28) (.tmp 36) 103 3 rfl (I aD c cD) (C R ((B-c:Nat):Int)) (by simp[Act.eval,Act.put]) (by simp[Act.eval,Act.put]) (GG (HR.out _)) ?_)
   all_goals
    go_wp2_with fail
    go_meet
    case rel=>
     obtain⟨gd,bp⟩:=dp.out (by rw[<-Ek,Ai,A7];omega);subst bp;refine⟨gd,c',?_,de.out.setCell _,?_,?_⟩
     ·refine Ky HO.out (FT W2 g o _) (fun q E=>?_);rw[AC];rintro rfl
      rcases HN.out q E with h5 | h5
      ·exact H.out.sd q (by rw[aq.out,<-V.out];exact h5) rfl
      ·have h5:W1.heap.size<=q:=h5;omega
     ·rw[bh.out];have h5:Kept (g::(I aD c cD).ownBlock.toList) W1 W2:=(((Kept.refl _ W1).drew).drew).trans (dk.out.Fn (fun q E=>AU _ E));exact h5.setCell (p:=⟨g,o,J⟩) (show g∈g::_ from AL) _
     ·rw[bh.out];exact HN.out gd rfl
  ·have d1:decide ((c:Int)<(B:Int))=M:=Ae (by omega)
   go_wp2_with fail
   go_meet
   case rel=>
    obtain⟨a5,c5,e5,cz, -, -⟩:=Own.FC ah.out;simp only[Aq]at e5;obtain⟨e6, -, -⟩:=e5;subst e6;obtain⟨gd,bp⟩:=cz (by rw[<-Ek,<-V.out];omega);subst bp;have e7:max c B=c:=by omega
    have e8:B-c=0:=by omega
    rw[e7,e8,C4,AA];refine⟨gd,cD,ah.out,?_,(Kept.refl _ W1).drew,.inl bh.out⟩;rw[Wz (by rw[<-bq.cell];exact c0)];exact bq
 case rest=>
  obtain⟨w2, rfl⟩ := E7 wc;obtain⟨gd,c1,hO,ax,a7,cu⟩:=hcut;have cv:gd<w2.heap.size:=(AB hO gd rfl).2;have cq:∀q,q∈g::(x.blk M).toList->q<w.heap.size:=fun q E=>by
   rw[Ar]at E
   rcases E with e | e
   ·omega
   ·have e':x.blk M=F q:=by simpa using e
    exact(AB H.out.od q e').2
  have cg:w.heap.size∉g::(x.blk M).toList:=by grind
  have ch:w.heap.size+1∉g::(x.blk M).toList:=by grind
  have c6:=dy.kept a7 cg;have bb:=c4.kept a7 ch;have bs:Kept (g::(x.blk M).toList) w w2:=(HK.out.Fn (by simp)).trans a7;have bd:cur[o+1]?=F (I aT LT cT):=by rw[<-hA.cell,H.out.c1,ar.out,<-au.out]
  have cs:cur[o+2]?=F (C R (LN:Int)):=by rw[<-hA.cell,H.out.c2,<-b7.out]
  have k0:w2.cell? ⟨g,o,J⟩=F (I (F ⟨gd,0,J⟩) (max c B) c1):=by
   rw[ax.cell,Eg]
   grind
  have k1:w2.cell? ⟨g,o+1,J⟩=F (I aT LT cT):=by rw[ax.cell,CV (by omega)];exact bd
  have bx:OwnSp w2 (I aT LT cT) x.th:=by
   have:=H.out.ot.kept bs (fun q E hm=>by
    rw[Ar]at hm
    rcases hm with e | e
    ·exact H.out.st q E e
    ·have e':x.blk M=F q:=by simpa using e
     exact H.out.dt q e' E)
   rw[ar.out,<-au.out]at this;exact this
  have y0:w2.cell? ⟨w.heap.size+1,0,J⟩=F (C R (A:Int)):=bb.cell 0;have y1:w2.cell? ⟨w.heap.size+1,1,J⟩=F (C R (B:Int)):=bb.cell 1;have a9:=P6 (w:=w2.drew) (lo:=A) (hi:=B) bx HS.out bk.out (by omega) (by omega);unfold Qf at a9;obtain⟨G, eG⟩ := E7 (F7 B A x.th);obtain⟨n, en⟩ := E7 G.length;rw[<-eG]at a9;have hn:n<=4000:=by
   have u:=OR (hi:=B) (l:=x.th) (lo:=A);have h2:=HS.out.few bk.out;rw[<-eG,<-en]at u;omega
  have EG:=hid eG;have EN:=hid en;have HO:=hid hO;have b0:=hid ax;have dn:=hid bs;have dq:=hid bx;have aa:=hid cu;have b9:=hid c6;have ca:=hid bb;clear hO ax a7 bs bx cu c6 bb eG en cg ch cq c0 x1;go_upto_region 4 with fail
  go_cut [45,46,47]from 7 (fun d0 d2 d3 wx=>∃(aG:Option Addr) (cG:Nat),d0= I aG n cG/\d2= C R (n:Int)/\d3= C R ((0:Nat):Int)/\OwnSi wx w2.heap.size (I aG n cG) (Ip G)/\Below w2.heap.size w2 wx)
  case first=>
   have ba:(Ip G).length=n:=by rw[Hi];exact EN.out.symm
   rw[Hi]at ba
   go_region_with (go_at_call 120;refine a9.mono ?_;rintro e' w4 ⟨v4,rfl,bw,co⟩;obtain⟨aG,cG,rfl, -, -, -⟩:=Fg bw;have bl:=hid bw;have df:=hid co;clear bw co)
   all_goals
    go_wp2_with fail
    go_meet
    case rel=>
     have u:=bl.out;rw[Hi,ba]at u;refine⟨aG,cG,by rw[Hi,ba],by rw[Hi,ba],rfl,u,((Ad _ w2).drew).trans df.out⟩
  case rest=>
   obtain⟨aG,cG,rfl,rfl,rfl,cj,cp⟩:=hcut;obtain⟨w4, rfl⟩ := E7 wc;have br:Kept [] w2 w4:=Kept.E5 cp;have ay:(x.data++List.replicate (B-c) 0).length=max c B:=by rw[Ai,A7,<-V.out];omega
   have am:Own w4 0 (I (F ⟨gd,0,J⟩) (max c B) c1) (x.data++List.replicate (B-c) 0):=Ky HO.out br (by simp);obtain⟨D0, bm⟩ := E7 (x.data++List.replicate (B-c) 0);rw[<-bm]at am ay;have d5:max c B<=c1:=by obtain⟨-, -, -,h5, -⟩:=F9 am;rw[ay]at h5;exact h5
   have dv:c1<=9223372036854775807:=by obtain⟨-, -, -, -,h5, -⟩:=F9 am;unfold maxLen at h5;omega
   have cw:∀q∈G,A<=q.1/\q.1<q.2/\q.2<=B:=fun q E=>VZ q (by rw[<-EG.out];exact E)
   have dh:=hid cw;have dg:=hid ay;have dc:=hid bm;have b8:=hid cj;have b6:=hid br;have bl:=hid am;clear cw ay bm cj cp br am k0 k1 y0 y1 a9
   go_wp2_with fail
   go_loopw [47] (fun vi wr=>∃(k:Nat) (D:List Int),k<=n/\vi= C R (k:Int)/\D.length=max c B/\(∀t,inS (G.take k) t->D.getD t 0=((data.get! (t-A)).toNat:Int))/\(∀t,¬inS (G.take k) t->D.getD t 0=D0.getD t 0)/\Own wr 0 (I (F ⟨gd,0,J⟩) (max c B) c1) D/\Kept [gd] w4 wr) (fun vi _=>n-(intOf vi).toNat)
   case atStart=>exact⟨0,D0,Af _,rfl,dg.out,fun t ht=>absurd ht (GT t),fun _ _=>rfl,bl.out,Kept.refl _ _⟩
   case round=>
    obtain⟨k,D,em,rfl,ak,az,a6,a8,ab⟩:=hrel;have d8:gd<w2.heap.size:=cv
    by_cases cx:k<n
    ·have W:k<G.length:=by rw[<-EN.out];exact cx
     obtain⟨gG,rfl,d7,cr⟩:=b8.out.at (i:=k) (by rw[Hi];exact W);have d6:w2.heap.size<=gG:=(AB b8.out gG rfl).1;obtain⟨z0,z1⟩:=cr k (by rw[Hi];exact W);have E:=dh.out _ (Rp W);have du:=hid (Ao4 W);have eI:(Ip G).getD k (0,0)=(((G.getD k (0,0)).1:Int),((G.getD k (0,0)).2:Int)):=by
      unfold Ip
      grind
     rw[eI]at z0 z1;obtain⟨P, eP⟩ := E7 ((G.getD k (0,0)).1);obtain⟨Q, eQ⟩ := E7 ((G.getD k (0,0)).2);rw[<-eP,<-eQ]at E;have z0:w4.cell? ⟨gG,k*2,J⟩=F (C R (P:Int)):=by rw[eP];exact z0
     have z1:w4.cell? ⟨gG,k*2+1,J⟩=F (C R (Q:Int)):=by rw[eQ];exact z1
     have f:Kept [gd] w2 wr:=(b6.out.Fn (by simp)).trans ab;have z0:=E8 ab z0 (by show gG∉[gd];simp;omega);have z1:=E8 ab z1 (by show gG∉[gd];simp;omega);have dd:=hid (show(P,Q)=G.getD k (0,0)by rw[eP,eQ]);have af:gd≠g:=by
      rcases aa.out with u | u
      ·exact H.out.sd gd u
      ·omega
     have r:∀q,q∈[gd]->q≠w.heap.size/\q≠w.heap.size+1:=fun q L=>by
      rw[AC]at L;subst L
      rcases aa.out with u | u
      ·have:=(AB H.out.od q u).2;omega
      ·omega
     have X:At wr g T (cur.set o (I (F ⟨gd,0,J⟩) (max c B) c1)):=b0.out.kept f (by simpa using fun e=>af e.symm);have an:=b9.out.kept f (fun hm=>(r _ hm).1 rfl);have ac:=ca.out.kept f (fun hm=>(r _ hm).2 rfl);have ad:Kept [] wr (wr.alloc (O #[C R (P:Int), C R (Q:Int)] 146)):=(Kept.refl _ wr).alloc _;obtain⟨WA, aw⟩ := E7 (wr.alloc (O #[C R (P:Int), C R (Q:Int)] 146));have bt:At WA wr.heap.size 146 [C R (P:Int), C R (Q:Int)]:=by rw[aw];exact Fc wr _ _
     rw[<-aw]at ad;have a0:WA.cell? ⟨g,o,J⟩=F (I (F ⟨gd,0,J⟩) (max c B) c1):=by
      rw[(X.kept ad (by simp)).cell,Eg]
      grind
     have a1:WA.cell? ⟨wr.heap.size,0,J⟩=F (C R (P:Int)):=bt.cell 0;have a2:WA.cell? ⟨wr.heap.size,1,J⟩=F (C R (Q:Int)):=bt.cell 1;have a3:WA.cell? ⟨w.heap.size,3,J⟩=F (K data):=(an.kept ad (by simp)).cell 3;have a4:WA.cell? ⟨w.heap.size+1,0,J⟩=F (C R (A:Int)):=(ac.kept ad (by simp)).cell 0;have ci:Own WA.drew 0 (I (F ⟨gd,0,J⟩) (max c B) c1) D:=Ky a8 ad.drew (by simp);have be:(data.extract (P-A) data.size).size=data.size-(P-A):=by simp[CF]
     obtain⟨W',hC,ck,cf⟩:=Own.Aoi (p:=P) (m:=Q-P) (s:=data.extract (P-A) data.size) ci (by rw[ak];omega) (by rw[be];omega);have HC:=hid hC;have dr:=hid ck;have ag:=hid cf;have dj:=hid ad;have dl:=hid ab;have bi:=hid az;have bj:=hid a6;have ap:=hid ak;have ep:A<=P:=E.1;have eq:P<Q:=E.2.1;have er:Q<=B:=E.2.2;have eg:(P:Int)-(A:Int)=((P-A:Nat):Int):=by omega
     have dz:IntKind.i64.wrap ((P-A:Nat):Int)=((P-A:Nat):Int):=by rw[AO];omega
     have di:Hid (∀q,q∈[gd]->q≠g/\q≠wr.heap.size/\q≠w.heap.size/\q≠w.heap.size+1):=hid fun q L=>by
      have u:=r q L;rw[AC]at L;subst L;have h2:=f.size;exact⟨af,by omega,u.1,u.2⟩
     clear hC ck cf ad ab f az a6 ak a8 ci bt ac an X cr be eP eQ E eI r;have eo:¬(c1<P):=by omega
     have ej:Q<=c1:=by omega
     have eh:P<=Q:=by omega
     have d9:¬(c1=P):=by omega
     have ei:P-A<=data.size:=by omega
     go_upto_region 7 with fail
     rw[<-aw];clear aw z0 z1;have hC:=fun ty=>HC.out ty (c1-P)
     have ai:∀q,q∈[gd]->q≠g/\q≠wr.heap.size/\q≠w.heap.size/\q≠w.heap.size+1:=di.out;have KA:Hid (WA.drew.cell? ⟨g,o,J⟩=F (I (F ⟨gd,0,J⟩) (max c B) c1)/\WA.drew.cell? ⟨wr.heap.size,0,J⟩=F (C R (P:Int))/\WA.drew.cell? ⟨wr.heap.size,1,J⟩=F (C R (Q:Int))/\WA.drew.cell? ⟨w.heap.size,3,J⟩=F (K data)/\WA.drew.cell? ⟨w.heap.size+1,0,J⟩=F (C R (A:Int))):=hid ⟨a0,a1,a2,a3,a4⟩;have KB:Hid (W'.cell? ⟨g,o,J⟩=F (I (F ⟨gd,0,J⟩) (max c B) c1)/\W'.cell? ⟨wr.heap.size,0,J⟩=F (C R (P:Int))/\W'.cell? ⟨wr.heap.size,1,J⟩=F (C R (Q:Int))/\W'.cell? ⟨w.heap.size,3,J⟩=F (K data)/\W'.cell? ⟨w.heap.size+1,0,J⟩=F (C R (A:Int))):=hid ⟨E8 ag.out a0 (fun h=>(ai _ h).1 rfl),E8 ag.out a1 (fun h=>(ai _ h).2.1 rfl),E8 ag.out a2 (fun h=>(ai _ h).2.1 rfl),E8 ag.out a3 (fun h=>(ai _ h).2.2.1 rfl),E8 ag.out a4 (fun h=>(ai _ h).2.2.2 rfl)⟩;clear ai a0 a1 a2 a3 a4
     go_region_held3 (fun w'=>w'.cell? ⟨g,o,J⟩=F (I (F ⟨gd,0,J⟩) (max c B) c1)/\w'.cell? ⟨wr.heap.size,0,J⟩=F (C R (P:Int))/\w'.cell? ⟨wr.heap.size,1,J⟩=F (C R (Q:Int))/\w'.cell? ⟨w.heap.size,3,J⟩=F (K data)/\w'.cell? ⟨w.heap.size+1,0,J⟩=F (C R (A:Int))) (first | with_reducible exact KA.out | with_reducible exact KB.out) (fail)
     go_wp2_with fail
     go_roundw
     case rel=>
      have dw:(data.extract (P-A) data.size).size=data.size-(P-A):=by simp[CF]
      have c7:P+(Q-P)<=D.length:=by rw[ap.out];omega
      have c8:Q-P<=(data.extract (P-A) data.size).size:=by rw[dw];omega
      have bv:∀t,inS (G.take (k+1)) t↔inS (G.take k) t\/(P<=t/\t<Q):=fun t=>by
       rw[du.out,<-dd.out,OV,Gc];exact⟨fun h=>h.elim .inl (fun h=>h.elim .inr (fun h=>absurd h (GT t))),fun h=>h.elim .inl (fun h=> .inr (.inl h))⟩
      have cn:=Al4 c7 c8;refine⟨k+1,AaL D P (Q-P) (data.extract (P-A) data.size),by omega,by go_num,?_,fun t ht=>?_,fun t ht=>?_,dr.out,?_⟩
      ·rw[AaM c7 c8];exact ap.out
      ·rw[cn]
       by_cases bz:P<=t/\t<P+(Q-P)
       ·rw[Ab bz,ZE (by omega),show P-A+(t-P)=t-A by omega]
       ·rw[Aa bz]
        rcases (bv t).1 ht with u | u
        ·exact bi.out t u
        ·exact absurd ⟨u.1,by omega⟩ bz
      ·rw[cn,Aa (fun h=>ht ((bv t).2 (.inr ⟨h.1,by omega⟩)))];exact bj.out t (fun h=>ht ((bv t).2 (.inl h)))
      ·exact(dl.out.trans ((dj.out.Fn (by simp)).drew)).trans ag.out
     case measure=>simp[intOf];omega
    ·have ek:k=n:=by omega
     subst ek;have f:Kept [gd] w2 wr:=(b6.out.Fn (by simp)).trans ab;have af:gd≠g:=by
      rcases aa.out with u | u
      ·exact H.out.sd gd u
      ·omega
     have r:∀q,q∈[gd]->q≠w.heap.size/\q≠w.heap.size+1:=fun q L=>by
      rw[AC]at L;subst L
      rcases aa.out with u | u
      ·have:=(AB H.out.od q u).2;omega
      ·omega
     have X:At wr g T (cur.set o (I (F ⟨gd,0,J⟩) (max c B) c1)):=b0.out.kept f (by simpa using fun e=>af e.symm);have an:=b9.out.kept f (fun hm=>(r _ hm).1 rfl);have ac:=ca.out.kept f (fun hm=>(r _ hm).2 rfl);have ao:∀q,(I aT LT cT).ownBlock=F q->q<w.heap.size/\q≠g/\q≠gd:=fun q E=>by
      have L:x.tv.ownBlock=F q:=by rw[ar.out,<-au.out];exact E
      have u:=H.out.ot.lt L;refine⟨u,H.out.st q L,?_⟩;rintro rfl
      rcases aa.out with h2 | h2
      ·exact H.out.dt q h2 L
      ·omega
     have bc:OwnSp wr.drew (I aT LT cT) x.th:=dq.out.kept f.drew (fun q E=>by simpa using (ao q E).2.2);have b1:wr.cell? ⟨g,o+1,J⟩=F (I aT LT cT):=by
      rw[X.cell,CV (by omega)];exact bd
     have y0:wr.cell? ⟨w.heap.size+1,0,J⟩=F (C R (A:Int)):=ac.cell 0;have y1:wr.cell? ⟨w.heap.size+1,1,J⟩=F (C R (B:Int)):=ac.cell 1;have cm:=WE (w:=wr.drew) (b:=g) (o:=o+1) (v:= I aT LT cT) (l:=x.th) (a:=A) (z:=B) b1 (X.free _) bc (fun q E=>(ao q E).2.1) HS.out bk.out (by omega) (by omega);have hF:∀w5 v5,PtrPost wr.drew w5 g (o+1) (I aT LT cT).ownBlock.toList v5->w5.cell? ⟨w.heap.size,2,J⟩=F (.bool last)/\w5.cell? ⟨w.heap.size+1,1,J⟩=F (C R (B:Int))/\w5.cell? ⟨g,o+2,J⟩=F (C R (LN:Int))/\w5.frozen? ⟨g,o+2,J⟩=M:=fun w5 v5 q1=>by
      have bg:∀q,w.heap.size<=q->q∉g::(I aT LT cT).ownBlock.toList:=by grind
      have cb:=q1.row T _ (show At wr.drew g T _ from X);refine⟨(At.kept (w:=wr.drew) an q1.kept (bg _ (Ac _))).cell 2,(At.kept (w:=wr.drew) ac q1.kept (bg _ (by omega))).cell 1,?_,cb.free _⟩;rw[cb.cell,CV (by omega),CV (by omega)];exact cs
     have HF:=hid hF;have b2:=hid X;have dm:=hid f;have ah:=hid a8;have bi:=hid az;have bj:=hid a6;have b3:=hid ak;clear hF X an ac ao bc a8 ab f az a6 ak r;go_upto_region 9 with fail
     go_region_with (go_at_call 118;refine cm.mono ?_;rintro e' w5 ⟨rfl,v5,l5,q1,q2,q3,q4,q5⟩;obtain⟨s1,s2,s3,s4⟩:=HF.out _ _ q1;have Q1:=hid q1;have Q2:=hid q2;have Q3:=hid q3;have Q4:=hid q4;have Q5:=hid q5;clear q1 q2 q3 q4 q5)
     all_goals
      have al:Kept (g::(x.blk M).toList) w wr:=GY dn.out dm.out (fun q E=>by
       rw[AC]at E;subst E
       rcases aa.out with u | u
       ·left;rw[u];simp
       ·right;omega)
      have c9:x.tv= I aT LT cT:=by rw[ar.out,<-au.out]
      have bf:x.blk M=F gd\/w.heap.size<=gd:=aa.out.elim .inl (fun h=> .inr (by omega));have da:PtrPost wr w5 g (o+1) x.tv.ownBlock.toList v5:=by
       have u:=Q1.out;rw[c9];exact⟨((Kept.refl _ wr).drew).trans u.kept,u.row⟩
      have db:∀q,v5.ownBlock=F q->x.tv.ownBlock=F q\/wr.heap.size<=q:=by rw[c9];exact Q5.out
      have ds:G.take k=G:=Aw (by rw[<-EN.out];exact Ac _);have ce:∀t,inS (G.take k) t↔A<=t/\t<B/\¬inS x.th t:=fun t=>by rw[ds,EG.out];exact VY HS.out t
      have cc:∀ln,ln=(if last=true then B else LN)->AddM x ⟨I (F ⟨gd,0,J⟩) (max c B) c1,D,v5,l5,ln⟩ A B data last:=fun ln dx=>by
       refine⟨Q3.out,Q4.out,?_,fun t ht=>?_,fun t u h2 h3=>bi.out t ((ce t).2 ⟨u,h2,h3⟩),by rw[dx,<-b7.out]⟩
       ·show D.length=max x.data.length B;rw[b3.out,<-V.out]
       ·show D.getD t 0=_;rw[bj.out t (fun h=>((ce t).1 h).2.2 ht),dc.out]
        grind
      cases last with
      | true=>
       go_wp2_with fail
       go_end0;rw[<-HP.out];refine⟨rfl,_,Ae8 (ln:=B) H.out hA al b2.out ah.out rfl bf da Q2.out db (FT w5 g (o+2) _) (fun h=>h.setCell _),?_⟩;rw[<-b4.out,<-b5.out];exact cc B rfl
      | false=>
       go_wp2_with fail
       go_end0;rw[<-HP.out];refine⟨rfl,_,Ae8 (ln:=LN) H.out hA al b2.out ah.out rfl bf da Q2.out db (Kept.refl _ w5) (fun h=>?_),?_⟩
       ·rw[Wz (by rw[<-h.cell];exact s3)];exact h
       ·rw[<-b4.out,<-b5.out];exact cc LN rfl
theorem AhL(h:s.size=0):s={data:=#[]}:=by
 obtain⟨⟨l⟩⟩:=s;have h:l.length=0:=h;rw[Cp h]
theorem AhM(h:s.size≠0):s.toList.isEmpty=M:=by
 rw[Cc,List.isEmpty_eq_false_iff];intro e
 apply h
 show s.data.size=0;rw[<-AH,e];rfl
theorem N2(p:PieceM)(i:p.data.size<=Wf):
 Calls prog 204 #[p.val] w fun e w'=>e=.returned (C R (if p.bad=true then 3 else 0))/\w'=w.alloc (O #[C R p.num, C R p.frm,.bool p.last, K p.data] 216):=by
 have f:=Fc w 216 p.cells;have t:(w.alloc (O #[C R p.num, C R p.frm,.bool p.last, K p.data] 216)).cell? ⟨w.heap.size,0,J⟩=F (C R p.num):=f.cell 0;have u:(w.alloc (O #[C R p.num, C R p.frm,.bool p.last, K p.data] 216)).cell? ⟨w.heap.size,1,J⟩=F (C R p.frm):=f.cell 1;have v:(w.alloc (O #[C R p.num, C R p.frm,.bool p.last, K p.data] 216)).cell? ⟨w.heap.size,3,J⟩=F (K p.data):=f.cell 3;have a:=fun W=>Ni p.num W
 obtain⟨V, b⟩ := E7 (if p.bad=true then 3 else 0:Int);rw[<-b];have l:p.data.size<=140737488355328:=i;clear f i;unfold PieceM.bad at b;obtain⟨num,frm,last,data⟩:=p;dsimp only[PieceM.val]at*
 by_cases h:0<=num/\num<=63
 ·rw[Ag h]at a
  by_cases q:frm<0
  ·have c:=hid (show V=3 by rw[b,Ab];exact Ag (by omega));clear b;go_enter func204,ntmps204
   go_wp2_with(go_at_call 115;refine(a _).mono ?_;rintro e w1 ⟨rfl,rfl⟩);go_ret;exact⟨by rw[c.out];rfl,rfl⟩
  ·by_cases k:data.size=0
   ·have c:=hid (show V=3 by rw[b,Ab];exact Ag (by omega));have e3:=AhL k;subst e3;clear b;go_enter func204,ntmps204
    go_wp2_with(go_at_call 115;refine(a _).mono ?_;rintro e w1 ⟨rfl,rfl⟩);go_ret;exact⟨by rw[c.out];rfl,rfl⟩
   ·have n:=AhM k
    by_cases r:1500-(data.size:Int)<frm
    ·have c:=hid (show V=3 by rw[b,Ab];exact Ag (by omega));clear b;go_enter func204,ntmps204
     go_wp2_with(go_at_call 115;refine(a _).mono ?_;rintro e w1 ⟨rfl,rfl⟩);go_ret;exact⟨by rw[c.out];rfl,rfl⟩
    ·have c:=hid (show V=0 by rw[b,Aa];rw[decide_eq_true_iff];omega);clear b;go_enter func204,ntmps204
     go_wp2_with(go_at_call 115;refine(a _).mono ?_;rintro e w1 ⟨rfl,rfl⟩);go_ret;exact⟨by rw[c.out];rfl,rfl⟩
 ·rw[Ae h]at a;have c:=hid (show V=3 by rw[b,Ab];exact Ag (by omega));clear b h;go_enter func204,ntmps204
  go_wp2_with(go_at_call 115;refine(a _).mono ?_;rintro e w1 ⟨rfl,rfl⟩);go_ret;exact⟨by rw[c.out];rfl,rfl⟩
def TkP.J9(x:TkP)(p:PieceM):Bool:=(decide (0<x.len) && (decide (x.len<p.b) || (p.last && x.len !=p.b))) || (p.last && decide (p.b<G8 x.th))
theorem UP{x:TkP}(p:PieceM)(h:TkAt w g o x)(hl:x.len<=3000)(G:G8 x.th<=3000)(W:x.th.length<=4000)(hf:0<=p.frm)(hb:p.b<=3000):
 Calls prog 205 #[.pointer (F ⟨g,o,J⟩),p.val] w fun e w'=>e=.returned (C R (if x.J9 p=true then 3 else 0))/\w'=w.alloc (O #[C R p.num, C R p.frm,.bool p.last, K p.data] 216):=by
 have r:=Fc w 216 p.cells;have x1:(w.alloc (O #[C R p.num, C R p.frm,.bool p.last, K p.data] 216)).cell? ⟨w.heap.size,1,J⟩=F (C R p.frm):=r.cell 1;have x2:(w.alloc (O #[C R p.num, C R p.frm,.bool p.last, K p.data] 216)).cell? ⟨w.heap.size,2,J⟩=F (.bool p.last):=r.cell 2;have x3:(w.alloc (O #[C R p.num, C R p.frm,.bool p.last, K p.data] 216)).cell? ⟨w.heap.size,3,J⟩=F (K p.data):=r.cell 3;have t:Kept [] w (w.alloc (O #[C R p.num, C R p.frm,.bool p.last, K p.data] 216)):=(Kept.refl _ w).alloc _;obtain⟨a,c,e, -, -, -⟩:=h.ot.FC;have c1:=E8 t h.c1 (by simp);have c2:=E8 t h.c2 (by simp);have n:=h.ot.kept t (by simp);rw[e]at c1 n;have l:=WF n W;obtain⟨V, i⟩ := E7 (if x.J9 p=true then 3 else 0:Int);rw[<-i];have eb:(p.b:Int)=p.frm+p.data.size:=by unfold PieceM.b;omega
 unfold TkP.J9 at i;clear r t e h n;generalize p.b=B at*;generalize G8 x.th=E at*;generalize x.len=L at*;generalize x.th.length=aa at*;obtain⟨num,frm,last,data⟩:=p;dsimp only[PieceM.val]at*;obtain⟨frm,rfl⟩:∃f:Nat,frm=(f:Int):=⟨frm.toNat,by omega⟩;have z:frm+data.size=B:=by omega
 have v:(frm:Int)+(data.size:Int)=(B:Int):=by omega
 have Q:frm<=3000:=by omega
 clear eb
 by_cases X:0<L
 ·have d0:decide ((0:Int)<(L:Int))=true:=Ag (by omega)
  by_cases q1:L<B
  ·have H:decide ((L:Int)<(B:Int))=true:=Ag (by omega);have k:=hid (show V=3 by grind);clear i;go_enter func205,ntmps205
   go_wp2_with fail;go_ret;exact⟨by rw[k.out];rfl,rfl⟩
  ·have H:decide ((L:Int)<(B:Int))=M:=Ae (by omega)
   cases last with
   | false=>
    have k:=hid (show V=0 by grind);clear i;go_enter func205,ntmps205
    go_wp2_with fail;go_ret;exact⟨by rw[k.out];rfl,rfl⟩
   | true=>
    by_cases A:L=B
    ·subst A
     by_cases q:L<E
     ·have u:decide ((L:Int)<(E:Int))=true:=Ag (by omega);have k:=hid (show V=3 by rw[i,Ab];simp[q]);clear i;go_enter func205,ntmps205
      go_wp2_with(go_at_call 121;refine l.mono ?_;rintro e w1 ⟨rfl,rfl⟩);go_ret;exact⟨by rw[k.out];rfl,rfl⟩
     ·have u:decide ((L:Int)<(E:Int))=M:=Ae (by omega);have k:=hid (show V=0 by rw[i,Aa];simp[q]);clear i;go_enter func205,ntmps205
      go_wp2_with(go_at_call 121;refine l.mono ?_;rintro e w1 ⟨rfl,rfl⟩);go_ret;exact⟨by rw[k.out];rfl,rfl⟩
    ·have d2:((B:Int)==(L:Int))=M:=by rw[Cb];omega
     have k:=hid (show V=3 by rw[i,Ab];simp[X,A]);clear i;go_enter func205,ntmps205
     go_wp2_with fail;go_ret;exact⟨by rw[k.out];rfl,rfl⟩
 ·have P:L=0:=by omega
  subst P
  cases last with
  | false=>
   have k:=hid (show V=0 by rw[i,Aa];simp);clear i;go_enter func205,ntmps205
   go_wp2_with fail;go_ret;exact⟨by rw[k.out];rfl,rfl⟩
  | true=>
   by_cases q:B<E
   ·have u:decide ((B:Int)<(E:Int))=true:=Ag (by omega);have k:=hid (show V=3 by rw[i,Ab];simp[q]);clear i;go_enter func205,ntmps205
    go_wp2_with(go_at_call 121;refine l.mono ?_;rintro e w1 ⟨rfl,rfl⟩);go_ret;exact⟨by rw[k.out];rfl,rfl⟩
   ·have u:decide ((B:Int)<(E:Int))=M:=Ae (by omega);have k:=hid (show V=0 by rw[i,Aa];simp[q]);clear i;go_enter func205,ntmps205
    go_wp2_with(go_at_call 121;refine l.mono ?_;rintro e w1 ⟨rfl,rfl⟩);go_ret;exact⟨by rw[k.out];rfl,rfl⟩
theorem TuR.J9{r:InM}{u:Nat}{x:TkP}{p:PieceM}(h:TuR r u x):r.J9 u p=x.J9 p:=by
 unfold InM.J9 TkP.J9;rw[h.ln,h.fin]
 grind
end Go.Proofs.YtbjgfoiikhbonahGreatDoor
