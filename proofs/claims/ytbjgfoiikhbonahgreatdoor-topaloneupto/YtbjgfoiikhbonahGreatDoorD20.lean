import Derived.Test.YtbjgfoiikhbonahGreatDoorD19
set_option linter.unusedVariables false
set_option linter.unusedSimpArgs false
set_option maxRecDepth 100000
set_option maxHeartbeats 4000000
namespace Go.Proofs.YtbjgfoiikhbonahGreatDoor
open Go.ChangeShapes Go.WideShapes Go.ChangeAt Go.RowKit Go.Proofs.Tryz
open Value (int slice string)
open IntKind (i64)
variable {D:List Int}{T:TypeId}{cur:List Value}{g gd m o p:Nat}{s:ByteArray}{w:World}
theorem At.Apw{b:Nat}{c:TypeId}{a:List Value}(h:At w b T cur)(d:At w b c a):T=c/\cur=a:=by grind [At]
theorem Ahm{P:Program}(w:World)(j x ty c tb:TypeId)(g o a d:Nat)(s:ByteArray)(cur:List Value)
 (t:P.underlying j=some (.slice c)) (r:(P.info? c).map (·.size)=some 1)
 (hg:At w g tb cur) (q:a<=s.size) (e:o+a<=cur.length):
 (Builtin.copy_ #[j,x] ty #[slice (some ⟨g,o,none⟩) a d,string s]).run P w=
  .ok (goInt a) (w.setRow g (splice cur o ((s.data.toList.take a).map fun b=>int .u8 b.toNat)).toArray):=by
 have l:((s.data.toList.take a).map fun b=>int .u8 b.toNat).length=a:=by
  rw[Bo,Ay,AH];have:s.data.size=s.size:=rfl;omega
 have h:=CU P g o tb ((s.data.toList.take a).map fun b=>int .u8 b.toNat) 0 cur.toArray w hg (by rw[l];simpa using e) (by
  intro v u;obtain⟨b, -,rfl⟩:=Bb.1 u
  rfl)
 have f:Nat.min s.size a=a:=Dv q;have n:(s.data.toList.map fun b=>int .u8 b.toNat).take a=(s.data.toList.take a).map fun b=>int .u8 b.toNat:=by rw[Dx]
 generalize ((s.data.toList.take a).map fun b=>int .u8 b.toNat)=cs at*
 cases k:P.info? c with
 | none=>simp[k]at r
 | some i=>
  simp only[Bh]at h;simp only[Builtin.copy_,Builtin.lenOf,Builtin.firstCells,sizeOf,typeInfo];simp[Av t,k,f,n,h,splice]
def AaL (D:List Int)(p m:Nat)(s:ByteArray):List Int:=D.take p++((s.data.toList.take m).map fun b=>(b.toNat:Int))++D.drop (p+m)
theorem AaM(h:p+m<=D.length)(a:m<=s.size):(AaL D p m s).length=D.length:=by simp_all[AaL];grind
theorem Al4(h:p+m<=D.length)(i:m<=s.size)(t:Nat):(AaL D p m s).getD t 0=if p<=t/\t<p+m then ((s.get! (t-p)).toNat:Int) else D.getD t 0:=by
 have e:s.data.size=s.size:=rfl;have a:(D.take p).length=p:=by rw[Ay];omega
 have c:((s.data.toList.take m).map fun b=>(b.toNat:Int)).length=m:=by
  grind
 unfold AaL;rw[Au]
 by_cases f:t<p
 ·grind
 ·by_cases d:t<p+m
  ·rw[Ab ⟨by omega,d⟩,Bg,BL (by omega),BB (by omega),a,A9,A3 (by omega),Ap (by rw[AH];omega)]
   show(((s.data.toList[t-p]'(by rw[AH];omega)).toNat:Int))=_;have:s.get! (t-p)=s.data.toList[t-p]'(by rw[AH];omega):=by
    rw[Array.getElem_toList]
    show s.data[t-p]! =_
    grind
   rw[this]
  ·rw[Aa (by omega),BL (by rw[Ai];omega),Ai,a,c,Dc,show p+m+(t-(p+m))=t by omega,<-Au]
theorem Own.Aoi{n c:Nat}(h:Own w 0 (.slice (some ⟨gd,0,none⟩) n c) D)(y:p+m<=D.length)(u:m<=s.size):
 ∃W,(∀ty e,(Builtin.copy_ #[103,9] ty #[.slice (some ⟨gd,p,none⟩) m e,string s]).run prog w=.ok (goInt m) W)/\Own W 0 (.slice (some ⟨gd,0,none⟩) n c) (AaL D p m s)/\Kept [gd] w W:=by
 obtain⟨F,hi,C,q,E⟩:=As Tryz.Of;obtain⟨cur,r,x,k,j,i,a,B⟩:=F9 h;subst x;rw[By]at i a;refine⟨_,fun ty e=>Ahm w 103 9 ty 5 5 gd p m e s cur underlying103 (by rw[hi];show some F.size=_;rw[q]) r u (by omega),?_,FO _ _ _⟩;have t:=AaM y u;have z:s.data.size=s.size:=rfl;have d:((s.data.toList.take m).map fun b=>int .u8 b.toNat).length=m:=by
  grind
 unfold Own;rw[t];have key:∀(xs:List Value),xs=(AaL D p m s).map (Value.int .u8)->(splice cur p ((s.data.toList.take m).map fun b=>int .u8 b.toNat)).take (D.length*1)=xs:=fun xs A=>by
  rw[By,A];unfold splice AaL;have e1:cur.take p=(D.take p).map (Value.int .u8):=by
   rw[Dx,<-a,List.take_take,B8 (by omega)]
  have e2:((D.take p).map (Value.int IntKind.u8)).length=p:=by simp;omega
  have e3:(cur.drop (p+m)).take (D.length-(p+m))=(D.drop (p+m)).map (Value.int .u8):=by rw[List.map_drop,<-a,List.drop_take]
  have v:((s.data.toList.take m).map fun b=>(b.toNat:Int)).map (Value.int .u8)=(s.data.toList.take m).map fun b=>int .u8 b.toNat:=by rw[CR];rfl
  rw[d,e1,AR,AR,v,<-e3,<-Bg];have f:((D.take p).map (Value.int IntKind.u8)++(s.data.toList.take m).map fun b=>int .u8 b.toNat).length=p+m:=by rw[Ai,e2,d]
  generalize ((D.take p).map (Value.int IntKind.u8)++(s.data.toList.take m).map fun b=>int .u8 b.toNat)=X at f |-;rw[List.take_append,Aw (l:=X) (by rw[f];omega),f]
 refine At.row r.set ?_ k j ?_ (key _ rfl)
 ·rw[Bo,t,By]
 ·unfold splice
  grind
theorem Wz{v:Value}(h:cur[o]?=some v):cur.set o v=cur:=by
 refine Bf fun i=>?_
 grind
theorem ZE{a i:Nat}(h:a+i<s.size):(s.extract a s.size).get! i=s.get! (a+i):=by
 have b:s.data.size=s.size:=rfl;have hd:(s.extract a s.size).data=s.data.extract a s.size:=CS
 show(s.extract a s.size).data[i]! =s.data[a+i]!
 grind
theorem Ao4{l:Sps}{k:Nat}(h:k<l.length):l.take (k+1)=l.take k++[l.getD k (0,0)]:=by
 rw[Br,Au,Ap h];rfl
theorem Ae8{wr l v:World}{x:TkP}{dv v':Value}{F:Sps}{ln:Nat}
 (h:TkAt w g o x) (A:At w g T cur) (E:Kept (g::(x.blk false).toList) w wr) (r:At wr g T (cur.set o dv)) (B:Own wr 0 dv D) (d:dv.ownBlock=some gd) (f:x.blk false=some gd\/w.heap.size<=gd)
 (G:PtrPost wr l g (o+1) x.tv.ownBlock.toList v') (M:OwnSp l v' F) (N:∀q,v'.ownBlock=some q->x.tv.ownBlock=some q\/wr.heap.size<=q)
 (c:Kept [g] l v) (u:At l g T ((cur.set o dv).set (o+1) v')->At v g T (((cur.set o dv).set (o+1) v').set (o+2) (int i64 (ln:Int)))):TkPost w v g o x ⟨dv,D,v',F,ln⟩:=by
 have I:=A.lt;have J:=(AB B gd d).2;have L:=E.size;have H:gd≠g:=by
  rcases f with b | b
  ·exact h.sd gd b
  ·omega
 have K:∀q,x.tv.ownBlock=some q->q<w.heap.size/\q≠g/\q≠gd:=fun q a=>by
  have b:=h.ot.lt a;refine⟨b,h.st q a,?_⟩;rintro rfl
  rcases f with z | z
  ·exact h.dt q z a
  ·omega
 have j:∀q,v'.ownBlock=some q->q≠g/\q≠gd:=by grind
 have i:Kept (g::x.tv.ownBlock.toList) wr l:=G.kept;have C:gd∉g::x.tv.ownBlock.toList:=by
  grind
 refine⟨?_,fun O y n=>?_,?_,?_,fun k q a=>?_,fun q a t=>?_⟩
 ·refine GY (GY (E.Fn (fun q a=>?_)) i (fun q a=> .inl ?_)) c (fun q a=> .inl ?_)
  ·grind
  ·rw[Ar]at a |-
   rcases a with e | e
   ·exact .inl e
   ·exact .inr (DH _ e)
  grind
 ·obtain⟨rfl,rfl⟩:=A.Apw n;exact u (G.row _ _ r)
 ·refine Ky (Ky B i (fun q a=>?_)) c (fun q a=>?_)
  ·grind
  grind
 ·refine M.kept c (fun q a=>?_)
  simpa using (j q a).1
 ·cases k
  ·have a:dv.ownBlock=some q:=a
   grind
  ·rcases N q a with b | b
   ·exact .inl b
   ·exact .inr (by omega)
 ·have a:dv.ownBlock=some q:=a;rw[d]at a
  cases a;exact(j gd t).2 rfl
def YN (w:World)(g o:Nat)(x:TkP)(p:PieceM):Ending->World->Prop:=fun e w'=>e=.returned (.tuple #[])/\∃x',TkPost w w' g o x x'/\AddM x x' p.a p.b p.data p.last
theorem Akz{x:TkP}(p:PieceM)(h:TkAt w g o x)(hA:At w g T cur)(hs:Srt x.th)(hE:G8 x.th<=1500)(ch:x.data.length=G8 x.th)(hf:0<=p.frm)(hb:p.b<=1500)(h0:0<p.data.size):
 Calls prog 206 #[.pointer (some ⟨g,o,none⟩),p.val] w (YN w g o x p):=by
 have d6:=hA.lt;have eb:(p.b:Int)=p.frm+p.data.size:=by unfold PieceM.b;omega
 have ea:(p.a:Int)=p.frm:=by unfold PieceM.a;omega
 have b9:p.a+p.data.size=p.b:=by unfold PieceM.a PieceM.b;omega
 obtain⟨aD,cD,eD, -, -, -⟩:=h.od.FC;obtain⟨aT,cT,eT, -, -, -⟩:=h.ot.FC;have b0:Qe x.th 3000:=fun q r=>Ak (hs.Tz q r) (by omega)
 generalize hP:YN w g o x p=Pst;have H:=hid h;have HP:=hid hP;have HS:=hid hs;have a8:=hid b0;have ad:=hid ch;have ae:=hid eD;have af:=hid eT;have c0:=h.c0;have c1:=h.c1;have c2:=h.c2;rw[eD]at c0;rw[eT]at c1;clear h hP hs b0 ch eD eT;obtain⟨A,eA⟩:=E7 p.a;obtain⟨B,eB⟩:=E7 p.b;obtain⟨c,ah⟩:=E7 x.data.length;obtain⟨LT,bc⟩:=E7 x.th.length;obtain⟨LN,bb⟩:=E7 x.len;rw[<-eA]at ea b9;rw[<-eB]at eb b9 hb;rw[<-ah]at c0;rw[<-bc]at c1;rw[<-bb]at c2;have y:=hid ah;have ag:=hid bc;have bt:=hid bb;have d0:c<=1500:=by rw[ah,ad.out];exact hE
 have ee:p.data.size<=1500:=by omega
 have dq:A<=1500:=by omega
 have bq:=hid eA;have br:=hid eB;clear ah bc bb eA eB;obtain⟨num,frm,last,data⟩:=p;dsimp only[PieceM.val]at*;subst ea;have dy:(A:Int)+(data.size:Int)=(B:Int):=by omega
 clear eb;go_enter func206,ntmps206;go_upto_region 2 with fail
 obtain⟨F,eW⟩:=E7 ((w.alloc (.cells #[int i64 num,int i64 (A:Int),.bool last,string data] 216)).alloc (.cells #[int i64 (A:Int),int i64 (B:Int)] 146));have hk:Kept [] w F:=by rw[eW];exact((Kept.refl _ w).alloc _).alloc _
 have dz:F.heap.size=w.heap.size+2:=by rw[eW];simp
 have dk:At F w.heap.size 216 [int i64 num,int i64 (A:Int),.bool last,string data]:=by
  rw[eW];exact At.kept (Fc w _ [int i64 num,int i64 (A:Int),.bool last,string data]) ((Kept.refl [] _).alloc _) (by simp)
 have cp:At F (w.heap.size+1) 146 [int i64 (A:Int),int i64 (B:Int)]:=by
  rw[eW];have:=Fc (w.alloc (.cells #[int i64 num,int i64 (A:Int),.bool last,string data] 216)) 146 [int i64 (A:Int),int i64 (B:Int)]
  simpa using this
 rw[<-eW];clear eW;have c0:=E8 hk c0 (by simp);have x1:F.cell? ⟨w.heap.size+1,1,none⟩=some (int i64 (B:Int)):=cp.cell 1;have be:At F g T cur:=hA.kept hk (by simp);have co:Own F 0 (slice aD c cD) x.data:=by
  have:=Ky H.out.od hk (by simp);rw[ae.out,<-y.out]at this;exact this
 have S:=hid co;have HK:=hid hk;clear co hk c1 c2;have az:Hid (x.blk false=(slice aD c cD).ownBlock):=by
  show _=_;unfold TkP.blk;rw[ae.out,<-y.out];rfl
 go_region
 go_upto_if 23 with fail
 go_cut []from 7 (fun wx=>∃gd c1:Nat,Own wx 0 (slice (some ⟨gd,0,none⟩) (max c B) c1) (x.data++List.replicate (B-c) 0)/\At wx g T (cur.set o (slice (some ⟨gd,0,none⟩) (max c B) c1))/\Kept (g::(x.blk false).toList) F wx/\(x.blk false=some gd\/F.heap.size<=gd))
 case first=>
  by_cases cl:c<B
  ·have d1:decide ((c:Int)<(B:Int))=true:=Ag (by omega);have dx:(B:Int)-(c:Int)=((B-c:Nat):Int):=by omega
   have dl:IntKind.i64.wrap ((B-c:Nat):Int)=((B-c:Nat):Int):=by rw[AO];omega
   obtain⟨v',W2,hR,hO,hG,hN⟩:=Own.Apc (w:=F.drew.drew) (n:=B-c) S.out (by rw[<-y.out];omega);obtain⟨a',c',ev,cm, -, -⟩:=Own.FC hO;subst ev;have bi:g∉(slice aD c cD).ownBlock.toList:=fun W=>by
    have N:=H.out.sd g;rw[ae.out,<-y.out]at N;exact N (by simpa using W) rfl
   have C:Kept (slice aD c cD).ownBlock.toList F.drew.drew W2:=Kept.PR hG;have s1:W2.cell? ⟨g,o,none⟩=some (slice aD c cD):=E8 C c0 bi;have X:At W2 g T cur:=At.kept (w:=F.drew.drew) be C bi;have s2:W2.frozen? ⟨g,o,none⟩=false:=X.free o;have M:(x.data++List.replicate (B-c) 0).length=max c B:=by rw[Ai,A7,<-y.out];omega
   rw[M]at hR hO;have HR:=hid hR;have HO:=hid hO;have c8:=hid C;have cy:=hid X;have HN:=hid hN;have dc:=hid cm;rw[M]at hN;have HN:=hid hN;clear hR hO hG hN cm bi C X M;go_upto_region 3 with fail
   go_region_law (refine KJ rfl .append (.tmp 28) (.tmp 36) 103 3 rfl (slice aD c cD) (int i64 ((B-c:Nat):Int)) (by simp[Act.eval,Act.put]) (by simp[Act.eval,Act.put]) (GG (HR.out _)) ?_)
   all_goals
    go_wp2_with fail
    go_meet
    case rel=>
     obtain⟨gd,bd⟩:=dc.out (by rw[<-Ek,Ai,A7];omega);subst bd;refine⟨gd,c',?_,cy.out.setCell _,?_,?_⟩
     ·refine Ky HO.out (FT W2 g o _) (fun q r=>?_);rw[AC];rintro rfl
      rcases HN.out q r with N | N
      ·exact H.out.sd q (by rw[ae.out,<-y.out];exact N) rfl
      ·have N:F.heap.size<=q:=N;omega
     ·rw[az.out];have N:Kept (g::(slice aD c cD).ownBlock.toList) F W2:=(((Kept.refl _ F).drew).drew).trans (c8.out.Fn (fun q r=>AU _ r));exact N.setCell (p:=⟨g,o,none⟩) (show g∈g::_ from AL) _
     ·rw[az.out];exact HN.out gd rfl
  ·have d1:decide ((c:Int)<(B:Int))=false:=Ae (by omega)
   go_wp2_with fail
   go_meet
   case rel=>
    obtain⟨a5,c5,e5,cn, -, -⟩:=Own.FC S.out;simp only[Aq]at e5;obtain⟨e6, -, -⟩:=e5;subst e6;obtain⟨gd,bd⟩:=cn (by rw[<-Ek,<-y.out];omega);subst bd;have e7:max c B=c:=by omega
    have e8:B-c=0:=by omega
    rw[e7,e8,C4,AA];refine⟨gd,cD,S.out,?_,(Kept.refl _ F).drew,.inl az.out⟩;rw[Wz (by rw[<-be.cell];exact c0)];exact be
 case rest=>
  obtain⟨w2,rfl⟩:=E7 wc;obtain⟨gd,c1,hO,aj,an,ci⟩:=hcut;have cj:gd<w2.heap.size:=(AB hO gd rfl).2;have ce:∀q,q∈g::(x.blk false).toList->q<w.heap.size:=fun q r=>by
   rw[Ar]at r
   rcases r with e | e
   ·omega
   ·have e':x.blk false=some q:=by simpa using e
    exact(AB H.out.od q e').2
  have b4:w.heap.size∉g::(x.blk false).toList:=by grind
  have b5:w.heap.size+1∉g::(x.blk false).toList:=by grind
  have cq:=dk.kept an b4;have ar:=cp.kept an b5;have bg:Kept (g::(x.blk false).toList) w w2:=(HK.out.Fn (by simp)).trans an;have av:cur[o+1]?=some (slice aT LT cT):=by rw[<-hA.cell,H.out.c1,af.out,<-ag.out]
  have cg:cur[o+2]?=some (int i64 (LN:Int)):=by rw[<-hA.cell,H.out.c2,<-bt.out]
  have k0:w2.cell? ⟨g,o,none⟩=some (slice (some ⟨gd,0,none⟩) (max c B) c1):=by
   rw[aj.cell,Eg]
   grind
  have k1:w2.cell? ⟨g,o+1,none⟩=some (slice aT LT cT):=by rw[aj.cell,CV (by omega)];exact av
  have bl:OwnSp w2 (slice aT LT cT) x.th:=by
   have:=H.out.ot.kept bg (fun q r W=>by
    rw[Ar]at W
    rcases W with e | e
    ·exact H.out.st q r e
    ·have e':x.blk false=some q:=by simpa using e
     exact H.out.dt q e' r)
   rw[af.out,<-ag.out]at this;exact this
  have y0:w2.cell? ⟨w.heap.size+1,0,none⟩=some (int i64 (A:Int)):=ar.cell 0;have y1:w2.cell? ⟨w.heap.size+1,1,none⟩=some (int i64 (B:Int)):=ar.cell 1;have ap:=P6 (w:=w2.drew) (lo:=A) (hi:=B) bl HS.out a8.out (by omega) (by omega);unfold Qf at ap;obtain⟨G,eG⟩:=E7 (F7 B A x.th);obtain⟨n,en⟩:=E7 G.length;rw[<-eG]at ap;have hn:n<=4000:=by
   have j:=OR (hi:=B) (l:=x.th) (lo:=A);have h2:=HS.out.few a8.out;rw[<-eG,<-en]at j;omega
  have EG:=hid eG;have EN:=hid en;have HO:=hid hO;have bn:=hid aj;have db:=hid bg;have dd:=hid bl;have I:=hid ci;have bv:=hid cq;have bw:=hid ar;clear hO aj an bg bl ci cq ar eG en b4 b5 ce c0 x1;go_upto_region 4 with fail
  go_cut [45,46,47]from 7 (fun dm dn dp wx=>∃(aG:Option Addr) (cG:Nat),dm=slice aG n cG/\dn=int i64 (n:Int)/\dp=int i64 ((0:Nat):Int)/\OwnSi wx w2.heap.size (slice aG n cG) (Ip G)/\Below w2.heap.size w2 wx)
  case first=>
   have aq:(Ip G).length=n:=by rw[Hi];exact EN.out.symm
   rw[Hi]at aq
   go_region_with (go_at_call 120;refine ap.mono ?_;rintro e' w4 ⟨v4,rfl,bk,cc⟩;obtain⟨aG,cG,rfl, -, -, -⟩:=Fg bk;have a9:=hid bk;have cz:=hid cc;clear bk cc)
   all_goals
    go_wp2_with fail
    go_meet
    case rel=>
     have j:=a9.out;rw[Hi,aq]at j;refine⟨aG,cG,by rw[Hi,aq],by rw[Hi,aq],rfl,j,((Ad _ w2).drew).trans cz.out⟩
  case rest=>
   obtain⟨aG,cG,rfl,rfl,rfl,b7,cd⟩:=hcut;obtain⟨w4,rfl⟩:=E7 wc;have bf:Kept [] w2 w4:=Kept.E5 cd;have ak:(x.data++List.replicate (B-c) 0).length=max c B:=by rw[Ai,A7,<-y.out];omega
   have aa:Own w4 0 (slice (some ⟨gd,0,none⟩) (max c B) c1) (x.data++List.replicate (B-c) 0):=Ky HO.out bf (by simp);obtain⟨D0,ba⟩:=E7 (x.data++List.replicate (B-c) 0);rw[<-ba]at aa ak;have dr:max c B<=c1:=by obtain⟨-, -, -,N, -⟩:=F9 aa;rw[ak]at N;exact N
   have dh:c1<=9223372036854775807:=by obtain⟨-, -, -, -,N, -⟩:=F9 aa;unfold maxLen at N;omega
   have ck:∀q∈G,A<=q.1/\q.1<q.2/\q.2<=B:=fun q r=>VZ q (by rw[<-EG.out];exact r)
   have c4:=hid ck;have c3:=hid ak;have cw:=hid ba;have bu:=hid b7;have bs:=hid bf;have a9:=hid aa;clear ck ak ba b7 cd bf aa k0 k1 y0 y1 ap
   go_wp2_with fail
   go_loopw [47] (fun vi wr=>∃(k:Nat) (D:List Int),k<=n/\vi=int i64 (k:Int)/\D.length=max c B/\(∀t,inS (G.take k) t->D.getD t 0=((data.get! (t-A)).toNat:Int))/\(∀t,¬inS (G.take k) t->D.getD t 0=D0.getD t 0)/\Own wr 0 (slice (some ⟨gd,0,none⟩) (max c B) c1) D/\Kept [gd] w4 wr) (fun vi _=>n-(intOf vi).toNat)
   case atStart=>exact⟨0,D0,Af _,rfl,c3.out,fun t ht=>absurd ht (GT t),fun _ _=>rfl,a9.out,Kept.refl _ _⟩
   case round=>
    obtain⟨k,D,d7,rfl,Y,al,am,ao,J⟩:=hrel;have dv:gd<w2.heap.size:=cj
    by_cases cl:k<n
    ·have C:k<G.length:=by rw[<-EN.out];exact cl
     obtain⟨gG,rfl,du,cf⟩:=bu.out.at (i:=k) (by rw[Hi];exact C);have ds:w2.heap.size<=gG:=(AB bu.out gG rfl).1;obtain⟨z0,z1⟩:=cf k (by rw[Hi];exact C);have r:=c4.out _ (Rp C);have dg:=hid (Ao4 C);have eI:(Ip G).getD k (0,0)=(((G.getD k (0,0)).1:Int),((G.getD k (0,0)).2:Int)):=by
      grind [Ip]
     rw[eI]at z0 z1;obtain⟨P,eP⟩:=E7 ((G.getD k (0,0)).1);obtain⟨Q,eQ⟩:=E7 ((G.getD k (0,0)).2);rw[<-eP,<-eQ]at r;have z0:w4.cell? ⟨gG,k*2,none⟩=some (int i64 (P:Int)):=by rw[eP];exact z0
     have z1:w4.cell? ⟨gG,k*2+1,none⟩=some (int i64 (Q:Int)):=by rw[eQ];exact z1
     have d:Kept [gd] w2 wr:=(bs.out.Fn (by simp)).trans J;have z0:=E8 J z0 (by show gG∉[gd];simp;omega);have z1:=E8 J z1 (by show gG∉[gd];simp;omega);have cx:=hid (show(P,Q)=G.getD k (0,0)by rw[eP,eQ]);have O:gd≠g:=by
      rcases I.out with j | j
      ·exact H.out.sd gd j
      ·omega
     have f:∀q,q∈[gd]->q≠w.heap.size/\q≠w.heap.size+1:=fun q u=>by
      rw[AC]at u;subst u
      rcases I.out with j | j
      ·have:=(AB H.out.od q j).2;omega
      ·omega
     have E:At wr g T (cur.set o (slice (some ⟨gd,0,none⟩) (max c B) c1)):=bn.out.kept d (by simpa using fun e=>O e.symm);have ab:=bv.out.kept d (fun W=>(f _ W).1 rfl);have K:=bw.out.kept d (fun W=>(f _ W).2 rfl);have L:Kept [] wr (wr.alloc (.cells #[int i64 (P:Int),int i64 (Q:Int)] 146)):=(Kept.refl _ wr).alloc _;obtain⟨V,ai⟩:=E7 (wr.alloc (.cells #[int i64 (P:Int),int i64 (Q:Int)] 146));have bh:At V wr.heap.size 146 [int i64 (P:Int),int i64 (Q:Int)]:=by rw[ai];exact Fc wr _ _
     rw[<-ai]at L;have a0:V.cell? ⟨g,o,none⟩=some (slice (some ⟨gd,0,none⟩) (max c B) c1):=by
      rw[(E.kept L (by simp)).cell,Eg]
      grind
     have a1:V.cell? ⟨wr.heap.size,0,none⟩=some (int i64 (P:Int)):=bh.cell 0;have a2:V.cell? ⟨wr.heap.size,1,none⟩=some (int i64 (Q:Int)):=bh.cell 1;have a3:V.cell? ⟨w.heap.size,3,none⟩=some (string data):=(ab.kept L (by simp)).cell 3;have a4:V.cell? ⟨w.heap.size+1,0,none⟩=some (int i64 (A:Int)):=(K.kept L (by simp)).cell 0;have b6:Own V.drew 0 (slice (some ⟨gd,0,none⟩) (max c B) c1) D:=Ky ao L.drew (by simp);have aw:(data.extract (P-A) data.size).size=data.size-(P-A):=by simp[CF]
     obtain⟨W',hC,b8,b3⟩:=Own.Aoi (p:=P) (m:=Q-P) (s:=data.extract (P-A) data.size) b6 (by rw[Y];omega) (by rw[aw];omega);have HC:=hid hC;have de:=hid b8;have R:=hid b3;have c7:=hid L;have c9:=hid J;have a6:=hid al;have a7:=hid am;have ad:=hid Y;have d9:A<=P:=r.1;have ec:P<Q:=r.2.1;have ed:Q<=B:=r.2.2;have d2:(P:Int)-(A:Int)=((P-A:Nat):Int):=by omega
     have dl:IntKind.i64.wrap ((P-A:Nat):Int)=((P-A:Nat):Int):=by rw[AO];omega
     have c6:Hid (∀q,q∈[gd]->q≠g/\q≠wr.heap.size/\q≠w.heap.size/\q≠w.heap.size+1):=hid fun q u=>by
      have j:=f q u;rw[AC]at u;subst u;have h2:=d.size;exact⟨O,by omega,j.1,j.2⟩
     clear hC b8 b3 L J d al am Y ao b6 bh K ab E cf aw eP eQ r eI f;have d8:¬(c1<P):=by omega
     have d5:Q<=c1:=by omega
     have d3:P<=Q:=by omega
     have dw:¬(c1=P):=by omega
     have d4:P-A<=data.size:=by omega
     go_upto_region 7 with fail
     rw[<-ai];clear ai z0 z1;have hC:=fun ty=>HC.out ty (c1-P)
     have U:∀q,q∈[gd]->q≠g/\q≠wr.heap.size/\q≠w.heap.size/\q≠w.heap.size+1:=c6.out;have KA:Hid (V.drew.cell? ⟨g,o,none⟩=some (slice (some ⟨gd,0,none⟩) (max c B) c1)/\V.drew.cell? ⟨wr.heap.size,0,none⟩=some (int i64 (P:Int))/\V.drew.cell? ⟨wr.heap.size,1,none⟩=some (int i64 (Q:Int))/\V.drew.cell? ⟨w.heap.size,3,none⟩=some (string data)/\V.drew.cell? ⟨w.heap.size+1,0,none⟩=some (int i64 (A:Int))):=hid ⟨a0,a1,a2,a3,a4⟩;have KB:Hid (W'.cell? ⟨g,o,none⟩=some (slice (some ⟨gd,0,none⟩) (max c B) c1)/\W'.cell? ⟨wr.heap.size,0,none⟩=some (int i64 (P:Int))/\W'.cell? ⟨wr.heap.size,1,none⟩=some (int i64 (Q:Int))/\W'.cell? ⟨w.heap.size,3,none⟩=some (string data)/\W'.cell? ⟨w.heap.size+1,0,none⟩=some (int i64 (A:Int))):=hid ⟨E8 R.out a0 (fun h=>(U _ h).1 rfl),E8 R.out a1 (fun h=>(U _ h).2.1 rfl),E8 R.out a2 (fun h=>(U _ h).2.1 rfl),E8 R.out a3 (fun h=>(U _ h).2.2.1 rfl),E8 R.out a4 (fun h=>(U _ h).2.2.2 rfl)⟩;clear U a0 a1 a2 a3 a4
     go_region_held3 (fun w'=>w'.cell? ⟨g,o,none⟩=some (slice (some ⟨gd,0,none⟩) (max c B) c1)/\w'.cell? ⟨wr.heap.size,0,none⟩=some (int i64 (P:Int))/\w'.cell? ⟨wr.heap.size,1,none⟩=some (int i64 (Q:Int))/\w'.cell? ⟨w.heap.size,3,none⟩=some (string data)/\w'.cell? ⟨w.heap.size+1,0,none⟩=some (int i64 (A:Int))) (first | with_reducible exact KA.out | with_reducible exact KB.out) (fail)
     go_wp2_with fail
     go_roundw
     case rel=>
      have di:(data.extract (P-A) data.size).size=data.size-(P-A):=by simp[CF]
      have cr:P+(Q-P)<=D.length:=by rw[ad.out];omega
      have cs:Q-P<=(data.extract (P-A) data.size).size:=by rw[di];omega
      have bj:∀t,inS (G.take (k+1)) t↔inS (G.take k) t\/(P<=t/\t<Q):=fun t=>by
       rw[dg.out,<-cx.out,OV,Gc];exact⟨fun h=>h.elim .inl (fun h=>h.elim .inr (fun h=>absurd h (GT t))),fun h=>h.elim .inl (fun h=> .inr (.inl h))⟩
      have cb:=Al4 cr cs;refine⟨k+1,AaL D P (Q-P) (data.extract (P-A) data.size),by omega,by go_num,?_,fun t ht=>?_,fun t ht=>?_,de.out,?_⟩
      ·rw[AaM cr cs];exact ad.out
      ·rw[cb]
       by_cases bm:P<=t/\t<P+(Q-P)
       ·rw[Ab bm,ZE (by omega),show P-A+(t-P)=t-A by omega]
       ·rw[Aa bm]
        rcases (bj t).1 ht with j | j
        ·exact a6.out t j
        ·exact absurd ⟨j.1,by omega⟩ bm
      ·rw[cb,Aa (fun h=>ht ((bj t).2 (.inr ⟨h.1,by omega⟩)))];exact a7.out t (fun h=>ht ((bj t).2 (.inl h)))
      ·exact(c9.out.trans ((c7.out.Fn (by simp)).drew)).trans R.out
     case measure=>simp[intOf];omega
    ·have ek:k=n:=by omega
     subst ek;have d:Kept [gd] w2 wr:=(bs.out.Fn (by simp)).trans J;have O:gd≠g:=by
      rcases I.out with j | j
      ·exact H.out.sd gd j
      ·omega
     have f:∀q,q∈[gd]->q≠w.heap.size/\q≠w.heap.size+1:=fun q u=>by
      rw[AC]at u;subst u
      rcases I.out with j | j
      ·have:=(AB H.out.od q j).2;omega
      ·omega
     have E:At wr g T (cur.set o (slice (some ⟨gd,0,none⟩) (max c B) c1)):=bn.out.kept d (by simpa using fun e=>O e.symm);have ab:=bv.out.kept d (fun W=>(f _ W).1 rfl);have K:=bw.out.kept d (fun W=>(f _ W).2 rfl);have ac:∀q,(slice aT LT cT).ownBlock=some q->q<w.heap.size/\q≠g/\q≠gd:=fun q r=>by
      have u:x.tv.ownBlock=some q:=by rw[af.out,<-ag.out];exact r
      have j:=H.out.ot.lt u;refine⟨j,H.out.st q u,?_⟩;rintro rfl
      rcases I.out with h2 | h2
      ·exact H.out.dt q h2 u
      ·omega
     have au:OwnSp wr.drew (slice aT LT cT) x.th:=dd.out.kept d.drew (fun q r=>by simpa using (ac q r).2.2);have b1:wr.cell? ⟨g,o+1,none⟩=some (slice aT LT cT):=by
      rw[E.cell,CV (by omega)];exact av
     have y0:wr.cell? ⟨w.heap.size+1,0,none⟩=some (int i64 (A:Int)):=K.cell 0;have y1:wr.cell? ⟨w.heap.size+1,1,none⟩=some (int i64 (B:Int)):=K.cell 1;have ca:=WE (w:=wr.drew) (b:=g) (o:=o+1) (v:=slice aT LT cT) (l:=x.th) (a:=A) (z:=B) b1 (E.free _) au (fun q r=>(ac q r).2.1) HS.out a8.out (by omega) (by omega);have hF:∀w5 v5,PtrPost wr.drew w5 g (o+1) (slice aT LT cT).ownBlock.toList v5->w5.cell? ⟨w.heap.size,2,none⟩=some (.bool last)/\w5.cell? ⟨w.heap.size+1,1,none⟩=some (int i64 (B:Int))/\w5.cell? ⟨g,o+2,none⟩=some (int i64 (LN:Int))/\w5.frozen? ⟨g,o+2,none⟩=false:=fun w5 v5 q1=>by
      have ay:∀q,w.heap.size<=q->q∉g::(slice aT LT cT).ownBlock.toList:=by grind
      have bx:=q1.row T _ (show At wr.drew g T _ from E);refine⟨(At.kept (w:=wr.drew) ab q1.kept (ay _ (Ac _))).cell 2,(At.kept (w:=wr.drew) K q1.kept (ay _ (by omega))).cell 1,?_,bx.free _⟩;rw[bx.cell,CV (by omega),CV (by omega)];exact cg
     have HF:=hid hF;have bo:=hid E;have da:=hid d;have S:=hid ao;have a6:=hid al;have a7:=hid am;have bp:=hid Y;clear hF E ab K ac au ao J d al am Y f;go_upto_region 9 with fail
     go_region_with (go_at_call 118;refine ca.mono ?_;rintro e' w5 ⟨rfl,v5,l5,q1,q2,q3,q4,q5⟩;obtain⟨s1,s2,s3,s4⟩:=HF.out _ _ q1;have Q1:=hid q1;have Q2:=hid q2;have Q3:=hid q3;have Q4:=hid q4;have Q5:=hid q5;clear q1 q2 q3 q4 q5)
     all_goals
      have Z:Kept (g::(x.blk false).toList) w wr:=GY db.out da.out (fun q r=>by
       rw[AC]at r;subst r
       rcases I.out with j | j
       ·left;rw[j];simp
       ·right;omega)
      have ct:x.tv=slice aT LT cT:=by rw[af.out,<-ag.out]
      have ax:x.blk false=some gd\/w.heap.size<=gd:=I.out.elim .inl (fun h=> .inr (by omega));have cu:PtrPost wr w5 g (o+1) x.tv.ownBlock.toList v5:=by
       have j:=Q1.out;rw[ct];exact⟨((Kept.refl _ wr).drew).trans j.kept,j.row⟩
      have cv:∀q,v5.ownBlock=some q->x.tv.ownBlock=some q\/wr.heap.size<=q:=by rw[ct];exact Q5.out
      have df:G.take k=G:=Aw (by rw[<-EN.out];exact Ac _);have b2:∀t,inS (G.take k) t↔A<=t/\t<B/\¬inS x.th t:=fun t=>by rw[df,EG.out];exact VY HS.out t
      have bz:∀ln,ln=(if last=true then B else LN)->AddM x ⟨slice (some ⟨gd,0,none⟩) (max c B) c1,D,v5,l5,ln⟩ A B data last:=fun ln dj=>by
       refine⟨Q3.out,Q4.out,?_,fun t ht=>?_,fun t j h2 h3=>a6.out t ((b2 t).2 ⟨j,h2,h3⟩),by rw[dj,<-bt.out]⟩
       ·show D.length=max x.data.length B;rw[bp.out,<-y.out]
       ·show D.getD t 0=_;rw[a7.out t (fun h=>((b2 t).1 h).2.2 ht),cw.out]
        grind
      cases last with
      | true=>
       go_wp2_with fail
       go_end0;rw[<-HP.out];refine⟨rfl,_,Ae8 (ln:=B) H.out hA Z bo.out S.out rfl ax cu Q2.out cv (FT w5 g (o+2) _) (fun h=>h.setCell _),?_⟩;rw[<-bq.out,<-br.out];exact bz B rfl
      | false=>
       go_wp2_with fail
       go_end0;rw[<-HP.out];refine⟨rfl,_,Ae8 (ln:=LN) H.out hA Z bo.out S.out rfl ax cu Q2.out cv (Kept.refl _ w5) (fun h=>?_),?_⟩
       ·rw[Wz (by rw[<-h.cell];exact s3)];exact h
       ·rw[<-bq.out,<-br.out];exact bz LN rfl
theorem AhL(h:s.size=0):s={data:=#[]}:=by
 obtain⟨⟨l⟩⟩:=s;have h:l.length=0:=h;rw[Cp h]
theorem AhM(h:s.size≠0):s.toList.isEmpty=false:=by
 rw[Cc,List.isEmpty_eq_false_iff];intro e
 apply h
 show s.data.size=0;rw[<-AH,e];rfl
theorem N2(p:PieceM)(h:p.data.size<=Wf):
 Calls prog 204 #[p.val] w fun e w'=>e=.returned (int i64 (if p.bad=true then 3 else 0))/\w'=w.alloc (.cells #[int i64 p.num,int i64 p.frm,.bool p.last,string p.data] 216):=by
 have d:=Fc w 216 p.cells;have q:(w.alloc (.cells #[int i64 p.num,int i64 p.frm,.bool p.last,string p.data] 216)).cell? ⟨w.heap.size,0,none⟩=some (int i64 p.num):=d.cell 0;have r:(w.alloc (.cells #[int i64 p.num,int i64 p.frm,.bool p.last,string p.data] 216)).cell? ⟨w.heap.size,1,none⟩=some (int i64 p.frm):=d.cell 1;have t:(w.alloc (.cells #[int i64 p.num,int i64 p.frm,.bool p.last,string p.data] 216)).cell? ⟨w.heap.size,3,none⟩=some (string p.data):=d.cell 3;have a:=fun W=>Ni p.num W
 obtain⟨V,c⟩:=E7 (if p.bad=true then 3 else 0:Int);rw[<-c];have j:p.data.size<=140737488355328:=h;clear d h;unfold PieceM.bad at c;obtain⟨num,frm,last,data⟩:=p;dsimp only[PieceM.val]at*
 by_cases f:0<=num/\num<=63
 ·rw[Ag f]at a
  by_cases l:frm<0
  ·have b:=hid (show V=3 by grind);clear c;go_enter func204,ntmps204
   go_wp2_with(go_at_call 115;refine(a _).mono ?_;rintro e w1 ⟨rfl,rfl⟩);go_ret;exact⟨by rw[b.out];rfl,rfl⟩
  ·by_cases i:data.size=0
   ·have b:=hid (show V=3 by grind);have e3:=AhL i;subst e3;clear c;go_enter func204,ntmps204
    go_wp2_with(go_at_call 115;refine(a _).mono ?_;rintro e w1 ⟨rfl,rfl⟩);go_ret;exact⟨by rw[b.out];rfl,rfl⟩
   ·have k:=AhM i
    by_cases n:1500-(data.size:Int)<frm
    ·have b:=hid (show V=3 by grind);clear c;go_enter func204,ntmps204
     go_wp2_with(go_at_call 115;refine(a _).mono ?_;rintro e w1 ⟨rfl,rfl⟩);go_ret;exact⟨by rw[b.out];rfl,rfl⟩
    ·have b:=hid (show V=0 by grind);clear c;go_enter func204,ntmps204
     go_wp2_with(go_at_call 115;refine(a _).mono ?_;rintro e w1 ⟨rfl,rfl⟩);go_ret;exact⟨by rw[b.out];rfl,rfl⟩
 ·rw[Ae f]at a;have b:=hid (show V=3 by grind);clear c f;go_enter func204,ntmps204
  go_wp2_with(go_at_call 115;refine(a _).mono ?_;rintro e w1 ⟨rfl,rfl⟩);go_ret;exact⟨by rw[b.out];rfl,rfl⟩
def TkP.J9(x:TkP)(p:PieceM):Bool:=(decide (0<x.len) && (decide (x.len<p.b) || (p.last && x.len !=p.b))) || (p.last && decide (p.b<G8 x.th))
theorem UP{x:TkP}(p:PieceM)(h:TkAt w g o x)(M:x.len<=3000)(y:G8 x.th<=3000)(F:x.th.length<=4000)(K:0<=p.frm)(J:p.b<=3000):
 Calls prog 205 #[.pointer (some ⟨g,o,none⟩),p.val] w fun e w'=>e=.returned (int i64 (if x.J9 p=true then 3 else 0))/\w'=w.alloc (.cells #[int i64 p.num,int i64 p.frm,.bool p.last,string p.data] 216):=by
 have n:=Fc w 216 p.cells;have P:(w.alloc (.cells #[int i64 p.num,int i64 p.frm,.bool p.last,string p.data] 216)).cell? ⟨w.heap.size,1,none⟩=some (int i64 p.frm):=n.cell 1;have Q:(w.alloc (.cells #[int i64 p.num,int i64 p.frm,.bool p.last,string p.data] 216)).cell? ⟨w.heap.size,2,none⟩=some (.bool p.last):=n.cell 2;have R:(w.alloc (.cells #[int i64 p.num,int i64 p.frm,.bool p.last,string p.data] 216)).cell? ⟨w.heap.size,3,none⟩=some (string p.data):=n.cell 3;have q:Kept [] w (w.alloc (.cells #[int i64 p.num,int i64 p.frm,.bool p.last,string p.data] 216)):=(Kept.refl _ w).alloc _;obtain⟨a,c,e, -, -, -⟩:=h.ot.FC;have c1:=E8 q h.c1 (by simp);have c2:=E8 q h.c2 (by simp);have k:=h.ot.kept q (by simp);rw[e]at c1 k;have j:=WF k F;obtain⟨V,d⟩:=E7 (if x.J9 p=true then 3 else 0:Int);rw[<-d];have eb:(p.b:Int)=p.frm+p.data.size:=by unfold PieceM.b;omega
 unfold TkP.J9 at d;clear n q e h k;generalize p.b=B at*;generalize G8 x.th=E at*;generalize x.len=L at*;generalize x.th.length=N at*;obtain⟨num,frm,last,data⟩:=p;dsimp only[PieceM.val]at*;obtain⟨frm,rfl⟩:∃f:Nat,frm=(f:Int):=⟨frm.toNat,by omega⟩;have u:frm+data.size=B:=by omega
 have t:(frm:Int)+(data.size:Int)=(B:Int):=by omega
 have C:frm<=3000:=by omega
 clear eb
 by_cases G:0<L
 ·have H:decide ((0:Int)<(L:Int))=true:=Ag (by omega)
  by_cases O:L<B
  ·have z:decide ((L:Int)<(B:Int))=true:=Ag (by omega);have i:=hid (show V=3 by grind);clear d;go_enter func205,ntmps205
   go_wp2_with fail;go_ret;exact⟨by rw[i.out];rfl,rfl⟩
  ·have z:decide ((L:Int)<(B:Int))=false:=Ae (by omega)
   cases last with
   | false=>
    have i:=hid (show V=0 by grind);clear d;go_enter func205,ntmps205
    go_wp2_with fail;go_ret;exact⟨by rw[i.out];rfl,rfl⟩
   | true=>
    by_cases v:L=B
    ·subst v
     by_cases l:L<E
     ·have r:decide ((L:Int)<(E:Int))=true:=Ag (by omega);have i:=hid (show V=3 by rw[d,Ab];simp[l]);clear d;go_enter func205,ntmps205
      go_wp2_with(go_at_call 121;refine j.mono ?_;rintro e w1 ⟨rfl,rfl⟩);go_ret;exact⟨by rw[i.out];rfl,rfl⟩
     ·have r:decide ((L:Int)<(E:Int))=false:=Ae (by omega);have i:=hid (show V=0 by rw[d,Aa];simp[l]);clear d;go_enter func205,ntmps205
      go_wp2_with(go_at_call 121;refine j.mono ?_;rintro e w1 ⟨rfl,rfl⟩);go_ret;exact⟨by rw[i.out];rfl,rfl⟩
    ·have I:((B:Int)==(L:Int))=false:=by rw[Cb];omega
     have i:=hid (show V=3 by rw[d,Ab];simp[G,v]);clear d;go_enter func205,ntmps205
     go_wp2_with fail;go_ret;exact⟨by rw[i.out];rfl,rfl⟩
 ·have A:L=0:=by omega
  subst A
  cases last with
  | false=>
   have i:=hid (show V=0 by rw[d,Aa];simp);clear d;go_enter func205,ntmps205
   go_wp2_with fail;go_ret;exact⟨by rw[i.out];rfl,rfl⟩
  | true=>
   by_cases l:B<E
   ·have r:decide ((B:Int)<(E:Int))=true:=Ag (by omega);have i:=hid (show V=3 by rw[d,Ab];simp[l]);clear d;go_enter func205,ntmps205
    go_wp2_with(go_at_call 121;refine j.mono ?_;rintro e w1 ⟨rfl,rfl⟩);go_ret;exact⟨by rw[i.out];rfl,rfl⟩
   ·have r:decide ((B:Int)<(E:Int))=false:=Ae (by omega);have i:=hid (show V=0 by rw[d,Aa];simp[l]);clear d;go_enter func205,ntmps205
    go_wp2_with(go_at_call 121;refine j.mono ?_;rintro e w1 ⟨rfl,rfl⟩);go_ret;exact⟨by rw[i.out];rfl,rfl⟩
theorem TuR.J9{r:InM}{u:Nat}{x:TkP}{p:PieceM}(h:TuR r u x):r.J9 u p=x.J9 p:=by
 unfold InM.J9 TkP.J9;rw[h.ln,h.fin]
 grind
end Go.Proofs.YtbjgfoiikhbonahGreatDoor
