import Derived.Test.YtbjgfoiikhbonahGreatDoorD06
import Derived.Test.YtbjgfoiikhbonahGreatDoorD05
set_option linter.unusedVariables false
set_option linter.unusedSimpArgs false
set_option maxRecDepth 100000
set_option maxHeartbeats 4000000
namespace Go.Proofs.YtbjgfoiikhbonahGreatDoor
open Go.ChangeShapes Go.WideShapes Go.ChangeAt Go.RowKit Go.Maps Go.Proofs.Tryz
open Value (int slice)
open IntKind (i64)
variable {F G l:List Int}{b h i o:Nat}{v:Value}{w w':World}
def WW (m:Nat):Prop:=∀(P:List Nat) (k gf bm gd gt b1 o1 o n c ct first K:Nat) (l A x Z fd:List Int) (w:World),Fm P k gf bm gd gt b1->Rd i64 w (some ⟨b1,o1,none⟩) l->l.length=n->n=2 ^ m->n<=512->n<=c->
 ArrAt .u8 5 w gt (A++x++Z)->A.length=o->x.length=n->n<=ct->MapAt w bm P k->FinderAt w gf bm gd k->ArrAt .u8 5 w gd fd->fd.length=k->first+n<=512->Within l K->K*n<=1152921504606846976->
 Calls prog 281 #[.pointer (some ⟨gf,0,none⟩),slice (some ⟨b1,o1,none⟩) n c,int i64 first,slice (some ⟨gt,o,none⟩) n ct] w fun e w'=>
  e=.returned (.tuple #[])/\ArrAt .u8 5 w' gt (A++GE m (Ki m l (GX P first n))++Z)/\ArrAt .u8 5 w' gd (KY P fd first (Ki m l (GX P first n)))/\Kept [gt,gd] w w'
def Pi (F:List Int)(h i:Nat):List Int:=F.take i++List.replicate (h-i) 0
theorem AiN(a:F.length=h)(hi:i<h):(Pi F h i).set i (F.getD i 0)=Pi F h (i+1):=by
 unfold Pi;obtain⟨m,c⟩:∃m,h-i=m+1:=⟨h-i-1,by omega⟩
 grind [KI,WI]
theorem Zy(a:F.length=h)(hi:i<=h):(Pi F h i).length=h:=by simp[Pi,a];omega
theorem AiM(a:F.length=h):Pi F h h=F:=by simp[Pi,<-a]
def Ly (G F:List Int)(i:Nat):List Int:=G.take i++F.drop i
theorem AjM(hg:G.length=h)(a:F.length=h)(hi:i<h):(Ly G F i).set i (G.getD i 0)=Ly G F (i+1):=by
 have ht:(G.take i).length=i:=by rw[Ay];omega
 unfold Ly;rw[Cq _ _ (by omega),ht,Bm,CY (by omega),En,<-WI (L:=G) (i:=i) (x:=G.getD i 0) (by omega) rfl,Bg];rfl
theorem Sr(hg:G.length=h)(a:F.length=h)(hi:i<=h):(Ly G F i).length=h:=by simp[Ly,hg,a];omega
theorem AjL(hg:G.length=h)(a:F.length=h):Ly G F h=G:=by grind [Ly]
theorem Iy{p:Addr}{x:Value}{a:Addr}(h:w.cell? a=some x)(c:a.block≠p.block):(w.setCell p v).cell? a=some x:=by
 rw[<-h];simp only[World.cell?,BA _ _ _ _ c]
theorem Rd.get{k:IntKind}(h:Rd k w (some ⟨b,o,none⟩) l){j:Nat}(a:j<l.length):w.cell? ⟨b,o+j,none⟩=some (.int k (l.getD j 0)):=by
 obtain⟨c,f,e,d⟩:=h.at a
 grind
theorem AfZ(m:Nat)(ih:WW m):WW (m+1):=by
 intro P k gf bm Q R b1 o1 o n c ct first K l A x Z fd w H ha hl hn h5 hc hr hA hx b4 hM hF hD bk cs hK ad
 obtain⟨h,T⟩:=E7 (2 ^ m);have h0:1<=h:=by rw[T];exact Dj
 have ap:n=h+h:=by rw[hn,T,Dk];omega
 obtain⟨b,o',e,an⟩:=ha.at (i:=0) (by omega);simp only[Bl,BI,BJ]at e;obtain⟨rfl,rfl⟩:=e;have cq:K<=1152921504606846976:=Ak (Nat.le_mul_of_pos_right K (by omega)) ad;have b2:K*h<=1152921504606846976:=Ak (DZ K (by omega)) ad;have a8:2*K*h<=1152921504606846976:=by
  have e:2*K*h=K*n:=by grind
  rw[e];exact ad
 have l1:(l.take h).length=h:=by rw[Ay];omega
 have l2:(l.drop h).length=h:=by rw[AJ];omega
 obtain⟨F,eF⟩:=E7 (fL (l.take h) (l.drop h));have LF:=hid (show F.length=h by rw[eF];exact VW l1 l2);have FA:Hid (∀j,j<h->F.getD j 0=fI (l.getD j 0) (l.getD (h+j) 0)):=by
  intro j hj;rw[eF,AmL l1 l2 hj,V5 hj,Ro]
 have FW:Hid (Within F K):=by unfold Hid;rw[eF];exact AkV l1 l2 (hK.take h) (hK.drop h)
 obtain⟨U,eU⟩:=E7 (Ki m F (GX P first h));have LU:=hid (show U.length=h by rw[eU,N7,T]);have BU:AllBits U:=by rw[eU];exact OP m _ _
 obtain⟨X,eX⟩:=E7 (GE m U);have lX:X.length=h:=by rw[eX,JM m U (LU.out.trans T),T]
 have LX:=hid lX;have BX:AllBits X:=by rw[eX];exact M0 m _ BU
 obtain⟨G,eG⟩:=E7 (gL X (l.take h) (l.drop h));have LG:=hid (show G.length=h by rw[eG];exact Rm lX l1 l2);have GA:Hid (∀j,j<h->G.getD j 0=gI (X.getD j 0) (l.getD j 0) (l.getD (h+j) 0)):=by
  intro j hj;rw[eG,AiT lX l1 l2 hj,V5 hj,Ro]
 have GW:Hid (Within G (2*K)):=by unfold Hid;rw[eG];exact AkW lX l1 l2 (hK.take h) (hK.drop h)
 obtain⟨V,eV⟩:=E7 (Ki m G (GX P (first+h) h));have LV:=hid (show V.length=h by rw[eV,N7,T]);have BV:AllBits V:=by rw[eV];exact OP m _ _
 obtain⟨Y,eY⟩:=E7 (GE m V);have LY:=hid (show Y.length=h by rw[eY,JM m V (LV.out.trans T),T]);have BY:AllBits Y:=by rw[eY];exact M0 m _ BV
 have af:Ki (m+1) l (GX P first n)=U++V:=by rw[ap,AiJ m l P first h T,<-eF,<-eU,<-eX,<-eG,<-eV]
 rw[af,AbE m U V (LU.out.trans T),<-eX,<-eY];have ah:KY P fd first (U++V)=KY P (KY P fd first U) (first+h) V:=by rw[<-LU.out,Aec]
 rw[ah];have x1:(x.take h).length=h:=by rw[Ay];omega
 have x2:(x.drop h).length=h:=by rw[AJ];omega
 rw[show x=x.take h++x.drop h from(Cs h x).symm]at hr;generalize x.take h=xa at*;generalize x.drop h=xb at*;have HU:=hid eU;have HX:=hid eX;have HV:=hid eV;have HY:=hid eY;have HE:=hid T;have HL:=hid hl;have HN:=hid ap;have av:=hid (show n-h=h by omega);have HA:=hid hA;have X1:=hid x1;have X2:=hid x2;have ar:=hid bk;have s:=hid H;have ch:=hF.lt;have cf:=CQ hM;have cg:=hD.lt;have ci:=hr.lt;have ce:=Aj w _ (an 0 (by omega));have hq:(n:Int).tdiv 2=(h:Int):=by grind
 have c0:((n:Int)==1)=false:=by simp;omega
 have cy:h<=n:=by omega
 have cx:h<=c:=by omega
 have c1:¬c=h:=by omega
 have br:h<=ct:=by omega
 have cm:¬ct=h:=by omega
 clear hl hn ap T l1 l2 eF eU eX eG eV eY lX af ah hA hx x1 x2 bk H ha ad;go_enter func281,ntmps281
 go_wp2_with fail
 go_quiet (fail);rw[av.out];have bs:ArrAt .u8 5 (w.drewN nq) R (A++(xa++xb)++Z):=hr;have a9:MapAt (w.drewN nq) bm P k:=hM;have a4:FinderAt (w.drewN nq) gf bm Q k:=hF;have ay:ArrAt .u8 5 (w.drewN nq) Q fd:=hD;have bg:Rd i64 (w.drewN nq) (some ⟨b1,o1,none⟩) l:=fun _=>⟨b1,o1,rfl,an⟩
 have ao:Kept [R,Q] w (w.drewN nq):=(Kept.refl _ _).drewN nq;have aw:=hid (show(w.drewN nq).heap.size=w.heap.size from rfl);generalize w.drewN nq=wq at*;clear hr hM hF hD an;rw[<-aw.out]at ch cf cg ci ce;clear aw
 go_wp2_with(first
  | (refine FZ wq.heap.size wq h rfl _ _ rfl _ _ rfl rfl rfl rfl (by omega) (Ad _ _) (Ac _) ?_;intro w1 ac L ck ax;obtain⟨bj, -, -⟩:=ac.arr;clear ac ax))
 have bn:Kept [R,Q] wq w1:=Kept.E5 L;have t:Kept [] wq w1:=Kept.E5 L;have bt:=bs.kept t (by simp);have ba:=a9.kept t (by simp);have a5:=a4.kept t (by simp);have az:=ay.kept t (by simp);have al:=t.rd bg (by simp);have u:=ao.trans bn;have cv:w.heap.size<=wq.heap.size:=ao.size;generalize wq.heap.size=f at*;clear bs a9 a4 ay bg bn t L ao
 go_loopw [38] (fun q wr=>∃i:Nat,i<=h/\q=int i64 i/\ArrAt i64 3 wr f (Pi F h i)/\Kept [f] w1 wr) (fun q _=>h-(intOf q).toNat)
 case atStart=>exact⟨0,Af _,rfl,by simpa [Pi]using bj,Kept.refl _ _⟩
 case round=>
  obtain⟨i,hi,rfl,d,a⟩:=hrel;have am:=a.rd al (by intro g o e;simp at e;simp;omega)
  by_cases ae:i<h
  ·have g1:=am.get (j:=i) (by rw[HL.out,HN.out];omega);have g2:=am.get (j:=h+i) (by rw[HL.out,HN.out];omega);rw[<-BZ]at g2;have ag:=d.set i (F.getD i 0);rw[AiN LF.out ae,FA.out i ae]at ag;have N:=a.setCell (p:=⟨f,i,none⟩) (by simp) (int i64 (F.getD i 0));rw[FA.out i ae]at N;have hf:=d.free i;have b5:=d.cell (j:=i) (by rw[Zy LF.out hi];exact ae);have bz:=hK i;have b0:=hK (h+i);generalize (Pi F h i).getD i 0=z at*;generalize l.getD i 0=y at*;generalize l.getD (h+i) 0=B at*;have i0:(0:Int)<=(i:Int):=by omega
   have c5:(i:Int)<(h:Int):=by omega
   have bx: -4611686018427387904<=y/\y<=4611686018427387904:=by omega
   have bY: -4611686018427387904<=B/\B<=4611686018427387904:=by omega
   have cc:=Iy (p:=⟨f,i,none⟩) (v:=int i64 (fI y B)) g1 (by show b1≠f;omega);have cd:=Iy (p:=⟨f,i,none⟩) (v:=int i64 (fI y B)) g2 (by show b1≠f;omega);clear d a am
   go_wp2_with fail
   go_region_held3 (fun w'=>w'.cell? ⟨b1,o1+i,none⟩=some (int i64 y)/\w'.cell? ⟨b1,o1+h+i,none⟩=some (int i64 B)) (first | exact⟨g1,g2⟩ | exact⟨cc,cd⟩) (first | (go_at_call 295;refine(Ac3 _ _ _ bx bY).mono ?_;rintro e w2 ⟨rfl,rfl⟩))
   all_goals
    go_wp2
    go_roundw
    case rel=>exact⟨i+1,by omega,by go_num,ag,N.drew⟩
    case measure=>simp[intOf];omega
  ·obtain rfl:h=i:=by omega
   rw[AiM LF.out]at d;have n1:R≠f:=by omega
   have n2:Q≠f:=by omega
   have n3:gf≠f:=by omega
   have n4:bm≠f:=by omega
   have aq:=bt.kept a (by simpa using n1);have ak:=ba.kept a (by simpa using n4);have aj:=a5.kept a (by simpa using n3);have a0:=az.kept a (by simpa using n2);have bd:Rd i64 wr (some ⟨f,0,none⟩) F:=ArrAt.rd (A:=[]) (Z:=[]) (x:=F) (o:=0) (by simpa using d) rfl;have H2:Fm P k gf bm Q R f:=⟨s.out.sorted,s.out.len,s.out.fd,s.out.ft,s.out.md,s.out.mt,s.out.dt,n2.symm,n1.symm⟩;have e1:A++(xa++xb)++Z=A++xa++(xb++Z):=by simp
   rw[e1]at aq;have E:=ih P k gf bm Q R f 0 o h h ct first K F A xa (xb++Z) fd wr H2 bd LF.out HE.out (by omega) (Ac _) aq HA.out X1.out br ak aj a0 ar.out (by omega) FW.out b2
   rw[<-HU.out,<-HX.out]at E;have bw:=a.size;have ab:∀wz,Kept [R,Q] wr wz->Kept [R,Q] w wz:=fun wz hz=>by
    refine⟨(hz.os.trans a.os).trans u.os,(hz.tape.trans a.tape).trans u.tape,(hz.output.trans a.output).trans u.output,Ak u.size (Ak bw hz.size),fun j hj aa=>?_⟩;have cw:j<f:=by omega
    rw[hz.block j (by omega) aa,a.block j (by omega) (by simp;omega)];exact u.block j hj aa
   have bh:=a.rd al (by intro g o e;simp at e;simp;omega);clear bt ba a5 az al bd H2 aq e1 FA
   go_wp2_with fail;refine E.mono ?_;rintro e w3 ⟨rfl,bu,a1,M⟩;have be:=d.kept M (by simp;exact⟨n1.symm,n2.symm⟩);have bb:=ak.kept M (by simp;exact⟨s.out.mt,s.out.md⟩);have a6:=aj.kept M (by simp;exact⟨s.out.ft,s.out.fd⟩);have bi:=M.rd bh (by intro g o e;simp at e;simp;rw[<-e.1];exact⟨s.out.ht,s.out.hd⟩);have I:=ab w3 M;have c2:=M.size;have cu:f<w3.heap.size:=by omega
   clear ak aj a0 bh ab M a d E u bw;go_wp2
   go_loopw [63] (fun q ws=>∃j:Nat,j<=h/\q=int i64 j/\ArrAt i64 3 ws f (Ly G F j)/\Kept [f] w3 ws) (fun q _=>h-(intOf q).toNat)
   case atStart=>exact⟨0,Af _,rfl,by simpa [Ly]using be,Kept.refl _ _⟩
   case round=>
    obtain⟨j,hj,rfl,d,a⟩:=hrel;have W:=a.rd bi (by intro g o e;simp at e;simp;omega);have S:=bu.kept a (by simpa using n1)
    by_cases J:j<h
    ·have g1:=W.get (j:=j) (by rw[HL.out,HN.out];omega);have g2:=W.get (j:=h+j) (by rw[HL.out,HN.out];omega);rw[<-BZ]at g2;have gT:=S.cell (j:=o+j) (by simp only[Ai,HA.out,LX.out];omega);rw[AdC HA.out (by rw[LX.out];exact J)]at gT;have hf:=d.free j;have b5:=d.cell (j:=j) (by rw[Sr LG.out LF.out hj];exact J);have HG:=hid (GA.out j J);have HO:=hid (AjM LG.out LF.out J);have bz:=hK j;have b0:=hK (h+j);have cl:j<n:=by omega
     generalize (Ly G F j).getD j 0=z at*;generalize l.getD j 0=y at*;generalize l.getD (h+j) 0=B at*;generalize X.getD j 0=zx at*;have j0:(0:Int)<=(j:Int):=by omega
     have jh:(j:Int)<(h:Int):=by omega
     have jn:(j:Int)<(n:Int):=by omega
     have c3:IntKind.i64.wrap (B+y)=B+y:=by rw[AO];omega
     have c4:IntKind.i64.wrap (B-y)=B-y:=by rw[AO];omega
     have r:=d.set j (B+y);have C:=a.setCell (p:=⟨f,j,none⟩) (by simp) (int i64 (B+y));have nb:b1≠f:=by omega
     have cp:=Iy (p:=⟨f,j,none⟩) (v:=int i64 (B+y)) gT n1;have cn:=Iy (p:=⟨f,j,none⟩) (v:=int i64 (B+y)) g1 nb;have co:=Iy (p:=⟨f,j,none⟩) (v:=int i64 (B+y)) g2 nb;have cr:=r.free j;have cj:=r.cell (j:=j) (by rw[An,Sr LG.out LF.out hj];exact J);have D:=r.set j (B-y);have O:=C.setCell (p:=⟨f,j,none⟩) (by simp) (int i64 (B-y));rw[B9]at D;generalize ((Ly G F j).set j (B+y)).getD j 0=z1 at*
     by_cases cz:zx=1
     ·have dz:(zx==1)=true:=by simpa using cz
      have e2:G.getD j 0=B-y:=by rw[HG.out,gI,Ab cz]
      rw[<-e2,HO.out,e2]at D;clear d a W S HG HO cz e2 r C
      go_wp2_with fail
      go_region
      all_goals
       go_wp2_with fail
       go_region
       all_goals
        go_wp2
        go_roundw
        case rel=>exact⟨j+1,by omega,by go_num,D,O.drew.drew⟩
        case measure=>simp[intOf];omega
     ·have dz:(zx==1)=false:=by simpa using cz
      have e2:G.getD j 0=B+y:=by rw[HG.out,gI,Aa cz]
      rw[<-e2,HO.out,e2]at r;clear d a W S HG HO cz e2 D O
      go_wp2_with fail
      go_region
      all_goals
       go_wp2
       go_roundw
       case rel=>exact⟨j+1,by omega,by go_num,r,C.drew⟩
       case measure=>simp[intOf];omega
    ·obtain rfl:h=j:=by omega
     rw[AjL LG.out LF.out]at d;have bc:=bb.kept a (by simpa using n4);have a7:=a6.kept a (by simpa using n3);have a2:=a1.kept a (by simpa using n2);have bf:Rd i64 wr (some ⟨f,0,none⟩) G:=ArrAt.rd (A:=[]) (Z:=[]) (x:=G) (o:=0) (by simpa using d) rfl;have H4:Fm P k gf bm Q R f:=⟨s.out.sorted,s.out.len,s.out.fd,s.out.ft,s.out.md,s.out.mt,s.out.dt,n2.symm,n1.symm⟩;have e4:A++X++(xb++Z)=(A++X)++xb++Z:=by simp
     rw[e4]at S;have E:=ih P k gf bm Q R f 0 (o+h) h h (ct-h) (first+h) (2*K) G (A++X) xb Z (KY P fd first U) wr H4 bf LG.out HE.out (by omega) (Ac _) S (by rw[Ai,HA.out,LX.out]) X2.out (by have:=HN.out;omega) bc a7 a2 (by rw[Aee,ar.out]) (by have:=HN.out;omega) GW.out a8;rw[<-HV.out,<-HY.out]at E;have ca:=a.size;have ab:∀wz,Kept [R,Q] wr wz->Kept [R,Q] w wz:=fun wz hz=>by
      refine⟨(hz.os.trans a.os).trans I.os,(hz.tape.trans a.tape).trans I.tape,(hz.output.trans a.output).trans I.output,Ak I.size (Ak ca hz.size),fun i b7 bl=>?_⟩;rw[hz.block i (by omega) bl,a.block i (by omega) (by simp;omega)];exact I.block i b7 bl
     have b6:(first:Int)+(h:Int)=((first+h:Nat):Int):=by omega
     obtain⟨fh,ai⟩:=E7 (first+h);have cb:IntKind.i64.wrap ((first:Int)+(h:Int))=(fh:Int):=by rw[AO];omega
     have au:=hid ai;rw[<-ai]at E;have aa:=fun w' b3=>ZQ A X Y Z R o n ct h w' b3 HA.out LX.out LY.out HN.out h0 h5 b4 BX BY
     clear bc a7 a2 bf H4 e4 a d W S bb a6 a1 bi bu be b6 ai
     go_wp2_with fail;rw[av.out];refine E.mono ?_;rintro e w5 ⟨rfl,bv,a3,bo⟩;have e5:A++X++Y++Z=A++(X++Y)++Z:=by simp
     rw[e5]at bv;rw[au.out]at a3;have bq:=ab w5 bo;have b8:=aa w5 bv;clear E ab aa bo e5 au cb
     go_wp2_with fail;refine b8.mono ?_;rintro e w6 ⟨rfl,b9,bp⟩;go_wp2
     go_end0;exact⟨rfl,b9,a3.kept bp (by simpa using s.out.dt),bq.trans (bp.Fn (by simp))⟩
theorem AiO:∀m,WW m:=by intro a;induction a<;>grind [WW,AiP,AfZ]
theorem Ym(k:Int)(w:World):(Instr.makeMap 89 (some (int i64 k))).run prog w=.ok (.map (some w.heap.size)) (w.alloc (.map #[] 0)):=by
 simp[Instr.makeMap,Av underlying89,asInt,asIntOf,Result.andThen]
theorem UF(n:Nat)(a:n<=512)(w:World):(Instr.makeSlice 103 (int i64 (n:Int)) (int i64 (n:Int))).run prog w=.ok (slice (some ⟨w.heap.size,0,none⟩) n n) (w.alloc (.cells ((List.replicate n (0:Int)).map (Value.int .u8)).toArray 5)):=by
 have h:=run_make_row' (P:=prog) 103 5 (int .u8 0) 1 underlying103 Tryz.Of rfl i64 i64 n (by omega) (by omega) w;have e:madeCells #[int .u8 0] n=((List.replicate n (0:Int)).map (Value.int .u8)).toArray:=by
  apply Array.ext';have:=CL (int .u8 0) n;rw[this];simp
 rw[e]at h;exact h
theorem Kept.Ud(h:w.grownBy w' (some b)):Kept [b] w w':=⟨h.os,h.tape,h.output,h.size,fun k a c=>h.block k a (fun e=>c (by simpa using e))⟩
theorem AcA(n k:Nat):GX (Fl n k) 0 n=Pq n k:=by simp[GX,Fl,Pq,QB];grind
theorem AbL(h:Fy l=true):Within l 100000:=fun j=>by
 have:=O8 h j;omega
structure NewF(w wx:World)(k gf bm gd:Nat):Prop where
 fin:FinderAt wx gf bm gd k
 map:wx.ownsMap prog 3 (plainElem (H:=Unit) prog 3) bm 0 (.map [])
 arr:ArrAt .u8 5 wx gd (List.replicate k 0)
 gf0:w.heap.size<=gf
 bm0:w.heap.size<=bm
 gd0:w.heap.size<=gd
 fd:gf≠gd
 fm:gf≠bm
 md:bm≠gd
 bel:Below w.heap.size w wx
theorem RQ(w:World)(x y z:Obj):(((w.alloc x).alloc y).alloc z).drew.heap[w.heap.size]?=some x:=by
 show(((w.alloc x).alloc y).alloc z).heap[w.heap.size]?=some x;rw[Bc _ _ _ (by simp;omega),Bc _ _ _ (by simp)];exact Am w x
theorem RR(w:World)(x y z:Obj):(((w.alloc x).alloc y).alloc z).drew.heap[w.heap.size+1]?=some y:=by
 show(((w.alloc x).alloc y).alloc z).heap[w.heap.size+1]?=some y;rw[Bc _ _ _ (by simp)];have:=Am (w.alloc x) y
 simpa using this
theorem RS(w:World)(x y z:Obj):(((w.alloc x).alloc y).alloc z).drew.heap[w.heap.size+1+1]?=some z:=by
 show(((w.alloc x).alloc y).alloc z).heap[w.heap.size+1+1]?=some z;have:=Am ((w.alloc x).alloc y) z
 simpa using this
theorem RU(w:World)(x y z:Obj):Below w.heap.size w (((w.alloc x).alloc y).alloc z).drew:=
 ((((Ad _ w).alloc (Ac _) x).alloc (by simp) y).alloc (by simp;omega) z).drew
theorem mkF{W:World}{k gf a c:Nat}(p:W.heap[gf]?=some (.cells #[.map (some a),slice (some ⟨c,0,none⟩) k k] 414 (0,0)))(n:W.heap[a]?=some (.map #[] 0))(hd:W.heap[c]?=some (.cells (Array.replicate k (int .u8 0)) 5 (0,0)))
 (bel:Below w.heap.size w W) (g:w.heap.size<=gf) (j:w.heap.size<=a) (m:w.heap.size<=c) (n1:gf≠c) (n2:gf≠a) (q:a≠c):NewF w W k gf a c:=by
 refine⟨⟨_,p⟩,?_,?_,g,j,m,n1,n2,q,bel⟩
 ·obtain⟨es,d,e,r⟩:=C9 w prog 3 (plainElem (H:=Unit) prog 3);have f:=(Am w (.map #[] 0)).symm.trans e;simp only[Bl,Obj.map.injEq]at f;obtain⟨rfl,rfl⟩:=f;exact⟨_,_,n,r⟩
 ·unfold ArrAt;rw[hd];simp
theorem Aaw(m:Nat)(l:List Int)(b1 o1 n k c:Nat)(w:World)(ha:Rd i64 w (some ⟨b1,o1,none⟩) l)(hl:l.length=n)(hm:m<=9)(hn:n=2 ^ m)(ao:n<=c)(hk:k<=n)(hs:Fy l=true)(hW:Wor w):
 Calls prog 265 #[slice (some ⟨b1,o1,none⟩) n c,.int i64 k] w fun e w'=>∃g,e=.returned (.tuple #[slice (some ⟨g,0,none⟩) k k,.int i64 0])/\Own w' w.heap.size (slice (some ⟨g,0,none⟩) k k) (NJ (Fl n k) (Ki m l (Pq n k)))/\Below w.heap.size w w':=by
 have h5:n<=512:=by rw[hn];exact BC (by omega) hm
 have h1:1<=n:=by rw[hn];exact Dj
 have L:=MH l (some ⟨b1,o1,none⟩) c w ha (by unfold maxLen;omega);rw[hl,show Gv l=0 by unfold Gv;rw[hs];rfl]at L;have ab:=Sw m n k w hm hn hk hW;have z:=hid (KD hk);have ae:=hid ((JF (Fl n k)).trans z.out);have HL:=hid hl;have HN:=hid hn;have ag:=hid hs;have ay:=Aj w _ (ha.get (j:=0) (by omega));have an:=Ym (k:Int);have am:=UF k (by omega);clear hl hn hs;go_enter func265,ntmps265;go_upto_region 7 with(first | (go_at_call 236;refine L.mono ?_;rintro e w1 ⟨rfl,rfl⟩) | (go_at_call 259;refine ab.mono ?_;rintro e w1 ⟨gp,rfl,f,au,s⟩))
 go_cut [9]from 27 to 31 (fun t9 wx=>∃gf A O,t9=.pointer (some ⟨gf,0,none⟩)/\NewF w1 wx k gf A O)
 case first=>
  go_region
  all_goals
   go_wp2_with fail
   go_meet
   first
    | exact⟨_,_,_,rfl,mkF (RQ _ _ _ _) (RR _ _ _ _) (RS _ _ _ _) (RU _ _ _ _) (by omega) (by omega) (by omega) (by omega) (by omega) (by omega)⟩
    | exact⟨_,_,_,rfl,mkF (RQ _ _ _ _) (RS _ _ _ _) (RR _ _ _ _) (RU _ _ _ _) (by omega) (by omega) (by omega) (by omega) (by omega) (by omega)⟩
    | exact⟨_,_,_,rfl,mkF (RR _ _ _ _) (RQ _ _ _ _) (RS _ _ _ _) (RU _ _ _ _) (by omega) (by omega) (by omega) (by omega) (by omega) (by omega)⟩
    | exact⟨_,_,_,rfl,mkF (RR _ _ _ _) (RS _ _ _ _) (RQ _ _ _ _) (RU _ _ _ _) (by omega) (by omega) (by omega) (by omega) (by omega) (by omega)⟩
    | exact⟨_,_,_,rfl,mkF (RS _ _ _ _) (RQ _ _ _ _) (RR _ _ _ _) (RU _ _ _ _) (by omega) (by omega) (by omega) (by omega) (by omega) (by omega)⟩
    | exact⟨_,_,_,rfl,mkF (RS _ _ _ _) (RR _ _ _ _) (RQ _ _ _ _) (RU _ _ _ _) (by omega) (by omega) (by omega) (by omega) (by omega) (by omega)⟩
 case rest=>
  obtain⟨gf,A,O,rfl,d⟩:=hcut;have ap:=s.size;have X:=f.lt;have aw:=d.bel.size;have r:=f.below d.bel X;have n1:=d.fd;have n2:=d.fm;have n3:=d.md;have q2:=d.bm0;have q3:=d.gd0;have aj:=s.trans (d.bel.mono ap);have K:MapAt wc A (Fl n k) 0:=d.map;have I:=d.fin;have E:=d.arr;have az:=CQ K;have a1:=I.lt;have a0:=E.lt;clear d L ab an am f;go_wp2
  go_loopw [34] (fun q wr=>∃i:Nat,i<=k/\q=.int i64 i/\wr.ownsMap prog 3 (plainElem (H:=Unit) prog 3) A i (dM (Fl n k) i)/\Kept [A] wc wr) (fun q _=>k-(intOf q).toNat)
  case atStart=>exact⟨0,Af _,rfl,K,Kept.refl _ _⟩
  case round=>
   obtain⟨i,hi,rfl,hM,a⟩:=hrel;have C:=I.kept a (by simpa using n2)
   by_cases aa:i<k
   ·obtain⟨f0,f1⟩:=C.cells;have g2:=(r.kept a (by simp;omega)).cell (j:=i) (by rw[ae.out];exact aa);rw[XJ]at g2;have ar:=Wo hk aa;have ac:=hid (show dM (Fl n k) (i+1)=(dM (Fl n k) i).put (.int i64 ((Fl n k).getD i 0:Nat)) (.lit (.int i64 i))from rfl);generalize (Fl n k).getD i 0=p at*;have Z:keyOf prog 3 (.int i64 (p:Int))=some (.int i64 (p:Int)):=keyOf_int_mk underlying3 (Cy (by omega));clear C
    go_wp2_with(first
     | (at_mapUpdate;refine EC _ rfl _ _ _ 89 rfl 3 3 Tryz.AlB underlying89 _ A i _ rfl hM (by unfold maxLen;omega) _ _ _ rfl rfl Z _ [] (plainElem_int underlying3 (Cy (by omega))) ?_;intro w3 ai al))
    go_roundw
    case rel=>exact⟨i+1,by omega,by go_num,ac.out.symm▸ai,a.trans (Kept.Ud al)⟩
    case measure=>simp[intOf];omega
   ·obtain rfl:k=i:=by omega
    have S:=E.kept a (by simpa using n3.symm);have V:MapAt wr A (Fl n k) k:=hM;have ak:=aj.trans (a.below (B:=w.heap.size) (by omega) (by simp;omega));have ax:=a.size;clear hM K I E r a
    go_wp2_with(first | (refine FH wr.heap.size wr n rfl _ _ rfl _ _ rfl rfl rfl rfl (by omega) (Ad _ _) (Ac _) ?_;intro w4 y t aq;obtain⟨D, -, -⟩:=y.arr;clear y) | fail);have M:Kept [] wr w4:=Kept.E5 t;have U:=V.kept M (by simp);have J:=C.kept M (by simp);have P:=S.kept M (by simp);have W:=ak.trans (t.mono (by omega));have ah:Fm (Fl n k) k gf A O wr.heap.size b1:=⟨Pt n k,z.out,n1,by omega,n3,by omega,by omega,by omega,by omega⟩;have u:=AiO m (Fl n k) k gf A O wr.heap.size b1 o1 0 n c n 0 100000 l [] (List.replicate n 0) [] (List.replicate k 0) w4 ah (ha.below W) HL.out HN.out h5 ao (by simpa using D) rfl (by simp) (Ac _) U J P (by simp) (by omega) (AbL ag.out) (by omega);rw[AcA]at u;have N:=hid (AmA (Fl n k) k z.out (Ki m l (Pq n k)) (OP m l (Pq n k)).at (fun x hx=>by rw[N7,<-HN.out];exact Wp hx));rw[N.out]at u;have af:=hid (show(NJ (Fl n k) (Ki m l (Pq n k))).length=k by simp[NJ,z.out]);obtain⟨R,eR⟩:=E7 (NJ (Fl n k) (Ki m l (Pq n k)));rw[<-eR]at u;have ad:=hid eR;clear eR;clear U P D V S C N;refine u.mono ?_;rintro e w5 ⟨rfl,av,Q,Y⟩;have T:=J.kept Y (by simp;omega);obtain⟨f0,f1⟩:=T.cells;clear u J T;go_wp2
    go_ret2;rw[ad.out]at Q;exact⟨O,rfl,PX Q (by omega) af.out (by unfold maxLen;omega),W.trans (Y.below (B:=w.heap.size) (by omega) (by simp;omega))⟩
structure ReadyL(w:World):Prop where
 taps:Taps w
 wor:Wor w
 col:Col w
theorem ReadyL.below{w w':World}(h:ReadyL w)(a:Below w.heap.size w w'):ReadyL w':=⟨h.taps.below a,h.wor.below a h.wor.lt,h.col.later a⟩
theorem PM{z:List Int}(h:AllBits z)(a:z.length<=4096):F6 z=0:=by grind [AllBits,F6]
theorem Sm(S:Setg)(B:Nat)(z:List Int)(a:Option Addr)(k c:Nat)(w:World)(r:SetOk S B)(K:ReadyL w)(M:Rd .u8 w a z)(s:AllBits z)(t:z.length=k)(E:k=8*B+24):
 Calls prog 191 #[slice a k c,S.val] w fun e w'=>∃v,e=.returned v/\Own w' w.heap.size v (JR S z)/\Below w.heap.size w w':=by
 have O:B<=40:=by have:=r.few;omega
 have f:Below w.heap.size w (w.alloc (.cells #[int i64 S.code,int i64 S.size,int i64 S.order,int i64 S.seed,int i64 S.count] 286)):=(Ad _ w).alloc (Ac _) _;have j:=M.below f;have g:=K.below f
 by_cases u:S.code=0
 ·have x:Mo z=0:=by unfold Mo;rw[Ab (PM s (by omega)),Aa (by omega)]
  have q:JR S z=Xw z:=by unfold JR Xw;rw[Ab u,Ab x]
  have d:=Acr z a c _ j (by unfold maxLen;omega) s.bytes g.taps;rw[x,t]at d;rw[q];obtain⟨code,size,order,seed,count⟩:=S;obtain rfl:code=0:=u;unfold Setg.val;dsimp only at*;clear q r x s t E j g;go_enter func191,ntmps191
  go_wp2_with(first | (go_at_call 230;refine d.mono ?_;rintro e w1 ⟨v1,rfl,p,n⟩) | (go_at_call 187;refine(QJ _ _).mono ?_;rintro e w2 ⟨rfl,rfl⟩));go_ret;exact⟨v1,rfl,p.mono f.size,f.trans (n.mono f.size)⟩
 ·have D:S.code=1:=by have:=r.code;omega
  obtain⟨H,y⟩:=r.size1 D;obtain⟨N,I,J⟩:=UN H;have q:JR S z=GE (MV S) (Iq S.size.toNat (Fl S.size.toNat z.length) z z.length):=by unfold JR;rw[Aa u]
  rw[q];have d:=Aax (MV S) z a S.size.toNat k c _ j s t J I (by omega) g.wor;rw[t];rw[show((S.size.toNat:Nat):Int)=S.size by omega]at d;obtain⟨L,A⟩:=E7 (GE (MV S) (Iq S.size.toNat (Fl S.size.toNat k) z k));rw[<-A]at d |-;obtain⟨m,C⟩:=E7 S.size.toNat;rw[<-C]at d;obtain⟨code,size,order,seed,count⟩:=S;obtain rfl:code=1:=D;unfold Setg.val;dsimp only at d f;clear q r N I J H y A C u s t E j g;go_enter func191,ntmps191
  go_wp2_with(first | (go_at_call 229;refine d.mono ?_;rintro e w1 ⟨g1,rfl,p,n⟩) | (go_at_call 187;refine(QJ _ _).mono ?_;rintro e w2 ⟨rfl,rfl⟩));go_ret;exact⟨_,rfl,p.mono f.size,f.trans (n.mono f.size)⟩
theorem ZV(S:Setg)(B:Nat)(s:List Int)(b1 A n k c:Nat)(w:World)(y:SetOk S B)(M:ReadyL w)(N:Rd i64 w (some ⟨b1,A,none⟩) s)(m:(s.length:Int)=Ij S B)(p:Fy s=true)(z:s.length=n)(C:n<=c)(I:k=8*B+24):
 Calls prog 238 #[slice (some ⟨b1,A,none⟩) n c,S.val,int i64 k] w fun e w'=>∃v,e=.returned v/\Own w' w.heap.size v (Hu S k s)/\Below w.heap.size w w':=by
 have Q:B<=40:=by have:=y.few;omega
 have d:Below w.heap.size w (w.alloc (.cells #[int i64 S.code,int i64 S.size,int i64 S.order,int i64 S.seed,int i64 S.count] 286)):=(Ad _ w).alloc (Ac _) _;have j:=N.below d;have g:=M.below d
 by_cases u:S.code=0
 ·have x:Hu S k s=way s k 0 0:=by unfold Hu;rw[Ab u]
  rw[x];have f:(s.length:Int)=3*(8*(B:Int)+24)+18:=by rw[m];unfold Ij;rw[Ab u]
  have a:=Zv s k (some ⟨b1,A,none⟩) c _ j (by omega) (by omega) (by unfold Gv;rw[p];rfl) (by omega) g.taps;rw[z]at a;obtain⟨L,t⟩:=E7 (way s k 0 0);rw[<-t]at a |-;obtain⟨T,E⟩:=E7 (top s k 0 0);rw[<-E]at a;obtain⟨code,size,order,seed,count⟩:=S;obtain rfl:code=0:=u;unfold Setg.val;dsimp only at*;clear x y t E m f p z I j g;go_enter func238,ntmps238
  go_wp2_with(first | (go_at_call 266;refine a.mono ?_;rintro e w1 ⟨v1,rfl,r,q⟩) | (go_at_call 187;refine(QJ _ _).mono ?_;rintro e w2 ⟨rfl,rfl⟩));go_ret;exact⟨v1,rfl,r.mono d.size,d.trans (q.mono d.size)⟩
 ·have H:S.code=1:=by have:=y.code;omega
  obtain⟨J,D⟩:=y.size1 H;obtain⟨O,P,K⟩:=UN J;have f:(s.length:Int)=S.size:=by rw[m];unfold Ij;rw[Aa u]
  have x:Hu S k s=NJ (Fl n k) (Ki (MV S) s (Pq n k)):=by unfold Hu;grind
  rw[x];have a:=Aaw (MV S) s b1 A n k c _ j z K (by omega) C (by omega) p g.wor;obtain⟨L,t⟩:=E7 (NJ (Fl n k) (Ki (MV S) s (Pq n k)));rw[<-t]at a |-;obtain⟨code,size,order,seed,count⟩:=S;obtain rfl:code=1:=H;unfold Setg.val;dsimp only at*;clear x y O P K J D t u m f p z I j g;go_enter func238,ntmps238
  go_wp2_with(first | (go_at_call 265;refine a.mono ?_;rintro e w1 ⟨g1,rfl,r,q⟩) | (go_at_call 187;refine(QJ _ _).mono ?_;rintro e w2 ⟨rfl,rfl⟩));go_ret;exact⟨_,rfl,r.mono d.size,d.trans (q.mono d.size)⟩
theorem An3(x:Int)(a:0<=x)(c:x<256):bits .and .u8 x 1=x % 2:=by
 rw[u8_and x 1 a c (by decide) (by decide),show(1:Int).toNat=1 from rfl,Dq];omega
theorem Acq(x:Int)(e:Nat)(a:0<=x)(d:x<256):0<=x / 2 ^ e/\x / 2 ^ e<256:=by
 have c:(0:Int)<2 ^ e:=Int.pow_pos (by decide);have h:=Int.ediv_nonneg a (Int.le_of_lt c);refine⟨h,?_⟩;have:x / 2 ^ e<=x:=Int.ediv_le_self _ a;omega
theorem Amx(s:ByteArray)(k:Nat)(h:k / 8<s.size):bits .and .u8 ((s[k / 8].toNat:Int) / 2 ^ (7-k % 8)) 1=NW s k:=by grind [NW,KR,AfB,VN,Acq,An3]
theorem Amy(s:ByteArray)(N k:Nat)(h:k<N)(x:Int)(a:x=NW s k):(Fh s k++List.replicate (N-k) 0).set k x=Fh s (k+1)++List.replicate (N-(k+1)) 0:=by
 rw[show N-k=(N-(k+1))+1 from by omega,KI _ _ _ _ (Gx s k),Vt,a]
theorem UU(s:ByteArray)(n:Int)(w:World)(D:s.size<=140737488355328):
 Calls prog 189 #[.string s,int i64 n] w fun e w'=>∃v,e=.returned (.tuple #[v,int i64 (Gw s n)])/\Own w' w.heap.size v (IZ s n)/\Below w.heap.size w w':=by
 by_cases q:n<0
 ·have c:Gw s n=1:=by unfold Gw;rw[Ab (.inl q)]
  have g:IZ s n=[]:=by unfold IZ;rw[c];rfl
  rw[c,g];go_enter func189,ntmps189;go_wp2
  go_ret2;exact⟨_,rfl,Own.nil _ _,Ad _ _⟩
 ·have x:decide (n<0)=false:=by simpa using q
  by_cases r:8*(s.size:Int)<n
  ·have c:Gw s n=1:=by unfold Gw;rw[Ab (.inr r)]
   have g:IZ s n=[]:=by unfold IZ;rw[c];rfl
   rw[c,g];go_enter func189,ntmps189;go_wp2
   go_ret2;exact⟨_,rfl,Own.nil _ _,Ad _ _⟩
  ·have y:decide (8*(s.size:Int)<n)=false:=by simpa using r
   by_cases t:4096<n
   ·have c:Gw s n=2:=by unfold Gw;rw[Aa (by omega),Ab t]
    have g:IZ s n=[]:=by unfold IZ;rw[c];rfl
    rw[c,g];go_enter func189,ntmps189;go_wp2
    go_ret2;exact⟨_,rfl,Own.nil _ _,Ad _ _⟩
   ·have c:Gw s n=0:=by unfold Gw;rw[Aa (by omega),Aa t]
    have g:IZ s n=Fh s n.toNat:=by unfold IZ;rw[Ab c]
    rw[c,g];clear g c;obtain⟨N,rfl⟩:=Cw (show 0<=n by omega);rw[AN];go_enter func189,ntmps189
    go_wp2_with(at_make;refine FH w.heap.size w N rfl _ _ rfl _ _ rfl rfl rfl rfl (by omega) (Ad _ _) (Ac _) ?_);intro w1 f d u;go_wp2
    go_loopw [23] (fun i wr=>∃k:Nat,k<=N/\i=int i64 k/\Own wr w.heap.size (slice (some ⟨w.heap.size,0,none⟩) N N) (Fh s k++List.replicate (N-k) 0)/\Below w.heap.size w wr) (fun i _=>N-(intOf i).toNat)
    case atStart=>exact⟨0,Af _,rfl,f,d⟩
    case round=>
     clear f d;obtain⟨k,C,rfl,a,j⟩:=hrel
     by_cases p:k<N
     ·have m:(Fh s k++List.replicate (N-k) 0).length=N:=a.len;have A:=a.cell (i:=k) (by omega);have B:=a.free k;have z:(k:Int) / 8<s.size:=by omega
      clear m;go_wp2
      go_roundw
      case rel=>exact⟨k+1,by omega,by go_num,Amy s N k p _ (Amx s k (by omega))▸a.set k _,j.setCell (Ac _) _⟩
      case measure=>simp[intOf];omega
     ·go_wp2
      go_ret2;obtain rfl:k=N:=by omega
      rw[Bm,C4,AA]at a;exact⟨_,rfl,a,j⟩
theorem An8(zs:List Int)(k:Int)(a:Option Addr)(c:Nat)(w:World)(q:Rd .u8 w a zs)(h:Lq zs k=0)(t:4096<zs.length+kW k):
 Calls prog 188 #[slice a zs.length c,int i64 k] w fun e w'=>e=.returned (.tuple #[slice none 0 0,int i64 2])/\Below w.heap.size w w':=by
 obtain⟨f,g⟩:=MI h;obtain⟨n,p,s,r⟩:=Oi g;have u:=(IA f).2;have j:Hid (F6 zs=0):=f;have m:Hid (Jr k=true):=g;clear h f g n;go_enter func188,ntmps188
 go_wp2_with fail;refine(KE zs k a c _ q (by unfold maxLen;omega) j.out m.out).mono ?_;rintro e w1 ⟨rfl,d⟩;go_wp2
 go_ret2;exact⟨rfl,d.alloc d.size _⟩
theorem Pm{x:Nat}(a:Below w.heap.size w w')(h:w.cell? ⟨x,o,none⟩=some v):w'.cell? ⟨x,o,none⟩=some v:=
 (a.cell (Aj w _ h)).trans h
theorem Ajd(zs S:List Int)(N:Nat)(a:N=zs.length+S.length)(n:Nat)(c:S.length<=n):Je (Je (List.replicate N 0) 0 zs) zs.length (S.take n)=zs++S:=by
 subst a;rw[Aw c];simp[Je]
theorem Amf(zs:List Int)(k:Int)(a:Option Addr)(c:Nat)(w:World)(Q:Rd .u8 w a zs)(U:Bytes zs)(h:Lq zs k=0)(hl:zs.length+kW k<=4096):
 Calls prog 188 #[slice a zs.length c,int i64 k] w fun e w'=>∃v,e=.returned (.tuple #[v,int i64 0])/\Own w' w.heap.size v (zs++Ko zs k)/\Below w.heap.size w w':=by
 obtain⟨C,B⟩:=MI h;obtain⟨O,D,hW,hR⟩:=Oi B;have hb:Bits zs:=fun j=>⟨(U.at j).1,(IA C).1 j⟩
 have hz:=(IA C).2;have W:Hid (F6 zs=0):=C;have X:Hid (Jr k=true):=B;clear h U C B;unfold Ko kP;unfold kP at O;go_enter func188,ntmps188
 go_wp2_with fail;refine(KE zs k a c _ Q (by unfold maxLen;omega) W.out X.out).mono ?_;rintro e w1 ⟨rfl,t⟩;have E:=Q.below t;obtain⟨N,P⟩:=E7 (zs.length+kW k);have z:Hid (N=zs.length+kW k):=P;have aa:N<=4096:=by omega
 have ab:zs.length<=N:=by omega
 clear P;have s:=E.below ((Ad _ _).alloc (Ac _) (.cells #[int i64 (kW k),int .u32 (kR k)] 368))
 go_wp2_with(at_make;refine FH (w1.heap.size+1) (w1.alloc (.cells #[int i64 (kW k),int .u32 (kR k)] 368)) N rfl _ _ rfl _ _ rfl rfl ?_ ?_ (by omega) (by exact Ad _ _) (by simp) ?_)
 ·have:=z.out;omega
 ·have:=z.out;omega
 intro w2 n d R;have A:=s.below (by simpa using d);obtain⟨q0,q1,q2,q3,q4⟩:=Ais (w:=w1) (x:=int i64 (kW k)) (y:=int .u32 (kR k)) (T:=368) (w1:=w2) (by simpa using d)
 go_wp2_with(refine M4 (w1.alloc (.cells #[int i64 (kW k),int .u32 (kR k)] 368)) n A rfl (.tmp 30) (.tmp 31) rfl (some ⟨w1.heap.size+1,0,none⟩) N N c 0 zs.length ?_ rfl rfl ?_ ?_ d ?_)
 ·omega
 ·omega
 intro V u f S;obtain⟨K,L, -⟩:=Ais (w:=w1) (x:=int i64 (kW k)) (y:=int .u32 (kR k)) (T:=368) (w1:=V) (by simpa using f);have H:=s.below (by simpa using f);have ac:zs.length<N:=by have:=z.out;omega
 clear q0 q1 q2 q3 q4 n d s A
 go_wp2_with fail;have r:kW k=min (RK (kW k) (2 ^ kW k ||| kR k) zs).length (N-zs.length):=by rw[KL];have:=z.out;omega
 have Y:Hid (kW k=min (RK (kW k) (2 ^ kW k ||| kR k) zs).length (N-zs.length)):=r;clear r
 go_region_held3 (fun w'=>w'.cell? ⟨w1.heap.size,0,none⟩=some (int i64 (kW k))/\w'.cell? ⟨w1.heap.size,1,none⟩=some (int .u32 (kR k))) (first | exact⟨K,L⟩ | exact⟨Pm g K,Pm g L⟩ | exact⟨m.cell (Pm g K) (by simp),m.cell (Pm g L) (by simp)⟩)
  (first | (go_at_call 224;refine(Yt (kW k) (kR k) zs a c _ ?_ hb hz O D hW hR).mono ?_;exact H;rintro e w4 ⟨v4,rfl,p,g⟩;obtain⟨a4,c4,rfl, -⟩:=p.FC;obtain⟨w5,I,q,m⟩:=QW (u.drew.below g) p.rd 3 (some ⟨w1.heap.size+1,zs.length,none⟩) (N-zs.length) (N-zs.length) c4 zs.length (kW k) Y.out (fun _=>rfl) (by have:=z.out;omega)))
 go_wp2
 go_ret2;have J:=t.size;have Z:Below w.heap.size w V:=(t.alloc J _).trans (f.mono (by omega));have M:=Fr Z.drew g;have b5:=M.grown m M.size (fun k B=>by simp at B;omega);rw[Ajd zs (RK (kW k) (2 ^ kW k ||| kR k) zs) N (by rw[KL];exact z.out) (kW k) (by rw[KL];exact Ac _)]at q;exact⟨_,rfl,q.mono (by omega),b5⟩
def Io (zs ns:List Int)(k:Nat):List Int:=(List.range ns.length).map fun j=>if j<k then (zs.getD j 0+ns.getD j 0) % 2 else ns.getD j 0
theorem Xo(zs a:List Int):Io zs a 0=a:=by
 refine AW (by simp[Io]) fun j d c=>?_
 simp[Io,List.getD,c]
theorem Zm(zs a:List Int):Io zs a a.length=Lk zs a a.length:=by simp[Io,Lk];grind
theorem Xn(zs a:List Int)(k:Nat)(h:k<a.length):(Io zs a k).getD k 0=a.getD k 0:=by simp[Io,List.getD,h]
theorem Zn(zs a:List Int)(k:Nat)(x:Int)(e:x=(zs.getD k 0+a.getD k 0) % 2):(Io zs a k).set k x=Io zs a (k+1):=by
 refine AW (by simp[Io]) fun j c d=>?_
 grind [Io]
theorem AkY(a b:Int)(c:0<=a/\a<=1)(d:0<=b/\b<=1):bits .xor .u8 a b=(b+a) % 2:=by
 rcases (show a=0\/a=1 by omega)with rfl | rfl<;>rcases (show b=0\/b=1 by omega)with rfl | rfl<;>decide
theorem Ac9(s n:Nat):Bits (FG s n):=fun k=>by
 by_cases h:k<n
 ·have:(FG s n).getD k 0=XY s k:=by simp[FG,List.getD,h]
  rw[this];exact AbZ _
 grind [FG]
theorem Zo(zs:List Int)(s:Nat)(a:Option Addr)(c:Nat)(w:World)(C:Rd .u8 w a zs)(Q:Bits zs)(E:F6 zs=0)(R:s<2147483648):
 Calls prog 194 #[slice a zs.length c,int i64 s] w fun e w'=>∃v,e=.returned (.tuple #[v,int i64 0])/\Own w' w.heap.size v (Lk zs (FG s zs.length) zs.length)/\Below w.heap.size w w':=by
 have S:=(IA E).2;have N:=hid E;have I:=Ac9 s zs.length;have j:=hid (Lv s zs.length);clear E;go_enter func194,ntmps194
 go_wp2_with fail;refine(IP zs a c _ C (by unfold maxLen;omega)).mono ?_;rintro e w1 ⟨rfl,rfl⟩;rw[N.out]
 go_wp2_with fail;refine(Ub s zs.length _ R S).mono ?_;rintro e w1 ⟨v1,rfl,f,D⟩;obtain⟨O,c1,rfl,r, -⟩:=f.FC;rw[j.out];rw[j.out,<-Xo zs (FG s zs.length)]at f;have P:=C.below D;generalize t:FG s zs.length=p at*;have z:=hid t;clear t;go_wp2
 go_loopw [28] (fun i wr=>∃k:Nat,k<=zs.length/\i=int i64 k/\Own wr w.heap.size (slice O zs.length c1) (Io zs p k)/\Below w.heap.size w wr) (fun i _=>zs.length-(intOf i).toNat)
 case atStart=>grind
 case round=>
  clear f;obtain⟨k,V,rfl,d,m⟩:=hrel
  by_cases n:k<zs.length
  ·obtain⟨g,rfl⟩:=r (by intro e;have:=j.out;rw[e]at this;simp at this;omega);obtain⟨T,W,rfl,q⟩:=(C.below m).at n;have g2:=q k n;have H:(Io zs p k).length=zs.length:=d.len;have K:=d.cell (i:=k) (by omega);rw[Xn zs p k (by rw[j.out];exact n)]at K;have U:=d.free k;have J:=Q k;have bn:=I k;clear H q;obtain⟨x,A⟩:=E7 (zs.getD k 0);obtain⟨y,B⟩:=E7 (p.getD k 0);rw[<-A]at g2 J;rw[<-B]at K bn;have L:=hid A;have M:=hid B;clear A B;go_wp2;have u:=Zn zs p k (bits .xor .u8 y x) (by rw[AkY y x bn J,<-L.out,<-M.out])
   go_roundw
   case rel=>exact⟨k+1,by omega,by go_num,u▸d.set k _,m.setCell d.block.1 _⟩
   case measure=>simp[intOf];omega
  ·go_wp2
   go_ret2;obtain rfl:k=zs.length:=by omega
   refine⟨_,rfl,?_,m⟩;have e1:p.length=zs.length:=j.out;have e2:=Zm zs p;rw[e1]at e2;rw[e2]at d;rw[z.out];exact d
end Go.Proofs.YtbjgfoiikhbonahGreatDoor
