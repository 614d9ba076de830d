import Derived.Test.YtbjgfoiikhbonahGreatDoorA07
import Derived.Test.YtbjgfoiikhbonahGreatDoorA06
set_option linter.unusedVariables false
set_option linter.unusedSimpArgs false
set_option maxRecDepth 100000
set_option maxHeartbeats 4000000
namespace Go.Proofs.YtbjgfoiikhbonahGreatDoor
open Go.ChangeShapes Go.WideShapes Go.ChangeAt Go.RowKit Go.Maps Go.Proofs.Tryz
open Value renaming int->C,slice->I
open Option renaming some->D,none->E
open Go renaming World->J
open IntKind renaming i64->M
variable {F G l:List Int}{b h i o:Nat}{v:Value}{w w':J}
def WW (m:Nat):Prop:=∀(P:List Nat) (k gf bm gd gt b1 o1 o n c ct first K:Nat) (l A x Z fd:List Int) (w:J),Fm P k gf bm gd gt b1->Rd M w (D ⟨b1,o1,E⟩) l->l.length=n->n=2 ^ m->n<=512->n<=c->
 ArrAt .u8 5 w gt (A++x++Z)->A.length=o->x.length=n->n<=ct->MapAt w bm P k->FinderAt w gf bm gd k->ArrAt .u8 5 w gd fd->fd.length=k->first+n<=512->Within l K->K*n<=1152921504606846976->
 Calls prog 281 #[.pointer (D ⟨gf,0,E⟩), I (D ⟨b1,o1,E⟩) n c, C M first, I (D ⟨gt,o,E⟩) n ct] w fun e w'=>
  e=.returned (.tuple #[])/\ArrAt .u8 5 w' gt (A++GE m (Ki m l (GX P first n))++Z)/\ArrAt .u8 5 w' gd (KY P fd first (Ki m l (GX P first n)))/\Kept [gt,gd] w w'
def Pi (F:List Int)(h i:Nat):List Int:=F.take i++List.replicate (h-i) 0
theorem AiN(c:F.length=h)(hi:i<h):(Pi F h i).set i (F.getD i 0)=Pi F h (i+1):=by
 unfold Pi;obtain⟨m,a⟩:∃m,h-i=m+1:=⟨h-i-1,by omega⟩;rw[a,KI _ i m _ (by rw[Ay];omega),WI (by omega) rfl,show h-(i+1)=m by omega]
theorem Zy(a:F.length=h)(hi:i<=h):(Pi F h i).length=h:=by simp[Pi,a];omega
theorem AiM(a:F.length=h):Pi F h h=F:=by simp[Pi,<-a]
def Ly (G F:List Int)(i:Nat):List Int:=G.take i++F.drop i
theorem AjM(hg:G.length=h)(a:F.length=h)(hi:i<h):(Ly G F i).set i (G.getD i 0)=Ly G F (i+1):=by
 have ht:(G.take i).length=i:=by rw[Ay];omega
 unfold Ly;rw[Cq _ _ (by omega),ht,Bm,CY (by omega),En,<-WI (L:=G) (i:=i) (x:=G.getD i 0) (by omega) rfl,Bg];rfl
theorem Sr(hg:G.length=h)(a:F.length=h)(hi:i<=h):(Ly G F i).length=h:=by simp[Ly,hg,a];omega
theorem AjL(hg:G.length=h)(a:F.length=h):Ly G F h=G:=by grind [Ly]
theorem Iy{p:Addr}{x:Value}{a:Addr}(h:w.cell? a=D x)(c:a.block≠p.block):(w.setCell p v).cell? a=D x:=by
 rw[<-h];simp only[World.cell?,BA _ _ _ _ c]
theorem Rd.get{k:IntKind}(h:Rd k w (D ⟨b,o,E⟩) l){j:Nat}(a:j<l.length):w.cell? ⟨b,o+j,E⟩=D (.int k (l.getD j 0)):=by
 obtain⟨c,m,e,g⟩:=h.at a
 grind
theorem AfZ(m:Nat)(ih:WW m):WW (m+1):=by
 intro P k gf bm gd gt b1 o1 o n c ct first K l A x Z fd w H ha hl hn h5 hc hr hA hx cf hM hF hD bw c5 hK ao
 obtain⟨h, eh⟩ := E7 (2 ^ m);have h0:1<=h:=by rw[eh];exact Dj
 have a2:n=h+h:=by rw[hn,eh,Dk];omega
 obtain⟨b,o',e,a0⟩:=ha.at (i:=0) (by omega);simp only[Bl,BI,BJ]at e;obtain⟨rfl,rfl⟩:=e;have c3:K<=1152921504606846976:=Ak (Nat.le_mul_of_pos_right K (by omega)) ao;have cd:K*h<=1152921504606846976:=Ak (DZ K (by omega)) ao;have bj:2*K*h<=1152921504606846976:=by
  have e:2*K*h=K*n:=by grind
  rw[e];exact ao
 have l1:(l.take h).length=h:=by rw[Ay];omega
 have l2:(l.drop h).length=h:=by rw[AJ];omega
 obtain⟨F, eF⟩ := E7 (fL (l.take h) (l.drop h));have LF:=hid (show F.length=h by rw[eF];exact VW l1 l2);have FA:Hid (∀j,j<h->F.getD j 0=fI (l.getD j 0) (l.getD (h+j) 0)):=by
  intro j hj;rw[eF,AmL l1 l2 hj,V5 hj,Ro]
 have FW:Hid (Within F K):=by unfold Hid;rw[eF];exact AkV l1 l2 (hK.take h) (hK.drop h)
 obtain⟨U, eU⟩ := E7 (Ki m F (GX P first h));have LU:=hid (show U.length=h by rw[eU,N7,eh]);have BU:AllBits U:=by rw[eU];exact OP m _ _
 obtain⟨X, eX⟩ := E7 (GE m U);have lX:X.length=h:=by rw[eX,JM m U (LU.out.trans eh),eh]
 have LX:=hid lX;have BX:AllBits X:=by rw[eX];exact M0 m _ BU
 obtain⟨G, eG⟩ := E7 (gL X (l.take h) (l.drop h));have LG:=hid (show G.length=h by rw[eG];exact Rm lX l1 l2);have GA:Hid (∀j,j<h->G.getD j 0=gI (X.getD j 0) (l.getD j 0) (l.getD (h+j) 0)):=by
  intro j hj;rw[eG,AiT lX l1 l2 hj,V5 hj,Ro]
 have GW:Hid (Within G (2*K)):=by unfold Hid;rw[eG];exact AkW lX l1 l2 (hK.take h) (hK.drop h)
 obtain⟨V, eV⟩ := E7 (Ki m G (GX P (first+h) h));have LV:=hid (show V.length=h by rw[eV,N7,eh]);have BV:AllBits V:=by rw[eV];exact OP m _ _
 obtain⟨Y, eY⟩ := E7 (GE m V);have LY:=hid (show Y.length=h by rw[eY,JM m V (LV.out.trans eh),eh]);have BY:AllBits Y:=by rw[eY];exact M0 m _ BV
 have aq:Ki (m+1) l (GX P first n)=U++V:=by rw[a2,AiJ m l P first h eh,<-eF,<-eU,<-eX,<-eG,<-eV]
 rw[aq,AbE m U V (LU.out.trans eh),<-eX,<-eY];have au:KY P fd first (U++V)=KY P (KY P fd first U) (first+h) V:=by rw[<-LU.out,Aec]
 rw[au];have x1:(x.take h).length=h:=by rw[Ay];omega
 have x2:(x.drop h).length=h:=by rw[AJ];omega
 rw[show x=x.take h++x.drop h from(Cs h x).symm]at hr;generalize x.take h=xa at*;generalize x.drop h=xb at*;have HU:=hid eU;have HX:=hid eX;have HV:=hid eV;have HY:=hid eY;have HE:=hid eh;have HL:=hid hl;have HN:=hid a2;have a6:=hid (show n-h=h by omega);have HA:=hid hA;have X1:=hid x1;have X2:=hid x2;have a4:=hid bw;have N:=hid H;have cs:=hF.lt;have cq:=CQ hM;have cr:=hD.lt;have cu:=hr.lt;have cp:=Aj w _ (a0 0 (by omega));have hq:(n:Int).tdiv 2=(h:Int):=by grind
 have db:((n:Int)==1)=false:=by simp;omega
 have da:h<=n:=by omega
 have c9:h<=c:=by omega
 have dc:¬c=h:=by omega
 have b5:h<=ct:=by omega
 have cy:¬ct=h:=by omega
 clear hl hn a2 eh l1 l2 eF eU eX eG eV eY lX aq au hA hx x1 x2 bw H ha ao;go_enter func281,ntmps281
 go_wp2_with fail
 go_quiet (fail);rw[a6.out];have b6:ArrAt .u8 5 (w.drewN nq) gt (A++(xa++xb)++Z):=hr;have bk:MapAt (w.drewN nq) bm P k:=hM;have bf:FinderAt (w.drewN nq) gf bm gd k:=hF;have a9:ArrAt .u8 5 (w.drewN nq) gd fd:=hD;have bs:Rd M (w.drewN nq) (D ⟨b1,o1,E⟩) l:=fun _=>⟨b1,o1,rfl,a0⟩
 have a1:Kept [gt,gd] w (w.drewN nq):=(Kept.refl _ _).drewN nq;have a7:=hid (show(w.drewN nq).heap.size=w.heap.size from rfl);generalize w.drewN nq=wq at*;clear hr hM hF hD a0;rw[<-a7.out]at cs cq cr cu cp;clear a7
 go_wp2_with(first
  | (refine FZ wq.heap.size wq h rfl _ _ rfl _ _ rfl rfl rfl rfl (by omega) (Ad _ _) (Ac _) ?_;intro w1 an af cw a8;obtain⟨bv, -, -⟩:=an.arr;clear an a8))
 have b0:Kept [gt,gd] wq w1:=Kept.E5 af;have S:Kept [] wq w1:=Kept.E5 af;have b7:=b6.kept S (by simp);have bl:=bk.kept S (by simp);have bg:=bf.kept S (by simp);have ba:=a9.kept S (by simp);have ay:=S.rd bs (by simp);have W:=a1.trans b0;have c7:w.heap.size<=wq.heap.size:=a1.size;generalize wq.heap.size=y at*;clear b6 bk bf a9 bs b0 S af a1
 go_loopw [38] (fun q wr=>∃i:Nat,i<=h/\q= C M i/\ArrAt M 3 wr y (Pi F h i)/\Kept [y] w1 wr) (fun q _=>h-(intOf q).toNat)
 case atStart=>exact⟨0,Af _,rfl,by simpa [Pi]using bv,Kept.refl _ _⟩
 case round=>
  obtain⟨i,hi,rfl,s,a⟩:=hrel;have az:=a.rd ay (by intro g o e;simp at e;simp;omega)
  by_cases ap:i<h
  ·have g1:=az.get (j:=i) (by rw[HL.out,HN.out];omega);have g2:=az.get (j:=h+i) (by rw[HL.out,HN.out];omega);rw[<-BZ]at g2;have ar:=s.set i (F.getD i 0);rw[AiN LF.out ap,FA.out i ap]at ar;have ah:=a.setCell (p:=⟨y,i,E⟩) (by simp) (C M (F.getD i 0));rw[FA.out i ap]at ah;have hf:=s.free i;have cg:=s.cell (j:=i) (by rw[Zy LF.out hi];exact ap);have cb:=hK i;have cc:=hK (h+i);generalize (Pi F h i).getD i 0=z at*;generalize l.getD i 0=xx at*;generalize l.getD (h+i) 0=yy at*;have i0:(0:Int)<=(i:Int):=by omega
   have dg:(i:Int)<(h:Int):=by omega
   have bx: -4611686018427387904<=xx/\xx<=4611686018427387904:=by omega
   have bY: -4611686018427387904<=yy/\yy<=4611686018427387904:=by omega
   have cn:=Iy (p:=⟨y,i,E⟩) (v:= C M (fI xx yy)) g1 (by show b1≠y;omega);have co:=Iy (p:=⟨y,i,E⟩) (v:= C M (fI xx yy)) g2 (by show b1≠y;omega);clear s a az
   go_wp2_with fail
   go_region_held3 (fun w'=>w'.cell? ⟨b1,o1+i,E⟩=D (C M xx)/\w'.cell? ⟨b1,o1+h+i,E⟩=D (C M yy)) (first | exact⟨g1,g2⟩ | exact⟨cn,co⟩) (first | (go_at_call 295;refine(Ac3 _ _ _ bx bY).mono ?_;rintro e w2 ⟨rfl,rfl⟩))
   all_goals
    go_wp2
    go_roundw
    case rel=>exact⟨i+1,by omega,by go_num,ar,ah.drew⟩
    case measure=>simp[intOf];omega
  ·obtain rfl:h=i:=by omega
   rw[AiM LF.out]at s;have n1:gt≠y:=by omega
   have n2:gd≠y:=by omega
   have n3:gf≠y:=by omega
   have n4:bm≠y:=by omega
   have a3:=b7.kept a (by simpa using n1);have ax:=bl.kept a (by simpa using n4);have aw:=bg.kept a (by simpa using n3);have bb:=ba.kept a (by simpa using n2);have bp:Rd M wr (D ⟨y,0,E⟩) F:=ArrAt.rd (A:=[]) (Z:=[]) (x:=F) (o:=0) (by simpa using s) rfl;have H2:Fm P k gf bm gd gt y:=⟨N.out.sorted,N.out.len,N.out.fd,N.out.ft,N.out.md,N.out.mt,N.out.dt,n2.symm,n1.symm⟩;have e1:A++(xa++xb)++Z=A++xa++(xb++Z):=by simp
   rw[e1]at a3;have ac:=ih P k gf bm gd gt y 0 o h h ct first K F A xa (xb++Z) fd wr H2 bp LF.out HE.out (by omega) (Ac _) a3 HA.out X1.out b5 ax aw bb a4.out (by omega) FW.out cd
   rw[<-HU.out,<-HX.out]at ac;have ca:=a.size;have am:∀wz,Kept [gt,gd] wr wz->Kept [gt,gd] w wz:=fun wz hz=>by
    refine⟨(hz.os.trans a.os).trans W.os,(hz.tape.trans a.tape).trans W.tape,(hz.output.trans a.output).trans W.output,Ak W.size (Ak ca hz.size),fun j hj al=>?_⟩;have c8:j<y:=by omega
    rw[hz.block j (by omega) al,a.block j (by omega) (by simp;omega)];exact W.block j hj al
   have bt:=a.rd ay (by intro g o e;simp at e;simp;omega);clear b7 bl bg ba ay bp H2 a3 e1 FA
   go_wp2_with fail;refine ac.mono ?_;rintro e w3 ⟨rfl,b8,bc,ag⟩;have bq:=s.kept ag (by simp;exact⟨n1.symm,n2.symm⟩);have bn:=ax.kept ag (by simp;exact⟨N.out.mt,N.out.md⟩);have bh:=aw.kept ag (by simp;exact⟨N.out.ft,N.out.fd⟩);have bu:=ag.rd bt (by intro g o e;simp at e;simp;rw[<-e.1];exact⟨N.out.ht,N.out.hd⟩);have ad:=am w3 ag;have dd:=ag.size;have c6:y<w3.heap.size:=by omega
   clear ax aw bb bt am ag a s ac W ca;go_wp2
   go_loopw [63] (fun q ws=>∃j:Nat,j<=h/\q= C M j/\ArrAt M 3 ws y (Ly G F j)/\Kept [y] w3 ws) (fun q _=>h-(intOf q).toNat)
   case atStart=>exact⟨0,Af _,rfl,by simpa [Ly]using bq,Kept.refl _ _⟩
   case round=>
    obtain⟨j,hj,rfl,s,a⟩:=hrel;have ak:=a.rd bu (by intro g o e;simp at e;simp;omega);have aj:=b8.kept a (by simpa using n1)
    by_cases ae:j<h
    ·have g1:=ak.get (j:=j) (by rw[HL.out,HN.out];omega);have g2:=ak.get (j:=h+j) (by rw[HL.out,HN.out];omega);rw[<-BZ]at g2;have gT:=aj.cell (j:=o+j) (by simp only[Ai,HA.out,LX.out];omega);rw[AdC HA.out (by rw[LX.out];exact ae)]at gT;have hf:=s.free j;have cg:=s.cell (j:=j) (by rw[Sr LG.out LF.out hj];exact ae);have HG:=hid (GA.out j ae);have HO:=hid (AjM LG.out LF.out ae);have cb:=hK j;have cc:=hK (h+j);have cx:j<n:=by omega
     generalize (Ly G F j).getD j 0=z at*;generalize l.getD j 0=xx at*;generalize l.getD (h+j) 0=yy at*;generalize X.getD j 0=zx at*;have j0:(0:Int)<=(j:Int):=by omega
     have jh:(j:Int)<(h:Int):=by omega
     have jn:(j:Int)<(n:Int):=by omega
     have de:IntKind.i64.wrap (yy+xx)=yy+xx:=by rw[AO];omega
     have df:IntKind.i64.wrap (yy-xx)=yy-xx:=by rw[AO];omega
     have B:=s.set j (yy+xx);have aa:=a.setCell (p:=⟨y,j,E⟩) (by simp) (C M (yy+xx));have nb:b1≠y:=by omega
     have c2:=Iy (p:=⟨y,j,E⟩) (v:= C M (yy+xx)) gT n1;have c0:=Iy (p:=⟨y,j,E⟩) (v:= C M (yy+xx)) g1 nb;have c1:=Iy (p:=⟨y,j,E⟩) (v:= C M (yy+xx)) g2 nb;have c4:=B.free j;have cv:=B.cell (j:=j) (by rw[An,Sr LG.out LF.out hj];exact ae);have ab:=B.set j (yy-xx);have ai:=aa.setCell (p:=⟨y,j,E⟩) (by simp) (C M (yy-xx));rw[B9]at ab;generalize ((Ly G F j).set j (yy+xx)).getD j 0=z1 at*
     by_cases cz:zx=1
     ·have dz:(zx==1)=true:=by simpa using cz
      have e2:G.getD j 0=yy-xx:=by rw[HG.out,gI,Ab cz]
      rw[<-e2,HO.out,e2]at ab;clear s a ak aj HG HO cz e2 B aa
      go_wp2_with fail
      go_region
      all_goals
       go_wp2_with fail
       go_region
       all_goals
        go_wp2
        go_roundw
        case rel=>exact⟨j+1,by omega,by go_num,ab,ai.drew.drew⟩
        case measure=>simp[intOf];omega
     ·have dz:(zx==1)=false:=by simpa using cz
      have e2:G.getD j 0=yy+xx:=by rw[HG.out,gI,Aa cz]
      rw[<-e2,HO.out,e2]at B;clear s a ak aj HG HO cz e2 ab ai
      go_wp2_with fail
      go_region
      all_goals
       go_wp2
       go_roundw
       case rel=>exact⟨j+1,by omega,by go_num,B,aa.drew⟩
       case measure=>simp[intOf];omega
    ·obtain rfl:h=j:=by omega
     rw[AjL LG.out LF.out]at s;have bo:=bn.kept a (by simpa using n4);have bi:=bh.kept a (by simpa using n3);have bd:=bc.kept a (by simpa using n2);have br:Rd M wr (D ⟨y,0,E⟩) G:=ArrAt.rd (A:=[]) (Z:=[]) (x:=G) (o:=0) (by simpa using s) rfl;have H4:Fm P k gf bm gd gt y:=⟨N.out.sorted,N.out.len,N.out.fd,N.out.ft,N.out.md,N.out.mt,N.out.dt,n2.symm,n1.symm⟩;have e4:A++X++(xb++Z)=(A++X)++xb++Z:=by simp
     rw[e4]at aj;have ac:=ih P k gf bm gd gt y 0 (o+h) h h (ct-h) (first+h) (2*K) G (A++X) xb Z (KY P fd first U) wr H4 br LG.out HE.out (by omega) (Ac _) aj (by rw[Ai,HA.out,LX.out]) X2.out (by have:=HN.out;omega) bo bi bd (by rw[Aee,a4.out]) (by have:=HN.out;omega) GW.out bj;rw[<-HV.out,<-HY.out]at ac;have cl:=a.size;have am:∀wz,Kept [gt,gd] wr wz->Kept [gt,gd] w wz:=fun wz hz=>by
      refine⟨(hz.os.trans a.os).trans ad.os,(hz.tape.trans a.tape).trans ad.tape,(hz.output.trans a.output).trans ad.output,Ak ad.size (Ak cl hz.size),fun i ci bz=>?_⟩;rw[hz.block i (by omega) bz,a.block i (by omega) (by simp;omega)];exact ad.block i ci bz
     have ch:(first:Int)+(h:Int)=((first+h:Nat):Int):=by omega
     obtain⟨fh, av⟩ := E7 (first+h);have cm:IntKind.i64.wrap ((first:Int)+(h:Int))=(fh:Int):=by rw[AO];omega
     have a5:=hid av;rw[<-av]at ac;have al:=fun w' ce=>ZQ A X Y Z gt o n ct h w' ce HA.out LX.out LY.out HN.out h0 h5 cf BX BY
     clear bo bi bd br H4 e4 a s ak aj bn bh bc bu b8 bq ch av
     go_wp2_with fail;rw[a6.out];refine ac.mono ?_;rintro e w5 ⟨rfl,b9,be,b2⟩;have e5:A++X++Y++Z=A++(X++Y)++Z:=by simp
     rw[e5]at b9;rw[a5.out]at be;have b4:=am w5 b2;have cj:=al w5 b9;clear ac am al b2 e5 a5 cm
     go_wp2_with fail;refine cj.mono ?_;rintro e w6 ⟨rfl,ck,b3⟩;go_wp2
     go_end0;exact⟨rfl,ck,be.kept b3 (by simpa using N.out.dt),b4.trans (b3.Fn (by simp))⟩
theorem AiO:∀m,WW m:=by intro a;induction a<;>grind [WW,AiP,AfZ]
theorem Ym(k:Int)(w:J):(Instr.makeMap 89 (D (C M k))).run prog w=.ok (.map (D w.heap.size)) (w.alloc (.map #[] 0)):=by
 simp[Instr.makeMap,Av underlying89,asInt,asIntOf,Result.andThen]
theorem UF(n:Nat)(a:n<=512)(w:J):(Instr.makeSlice 103 (C M (n:Int)) (C M (n:Int))).run prog w=.ok (I (D ⟨w.heap.size,0,E⟩) n n) (w.alloc (.cells ((List.replicate n (0:Int)).map (Value.int .u8)).toArray 5)):=by
 have h:=run_make_row' (P:=prog) 103 5 (C .u8 0) 1 underlying103 Tryz.Of rfl M M n (by omega) (by omega) w;have e:madeCells #[C .u8 0] n=((List.replicate n (0:Int)).map (Value.int .u8)).toArray:=by
  apply Array.ext';have:=CL (C .u8 0) n;rw[this];simp
 rw[e]at h;exact h
theorem Kept.Ud(h:w.grownBy w' (D b)):Kept [b] w w':=⟨h.os,h.tape,h.output,h.size,fun k a c=>h.block k a (fun e=>c (by simpa using e))⟩
theorem AcA(n k:Nat):GX (Fl n k) 0 n=Pq n k:=by simp[GX,Fl,Pq,QB];grind
theorem AbL(h:Fy l=true):Within l 100000:=fun j=>by
 have:=O8 h j;omega
structure NewF(w wx:J)(k gf bm gd:Nat):Prop where
 fin:FinderAt wx gf bm gd k
 map:wx.ownsMap prog 3 (plainElem (H:=Unit) prog 3) bm 0 (.map [])
 arr:ArrAt .u8 5 wx gd (List.replicate k 0)
 gf0:w.heap.size<=gf
 bm0:w.heap.size<=bm
 gd0:w.heap.size<=gd
 fd:gf≠gd
 fm:gf≠bm
 md:bm≠gd
 bel:Below w.heap.size w wx
theorem RQ(w:J)(x y z:Obj):(((w.alloc x).alloc y).alloc z).drew.heap[w.heap.size]?=D x:=by
 show(((w.alloc x).alloc y).alloc z).heap[w.heap.size]?=D x;rw[Bc _ _ _ (by simp;omega),Bc _ _ _ (by simp)];exact Am w x
theorem RR(w:J)(x y z:Obj):(((w.alloc x).alloc y).alloc z).drew.heap[w.heap.size+1]?=D y:=by
 show(((w.alloc x).alloc y).alloc z).heap[w.heap.size+1]?=D y;rw[Bc _ _ _ (by simp)];have:=Am (w.alloc x) y
 simpa using this
theorem RS(w:J)(x y z:Obj):(((w.alloc x).alloc y).alloc z).drew.heap[w.heap.size+1+1]?=D z:=by
 show(((w.alloc x).alloc y).alloc z).heap[w.heap.size+1+1]?=D z;have:=Am ((w.alloc x).alloc y) z
 simpa using this
theorem RU(w:J)(x y z:Obj):Below w.heap.size w (((w.alloc x).alloc y).alloc z).drew:=
 ((((Ad _ w).alloc (Ac _) x).alloc (by simp) y).alloc (by simp;omega) z).drew
theorem mkF{W:J}{k gf a c:Nat}(s:W.heap[gf]?=D (.cells #[.map (D a), I (D ⟨c,0,E⟩) k k] 414 (0,0)))(q:W.heap[a]?=D (.map #[] 0))(hd:W.heap[c]?=D (.cells (Array.replicate k (C .u8 0)) 5 (0,0)))
 (bel:Below w.heap.size w W) (m:w.heap.size<=gf) (n:w.heap.size<=a) (p:w.heap.size<=c) (n1:gf≠c) (n2:gf≠a) (x:a≠c):NewF w W k gf a c:=by
 refine⟨⟨_,s⟩,?_,?_,m,n,p,n1,n2,x,bel⟩
 ·obtain⟨es,g,e,r⟩:=C9 w prog 3 (plainElem (H:=Unit) prog 3);have j:=(Am w (.map #[] 0)).symm.trans e;simp only[Bl,Obj.map.injEq]at j;obtain⟨rfl,rfl⟩:=j;exact⟨_,_,q,r⟩
 ·unfold ArrAt;rw[hd];simp
theorem Aaw(m:Nat)(l:List Int)(b1 o1 n k c:Nat)(w:J)(ha:Rd M w (D ⟨b1,o1,E⟩) l)(hl:l.length=n)(hm:m<=9)(hn:n=2 ^ m)(a4:n<=c)(hk:k<=n)(hs:Fy l=true)(hW:Wor w):
 Calls prog 265 #[I (D ⟨b1,o1,E⟩) n c,.int M k] w fun e w'=>∃g,e=.returned (.tuple #[I (D ⟨g,0,E⟩) k k,.int M 0])/\Own w' w.heap.size (I (D ⟨g,0,E⟩) k k) (NJ (Fl n k) (Ki m l (Pq n k)))/\Below w.heap.size w w':=by
 have h5:n<=512:=by rw[hn];exact BC (by omega) hm
 have h1:1<=n:=by rw[hn];exact Dj
 have ab:=MH l (D ⟨b1,o1,E⟩) c w ha (by unfold maxLen;omega);rw[hl,show Gv l=0 by unfold Gv;rw[hs];rfl]at ab;have ap:=Sw m n k w hm hn hk hW;have S:=hid (KD hk);have au:=hid ((JF (Fl n k)).trans S.out);have HL:=hid hl;have HN:=hid hn;have aw:=hid hs;have bc:=Aj w _ (ha.get (j:=0) (by omega));have a3:=Ym (k:Int);have a2:=UF k (by omega);clear hl hn hs;go_enter func265,ntmps265;go_upto_region 7 with(first | (go_at_call 236;refine ab.mono ?_;rintro e w1 ⟨rfl,rfl⟩) | (go_at_call 259;refine ap.mono ?_;rintro e w1 ⟨gp,rfl,y,a8,A⟩))
 go_cut [9]from 27 to 31 (fun t9 wx=>∃gf U gd,t9=.pointer (D ⟨gf,0,E⟩)/\NewF w1 wx k gf U gd)
 case first=>
  go_region
  all_goals
   go_wp2_with fail
   go_meet
   first
    | exact⟨_,_,_,rfl,mkF (RQ _ _ _ _) (RR _ _ _ _) (RS _ _ _ _) (RU _ _ _ _) (by omega) (by omega) (by omega) (by omega) (by omega) (by omega)⟩
    | exact⟨_,_,_,rfl,mkF (RQ _ _ _ _) (RS _ _ _ _) (RR _ _ _ _) (RU _ _ _ _) (by omega) (by omega) (by omega) (by omega) (by omega) (by omega)⟩
    | exact⟨_,_,_,rfl,mkF (RR _ _ _ _) (RQ _ _ _ _) (RS _ _ _ _) (RU _ _ _ _) (by omega) (by omega) (by omega) (by omega) (by omega) (by omega)⟩
    | exact⟨_,_,_,rfl,mkF (RR _ _ _ _) (RS _ _ _ _) (RQ _ _ _ _) (RU _ _ _ _) (by omega) (by omega) (by omega) (by omega) (by omega) (by omega)⟩
    | exact⟨_,_,_,rfl,mkF (RS _ _ _ _) (RQ _ _ _ _) (RR _ _ _ _) (RU _ _ _ _) (by omega) (by omega) (by omega) (by omega) (by omega) (by omega)⟩
    | exact⟨_,_,_,rfl,mkF (RS _ _ _ _) (RR _ _ _ _) (RQ _ _ _ _) (RU _ _ _ _) (by omega) (by omega) (by omega) (by omega) (by omega) (by omega)⟩
 case rest=>
  obtain⟨gf,U,gd,rfl,s⟩:=hcut;have a5:=A.size;have al:=y.lt;have ba:=s.bel.size;have z:=y.below s.bel al;have n1:=s.fd;have n2:=s.fm;have n3:=s.md;have q2:=s.bm0;have q3:=s.gd0;have az:=A.trans (s.bel.mono a5);have aa:MapAt wc U (Fl n k) 0:=s.map;have Y:=s.fin;have X:=s.arr;have bd:=CQ aa;have bf:=Y.lt;have be:=X.lt;clear s ab ap a3 a2 y;go_wp2
  go_loopw [34] (fun q wr=>∃i:Nat,i<=k/\q=.int M i/\wr.ownsMap prog 3 (plainElem (H:=Unit) prog 3) U i (dM (Fl n k) i)/\Kept [U] wc wr) (fun q _=>k-(intOf q).toNat)
  case atStart=>exact⟨0,Af _,rfl,aa,Kept.refl _ _⟩
  case round=>
   obtain⟨i,hi,rfl,hM,a⟩:=hrel;have V:=Y.kept a (by simpa using n2)
   by_cases ao:i<k
   ·obtain⟨f0,f1⟩:=V.cells;have g2:=(z.kept a (by simp;omega)).cell (j:=i) (by rw[au.out];exact ao);rw[XJ]at g2;have a7:=Wo hk ao;have aq:=hid (show dM (Fl n k) (i+1)=(dM (Fl n k) i).put (.int M ((Fl n k).getD i 0:Nat)) (.lit (.int M i))from rfl);generalize (Fl n k).getD i 0=p at*;have an:keyOf prog 3 (.int M (p:Int))=D (.int M (p:Int)):=keyOf_int_mk underlying3 (Cy (by omega));clear V
    go_wp2_with(first
     | (at_mapUpdate;refine EC _ rfl _ _ _ 89 rfl 3 3 Tryz.AlB underlying89 _ U i _ rfl hM (by unfold maxLen;omega) _ _ _ rfl rfl an _ [] (plainElem_int underlying3 (Cy (by omega))) ?_;intro w3 ay a1))
    go_roundw
    case rel=>exact⟨i+1,by omega,by go_num,aq.out.symm▸ay,a.trans (Kept.Ud a1)⟩
    case measure=>simp[intOf];omega
   ·obtain rfl:k=i:=by omega
    have ag:=X.kept a (by simpa using n3.symm);have aj:MapAt wr U (Fl n k) k:=hM;have a0:=az.trans (a.below (B:=w.heap.size) (by omega) (by simp;omega));have bb:=a.size;clear hM aa Y X z a
    go_wp2_with(first | (refine FH wr.heap.size wr n rfl _ _ rfl _ _ rfl rfl rfl rfl (by omega) (Ad _ _) (Ac _) ?_;intro w4 P K a6;obtain⟨W, -, -⟩:=P.arr;clear P) | fail);have ac:Kept [] wr w4:=Kept.E5 K;have ai:=aj.kept ac (by simp);have Z:=V.kept ac (by simp);have ae:=ag.kept ac (by simp);have ak:=a0.trans (K.mono (by omega));have ax:Fm (Fl n k) k gf U gd wr.heap.size b1:=⟨Pt n k,S.out,n1,by omega,n3,by omega,by omega,by omega,by omega⟩;have N:=AiO m (Fl n k) k gf U gd wr.heap.size b1 o1 0 n c n 0 100000 l [] (List.replicate n 0) [] (List.replicate k 0) w4 ax (ha.below ak) HL.out HN.out h5 a4 (by simpa using W) rfl (by simp) (Ac _) ai Z ae (by simp) (by omega) (AbL aw.out) (by omega);rw[AcA]at N;have ad:=hid (AmA (Fl n k) k S.out (Ki m l (Pq n k)) (OP m l (Pq n k)).at (fun x hx=>by rw[N7,<-HN.out];exact Wp hx));rw[ad.out]at N;have av:=hid (show(NJ (Fl n k) (Ki m l (Pq n k))).length=k by simp[NJ,S.out]);obtain⟨R, eR⟩ := E7 (NJ (Fl n k) (Ki m l (Pq n k)));rw[<-eR]at N;have ar:=hid eR;clear eR;clear ai ae W aj ag V ad;refine N.mono ?_;rintro e w5 ⟨rfl,a9,af,am⟩;have ah:=Z.kept am (by simp;omega);obtain⟨f0,f1⟩:=ah.cells;clear N Z ah;go_wp2
    go_ret2;rw[ar.out]at af;exact⟨gd,rfl,PX af (by omega) av.out (by unfold maxLen;omega),ak.trans (am.below (B:=w.heap.size) (by omega) (by simp;omega))⟩
structure ReadyL(w:J):Prop where
 taps:Taps w
 wor:Wor w
 col:Col w
theorem ReadyL.below{w w':J}(h:ReadyL w)(a:Below w.heap.size w w'):ReadyL w':=⟨h.taps.below a,h.wor.below a h.wor.lt,h.col.later a⟩
theorem PM{z:List Int}(h:AllBits z)(a:z.length<=4096):F6 z=0:=by grind [AllBits,F6]
theorem Sm(S:Setg)(B:Nat)(z:List Int)(a:Option Addr)(k c:Nat)(w:J)(y:SetOk S B)(hR:ReadyL w)(ha:Rd .u8 w a z)(A:AllBits z)(H:z.length=k)(X:k=8*B+24):
 Calls prog 191 #[I a k c,S.val] w fun e w'=>∃v,e=.returned v/\Own w' w.heap.size v (JR S z)/\Below w.heap.size w w':=by
 have hB:B<=40:=by have:=y.few;omega
 have j:Below w.heap.size w (w.alloc (.cells #[C M S.code, C M S.size, C M S.order, C M S.seed, C M S.count] 286)):=(Ad _ w).alloc (Ac _) _;have p:=ha.below j;have n:=hR.below j
 by_cases K:S.code=0
 ·have N:Mo z=0:=by unfold Mo;rw[Ab (PM A (by omega)),Aa (by omega)]
  have x:JR S z=Xw z:=by unfold JR Xw;rw[Ab K,Ab N]
  have g:=Acr z a c _ p (by unfold maxLen;omega) A.bytes n.taps;rw[N,H]at g;rw[x];obtain⟨code,size,order,seed,count⟩:=S;obtain rfl:code=0:=K;unfold Setg.val;dsimp only at*;clear x y N A H X p n;go_enter func191,ntmps191
  go_wp2_with(first | (go_at_call 230;refine g.mono ?_;rintro e w1 ⟨v1,rfl,s,q⟩) | (go_at_call 187;refine(QJ _ _).mono ?_;rintro e w2 ⟨rfl,rfl⟩));go_ret;exact⟨v1,rfl,s.mono j.size,j.trans (q.mono j.size)⟩
 ·have W:S.code=1:=by have:=y.code;omega
  obtain⟨Y,P⟩:=y.size1 W;obtain⟨p1,Z,p3⟩:=UN Y;have x:JR S z=GE (MV S) (Iq S.size.toNat (Fl S.size.toNat z.length) z z.length):=by unfold JR;rw[Aa K]
  rw[x];have g:=Aax (MV S) z a S.size.toNat k c _ p A H p3 Z (by omega) n.wor;rw[H];rw[show((S.size.toNat:Nat):Int)=S.size by omega]at g;obtain⟨L, U⟩ := E7 (GE (MV S) (Iq S.size.toNat (Fl S.size.toNat k) z k));rw[<-U]at g ⊢;obtain⟨m, V⟩ := E7 S.size.toNat;rw[<-V]at g;obtain⟨code,size,order,seed,count⟩:=S;obtain rfl:code=1:=W;unfold Setg.val;dsimp only at g j;clear x y p1 Z p3 Y P U V K A H X p n;go_enter func191,ntmps191
  go_wp2_with(first | (go_at_call 229;refine g.mono ?_;rintro e w1 ⟨g1,rfl,s,q⟩) | (go_at_call 187;refine(QJ _ _).mono ?_;rintro e w2 ⟨rfl,rfl⟩));go_ret;exact⟨_,rfl,s.mono j.size,j.trans (q.mono j.size)⟩
theorem ZV(S:Setg)(B:Nat)(s:List Int)(b1 U n k c:Nat)(w:J)(N:SetOk S B)(hR:ReadyL w)(ha:Rd M w (D ⟨b1,U,E⟩) s)(q:(s.length:Int)=Ij S B)(x:Fy s=true)(P:s.length=n)(V:n<=c)(Z:k=8*B+24):
 Calls prog 238 #[I (D ⟨b1,U,E⟩) n c,S.val, C M k] w fun e w'=>∃v,e=.returned v/\Own w' w.heap.size v (Hu S k s)/\Below w.heap.size w w':=by
 have hB:B<=40:=by have:=N.few;omega
 have g:Below w.heap.size w (w.alloc (.cells #[C M S.code, C M S.size, C M S.order, C M S.seed, C M S.count] 286)):=(Ad _ w).alloc (Ac _) _;have p:=ha.below g;have m:=hR.below g
 by_cases H:S.code=0
 ·have K:Hu S k s=way s k 0 0:=by unfold Hu;rw[Ab H]
  rw[K];have j:(s.length:Int)=3*(8*(B:Int)+24)+18:=by rw[q];unfold Ij;rw[Ab H]
  have a:=Zv s k (D ⟨b1,U,E⟩) c _ p (by omega) (by omega) (by unfold Gv;rw[x];rfl) (by omega) m.taps;rw[P]at a;obtain⟨L, A⟩ := E7 (way s k 0 0);rw[<-A]at a ⊢;obtain⟨T, X⟩ := E7 (top s k 0 0);rw[<-X]at a;obtain⟨code,size,order,seed,count⟩:=S;obtain rfl:code=0:=H;unfold Setg.val;dsimp only at*;clear K N A X q j x P Z p m;go_enter func238,ntmps238
  go_wp2_with(first | (go_at_call 266;refine a.mono ?_;rintro e w1 ⟨v1,rfl,z,y⟩) | (go_at_call 187;refine(QJ _ _).mono ?_;rintro e w2 ⟨rfl,rfl⟩));go_ret;exact⟨v1,rfl,z.mono g.size,g.trans (y.mono g.size)⟩
 ·have Y:S.code=1:=by have:=N.code;omega
  obtain⟨hp,W⟩:=N.size1 Y;obtain⟨p1,p2,p3⟩:=UN hp;have j:(s.length:Int)=S.size:=by rw[q];unfold Ij;rw[Aa H]
  have K:Hu S k s=NJ (Fl n k) (Ki (MV S) s (Pq n k)):=by unfold Hu;grind
  rw[K];have a:=Aaw (MV S) s b1 U n k c _ p P p3 (by omega) V (by omega) x m.wor;obtain⟨L, A⟩ := E7 (NJ (Fl n k) (Ki (MV S) s (Pq n k)));rw[<-A]at a ⊢;obtain⟨code,size,order,seed,count⟩:=S;obtain rfl:code=1:=Y;unfold Setg.val;dsimp only at*;clear K N p1 p2 p3 hp W A H q j x P Z p m;go_enter func238,ntmps238
  go_wp2_with(first | (go_at_call 265;refine a.mono ?_;rintro e w1 ⟨g1,rfl,z,y⟩) | (go_at_call 187;refine(QJ _ _).mono ?_;rintro e w2 ⟨rfl,rfl⟩));go_ret;exact⟨_,rfl,z.mono g.size,g.trans (y.mono g.size)⟩
theorem An3(x:Int)(a:0<=x)(c:x<256):bits .and .u8 x 1=x % 2:=by
 rw[u8_and x 1 a c (by decide) (by decide),show(1:Int).toNat=1 from rfl,Dq];omega
theorem Acq(x:Int)(e:Nat)(a:0<=x)(g:x<256):0<=x / 2 ^ e/\x / 2 ^ e<256:=by
 have c:(0:Int)<2 ^ e:=Int.pow_pos (by decide);have h:=Int.ediv_nonneg a (Int.le_of_lt c);refine⟨h,?_⟩;have:x / 2 ^ e<=x:=Int.ediv_le_self _ a;omega
theorem Amx(s:ByteArray)(k:Nat)(h:k / 8<s.size):bits .and .u8 ((s[k / 8].toNat:Int) / 2 ^ (7-k % 8)) 1=NW s k:=by grind [NW,KR,AfB,VN,Acq,An3]
theorem Amy(s:ByteArray)(N k:Nat)(h:k<N)(x:Int)(a:x=NW s k):(Fh s k++List.replicate (N-k) 0).set k x=Fh s (k+1)++List.replicate (N-(k+1)) 0:=by
 rw[show N-k=(N-(k+1))+1 from by omega,KI _ _ _ _ (Gx s k),Vt,a]
theorem UU(s:ByteArray)(n:Int)(w:J)(W:s.size<=140737488355328):
 Calls prog 189 #[.string s, C M n] w fun e w'=>∃v,e=.returned (.tuple #[v, C M (Gw s n)])/\Own w' w.heap.size v (IZ s n)/\Below w.heap.size w w':=by
 by_cases y:n<0
 ·have c:Gw s n=1:=by unfold Gw;rw[Ab (.inl y)]
  have m:IZ s n=[]:=by unfold IZ;rw[c];rfl
  rw[c,m];go_enter func189,ntmps189;go_wp2
  go_ret2;exact⟨_,rfl,Own.nil _ _,Ad _ _⟩
 ·have H:decide (n<0)=false:=by simpa using y
  by_cases z:8*(s.size:Int)<n
  ·have c:Gw s n=1:=by unfold Gw;rw[Ab (.inr z)]
   have m:IZ s n=[]:=by unfold IZ;rw[c];rfl
   rw[c,m];go_enter func189,ntmps189;go_wp2
   go_ret2;exact⟨_,rfl,Own.nil _ _,Ad _ _⟩
  ·have K:decide (8*(s.size:Int)<n)=false:=by simpa using z
   by_cases A:4096<n
   ·have c:Gw s n=2:=by unfold Gw;rw[Aa (by omega),Ab A]
    have m:IZ s n=[]:=by unfold IZ;rw[c];rfl
    rw[c,m];go_enter func189,ntmps189;go_wp2
    go_ret2;exact⟨_,rfl,Own.nil _ _,Ad _ _⟩
   ·have c:Gw s n=0:=by unfold Gw;rw[Aa (by omega),Aa A]
    have m:IZ s n=Fh s n.toNat:=by unfold IZ;rw[Ab c]
    rw[c,m];clear m c;obtain⟨N,rfl⟩:=Cw (show 0<=n by omega);rw[AN];go_enter func189,ntmps189
    go_wp2_with(at_make;refine FH w.heap.size w N rfl _ _ rfl _ _ rfl rfl rfl rfl (by omega) (Ad _ _) (Ac _) ?_);intro w1 j g B;go_wp2
    go_loopw [23] (fun i wr=>∃k:Nat,k<=N/\i= C M k/\Own wr w.heap.size (I (D ⟨w.heap.size,0,E⟩) N N) (Fh s k++List.replicate (N-k) 0)/\Below w.heap.size w wr) (fun i _=>N-(intOf i).toNat)
    case atStart=>exact⟨0,Af _,rfl,j,g⟩
    case round=>
     clear j g;obtain⟨k,V,rfl,a,p⟩:=hrel
     by_cases x:k<N
     ·have q:(Fh s k++List.replicate (N-k) 0).length=N:=a.len;have S:=a.cell (i:=k) (by omega);have U:=a.free k;have P:(k:Int) / 8<s.size:=by omega
      clear q;go_wp2
      go_roundw
      case rel=>exact⟨k+1,by omega,by go_num,Amy s N k x _ (Amx s k (by omega))▸a.set k _,p.setCell (Ac _) _⟩
      case measure=>simp[intOf];omega
     ·go_wp2
      go_ret2;obtain rfl:k=N:=by omega
      rw[Bm,C4,AA]at a;exact⟨_,rfl,a,p⟩
theorem An8(zs:List Int)(k:Int)(a:Option Addr)(c:Nat)(w:J)(x:Rd .u8 w a zs)(h:Lq zs k=0)(A:4096<zs.length+kW k):
 Calls prog 188 #[I a zs.length c, C M k] w fun e w'=>e=.returned (.tuple #[I E 0 0, C M 2])/\Below w.heap.size w w':=by
 obtain⟨j,m⟩:=MI h;obtain⟨q,s,z,y⟩:=Oi m;have B:=(IA j).2;have n:Hid (F6 zs=0):=j;have p:Hid (Jr k=true):=m;clear h j m q;go_enter func188,ntmps188
 go_wp2_with fail;refine(KE zs k a c _ x (by unfold maxLen;omega) n.out p.out).mono ?_;rintro e w1 ⟨rfl,g⟩;go_wp2
 go_ret2;exact⟨rfl,g.alloc g.size _⟩
theorem Pm{x:Nat}(a:Below w.heap.size w w')(h:w.cell? ⟨x,o,E⟩=D v):w'.cell? ⟨x,o,E⟩=D v:=
 (a.cell (Aj w _ h)).trans h
theorem Ajd(zs S:List Int)(N:Nat)(a:N=zs.length+S.length)(n:Nat)(c:S.length<=n):Je (Je (List.replicate N 0) 0 zs) zs.length (S.take n)=zs++S:=by
 subst a;rw[Aw c];simp[Je]
theorem Amf(zs:List Int)(k:Int)(a:Option Addr)(c:Nat)(w:J)(ha:Rd .u8 w a zs)(hy:Bytes zs)(h:Lq zs k=0)(hl:zs.length+kW k<=4096):
 Calls prog 188 #[I a zs.length c, C M k] w fun e w'=>∃v,e=.returned (.tuple #[v, C M 0])/\Own w' w.heap.size v (zs++Ko zs k)/\Below w.heap.size w w':=by
 obtain⟨V,U⟩:=MI h;obtain⟨hD,W,hW,hR⟩:=Oi U;have hb:Bits zs:=fun j=>⟨(hy.at j).1,(IA V).1 j⟩
 have hz:=(IA V).2;have HE:Hid (F6 zs=0):=V;have HK:Hid (Jr k=true):=U;clear h hy V U;unfold Ko kP;unfold kP at hD;go_enter func188,ntmps188
 go_wp2_with fail;refine(KE zs k a c _ ha (by unfold maxLen;omega) HE.out HK.out).mono ?_;rintro e w1 ⟨rfl,H⟩;have X:=ha.below H;obtain⟨N, hN⟩ := E7 (zs.length+kW k);have P:Hid (N=zs.length+kW k):=hN;have ad:N<=4096:=by omega
 have ae:zs.length<=N:=by omega
 clear hN;have B:=X.below ((Ad _ _).alloc (Ac _) (.cells #[C M (kW k), C .u32 (kR k)] 368))
 go_wp2_with(at_make;refine FH (w1.heap.size+1) (w1.alloc (.cells #[C M (kW k), C .u32 (kR k)] 368)) N rfl _ _ rfl _ _ rfl rfl ?_ ?_ (by omega) (by exact Ad _ _) (by simp) ?_)
 ·have:=P.out;omega
 ·have:=P.out;omega
 intro w2 q g ab;have S:=B.below (by simpa using g);obtain⟨q0,q1,q2,q3,q4⟩:=Ais (w:=w1) (x:= C M (kW k)) (y:= C .u32 (kR k)) (T:=368) (w1:=w2) (by simpa using g)
 go_wp2_with(refine M4 (w1.alloc (.cells #[C M (kW k), C .u32 (kR k)] 368)) q S rfl (.tmp 30) (.tmp 31) rfl (D ⟨w1.heap.size+1,0,E⟩) N N c 0 zs.length ?_ rfl rfl ?_ ?_ g ?_)
 ·omega
 ·omega
 intro w3 K m ac;obtain⟨p0,p1, -⟩:=Ais (w:=w1) (x:= C M (kW k)) (y:= C .u32 (kR k)) (T:=368) (w1:=w3) (by simpa using m);have Y:=B.below (by simpa using m);have af:zs.length<N:=by have:=P.out;omega
 clear q0 q1 q2 q3 q4 q g B S
 go_wp2_with fail;have A:kW k=min (RK (kW k) (2 ^ kW k ||| kR k) zs).length (N-zs.length):=by rw[KL];have:=P.out;omega
 have HM:Hid (kW k=min (RK (kW k) (2 ^ kW k ||| kR k) zs).length (N-zs.length)):=A;clear A
 go_region_held3 (fun w'=>w'.cell? ⟨w1.heap.size,0,E⟩=D (C M (kW k))/\w'.cell? ⟨w1.heap.size,1,E⟩=D (C .u32 (kR k))) (first | exact⟨p0,p1⟩ | exact⟨Pm n p0,Pm n p1⟩ | exact⟨p.cell (Pm n p0) (by simp),p.cell (Pm n p1) (by simp)⟩)
  (first | (go_at_call 224;refine(Yt (kW k) (kR k) zs a c _ ?_ hb hz hD W hW hR).mono ?_;exact Y;rintro e w4 ⟨v4,rfl,s,n⟩;obtain⟨a4,c4,rfl, -⟩:=s.FC;obtain⟨w5,Z,z,p⟩:=QW (K.drew.below n) s.rd 3 (D ⟨w1.heap.size+1,zs.length,E⟩) (N-zs.length) (N-zs.length) c4 zs.length (kW k) HM.out (fun _=>rfl) (by have:=P.out;omega)))
 go_wp2
 go_ret2;have aa:=H.size;have b3:Below w.heap.size w w3:=(H.alloc aa _).trans (m.mono (by omega));have b4:=Fr b3.drew n;have b5:=b4.grown p b4.size (fun k U=>by simp at U;omega);rw[Ajd zs (RK (kW k) (2 ^ kW k ||| kR k) zs) N (by rw[KL];exact P.out) (kW k) (by rw[KL];exact Ac _)]at z;exact⟨_,rfl,z.mono (by omega),b5⟩
def Io (zs ns:List Int)(k:Nat):List Int:=(List.range ns.length).map fun j=>if j<k then (zs.getD j 0+ns.getD j 0) % 2 else ns.getD j 0
theorem Xo(zs a:List Int):Io zs a 0=a:=by
 refine AW (by simp[Io]) fun j e c=>?_
 simp[Io,List.getD,c]
theorem Zm(zs a:List Int):Io zs a a.length=Lk zs a a.length:=by simp[Io,Lk];grind
theorem Xn(zs a:List Int)(k:Nat)(h:k<a.length):(Io zs a k).getD k 0=a.getD k 0:=by simp[Io,List.getD,h]
theorem Zn(zs a:List Int)(k:Nat)(x:Int)(c:x=(zs.getD k 0+a.getD k 0) % 2):(Io zs a k).set k x=Io zs a (k+1):=by
 refine AW (by simp[Io]) fun j g m=>?_
 rw[B4]
 split
 ·rename_i e;subst e;simp only[Io,BR,B6];rw[Ab (by omega),c]
 ·rename_i e;simp only[Io,BR,B6]
  grind
theorem AkY(a b:Int)(c:0<=a/\a<=1)(e:0<=b/\b<=1):bits .xor .u8 a b=(b+a) % 2:=by
 rcases (show a=0\/a=1 by omega)with rfl | rfl<;>rcases (show b=0\/b=1 by omega)with rfl | rfl<;>decide
theorem Ac9(s n:Nat):Bits (FG s n):=fun k=>by
 by_cases h:k<n
 ·have:(FG s n).getD k 0=XY s k:=by simp[FG,List.getD,h]
  rw[this];exact AbZ _
 ·have:(FG s n).getD k 0=0:=by simp[FG,List.getD,h]
  rw[this];omega
theorem Zo(zs:List Int)(s:Nat)(a:Option Addr)(c:Nat)(w:J)(U:Rd .u8 w a zs)(hb:Bits zs)(W:F6 zs=0)(hs:s<2147483648):
 Calls prog 194 #[I a zs.length c, C M s] w fun e w'=>∃v,e=.returned (.tuple #[v, C M 0])/\Own w' w.heap.size v (Lk zs (FG s zs.length) zs.length)/\Below w.heap.size w w':=by
 have hz:=(IA W).2;have HE:=hid W;have Y:=Ac9 s zs.length;have n:=hid (Lv s zs.length);clear W;go_enter func194,ntmps194
 go_wp2_with fail;refine(IP zs a c _ U (by unfold maxLen;omega)).mono ?_;rintro e w1 ⟨rfl,rfl⟩;rw[HE.out]
 go_wp2_with fail;refine(Ub s zs.length _ hs hz).mono ?_;rintro e w1 ⟨v1,rfl,m,V⟩;obtain⟨a1,c1,rfl,B, -⟩:=m.FC;rw[n.out];rw[n.out,<-Xo zs (FG s zs.length)]at m;have aa:=U.below V;generalize H:FG s zs.length=z at*;have N:=hid H;clear H;go_wp2
 go_loopw [28] (fun i wr=>∃k:Nat,k<=zs.length/\i= C M k/\Own wr w.heap.size (I a1 zs.length c1) (Io zs z k)/\Below w.heap.size w wr) (fun i _=>zs.length-(intOf i).toNat)
 case atStart=>grind
 case round=>
  clear m;obtain⟨k,hk,rfl,j,p⟩:=hrel
  by_cases q:k<zs.length
  ·obtain⟨g,rfl⟩:=B (by intro e;have:=n.out;rw[e]at this;simp at this;omega);obtain⟨b2,o2,rfl,A⟩:=(U.below p).at q;have g2:=A k q;have X:(Io zs z k).length=zs.length:=j.len;have hc:=j.cell (i:=k) (by omega);rw[Xn zs z k (by rw[n.out];exact q)]at hc;have hf:=j.free k;have Z:=hb k;have bn:=Y k;clear X A;obtain⟨x, P⟩ := E7 (zs.getD k 0);obtain⟨y, S⟩ := E7 (z.getD k 0);rw[<-P]at g2 Z;rw[<-S]at hc bn;have EX:=hid P;have EY:=hid S;clear P S;go_wp2;have K:=Zn zs z k (bits .xor .u8 y x) (by rw[AkY y x bn Z,<-EX.out,<-EY.out])
   go_roundw
   case rel=>exact⟨k+1,by omega,by go_num,K▸j.set k _,p.setCell j.block.1 _⟩
   case measure=>simp[intOf];omega
  ·go_wp2
   go_ret2;obtain rfl:k=zs.length:=by omega
   refine⟨_,rfl,?_,p⟩;have e1:z.length=zs.length:=n.out;have e2:=Zm zs z;rw[e1]at e2;rw[e2]at j;rw[N.out];exact j
end Go.Proofs.YtbjgfoiikhbonahGreatDoor
