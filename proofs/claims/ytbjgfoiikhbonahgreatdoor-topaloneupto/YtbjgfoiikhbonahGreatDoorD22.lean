import Derived.Test.YtbjgfoiikhbonahGreatDoorD19
import Derived.Laws.ResultCell
set_option linter.unusedVariables false
set_option linter.unusedSimpArgs false
set_option maxRecDepth 100000
set_option maxHeartbeats 4000000
namespace Go.Proofs.YtbjgfoiikhbonahGreatDoor
open Go.ChangeShapes Go.WideShapes Go.ChangeAt Go.RowKit Go.Proofs.Tryz
open Value (int slice string)
open IntKind (i64)
variable {B a b bg c i k q size u win:Nat}{F:List Nat}{m:OutM}{p:Addr}{r:Sps}{s:ByteArray}{ua:Option Addr}{us us':List UnP}{w:World}{x:UnP}
def TkR (told:Nat)(lk:Nat->Bool)(P:Nat->Nat->Prop)(i:Nat)(x x':UnP):Prop:=
 x'.text=x.text/\x'.sent=x.sent/\x'.dn=(x.dn || (decide (i<told) && !lk i))/\Srt x'.al/\(x'.dn=true->x.dn=false->x'.al=[])/\
 ∀t,inS x'.al t↔(if i<told then (if lk i=true then inS x.al t\/(x.dn=false/\t<x.sent/\P i t) else False) else inS x.al t\/(x.dn=false/\t<x.sent))
def Aep (told:Nat)(lk:Nat->Bool)(P:Nat->Nat->Prop)(us us':List UnP):Prop:=us'.length=us.length/\∀i,i<us.length->TkR told lk P i (us.getD i .zero) (us'.getD i .zero)
def Aic (w:World)(b win bg:Nat)(ua:Option Addr)(c:Nat)(us:List UnP)(r:ReportM):Ending->World->Prop:=fun e w'=>e=.returned (int i64 0)/\Kept (F0 b ua us) w w'/\∃us',Aep (E9 r.next bg) (LQ bg r.miss) (Rn bg r.miss) us us'/\NewU w.heap.size us us'/\PSnd w' b win ((bg+GC (·.dn) us') % 64) ua c (us'.drop (GC (·.dn) us'))
theorem AhD(r:ReportM)(a:Option Addr)(n cc:Nat)(h:PSnd w b win bg ua c us)(j:bg<64)(C:us.length<=4000)(d:UsOk us)(v:Gps w a r.miss)(z:r.miss.length=n)(y:n<=maxLen)(D:repErr bg us r≠0):
 Calls prog 32 #[.pointer (some ⟨b,0,none⟩),.agg #[int i64 r.next,slice a n cc]] w fun e w'=>e=.returned (int i64 (repErr bg us r))/\Below w.heap.size w w':=by
 have f:=Fc w 95 [int i64 r.next,slice a n cc];have o:Kept [] w (w.alloc (.cells #[int i64 r.next,slice a n cc] 95)):=(Kept.refl _ w).alloc _;have l:=ND (w:=w.alloc (.cells #[int i64 r.next,slice a n cc] 95)) r a n cc (h.kept o (by simp)) j C d.size (v.kept o (fun x _=>by simp)) z y;have G:(w.alloc (.cells #[int i64 r.next,slice a n cc] 95)).cell? ⟨w.heap.size,0,none⟩=some (int i64 r.next):=f.cell 0;have H:(w.alloc (.cells #[int i64 r.next,slice a n cc] 95)).cell? ⟨w.heap.size,1,none⟩=some (slice a n cc):=f.cell 1;have A:=hid (show Below w.heap.size w (w.alloc (.cells #[int i64 r.next,slice a n cc] 95))from(Ad _ w).alloc (Ac _) _);have t:w.heap.size<=(w.alloc (.cells #[int i64 r.next,slice a n cc] 95)).heap.size:=by simp
 generalize repErr bg us r=E at*;obtain⟨next,miss⟩:=r;dsimp only at*;clear h d v z y f o;go_enter func32,ntmps32
 go_wp2_with(go_at_call 63;refine l.mono ?_;rintro e w1 ⟨rfl,g⟩);go_ret;exact⟨rfl,A.out.trans (g.mono t)⟩
theorem Q6{x:Nat}(h:NewU B us us')(d:us'.length=us.length)(e:x∈F0 b ua us'):x∈F0 b ua us\/B<=x:=by grind [NewU,F0,J4,KU,IK,Jy]
theorem AcU(w:World)(o:Obj)(cs:Array Value):Kept [] w ((w.alloc o).setRow w.heap.size cs):=
 ⟨rfl,rfl,rfl,by simp[World.setRow],fun k d _=>(Cl _ _ k cs (by omega)).trans (Bc w o k d)⟩
structure TkI(B:Nat)(wr:World)(b win bg:Nat)(ua:Option Addr)(c A:Nat)(lk:Nat->Bool)(P:Nat->Nat->Prop)(us us1 us':List UnP)(k:Nat):Prop where
 snd:PSnd wr b win bg ua c us'
 len:us'.length=us1.length
 did:∀i,i<k->TkR A lk P i (us.getD i .zero) (us'.getD i .zero)
 not:∀i,k<=i->us'.getD i .zero=us1.getD i .zero
 new:NewU B us1 us'
theorem TkI.skip{wr:World}{A:Nat}{e:Nat->Bool}{P:Nat->Nat->Prop}{d:List UnP}(h:TkI B wr b win bg ua c A e P us d us' k)(g:TkR A e P k (us.getD k .zero) (d.getD k .zero)):TkI B wr b win bg ua c A e P us d us' (k+1):=
 ⟨h.snd,h.len,fun i hi=>by
  rcases AS i k with f | f
  ·exact h.did i f
  ·rw[show i=k by omega,h.not k (Ac _)];exact g,fun i hi=>h.not i (by omega),h.new⟩
theorem TkI.set{B:Nat}{wr w2:World}{b win bg:Nat}{ua:Option Addr}{c A:Nat}{j:Nat->Bool}{P:Nat->Nat->Prop}{us d us':List UnP}{k:Nat}{x':UnP}(h:TkI B wr b win bg ua c A j P us d us' k)(f:k<d.length)(v:PSnd w2 b win bg ua c (us'.set k x'))(o:TkR A j P k (us.getD k .zero) x')(n:B<=wr.heap.size)(t:∀g,x'.av.ownBlock=some g->(us'.getD k .zero).av.ownBlock=some g\/wr.heap.size<=g):TkI B w2 b win bg ua c A j P us d (us'.set k x') (k+1):=
 ⟨v,by rw[An];exact h.len,fun i hi=>by
  by_cases e:i=k
  ·subst e;rw[FL (by rw[h.len];exact f)];exact o
  ·rw[GH (fun l=>e l.symm)];exact h.did i (by omega),fun i hi=>by rw[GH (by omega)];exact h.not i (by omega),h.new.set h.len n f t⟩
theorem AdS(r:ReportM)(a:Option Addr)(n cc:Nat)(h:PSnd w b win bg ua c us)(Z:bg<64)(hl:us.length<=4000)(aw:UsOk us)(hG:Gps w a r.miss)(a2:r.miss≠[]->Qh (F0 b ua us) a)(hn:r.miss.length=n)(hm:n<=maxLen)(he:repErr bg us r=0)(bi:E9 r.next bg<=32):
 Calls prog 32 #[.pointer (some ⟨b,0,none⟩),.agg #[int i64 r.next,slice a n cc]] w (Aic w b win bg ua c us r):=by
 have hA:=Fc w 95 [int i64 r.next,slice a n cc];have hk:Kept [] w (w.alloc (.cells #[int i64 r.next,slice a n cc] 95)):=(Kept.refl _ w).alloc _;have ar:=ND (w:=w.alloc (.cells #[int i64 r.next,slice a n cc] 95)) r a n cc (h.kept hk (by simp)) Z hl aw.size (hG.kept hk (fun x _=>by simp)) hn hm;rw[he]at ar;have ax:(0<=r.next/\r.next<=63)/\E9 r.next bg<=GC GR us/\r.miss.all (JV bg (E9 r.next bg) us)=true:=by
  grind [repErr]
 obtain⟨a5,br,ae⟩:=ax;have bl:E9 r.next bg<=us.length:=Ak br (K9 _ _)
 have bw:(w.alloc (.cells #[int i64 r.next,slice a n cc] 95)).heap.size=w.heap.size+1:=Ax _ _;have hF:∀w1,Below (w.alloc (.cells #[int i64 r.next,slice a n cc] 95)).heap.size (w.alloc (.cells #[int i64 r.next,slice a n cc] 95)) w1->w1.cell? ⟨w.heap.size,0,none⟩=some (int i64 r.next)/\w1.cell? ⟨w.heap.size,1,none⟩=some (slice a n cc)/\Kept [] w w1/\w.heap.size<w1.heap.size/\Calls prog 64 #[.pointer (some ⟨b,0,none⟩),slice a n cc] w1 (Aia w1 b win bg ua c us r.miss):=fun w1 D=>by
  have J:Kept [] w w1:=hk.trans (Kept.E5 D);exact⟨(AF (D.block w.heap.size (by omega))).trans (hA.cell 0),(AF (D.block w.heap.size (by omega))).trans (hA.cell 1),J,by have:=D.size;omega,XS r.miss a n cc (h.kept J (by simp)) Z bi bl aw ae (hG.kept J (fun x _=>by simp)) a2 hn hm⟩
 have ac:∀W:World,(storeCells ⟨W.heap.size,0,none⟩ (lkC bg r.miss) 0).run prog (W.alloc (.cells #[.bool false,.bool false,.bool false,.bool false,.bool false,.bool false,.bool false,.bool false,.bool false,.bool false,.bool false,.bool false,.bool false,.bool false,.bool false,.bool false,.bool false,.bool false,.bool false,.bool false,.bool false,.bool false,.bool false,.bool false,.bool false,.bool false,.bool false,.bool false,.bool false,.bool false,.bool false,.bool false] 133))=.ok () ((W.alloc (.cells #[.bool false,.bool false,.bool false,.bool false,.bool false,.bool false,.bool false,.bool false,.bool false,.bool false,.bool false,.bool false,.bool false,.bool false,.bool false,.bool false,.bool false,.bool false,.bool false,.bool false,.bool false,.bool false,.bool false,.bool false,.bool false,.bool false,.bool false,.bool false,.bool false,.bool false,.bool false,.bool false] 133)).setRow W.heap.size (lkC bg r.miss).toArray):=fun W=>by
  have:=CU prog W.heap.size 0 133 (lkC bg r.miss) 0 #[.bool false,.bool false,.bool false,.bool false,.bool false,.bool false,.bool false,.bool false,.bool false,.bool false,.bool false,.bool false,.bool false,.bool false,.bool false,.bool false,.bool false,.bool false,.bool false,.bool false,.bool false,.bool false,.bool false,.bool false,.bool false,.bool false,.bool false,.bool false,.bool false,.bool false,.bool false,.bool false] (W.alloc (.cells #[.bool false,.bool false,.bool false,.bool false,.bool false,.bool false,.bool false,.bool false,.bool false,.bool false,.bool false,.bool false,.bool false,.bool false,.bool false,.bool false,.bool false,.bool false,.bool false,.bool false,.bool false,.bool false,.bool false,.bool false,.bool false,.bool false,.bool false,.bool false,.bool false,.bool false,.bool false,.bool false] 133)) (Am W _) (by simp[Nk]) (by
   intro v hv;simp only[lkC,Bb]at hv;obtain⟨i, -,rfl⟩:=hv
   rfl)
  rw[this];simp[Nk]
 have HF:=hid hF;have bh:=hid ac;have be:=hid aw;have bk:=fun W=>Ll (k:=r.next) (bg:=bg) W Z a5.1 a5.2
 have x0:(w.alloc (.cells #[int i64 r.next,slice a n cc] 95)).cell? ⟨w.heap.size,0,none⟩=some (int i64 r.next):=hA.cell 0;have x1:(w.alloc (.cells #[int i64 r.next,slice a n cc] 95)).cell? ⟨w.heap.size,1,none⟩=some (slice a n cc):=hA.cell 1;have H:=hid h;obtain⟨next,miss⟩:=r;dsimp only at*;clear hF ac h hG hn hm hA hk a2 he ae;generalize ao:lkC bg miss=LK at*;have bz:LK.length=32:=by rw[<-ao];exact Nk _ _
 have az:=hid ao;clear ao;go_enter func32,ntmps32;have ac:=bh.out
 go_upto_region 5 with(first
  | (go_at_call 63;refine ar.mono ?_;rintro e w1 ⟨rfl,D⟩;obtain⟨y0,y1,J,b0,a4⟩:=HF.out _ D)
  | (go_at_call 64;refine a4.mono ?_;rintro e w2 ⟨rfl,ab,d,ap,Y,a1⟩;rw[az.out]))
 have f1:Kept [] w2 ((w2.alloc (.cells #[.bool false,.bool false,.bool false,.bool false,.bool false,.bool false,.bool false,.bool false,.bool false,.bool false,.bool false,.bool false,.bool false,.bool false,.bool false,.bool false,.bool false,.bool false,.bool false,.bool false,.bool false,.bool false,.bool false,.bool false,.bool false,.bool false,.bool false,.bool false,.bool false,.bool false,.bool false,.bool false] 133)).setRow w2.heap.size LK.toArray):=AcU _ _ _;have f2:At ((w2.alloc (.cells #[.bool false,.bool false,.bool false,.bool false,.bool false,.bool false,.bool false,.bool false,.bool false,.bool false,.bool false,.bool false,.bool false,.bool false,.bool false,.bool false,.bool false,.bool false,.bool false,.bool false,.bool false,.bool false,.bool false,.bool false,.bool false,.bool false,.bool false,.bool false,.bool false,.bool false,.bool false,.bool false] 133)).setRow w2.heap.size LK.toArray) w2.heap.size 133 LK:=Cn _ _ _ _ _ _ (Am w2 _);generalize ((w2.alloc (.cells #[.bool false,.bool false,.bool false,.bool false,.bool false,.bool false,.bool false,.bool false,.bool false,.bool false,.bool false,.bool false,.bool false,.bool false,.bool false,.bool false,.bool false,.bool false,.bool false,.bool false,.bool false,.bool false,.bool false,.bool false,.bool false,.bool false,.bool false,.bool false,.bool false,.bool false,.bool false,.bool false] 133)).setRow w2.heap.size LK.toArray)=W3 at*;have bv:w.heap.size∉F0 b ua us:=fun hx=>by have:=H.out.lt _ hx;omega
 have b3:=E8 f1 (E8 ab y0 bv) (by simp);have aq:PSnd W3 b win bg ua c d:=ap.kept f1 (by simp);obtain⟨-,c1,c2⟩:=aq.head;have R:d.length=us.length:=Y.1;have ai:=Y.ok be.out;have P:=hid ai;have ak:=hid Y;have an:=hid a1;have bf:=hid aq;have a8:=hid f1;have a9:=hid f2;have ba:=hid J;have bb:=hid ab;have ah:∀x∈F0 b ua d,x<w2.heap.size:=ap.lt;have bd:=hid ah;have b1:w1.heap.size<=w2.heap.size:=ab.size;have a6:w2.heap.size<W3.heap.size:=f2.lt;have af:∀i,i<32->LK[i]?=some (.bool (LQ bg miss i)):=fun i hi=>by rw[<-az.out];exact XR _ _ hi
 have bc:=hid af;obtain⟨N,hN⟩:=E7 d.length;rw[<-hN]at c2 R;have O:=hid hN;clear ap Y a1 aq f1 f2 J ab ai ah af hN y0 y1 x0 x1 ac D a4 ar
 go_quiet (first | (go_at_call 65;exact Ba (bk _)));generalize a0:E9 next bg=A at*
 have a7:=hid a0;clear a0
 go_wp2_with fail
 go_loopw [32] (fun vi wr=>∃k:Nat,k<=N/\vi=int i64 k/\∃us',TkI (w2.heap.size+1) wr b win bg ua c A (LQ bg miss) (Rn bg miss) us d us' k/\Kept (F0 b ua d) W3 wr) (fun vi _=>N-(intOf vi).toNat)
 case atStart=>exact⟨0,by omega,rfl,d,⟨bf.out.kept ((Kept.refl [] _).drewN _) (by simp),rfl,fun i hi=>by omega,fun i _=>rfl,NewU.refl _ _⟩,(Kept.refl _ _).drewN _⟩
 case round=>
  obtain⟨k,hk,rfl,us',Q,I⟩:=hrel;obtain⟨-,d1,d2⟩:=Q.snd.head;rw[Q.len,<-O.out]at d2;have bj:w2.heap.size∉F0 b ua d:=fun hx=>by have:=bd.out _ hx;omega
  have X:=a9.out.kept I bj;have aj:w2.heap.size+1<=wr.heap.size:=Ak a6 I.size
  by_cases bq:k<N
  ·have j:k<d.length:=by rw[<-O.out];exact bq
   have bp:k<us.length:=by omega
   obtain⟨l,bt,bx,ad⟩:=Q.snd.un (i:=k) (by rw[Q.len];exact j);rw[Q.not k (Ac _)]at ad;obtain⟨m1,m2,m3,m4,m5⟩:=ak.out.2 k bp;have b2:=P.out.size k j;have ay:=P.out.sent k j;have aa:=P.out.inn k j;subst bt;have u0:=ad.c0;have C:=hid Q;have M:=hid I;have V:=hid ad;have HM:=hid m5;have am:=hid m4;clear Q I ad m5 m4
   by_cases hA:A<=k
   ·have bn:decide ((A:Int)<=(k:Int))=true:=Ag (by omega);have bs:=Z0 (a:=0) (z:=(d.getD k .zero).text.size) V.out am.out (TA am.out fun t ht=>by have:=aa t ht;omega) (by omega) (by omega) (by omega);have o:∀w4,Qg wr l (k*4) (d.getD k .zero) 0 (d.getD k .zero).text.size (.returned (.tuple #[])) w4->∃T,TkI (w2.heap.size+1) w4 b win bg (some ⟨l,0,none⟩) c A (LQ bg miss) (Rn bg miss) us d T (k+1)/\Kept (F0 b (some ⟨l,0,none⟩) d) W3 w4:=fun w4 S=>by
     obtain⟨-,v',l',p1,p2,p3,p4,p5⟩:=S;have G:=C.out.not k (Ac _);refine⟨us'.set k {d.getD k .zero with av:=v',al:=l'},C.out.set j ?_ ?_ aj (by rw[G];exact p5),?_⟩
     ·refine C.out.snd.upd (by rw[C.out.len];exact j) (f:=2) (by omega) p1 (fun s hs=>by rw[G];simpa using hs) (by rw[G];rfl) p2 (by rw[G];exact p5)
     ·refine⟨m1,m2,?_,p3,fun L h2=>?_,fun t=>?_⟩
      ·grind
      ·grind
      ·show inS l' t↔_;rw[p4 t,HM.out t,Aa (by omega),m2,m3]
       grind
     ·refine M.out.trans (p1.kept.Fn fun s hs=>?_);rw[Ar]at hs
      rcases hs with rfl | hs
      ·exact IK (y:=⟨s,0,none⟩) rfl
      ·exact Jy j (by simpa using hs)
    have U:=hid o;clear o m1 m2 m3 aa ay;generalize (d.getD k .zero).text=tx at*
    go_wp2_with(go_at_call 66;refine bs.mono ?_;intro e w4 S;obtain rfl:=S.1;obtain⟨T,r1,r2⟩:=U.out _ S;have R1:=hid r1;have R2:=hid r2;clear r1 r2 S);exact⟨⟨k+1,by omega,by go_num,T,R1.out,R2.out⟩,by simp[intOf];omega⟩
   ·have bn:decide ((A:Int)<=(k:Int))=false:=Ae (by omega);have a3:k<32:=by omega
    have ck:wr.cell? ⟨w2.heap.size,k,none⟩=some (.bool (LQ bg miss k)):=by rw[X.cell];exact bc.out k a3
    cases K:LQ bg miss k with
    | true=>
     rw[K]at ck;have HR:Hid (TkR A (LQ bg miss) (Rn bg miss) k (us.getD k .zero) (d.getD k .zero)):=by
      refine⟨m1,m2,?_,am.out,fun L h2=>?_,fun t=>?_⟩
      ·rw[m3,K];simp
      ·rw[m3,h2]at L;cases L
      ·rw[HM.out t,Ab (by omega),Ab K]
     clear m1 m2 m3 aa ay K X
     go_wp2_with fail;exact⟨⟨k+1,by omega,by go_num,us',C.out.skip HR.out,M.out⟩,by simp[intOf];omega⟩
    | false=>
     rw[K]at ck;have bm:=Acu V.out;have HR:Hid (TkR A (LQ bg miss) (Rn bg miss) k (us.getD k .zero) ⟨(d.getD k .zero).text,(d.getD k .zero).sent,slice none 0 0,[],true⟩):=by
      refine⟨m1,m2,?_,Srt.nil,fun _ _=>rfl,fun t=>?_⟩
      ·grind
      grind [GT]
     have o:TkI (w2.heap.size+1) ((wr.setCell ⟨l,k*4+3,none⟩ (.bool true)).setCell ⟨l,k*4+2,none⟩ (slice none 0 0)) b win bg (some ⟨l,0,none⟩) c A (LQ bg miss) (Rn bg miss) us d (us'.set k ⟨(d.getD k .zero).text,(d.getD k .zero).sent,slice none 0 0,[],true⟩) (k+1)/\Kept (F0 b (some ⟨l,0,none⟩) d) W3 ((wr.setCell ⟨l,k*4+3,none⟩ (.bool true)).setCell ⟨l,k*4+2,none⟩ (slice none 0 0)):=by
      have G:=C.out.not k (Ac _);have au:k<us'.length:=by rw[C.out.len];exact j
      have q1:PSnd (wr.setCell ⟨l,k*4+3,none⟩ (.bool true)) b win bg (some ⟨l,0,none⟩) c (us'.set k {d.getD k .zero with dn:=true}):=C.out.snd.upd au (f:=3) (by omega) (PtrPost.store (Kept.refl [] wr) (by simp)) (by simp) (by rw[G];rfl) (V.out.ag.kept (FT _ _ _ _) (fun g' E=>by simpa using V.out.sep g' E)) (fun g' E=> .inl (by rw[G];exact E));have q2:PSnd ((wr.setCell ⟨l,k*4+3,none⟩ (.bool true)).setCell ⟨l,k*4+2,none⟩ (slice none 0 0)) b win bg (some ⟨l,0,none⟩) c ((us'.set k {d.getD k .zero with dn:=true}).set k ⟨(d.getD k .zero).text,(d.getD k .zero).sent,slice none 0 0,[],true⟩):=q1.upd (by rw[An];exact au) (f:=2) (by omega) (PtrPost.store (Kept.refl [] _) (by simp)) (by simp) (by rw[FL au];rfl) (OwnSp.nil _) (fun g' E=>by simp[Value.ownBlock]at E);rw[B9]at q2;refine⟨C.out.set j q2 HR.out aj (fun g' E=>by simp[Value.ownBlock]at E),?_⟩;have hm:l∈F0 b (some ⟨l,0,none⟩) d:=IK (y:=⟨l,0,none⟩) rfl;exact Kept.setCell (p:=⟨l,k*4+2,none⟩) (Kept.setCell (p:=⟨l,k*4+3,none⟩) M.out hm _) hm _
     have U:=hid o;clear m1 m2 m3 aa ay K X o
     go_wp2_with(go_at_call 67;refine bm.mono ?_;rintro e w4 ⟨rfl,bu⟩;rw[bu]);exact⟨⟨k+1,by omega,by go_num,_,U.out.1,U.out.2⟩,by simp[intOf];omega⟩
  ·have bo:=AiZ Q.snd (by rw[Q.len,<-O.out];omega) Z;have C:=hid Q;have M:=hid I;clear Q I X
   go_wp2_with(go_at_call 68;refine bo.mono ?_;rintro e w4 ⟨rfl,g1,g2⟩;have G1:=hid g1;have G2:=hid g2;clear g1 g2);go_ret;refine⟨rfl,?_,us',⟨by rw[C.out.len,<-O.out];exact R,fun i hi=>?_⟩,fun i hi g hg=>?_,G2.out⟩
   ·have s1:Kept (F0 b ua us) w w2:=GY (ba.out.Fn (by simp)) bb.out (fun x hx=> .inl hx)
    have s2:Kept (F0 b ua us) w wr:=GY (s1.trans (a8.out.Fn (by simp))) M.out (fun x hx=>by
     rcases Q6 an.out ak.out.1 hx with L | L
     ·exact .inl L
     ·exact .inr (by omega))
    refine GY s2 G1.out (fun x hx=>?_)
    rcases Q6 C.out.new C.out.len hx with L | L
    ·rcases Q6 an.out ak.out.1 L with h2 | h2
     ·exact .inl h2
     ·exact .inr (by omega)
    ·exact .inr (by omega)
   ·rw[a7.out];exact C.out.did i (by omega)
   ·rcases C.out.new i (by rw[<-O.out];omega) g hg with L | L
    ·rcases an.out i hi g L with h2 | h2
     ·exact .inl h2
     ·exact .inr (by omega)
    ·exact .inr (by omega)
def LB (num a:Nat)(last:Bool)(d:ByteArray):Value:=.agg #[int i64 (num:Int),int i64 (a:Int),.bool last,string d]
theorem Wm{z:Nat}(h:PSnd w b win bg ua c us)(hi:i<us.length)(K:i<=4000)(G:bg<64)(aa:a<=z)(hz:z<=(us.getD i .zero).text.size)(X:(us.getD i .zero).text.size<=1500):
 Calls prog 154 #[.pointer (some ⟨b,0,none⟩),int i64 (i:Int),.agg #[int i64 (a:Int),int i64 (z:Int)]] w fun e w'=>e=.returned (LB ((bg+i) % 64) a (decide (z=(us.getD i .zero).text.size)) ((us.getD i .zero).text.extract a z))/\Below w.heap.size w w':=by
 obtain⟨-,c1,c2⟩:=h.head;obtain⟨g,rfl,I,R⟩:=h.un hi;have T:=R.c0;have ab:=h.hd.lt;have J:g<w.heap.size:=Aj w _ T;clear h R;generalize (us.getD i .zero).text=t at*;generalize us.length=N at*;have H:=fun W=>Lm (n:=bg) (k:=i) W G K
 have ac:((z:Int)==(t.size:Int))=decide (z=t.size):=by
  grind
 generalize decide (z=t.size)=D at*;generalize (bg+i) % 64=M at*;go_enter func154,ntmps154;go_upto_region 2 with fail
 have C:Kept [] w ((w.alloc (.cells #[int i64 (a:Int),int i64 (z:Int)] 146)).alloc (.cells #[int i64 0,int i64 0,.bool false,string {data:=#[]}] 216)):=((Kept.refl _ w).alloc _).alloc _;have E:At ((w.alloc (.cells #[int i64 (a:Int),int i64 (z:Int)] 146)).alloc (.cells #[int i64 0,int i64 0,.bool false,string {data:=#[]}] 216)) w.heap.size 146 [int i64 (a:Int),int i64 (z:Int)]:=(Fc w _ _).kept (S:=[]) ((Kept.refl _ _).alloc _) (by simp);have f3:At ((w.alloc (.cells #[int i64 (a:Int),int i64 (z:Int)] 146)).alloc (.cells #[int i64 0,int i64 0,.bool false,string {data:=#[]}] 216)) (w.heap.size+1) 216 [int i64 0,int i64 0,.bool false,string {data:=#[]}]:=by
  have:=Fc (w.alloc (.cells #[int i64 (a:Int),int i64 (z:Int)] 146)) 216 [int i64 0,int i64 0,.bool false,string {data:=#[]}];rw[Ax]at this;exact this
 generalize (w.alloc (.cells #[int i64 (a:Int),int i64 (z:Int)] 146)).alloc (.cells #[int i64 0,int i64 0,.bool false,string {data:=#[]}] 216)=W at*;have L:=E8 C c1 (by simp);have O:W.cell? ⟨w.heap.size,0,none⟩=some (int i64 (a:Int)):=E.cell 0;have P:W.cell? ⟨w.heap.size,1,none⟩=some (int i64 (z:Int)):=E.cell 1;have y0:W.cell? ⟨w.heap.size+1,0,none⟩=some (int i64 0):=f3.cell 0;have y1:W.cell? ⟨w.heap.size+1,1,none⟩=some (int i64 0):=f3.cell 1;have y2:W.cell? ⟨w.heap.size+1,2,none⟩=some (.bool false):=f3.cell 2;have y3:W.cell? ⟨w.heap.size+1,3,none⟩=some (string {data:=#[]}):=f3.cell 3;have g0:=f3.free 0;have g1:=f3.free 1;have g2:=f3.free 2;have g3:=f3.free 3;have U:=hid C;have V:=hid f3;clear C E f3 c1 c2 T I J;have l:Hid (∀n,(W.drewN n).cell? ⟨b,1,none⟩=some (int i64 (bg:Int))/\(W.drewN n).cell? ⟨w.heap.size,0,none⟩=some (int i64 (a:Int))/\(W.drewN n).cell? ⟨w.heap.size,1,none⟩=some (int i64 (z:Int))):=fun n=>⟨L,O,P⟩
 have f:Hid (W.cell? ⟨b,1,none⟩=some (int i64 (bg:Int))/\W.cell? ⟨w.heap.size,0,none⟩=some (int i64 (a:Int))/\W.cell? ⟨w.heap.size,1,none⟩=some (int i64 (z:Int))):=⟨L,O,P⟩;have j:Hid (W.drew.cell? ⟨b,1,none⟩=some (int i64 (bg:Int))/\W.drew.cell? ⟨w.heap.size,0,none⟩=some (int i64 (a:Int))/\W.drew.cell? ⟨w.heap.size,1,none⟩=some (int i64 (z:Int))):=⟨L,O,P⟩;have Q:¬(b=w.heap.size+1):=by omega
 have v:Hid (∀n (v0 v1 v2 v3:Value),(((((W.drewN n).setCell ⟨w.heap.size+1,0,none⟩ v0).setCell ⟨w.heap.size+1,1,none⟩ v1).setCell ⟨w.heap.size+1,2,none⟩ v2).setCell ⟨w.heap.size+1,3,none⟩ v3).cell? ⟨b,1,none⟩=some (int i64 (bg:Int))/\(((((W.drewN n).setCell ⟨w.heap.size+1,0,none⟩ v0).setCell ⟨w.heap.size+1,1,none⟩ v1).setCell ⟨w.heap.size+1,2,none⟩ v2).setCell ⟨w.heap.size+1,3,none⟩ v3).cell? ⟨w.heap.size,0,none⟩=some (int i64 (a:Int))/\(((((W.drewN n).setCell ⟨w.heap.size+1,0,none⟩ v0).setCell ⟨w.heap.size+1,1,none⟩ v1).setCell ⟨w.heap.size+1,2,none⟩ v2).setCell ⟨w.heap.size+1,3,none⟩ v3).cell? ⟨w.heap.size,1,none⟩=some (int i64 (z:Int))):=fun n v0 v1 v2 v3=>by
  have d:Kept [w.heap.size+1] W (((((W.drewN n).setCell ⟨w.heap.size+1,0,none⟩ v0).setCell ⟨w.heap.size+1,1,none⟩ v1).setCell ⟨w.heap.size+1,2,none⟩ v2).setCell ⟨w.heap.size+1,3,none⟩ v3):=(((((Kept.refl _ W).drewN n).setCell (by simp) _).setCell (by simp) _).setCell (by simp) _).setCell (by simp) _
  grind [E8]
 have y:Hid (∀(v0 v1 v2 v3:Value),((((W.drew.setCell ⟨w.heap.size+1,0,none⟩ v0).setCell ⟨w.heap.size+1,1,none⟩ v1).setCell ⟨w.heap.size+1,2,none⟩ v2).setCell ⟨w.heap.size+1,3,none⟩ v3).cell? ⟨b,1,none⟩=some (int i64 (bg:Int))/\((((W.drew.setCell ⟨w.heap.size+1,0,none⟩ v0).setCell ⟨w.heap.size+1,1,none⟩ v1).setCell ⟨w.heap.size+1,2,none⟩ v2).setCell ⟨w.heap.size+1,3,none⟩ v3).cell? ⟨w.heap.size,0,none⟩=some (int i64 (a:Int))/\((((W.drew.setCell ⟨w.heap.size+1,0,none⟩ v0).setCell ⟨w.heap.size+1,1,none⟩ v1).setCell ⟨w.heap.size+1,2,none⟩ v2).setCell ⟨w.heap.size+1,3,none⟩ v3).cell? ⟨w.heap.size,1,none⟩=some (int i64 (z:Int))):=fun v0 v1 v2 v3=>by
  have d:Kept [w.heap.size+1] W ((((W.drew.setCell ⟨w.heap.size+1,0,none⟩ v0).setCell ⟨w.heap.size+1,1,none⟩ v1).setCell ⟨w.heap.size+1,2,none⟩ v2).setCell ⟨w.heap.size+1,3,none⟩ v3):=((((Kept.refl _ W).drew.setCell (by simp) _).setCell (by simp) _).setCell (by simp) _).setCell (by simp) _
  grind [E8]
 have A:Hid (∀(v0 v1 v2 v3:Value),((((W.setCell ⟨w.heap.size+1,0,none⟩ v0).setCell ⟨w.heap.size+1,1,none⟩ v1).setCell ⟨w.heap.size+1,2,none⟩ v2).setCell ⟨w.heap.size+1,3,none⟩ v3).drew.cell? ⟨b,1,none⟩=some (int i64 (bg:Int))/\((((W.setCell ⟨w.heap.size+1,0,none⟩ v0).setCell ⟨w.heap.size+1,1,none⟩ v1).setCell ⟨w.heap.size+1,2,none⟩ v2).setCell ⟨w.heap.size+1,3,none⟩ v3).drew.cell? ⟨w.heap.size,0,none⟩=some (int i64 (a:Int))/\((((W.setCell ⟨w.heap.size+1,0,none⟩ v0).setCell ⟨w.heap.size+1,1,none⟩ v1).setCell ⟨w.heap.size+1,2,none⟩ v2).setCell ⟨w.heap.size+1,3,none⟩ v3).drew.cell? ⟨w.heap.size,1,none⟩=some (int i64 (z:Int))):=fun v0 v1 v2 v3=>by
  have d:Kept [w.heap.size+1] W ((((W.setCell ⟨w.heap.size+1,0,none⟩ v0).setCell ⟨w.heap.size+1,1,none⟩ v1).setCell ⟨w.heap.size+1,2,none⟩ v2).setCell ⟨w.heap.size+1,3,none⟩ v3).drew:=(((((Kept.refl _ W).setCell (by simp) _).setCell (by simp) _).setCell (by simp) _).setCell (by simp) _).drew
  grind [E8]
 go_region_held3 (fun w'=>w'.cell? ⟨b,1,none⟩=some (int i64 (bg:Int))/\w'.cell? ⟨w.heap.size,0,none⟩=some (int i64 (a:Int))/\w'.cell? ⟨w.heap.size,1,none⟩=some (int i64 (z:Int))) (first | with_reducible exact f.out | with_reducible exact j.out | with_reducible exact l.out _ | with_reducible exact v.out _ _ _ _ _ | with_reducible exact y.out _ _ _ _ | with_reducible exact A.out _ _ _ _ | go_keep) (first | (go_at_call 70;refine(H _).mono ?_;rintro e w2 ⟨rfl,rfl⟩))
 go_wp2_with fail;have Z:At ((((W.setCell ⟨w.heap.size+1,0,none⟩ (int i64 (M:Int))).setCell ⟨w.heap.size+1,1,none⟩ (int i64 (a:Int))).setCell ⟨w.heap.size+1,2,none⟩ (.bool D)).setCell ⟨w.heap.size+1,3,none⟩ (string (t.extract a z))).drew (w.heap.size+1) 216 [int i64 (M:Int),int i64 (a:Int),.bool D,string (t.extract a z)]:=(((V.out.setCell (o:=0) (int i64 (M:Int))).setCell (o:=1) (int i64 (a:Int))).setCell (o:=2) (.bool D)).setCell (o:=3) (string (t.extract a z));have Y:Below w.heap.size w ((((W.setCell ⟨w.heap.size+1,0,none⟩ (int i64 (M:Int))).setCell ⟨w.heap.size+1,1,none⟩ (int i64 (a:Int))).setCell ⟨w.heap.size+1,2,none⟩ (.bool D)).setCell ⟨w.heap.size+1,3,none⟩ (string (t.extract a z))).drew:=by
  refine Kept.below (S:=[w.heap.size+1]) ((((((U.out.Fn (by simp)).setCell (by simp) _).setCell (by simp) _).setCell (by simp) _).setCell (by simp) _).drew) (Ac _) (by simp)
 refine Ah (BO (p:=6) (ty:=216) (by kernel_rfl) _ _ (w.heap.size+1) 216 _ (0,0) _ rfl Z underlying216 rfl (by kernel_rfl)) rfl ?_;exact⟨rfl,Y⟩
def OI:Value:=.agg #[int i64 0,int i64 0,.bool false,string {data:=#[]}]
theorem Ahy{size:Int}(h:size<1\/1500<size):
 Calls prog 107 #[.pointer (some p),int i64 size] w fun e w'=>e=.returned (.tuple #[OI,int i64 1])/\Below w.heap.size w w':=by
 have d:Below w.heap.size w (w.alloc (.cells #[int i64 0,int i64 0,.bool false,string {data:=#[]}] 216)):=(Ad _ w).alloc (Ac _) _
 by_cases f:size<1
 ·go_enter func107,ntmps107
  go_wp2_with fail
  (try simp only[Exit.inBlock,Exit.then])
  refine Ah (v:=.tuple #[OI,int i64 1]) ?_ rfl ⟨rfl,?_⟩
  ·rw[AD rfl];unfold OI
   go_simp
  ·exact d
 ·have g:1500<size:=by omega
  go_enter func107,ntmps107
  go_wp2_with fail
  (try simp only[Exit.inBlock,Exit.then])
  refine Ah (v:=.tuple #[OI,int i64 1]) ?_ rfl ⟨rfl,?_⟩
  ·rw[AD rfl];unfold OI
   go_simp
  ·exact d
def KF (x:UnP):Bool:=x.al.isEmpty
def YK (w:World)(b win bg:Nat)(ua:Option Addr)(c:Nat)(us us':List UnP)(i a z:Nat)(tx:ByteArray):Ending->World->Prop:=fun e w'=>e=.returned (.tuple #[LB ((bg+i) % 64) a (decide (z=tx.size)) (tx.extract a z),int i64 0])/\Kept (F0 b ua us) w w'/\∃v',PSnd w' b win bg ua c (us'.set i {us'.getD i .zero with av:=v'})/\(∀g,v'.ownBlock=some g->(us.getD i .zero).av.ownBlock=some g)
theorem Wn{w1 w2:World}{d:List UnP}{v0 v1 v2 v3:Value}(j:PSnd w1 b win bg ua c d)(n:Kept (F0 b ua us) w w1)(e:∀x∈F0 b ua d,x<w.heap.size)(l:Below w1.heap.size w1 w2):
 Kept (F0 b ua us) w ((((w2.setCell ⟨w.heap.size,0,none⟩ v0).setCell ⟨w.heap.size,1,none⟩ v1).setCell ⟨w.heap.size,2,none⟩ v2).setCell ⟨w.heap.size,3,none⟩ v3)/\PSnd ((((w2.setCell ⟨w.heap.size,0,none⟩ v0).setCell ⟨w.heap.size,1,none⟩ v1).setCell ⟨w.heap.size,2,none⟩ v2).setCell ⟨w.heap.size,3,none⟩ v3) b win bg ua c d:=by
 have g:Kept [] w1 w2:=Kept.E5 l;have h:Kept [w.heap.size] w2 ((((w2.setCell ⟨w.heap.size,0,none⟩ v0).setCell ⟨w.heap.size,1,none⟩ v1).setCell ⟨w.heap.size,2,none⟩ v2).setCell ⟨w.heap.size,3,none⟩ v3):=((((Kept.refl _ _).setCell (by simp) _).setCell (by simp) _).setCell (by simp) _).setCell (by simp) _;exact⟨GY (n.trans (g.Fn (by simp))) h (fun x f=> .inr (by simp at f;omega)),(j.kept g (by simp)).kept h (fun x f=>by have:=e x f;simp;omega)⟩
theorem Abs{p:Nat}(h:PSnd w b win bg ua c us)(ao:bg<64)(hl:us.length<=4000)(D:UsOk us)(h1:1<=size)(h2:size<=1500)(hi:i=GC KF us)(t:i<us.length)(n:(us.getD i .zero).al=(p,q)::r):
 Calls prog 107 #[.pointer (some ⟨b,0,none⟩),int i64 (size:Int)] w (YK w b win bg ua c us (us.set i {us.getD i .zero with al:=if q<=p+size then r else (p+size,q)::r}) i p (min q (p+size)) (us.getD i .zero).text):=by
 have O:Kept [] w (w.alloc (.cells #[int i64 0,int i64 0,.bool false,string {data:=#[]}] 216)):=(Kept.refl _ w).alloc _;have hA:=Fc w 216 [int i64 0,int i64 0,.bool false,string {data:=#[]}];have hP:=h.kept O (by simp);have aw:(w.alloc (.cells #[int i64 0,int i64 0,.bool false,string {data:=#[]}] 216)).heap.size=w.heap.size+1:=Ax _ _;have ac:=h.lt;obtain⟨-, -,c2⟩:=hP.head;have ae:∀j,j<i->(us.getD j .zero).al=[]:=fun j hj=>by
  grind [Kz,KF]
 have P:=D.srt i t;rw[n]at P;have ar:=P.head.1;have M:=D.inn i t;have hq:q<=(us.getD i .zero).sent:=by
  have:=M (q-1) (by rw[n];exact⟨(p,q),AL,by show p<=q-1;omega,by show q-1<q;omega⟩);omega
 have a5:=D.sent i t;have aj:=D.size i t;have au:r.length<=4000:=by
  have:=P.KX.few (e:=4000) (fun y hy=>by
   have hE:=TA (D.srt i t) (e:=(us.getD i .zero).sent) M;have:=hE y (by rw[n];exact AU _ hy)
   omega)
  exact this
 obtain⟨N,hN⟩:=E7 us.length;rw[<-hN]at c2 hl t;have HP:=hid hP;have ak:=hid ae;have HN:=hid hN;have HA:=hid hA;have V:=hid O;have E:=hid ac;have X:=hid aw;have HI:=hid hi;clear hP ae hN hA O ac D M h hi;obtain⟨m,em⟩:=E7 (min q (p+size));obtain⟨R,el⟩:=E7 ((if q<=p+size then r else (p+size,q)::r));rw[<-em,<-el];have EM:=hid em;have EL:=hid el;clear em el;generalize hQ:YK w b win bg ua c us (us.set i {us.getD i .zero with al:=R}) i p m (us.getD i .zero).text=Post;have HQ:=hid hQ;clear hQ;go_enter func107,ntmps107;have a3:¬((size:Int)<1):=by omega
 have a4:¬(1500<(size:Int)):=by omega
 go_wp2_with fail
 go_loopw [23] (fun vi wr=>∃k:Nat,k<=i/\vi=int i64 k/\Hid (wr=w.alloc (.cells #[int i64 0,int i64 0,.bool false,string {data:=#[]}] 216))) (fun vi _=>N-(intOf vi).toNat)
 case atStart=>exact⟨0,by omega,rfl,hid rfl⟩
 case round=>
  obtain⟨k,hk,rfl,Q⟩:=hrel;have HW:=Q;have Q:=Q.out;rw[<-Q]at c2;rw[<-Q]at HP HA V X;obtain⟨C,ax,a2,l⟩:=HP.out.un (i:=k) (by rw[<-HN.out];omega);subst ax;clear Q
  by_cases aq:k<i
  ·have c3:=l.c2;obtain⟨ad,cc,d, -, -, -⟩:=l.ag.FC;rw[ak.out k aq]at d;rw[d]at c3;clear l d
   go_wp2_with fail;exact⟨⟨k+1,by omega,by go_num,HW⟩,by simp[intOf];omega⟩
  ·obtain rfl:k=i:=by omega
   obtain⟨ad,cc,d, -, -,Y⟩:=l.ag.FC;have G:=l.ag;rw[n]at G;rw[d,n]at G;obtain⟨ga,am, -, -⟩:=G.at (i:=0) (by simp);subst am;have c3:=l.c2;rw[d,n]at c3;have ap:ga≠C:=l.sep ga (by rw[d];rfl);have hcut:=AhB (w:=wr) (b:=C) (o:=k*4+2) (size:=size) c3 (l.fr _) G ap au ar (by omega) h1 (by omega);rw[<-EM.out,<-EL.out]at hcut;have A:k<us.length:=by rw[<-HN.out];exact t
   have J:∀w1 v',PtrPost wr w1 C (k*4+2) [ga] v'->OwnSp w1 v' R->v'.ownBlock=some ga->PSnd w1 b win bg (some ⟨C,0,none⟩) c (us.set k {us.getD k .zero with av:=v',al:=R})/\Kept (F0 b (some ⟨C,0,none⟩) us) w w1/\w.heap.size<w1.heap.size/\At w1 w.heap.size 216 [int i64 0,int i64 0,.bool false,string {data:=#[]}]:=fun w1 v' T p2 p3=>by
    have a0:ga∈F0 b (some ⟨C,0,none⟩) us:=Jy A (by rw[d];rfl);have a1:C∈F0 b (some ⟨C,0,none⟩) us:=IK (y:=⟨C,0,none⟩) rfl;have hS:∀x∈C::[ga],x∈F0 b (some ⟨C,0,none⟩) us:=by grind
    refine⟨HP.out.upd A (f:=2) (by omega) T (fun s P=>by simp at P;subst P;rw[d];rfl) rfl p2 (fun g' aa=> .inl (by rw[p3]at aa;cases aa;rw[d];rfl)),?_,?_,?_⟩
    ·exact GY (V.out.Fn (by simp)) T.kept (fun x hx=> .inl (hS x hx))
    ·have:=T.kept.size;have:=X.out;omega
    ·exact HA.out.kept T.kept (fun hx=>by have:=E.out _ (hS _ hx);omega)
   have af:∀w1 v',PSnd w1 b win bg (some ⟨C,0,none⟩) c (us.set k {us.getD k .zero with av:=v',al:=R})->Calls prog 154 #[.pointer (some ⟨b,0,none⟩),int i64 (k:Int),.agg #[int i64 (p:Int),int i64 (m:Int)]] w1 fun e w'=>e=.returned (LB ((bg+k) % 64) p (decide (m=(us.getD k .zero).text.size)) ((us.getD k .zero).text.extract p m))/\Below w1.heap.size w1 w':=fun w1 v' az=>by
    have:=Wm (i:=k) (a:=p) (z:=m) az (by rw[An];exact A) (by omega) ao (by rw[EM.out];omega) (by rw[FL A,EM.out];grind) (by rw[FL A];exact aj);rw[FL A]at this;exact this
   have U:=hid J;have W:=hid af;have H:Hid (∀w2 v',Kept (F0 b (some ⟨C,0,none⟩) us) w w2->PSnd w2 b win bg (some ⟨C,0,none⟩) c (us.set k {us.getD k .zero with av:=v',al:=R})->v'.ownBlock=some ga->Post (.returned (.tuple #[LB ((bg+k) % 64) p (decide (m=(us.getD k .zero).text.size)) ((us.getD k .zero).text.extract p m),int i64 0])) w2):=hid fun w2 v' q1 q2 q3=>by
    rw[<-HQ.out];refine⟨rfl,q1,v',?_,fun g hg=>by rw[q3]at hg;cases hg;rw[d];rfl⟩;rw[FL A,B9];exact q2
   have I:Hid (∀v',v'.ownBlock=some ga->∀x∈F0 b (some ⟨C,0,none⟩) (us.set k {us.getD k .zero with av:=v',al:=R}),x<w.heap.size):=hid fun v' ay x hx=>by
    rcases J4 hx with rfl | ⟨y,hy,rfl⟩ | ⟨j,hj,e⟩
    ·exact E.out _ (KU _ _ _)
    ·exact E.out _ (IK hy)
    ·rw[An]at hj
     by_cases ab:j=k
     ·subst ab;rw[FL hj]at e;have e':v'.ownBlock=some x:=e;rw[ay]at e'
      cases e';exact E.out _ (Jy hj (by rw[d];rfl))
     ·rw[GH (fun e'=>ab e'.symm)]at e;exact E.out _ (Jy hj e)
   generalize ah:LB ((bg+k) % 64) p (decide (m=(us.getD k .zero).text.size)) ((us.getD k .zero).text.extract p m)=PV at*;have ai:∃v0 v1 v2 v3,PV=.agg #[int i64 v0,int i64 v1,.bool v2,string v3]:=⟨_,_,_,_,ah.symm⟩;obtain⟨v0,v1,v2,v3,an⟩:=ai;subst an;clear ah J af d G l n Y P
   go_wp2_with(first
    | (go_at_call 155;refine hcut.mono ?_;rintro e w1 ⟨v',rfl,T,p2,p3⟩;obtain⟨t1,t2,t3,t4⟩:=U.out _ _ T p2 p3;have K:=W.out _ _ t1)
    | (go_at_call 154;refine K.mono ?_;rintro e w2 ⟨rfl,Z⟩;have L:=t4.kept (S:=[]) (Kept.E5 Z) (by simp);have y0:w2.cell? ⟨w.heap.size,0,none⟩=some (int i64 0):=L.cell 0;have y1:w2.cell? ⟨w.heap.size,1,none⟩=some (int i64 0):=L.cell 1;have y2:w2.cell? ⟨w.heap.size,2,none⟩=some (.bool false):=L.cell 2;have y3:w2.cell? ⟨w.heap.size,3,none⟩=some (string {data:=#[]}):=L.cell 3;have z0:=L.free 0;have z1:=L.free 1;have z2:=L.free 2;have z3:=L.free 3))
   obtain⟨e1,e2⟩:=Wn (v0:=int i64 v0) (v1:=int i64 v1) (v2:=.bool v2) (v3:=string v3) t1 t2 (I.out v' p3) Z
   (try simp only[Exit.inBlock,Exit.then])
   refine Ah (v:=.tuple #[.agg #[int i64 v0,int i64 v1,.bool v2,string v3],int i64 0]) ?_ rfl (H.out _ v' e1 e2 p3);rw[AD rfl];clear e1 e2 t1 t2 K H I W U HP hcut
   go_simp
def Lw (x:UnP):Bool:=!x.dn && decide (x.sent<x.text.size)
def YL (w:World)(b win bg:Nat)(ua:Option Addr)(c:Nat)(us:List UnP)(i a z:Nat)(tx:ByteArray):Ending->World->Prop:=fun e w'=>e=.returned (.tuple #[LB ((bg+i) % 64) a (decide (z=tx.size)) (tx.extract a z),int i64 0])/\Kept (F0 b ua us) w w'/\PSnd w' b win bg ua c (us.set i {us.getD i .zero with sent:=z})
theorem Ahz(h:PSnd w b win bg ua c us)(a9:bg<64)(hl:us.length<=4000)(Y:UsOk us)(h1:1<=size)(h2:size<=1500)(a4:win<=32)(ap:∀j,j<us.length->(us.getD j .zero).al=[])(ba:i<min win us.length)(aq:∀j,j<i->Lw (us.getD j .zero)=false)(J:Lw (us.getD i .zero)=true):
 Calls prog 107 #[.pointer (some ⟨b,0,none⟩),int i64 (size:Int)] w (YL w b win bg ua c us i (us.getD i .zero).sent (min ((us.getD i .zero).sent+size) (us.getD i .zero).text.size) (us.getD i .zero).text):=by
 have W:Kept [] w (w.alloc (.cells #[int i64 0,int i64 0,.bool false,string {data:=#[]}] 216)):=(Kept.refl _ w).alloc _;have hA:=Fc w 216 [int i64 0,int i64 0,.bool false,string {data:=#[]}];have hP:=h.kept W (by simp);have Z:(w.alloc (.cells #[int i64 0,int i64 0,.bool false,string {data:=#[]}] 216)).heap.size=w.heap.size+1:=Ax _ _;have G:=h.lt;obtain⟨c0, -,c2⟩:=hP.head;have am:i<us.length:=by omega
 obtain⟨bo,bp⟩:(us.getD i .zero).dn=false/\(us.getD i .zero).sent<(us.getD i .zero).text.size:=by
  grind [Lw]
 have bi:=Y.size i am;obtain⟨z,ez⟩:=E7 (min ((us.getD i .zero).sent+size) (us.getD i .zero).text.size);rw[<-ez];generalize hQ:YL w b win bg ua c us i (us.getD i .zero).sent z (us.getD i .zero).text=Post;obtain⟨N,hN⟩:=E7 us.length;obtain⟨M,hM⟩:=E7 (min win us.length);rw[<-hN]at c2 hl am;rw[<-hM]at ba;have mM:(if N<win then (N:Int) else (win:Int))=(M:Int):=by rw[hM,<-hN];split<;>omega
 have br:(if (N:Int)<(win:Int) then (N:Int) else (win:Int))=(M:Int):=by rw[hM,<-hN];split<;>omega
 have HP:=hid hP;have a0:=hid ap;have L:=hid hN;have HA:=hid hA;have ac:=hid W;have t:=hid G;have a3:=hid Z;have a1:=hid aq;have ah:=hid J;have HQ:=hid hQ;have EZ:=hid ez;have O:=hid Y;clear hP ap hN hA W G Y h hQ ez hM aq J;have bm:¬((size:Int)<1):=by omega
 have bn:¬(1500<(size:Int)):=by omega
 go_enter func107,ntmps107
 go_wp2_with fail
 go_loopw [23] (fun vi wr=>∃k:Nat,k<=N/\vi=int i64 k/\Hid (wr=w.alloc (.cells #[int i64 0,int i64 0,.bool false,string {data:=#[]}] 216))) (fun vi _=>N-(intOf vi).toNat)
 case atStart=>exact⟨0,by omega,rfl,hid rfl⟩
 case round=>
  obtain⟨k,hk,rfl,hw⟩:=hrel;have HW:=hw;have hw:=hw.out;rw[<-hw]at c0 c2 Z;rw[<-hw]at HP HA ac a3;clear hw
  by_cases bc:k<N
  ·obtain⟨d,aa,ax,g⟩:=HP.out.un (i:=k) (by rw[<-L.out];omega);subst aa;have c3:=g.c2;obtain⟨ad,cc,Q, -, -, -⟩:=g.ag.FC;rw[a0.out k (by rw[<-L.out];exact bc)]at Q;rw[Q]at c3;clear g Q
   go_wp2_with fail;exact⟨⟨k+1,by omega,by go_num,HW⟩,by simp[intOf];omega⟩
  ·skip
   go_upto_region 10 with fail
   go_quiet (fail)
   go_wp2_with fail
   go_loopw [57] (fun vi w5=>∃k:Nat,k<=i/\vi=int i64 k/\∃n,w5=wr.drewN n) (fun vi _=>N-(intOf vi).toNat)
   case atStart=>exact⟨0,by omega,rfl,_,rfl⟩
   case round=>
    obtain⟨k,hk,rfl,n,rfl⟩:=hrel;have bd:k<N:=by omega
    have E:PSnd (wr.drewN n) b win bg ua c us:=HP.out.kept ((Kept.refl [] _).drewN n) (by simp);obtain⟨d,aa,ax,g⟩:=E.un (i:=k) (by rw[<-L.out];omega);subst aa;have l:=Aam g (by have:=O.out.size k (by rw[<-L.out];omega);omega) (by have:=O.out.sent k (by rw[<-L.out];omega);have:=O.out.size k (by rw[<-L.out];omega);omega);have d2:(wr.drewN n).cell? ⟨b,2,none⟩=some (slice (some ⟨d,0,none⟩) N c):=c2
    by_cases G:k<i
    ·have U:=a1.out k G;unfold Lw at U;rw[U]at l;have bb:k<M:=by omega
     clear g E U
     go_wp2_with(go_at_call 156;refine l.mono ?_;rintro e w6 ⟨rfl,n2,ab⟩;rw[ab,El]);exact⟨⟨k+1,by omega,by go_num,_,rfl⟩,by simp[intOf];omega⟩
    ·obtain rfl:k=i:=by omega
     have U:=ah.out;unfold Lw at U;rw[U]at l;have u0:=g.c0;have u1:=g.c1;have uf:=g.fr (k*4+1);have bb:k<M:=by omega
     have bl:=hid g;have bk:=hid E;clear U g E;have be:∀q,(wr.drewN q).cell? ⟨d,k*4,none⟩=some (string (us.getD k .zero).text):=fun q=>u0
     have bf:∀q,(wr.drewN q).cell? ⟨d,k*4+1,none⟩=some (int i64 ((us.getD k .zero).sent:Int)):=fun q=>u1
     have X:∀q,Kept [] (wr.drewN n) ((wr.drewN q).alloc (.cells #[int i64 0,int i64 0] 146)):=fun q=>⟨rfl,rfl,rfl,by simp,fun j hj _=>Bc (wr.drewN q) _ j hj⟩
     have a5:∀q,((wr.drewN q).alloc (.cells #[int i64 0,int i64 0] 146)).cell? ⟨d,k*4,none⟩=some (string (us.getD k .zero).text):=fun q=>E8 (X q) u0 (by simp)
     have a6:∀q,((wr.drewN q).alloc (.cells #[int i64 0,int i64 0] 146)).cell? ⟨d,k*4+1,none⟩=some (int i64 ((us.getD k .zero).sent:Int)):=fun q=>E8 (X q) u1 (by simp)
     have bh:∀q,(wr.drewN q).frozen? ⟨d,k*4+1,none⟩=false:=fun q=>uf
     generalize av:(us.getD k .zero).sent=st at*;generalize aw:(us.getD k .zero).text=tx at*;have a2:=hid av;have P:=hid aw;clear av aw u0 u1 uf X;have bs:(if (tx.size:Int)<(st:Int)+(size:Int) then (tx.size:Int) else (st:Int)+(size:Int))=(z:Int):=by rw[EZ.out];split<;>omega
     have bq:IntKind.i64.wrap ((st:Int)+(size:Int))=(st:Int)+(size:Int):=by rw[AO];omega
     go_upto_region 15 with(go_at_call 156;refine l.mono ?_;rintro e w6 ⟨rfl,n2,ab⟩;rw[ab,El])
     go_region;have f1:Kept [] wr ((wr.drewN (n+n2+1)).alloc (.cells #[int i64 (st:Int),int i64 (z:Int)] 146)):=((Kept.refl _ wr).drewN _).alloc _;have f2:At ((wr.drewN (n+n2+1)).alloc (.cells #[int i64 (st:Int),int i64 (z:Int)] 146)) (w.heap.size+1) 146 [int i64 (st:Int),int i64 (z:Int)]:=by
      rw[<-Z];exact Fc (wr.drewN (n+n2+1)) _ _
     generalize ((wr.drewN (n+n2+1)).alloc (.cells #[int i64 (st:Int),int i64 (z:Int)] 146))=D at*;have o:k<us.length:=by rw[<-L.out];exact bd
     have R:PSnd D b win bg (some ⟨d,0,none⟩) c us:=HP.out.kept f1 (by simp);have ai:=HA.out.kept f1 (by simp);obtain⟨bt,a8, -,C⟩:=R.un o
     cases a8;have v1:=C.c1;have vf:=C.fr (k*4+1);rw[a2.out]at v1;have x0:D.cell? ⟨w.heap.size+1,0,none⟩=some (int i64 (st:Int)):=f2.cell 0;have x1:D.cell? ⟨w.heap.size+1,1,none⟩=some (int i64 (z:Int)):=f2.cell 1;have bj:d<w.heap.size:=t.out _ (IK (y:=⟨d,0,none⟩) rfl);have T:PSnd (D.setCell ⟨d,k*4+1,none⟩ (int i64 (z:Int))) b win bg (some ⟨d,0,none⟩) c (us.set k {us.getD k .zero with sent:=z}):=R.upd o (f:=1) (by omega) (PtrPost.store (Kept.refl [] D) (by simp)) (by simp) rfl (C.ag.kept (FT _ _ _ _) (fun g' V=>by simpa using C.sep g' V)) (fun g' V=> .inl V);have ao:Kept (F0 b (some ⟨d,0,none⟩) us) w (D.setCell ⟨d,k*4+1,none⟩ (int i64 (z:Int))):=Kept.setCell (p:=⟨d,k*4+1,none⟩) ((ac.out.trans f1).Fn (by simp)) (IK (y:=⟨d,0,none⟩) rfl) _;have aj:=ai.MU ⟨d,k*4+1,none⟩ (int i64 (z:Int)) (by show w.heap.size≠d;omega);have A:=Wm (i:=k) (a:=st) (z:=z) T (by rw[An];exact o) (by omega) a9 (by rw[EZ.out];omega) (by rw[FL o];show z<=(us.getD k .zero).text.size;rw[P.out,EZ.out];omega) (by rw[FL o];show(us.getD k .zero).text.size<=1500;rw[P.out];omega);rw[FL o]at A;have A:Calls prog 154 #[.pointer (some ⟨b,0,none⟩),int i64 (k:Int),.agg #[int i64 (st:Int),int i64 (z:Int)]] (D.setCell ⟨d,k*4+1,none⟩ (int i64 (z:Int))) fun e w'=>e=.returned (LB ((bg+k) % 64) st (decide (z=tx.size)) (tx.extract st z))/\Below (D.setCell ⟨d,k*4+1,none⟩ (int i64 (z:Int))).heap.size (D.setCell ⟨d,k*4+1,none⟩ (int i64 (z:Int))) w':=by
      have:=A;dsimp only at this;rw[P.out]at this;exact this
     have H:Hid (∀w2,Kept (F0 b (some ⟨d,0,none⟩) us) w w2->PSnd w2 b win bg (some ⟨d,0,none⟩) c (us.set k {us.getD k .zero with sent:=z})->Post (.returned (.tuple #[LB ((bg+k) % 64) st (decide (z=tx.size)) (tx.extract st z),int i64 0])) w2):=hid fun w2 q1 q2=>by
      rw[<-HQ.out];exact⟨rfl,q1,q2⟩
     have I:Hid (∀x∈F0 b (some ⟨d,0,none⟩) (us.set k {us.getD k .zero with sent:=z}),x<w.heap.size):=hid fun x hx=>by
      rcases J4 hx with rfl | ⟨y,hy,rfl⟩ | ⟨j,hj,e⟩
      ·exact t.out _ (KU _ _ _)
      ·exact t.out _ (IK hy)
      ·rw[An]at hj
       by_cases an:j=k
       ·subst an;rw[FL hj]at e;exact t.out _ (Jy hj e)
       ·rw[GH (fun e'=>an e'.symm)]at e;exact t.out _ (Jy hj e)
     have af:=hid T;have ae:=hid ao;have az:=hid aj;generalize ar:LB ((bg+k) % 64) st (decide (z=tx.size)) (tx.extract st z)=PV at*;have au:∃v0 v1 v2 v3,PV=.agg #[int i64 v0,int i64 v1,.bool v2,string v3]:=⟨_,_,_,_,ar.symm⟩;obtain⟨v0,ay,v2,v3,a7⟩:=au;subst a7;clear ar f1 f2 R ai C T ao aj be bf bh a5 a6 l
     go_wp2_with(go_at_call 154;refine A.mono ?_;rintro e w2 ⟨rfl,ak⟩;have K:=az.out.kept (S:=[]) (Kept.E5 ak) (by simp);have y0:w2.cell? ⟨w.heap.size,0,none⟩=some (int i64 0):=K.cell 0;have y1:w2.cell? ⟨w.heap.size,1,none⟩=some (int i64 0):=K.cell 1;have y2:w2.cell? ⟨w.heap.size,2,none⟩=some (.bool false):=K.cell 2;have y3:w2.cell? ⟨w.heap.size,3,none⟩=some (string {data:=#[]}):=K.cell 3;have z0:=K.free 0;have z1:=K.free 1;have z2:=K.free 2;have z3:=K.free 3);obtain⟨e1,e2⟩:=Wn (v0:=int i64 v0) (v1:=int i64 ay) (v2:=.bool v2) (v3:=string v3) af.out ae.out I.out ak
     (try simp only[Exit.inBlock,Exit.then])
     refine Ah (v:=.tuple #[.agg #[int i64 v0,int i64 ay,.bool v2,string v3],int i64 0]) ?_ rfl (H.out _ e1 e2);rw[AD rfl];clear e1 e2 H I af ae A HP
     go_simp
theorem AdP(h:PSnd w b win bg ua c us)(hl:us.length<=4000)(K:UsOk us)(h1:1<=size)(h2:size<=1500)(J:∀j,j<us.length->(us.getD j .zero).al=[])(y:∀j,j<min win us.length->Lw (us.getD j .zero)=false):
 Calls prog 107 #[.pointer (some ⟨b,0,none⟩),int i64 (size:Int)] w fun e w'=>e=.returned (.tuple #[OI,int i64 6])/\Below w.heap.size w w':=by
 have I:Kept [] w (w.alloc (.cells #[int i64 0,int i64 0,.bool false,string {data:=#[]}] 216)):=(Kept.refl _ w).alloc _;have Y:=Fc w 216 [int i64 0,int i64 0,.bool false,string {data:=#[]}];have T:=h.kept I (by simp);have E:Below w.heap.size w (w.alloc (.cells #[int i64 0,int i64 0,.bool false,string {data:=#[]}] 216)):=(Ad _ w).alloc (Ac _) _;obtain⟨c0, -,c2⟩:=T.head;obtain⟨N,G⟩:=E7 us.length;obtain⟨M,O⟩:=E7 (min win us.length);rw[<-G]at c2 hl;rw[<-O]at y;have aa:M<=N:=by omega
 have mM:(if N<win then (N:Int) else (win:Int))=(M:Int):=by rw[O,<-G];split<;>omega
 have af:(if (N:Int)<(win:Int) then (N:Int) else (win:Int))=(M:Int):=by rw[O,<-G];split<;>omega
 have S:=hid T;have Q:=hid J;have C:=hid G;have f:=hid Y;have l:=hid E;have R:=hid y;have o:=hid K;clear T J G Y I K h O y E;have ab:¬((size:Int)<1):=by omega
 have ac:¬(1500<(size:Int)):=by omega
 go_enter func107,ntmps107
 go_wp2_with fail
 go_loopw [23] (fun A wr=>∃k:Nat,k<=N/\A=int i64 k/\Hid (wr=w.alloc (.cells #[int i64 0,int i64 0,.bool false,string {data:=#[]}] 216))) (fun A _=>N-(intOf A).toNat)
 case atStart=>exact⟨0,by omega,rfl,hid rfl⟩
 case round=>
  obtain⟨k,hk,rfl,D⟩:=hrel;have HW:=D;have D:=D.out;rw[<-D]at c0 c2;rw[<-D]at S f l;clear D
  by_cases V:k<N
  ·obtain⟨Z,z,L,d⟩:=S.out.un (i:=k) (by rw[<-C.out];omega);subst z;have c3:=d.c2;obtain⟨ad,cc,t, -, -, -⟩:=d.ag.FC;rw[Q.out k (by rw[<-C.out];exact V)]at t;rw[t]at c3;clear d t
   go_wp2_with fail;exact⟨⟨k+1,by omega,by go_num,HW⟩,by simp[intOf];omega⟩
  ·go_upto_region 10 with fail
   go_quiet (fail)
   go_wp2_with fail
   go_loopw [57] (fun A w5=>∃k:Nat,k<=M/\A=int i64 k/\∃n,w5=wr.drewN n) (fun A _=>N-(intOf A).toNat)
   case atStart=>exact⟨0,by omega,rfl,_,rfl⟩
   case round=>
    obtain⟨k,hk,rfl,n,rfl⟩:=hrel
    by_cases W:k<M
    ·have ae:k<N:=by omega
     have H:PSnd (wr.drewN n) b win bg ua c us:=S.out.kept ((Kept.refl [] _).drewN n) (by simp);obtain⟨Z,z,L,d⟩:=H.un (i:=k) (by rw[<-C.out];omega);subst z;have g:=Aam d (by have:=o.out.size k (by rw[<-C.out];omega);omega) (by have:=o.out.sent k (by rw[<-C.out];omega);have:=o.out.size k (by rw[<-C.out];omega);omega);have d2:(wr.drewN n).cell? ⟨b,2,none⟩=some (slice (some ⟨Z,0,none⟩) N c):=c2;have U:=R.out k W;unfold Lw at U;rw[U]at g;clear d H U
     go_wp2_with(go_at_call 156;refine g.mono ?_;rintro e w6 ⟨rfl,n2,X⟩;rw[X,El]);exact⟨⟨k+1,by omega,by go_num,_,rfl⟩,by simp[intOf];omega⟩
    ·have y0:(wr.drewN n).cell? ⟨w.heap.size,0,none⟩=some (int i64 0):=f.out.cell 0;have y1:(wr.drewN n).cell? ⟨w.heap.size,1,none⟩=some (int i64 0):=f.out.cell 1;have y2:(wr.drewN n).cell? ⟨w.heap.size,2,none⟩=some (.bool false):=f.out.cell 2;have y3:(wr.drewN n).cell? ⟨w.heap.size,3,none⟩=some (string {data:=#[]}):=f.out.cell 3;have z0:(wr.drewN n).frozen? ⟨w.heap.size,0,none⟩=false:=f.out.free 0;have z1:(wr.drewN n).frozen? ⟨w.heap.size,1,none⟩=false:=f.out.free 1;have z2:(wr.drewN n).frozen? ⟨w.heap.size,2,none⟩=false:=f.out.free 2;have z3:(wr.drewN n).frozen? ⟨w.heap.size,3,none⟩=false:=f.out.free 3;have P:=hid (JO l.out n);clear l f
     go_wp2_with fail
     (try simp only[Exit.inBlock,Exit.then])
     refine Ah (v:=.tuple #[OI,int i64 6]) ?_ rfl ⟨rfl,?_⟩
     ·rw[AD rfl];unfold OI
      go_simp
     ·exact(((P.out.setCell (Ac _) _).setCell (Ac _) _).setCell (Ac _) _).setCell (Ac _) _
def Il (us:List UnP)(s:ByteArray):Int:=if s.size=0 then 1 else if 1500<s.size then 2 else if 64<=GF us then 7 else 0
theorem AdV(h:PSnd w b win bg ua c us)(y:us.length<=1000000)(t:s.size<=maxLen)(o:Il us s≠0):
 Calls prog 132 #[.pointer (some ⟨b,0,none⟩),string s] w fun e w'=>e=.returned (int i64 (Il us s))/\w'=w:=by
 have j:=OG h (by omega);have v:s.size<=9223372036854775807:=by unfold maxLen at t;omega
 clear h
 by_cases d:s.size=0
 ·have f:=hid (show Il us s=1 by unfold Il;rw[Ab d]);have g:s.toList.isEmpty=true:=by
   rw[Cc];have:s.data.toList.length=0:=by rw[AH];exact d
   grind
  generalize Il us s=V at*;go_enter func132,ntmps132
  go_wp2_with fail;go_ret;exact⟨by rw[f.out];rfl,rfl⟩
 ·have g:s.toList.isEmpty=false:=Ty d
  by_cases l:1500<s.size
  ·have f:=hid (show Il us s=2 by unfold Il;rw[Aa d,Ab l]);generalize Il us s=V at*;go_enter func132,ntmps132
   go_wp2_with fail;go_ret;exact⟨by rw[f.out];rfl,rfl⟩
  ·by_cases n:64<=GF us
   ·have f:=hid (show Il us s=7 by unfold Il;rw[Aa d,Aa l,Ab n]);generalize Il us s=V at*;generalize GF us=q at*;go_enter func132,ntmps132
    go_wp2_with(go_at_call 58;refine j.mono ?_;rintro e w1 ⟨rfl,rfl⟩);go_ret;exact⟨by rw[f.out];rfl,rfl⟩
   ·exact absurd (show Il us s=0 by unfold Il;rw[Aa d,Aa l,Aa n]) o
structure UnR(m:OutM)(u:Nat)(x:UnP):Prop where
 tx:x.text=m.t u
 dn:x.dn=m.done u
 lo:0<x.text.size
 hi:x.text.size<=1500
 sn:x.sent<=x.text.size
 mks:∀t,t<x.text.size->(m.mark u t=0↔x.sent<=t)/\m.mark u t<=2
 srt:Srt x.al
 ag:∀t,inS x.al t↔t<x.text.size/\m.mark u t=2
 dal:x.dn=true->x.al=[]
structure SndM(m:OutM)(us:List UnP):Prop where
 w1:1<=m.win
 w2:m.win<=32
 bn:m.beg<=m.n
 len:us.length=m.n-m.beg
 un:∀i,i<us.length->UnR m (m.beg+i) (us.getD i .zero)
 old:∀u,u<m.beg->m.done u=true
 fresh:∀u,m.n<=u->m.done u=false/\∀t,m.mark u t=0
 pre:∀i,i<us.length->0<(us.getD i .zero).sent->i<m.win/\∀j,j<i->0<(us.getD j .zero).sent
 dsn:∀i,i<us.length->(us.getD i .zero).dn=true->0<(us.getD i .zero).sent
 few:GF us<=64
def Snd (w:World)(p:Addr)(F:List Nat)(m:OutM):Prop:=∃b ua c us,p=⟨b,0,none⟩/\F=F0 b ua us/\PSnd w b m.win (m.beg % 64) ua c us/\SndM m us
theorem SndM.AkK(h:SndM m us):UsOk us:=
 ⟨fun i hi=>(h.un i hi).srt,fun i hi=>(h.un i hi).sn,fun i hi=>(h.un i hi).hi,fun i hi t ht=>by
  have e:=h.un i hi;have f:=(e.ag t).1 ht
  rcases AS t (us.getD i .zero).sent with d | d
  ·exact d
  ·have:=(e.mks t f.1).1.2 d
   omega⟩
theorem Aef(us:List UnP):∀k,(∀i,i<us.length->k<=i->(us.getD i .zero).dn=false)->us.length<=GF us+k:=by
 induction us with
 | nil=>intro k _;simp
 | cons x us ih=>
  intro k d
  cases k with
  | zero=>
   have f:x.dn=false:=d 0 (by simp) (by omega);have:=ih 0 (fun i hi _=>d (i+1) (by simp;omega) (by omega))
   grind [GF]
  | succ k=>
   have:=ih k (fun i hi e=>d (i+1) (by simp;omega) (by omega))
   grind [GF]
theorem SndM.short(h:SndM m us):us.length<=96:=by
 have:=Aef us 32 (fun i hi d=>by
  cases hd:(us.getD i .zero).dn with
  | false=>rfl
  | true=>
   have:=(h.pre i hi (h.dsn i hi hd)).1;have:=h.w2
   omega)
 have:=h.few;omega
theorem R9(d:Nat->Bool):∀(k n:Nat),(∀u,u<k->d u=true)->((List.range (k+n)).filter fun u=>!d u).length=((List.range n).filter fun i=>!d (k+i)).length
 | k,0,h=>by
  simp only[Bh,List.range_zero,List.filter_nil,Bs];rw[DN,Dm]
  grind
 | k,n+1,h=>by
  have e:=R9 d k n h;rw[<-BZ,Az,Az,BS,BS,Ai,Ai,e]
  grind
theorem KO(us:List UnP):GF us=((List.range us.length).filter fun i=>!(us.getD i .zero).dn).length:=by
 have key:∀k,k<=us.length->GF (us.take k)=((List.range k).filter fun i=>!(us.getD i .zero).dn).length:=by
  intro k
  induction k with
  | zero=>intro _;rfl
  | succ k ih=>
   intro d;rw[AmU (by omega),NB,ih (by omega),Az,BS,Ai]
   grind
 grind
theorem SndM.wait{m:OutM}{us:List UnP}(h:SndM m us):m.wait=GF us:=by
 unfold OutM.wait;have e:m.n=m.beg+us.length:=by have:=h.len;have:=h.bn;omega
 rw[e,R9 m.done m.beg us.length h.old,KO]
 congr 1
 refine List.filter_congr fun i hi=>?_
 rw[(h.un i (Bv.1 hi)).dn]
theorem SndM.new(d:1<=k)(e:k<=32):SndM (OutM.new k) []:=by
 refine⟨d,e,Ac _,rfl,?_,?_,?_,?_,?_,?_⟩
 ·intro i hi;simp at hi
 ·intro u f;exact absurd f (CG _)
 ·intro u _;exact⟨rfl,fun _=>rfl⟩
 ·intro i hi;simp at hi
 ·intro i hi;simp at hi
 ·simp[GF]
theorem AnZ(h:u<m.n):({m with text:=m.text++[s]}:OutM).t u=m.t u:=by grind [OutM.t,OutM.n]
theorem An0:({m with text:=m.text++[s]}:OutM).t m.n=s:=by grind [OutM.t,OutM.n]
theorem SndM.app(h:SndM m us)(v:0<s.size)(y:s.size<=1500)(z:GF us<64):SndM {m with text:=m.text++[s]} (us++[KM s]):=by
 have o:({m with text:=m.text++[s]}:OutM).n=m.n+1:=by unfold OutM.n;simp
 have g:=h.bn;have l:=h.len;refine⟨h.w1,h.w2,by rw[o];exact Nat.le_succ_of_le g,?_,fun i hi=>?_,h.old,fun u d=>?_,fun i hi f=>?_,fun i hi hd=>?_,?_⟩
 ·grind
 ·rw[Ai]at hi;have hi:i<us.length+1:=hi
  show UnR _ (m.beg+i) _
  by_cases e:i=us.length
  ·subst e;rw[JE,show m.beg+us.length=m.n by omega];have j:=h.fresh m.n (Ac _);refine⟨An0.symm,j.1.symm,v,y,Af _,fun t _=>?_,Srt.nil,fun t=>?_,fun hd=>rfl⟩
   ·show(m.mark m.n t=0↔0<=t)/\m.mark m.n t<=2
    grind
   ·show inS [] t↔_/\m.mark m.n t=2;rw[j.2 t];exact⟨fun h=>absurd h (GT t),fun h=>by have:=h.2;omega⟩
  ·rw[Kl (by omega)];have d:=h.un i (by omega);exact⟨by rw[AnZ (by omega)];exact d.tx,d.dn,d.lo,d.hi,d.sn,d.mks,d.srt,d.ag,d.dal⟩
 ·rw[o]at d;exact h.fresh u (by omega)
 ·rw[Ai]at hi;have hi:i<us.length+1:=hi
  by_cases e:i=us.length
  ·subst e;rw[JE]at f;exact absurd f (Bp _)
  ·rw[Kl (by omega)]at f;obtain⟨A,C⟩:=h.pre i (by omega) f
   grind
 ·rw[Ai]at hi;have hi:i<us.length+1:=hi
  by_cases e:i=us.length
  ·subst e;rw[JE]at hd
   cases hd
  ·rw[Kl (by omega)]at hd |-;exact h.dsn i (by omega) hd
 ·rw[NB]
  show GF us+1<=64;omega
theorem AnU(h:Snd w p F m):∀x∈F,x<w.heap.size:=by
 obtain⟨b,ua,c,us,rfl,rfl,d, -⟩:=h;exact d.lt
theorem Akq{w':World}{T:List Nat}(h:Snd w p F m)(f:Kept T w w')(hd:∀x∈F,x∉T):Snd w' p F m:=by
 obtain⟨b,ua,c,us,rfl,rfl,d,e⟩:=h;exact⟨b,ua,c,us,rfl,rfl,d.kept f hd,e⟩
theorem Amj(k:Int)(w:World)(f:1<=k)(g:k<=32):Calls prog 126 #[int i64 k] w fun e w'=>∃p F,e=.returned (.tuple #[.pointer (some p),int i64 0])/\Snd w' p F (OutM.new k.toNat)/\(∀x∈F,w.heap.size<=x)/\Below w.heap.size w w':=by
 obtain⟨n,rfl⟩:∃n:Nat,k=(n:Int):=⟨k.toNat,by omega⟩;refine(T7 w (k:=n) (by omega) (by omega)).mono ?_;rintro e w' ⟨rfl,rfl⟩;refine⟨_,F0 w.heap.size none [],rfl,⟨w.heap.size,none,0,[],rfl,rfl,PSnd.new w n,?_⟩,fun x d=>by simp[F0]at d;omega,(Ad _ w).alloc (Ac _) _⟩;exact SndM.new (by omega) (by omega)
theorem Akt(h:Snd w p F m):Calls prog 58 #[.pointer (some p)] w fun e w'=>e=.returned (int i64 (m.wait:Nat))/\Kept F w w'/\∃F',Snd w' p F' m/\Ga w.heap.size F F':=by
 obtain⟨b,ua,c,us,rfl,rfl,f,d⟩:=h;refine(OG f (by have:=d.short;omega)).mono ?_;rintro e w' ⟨rfl,rfl⟩;exact⟨by rw[d.wait],Kept.refl _ _,F0 b ua us,⟨b,ua,c,us,rfl,rfl,f,d⟩,fun x g=> .inl g⟩
theorem AdO(s:ByteArray)(h:Snd w p F m)(z:s.size<=maxLen):Calls prog 132 #[.pointer (some p),string s] w fun e w'=>e=.returned (int i64 (m.KW s).err)/\Kept F w w'/\∃F',Snd w' p F' (m.KW s).m/\Ga w.heap.size F F':=by
 obtain⟨b,ua,c,us,rfl,rfl,j,g⟩:=h;have A:=g.short;have C:=g.wait
 by_cases d:Il us s=0
 ·unfold Il at d
  split at d
  ·simp at d
  ·split at d
   ·simp at d
   ·split at d
    ·simp at d
    ·rename_i D E G;have l:m.KW s=⟨{m with text:=m.text++[s]},0⟩:=by
      unfold OutM.KW;rw[Aa D,Aa E,C,Aa G]
     rw[l];refine(Aby j (by omega) (by omega) (by omega) (by omega)).mono ?_;rintro e w' ⟨rfl,t,f,c',v,H⟩;refine⟨rfl,t,F0 b f (us++[KM s]),⟨b,f,c',us++[KM s],rfl,rfl,v,g.app (by omega) (by omega) (by omega)⟩,fun x n=>?_⟩
     rcases J4 n with rfl | ⟨y,I,rfl⟩ | ⟨i,hi,e⟩
     ·exact .inl (KU _ _ _)
     ·grind [IK]
     ·rw[Ai]at hi;have hi:i<us.length+1:=hi
      by_cases o:i=us.length
      ·subst o;rw[JE]at e;simp[KM,Value.ownBlock]at e
      grind [Kl,Jy]
 ·have l:m.KW s=⟨m,Il us s⟩:=by
   grind [OutM.KW,Il]
  rw[l];refine(AdV j (by omega) z d).mono ?_;rintro e w' ⟨rfl,rfl⟩;exact⟨rfl,Kept.refl _ _,F0 b ua us,⟨b,ua,c,us,rfl,rfl,j,g⟩,fun x n=> .inl n⟩
theorem UnR.sz{m:OutM}{u:Nat}{x:UnP}(h:UnR m u x):m.sz u=x.text.size:=by unfold OutM.sz;rw[h.tx]
theorem SndM.Agx(h:SndM m us):m.n=m.beg+us.length:=by have:=h.len;have:=h.bn;omega
theorem UnR.Aog(h:UnR m u x):m.can 2 u=!KF x:=by
 unfold OutM.can KF
 cases d:x.al with
 | nil=>
  have:m.hit 2 u=m.sz u:=by
   unfold OutM.hit;refine IQ (Af _) fun t _ ht=>?_
   have f:=(h.ag t);rw[d]at f;rw[Cb];intro e;exact GT t (f.2 ⟨by rw[<-h.sz];exact ht,e⟩)
  simp[this]
 | cons q r=>
  have g:=h.srt;rw[d]at g;have l:=(h.ag q.1).1 (by rw[d];exact⟨q,AL,Ac _,g.head.1⟩);have:m.hit 2 u<m.sz u:=by
   unfold OutM.hit;have j:=Acv (p:=fun i=>m.mark u i==2) (lo:=0) (hi:=m.sz u) (k:=q.1) (Af _) (by simpa using l.2);rw[h.sz]at j |-;omega
  simp[this]
theorem UnR.Aof(h:UnR m u x):m.can 0 u=Lw x:=by
 unfold OutM.can Lw;rw[<-h.dn];have:m.hit 0 u=x.sent:=by
  unfold OutM.hit;refine Ge (Af _) (by rw[h.sz];exact h.sn) (fun t _ ht=>?_) (fun d=>?_)
  ·rw[Cb];intro e;have:=(h.mks t (by have:=h.sn;omega)).1.1 e;omega
  ·rw[beq_iff_eq];exact(h.mks _ (by rw[<-h.sz];exact d)).1.2 (Ac _)
 rw[this,h.sz,Bool.and_comm];simp
theorem UnR.AoA(h:UnR m u x):m.hit 0 u=x.sent:=by
 unfold OutM.hit;refine Ge (Af _) (by rw[h.sz];exact h.sn) (fun t _ ht=>?_) (fun d=>?_)
 ·rw[Cb];intro e;have:=(h.mks t (by have:=h.sn;omega)).1.1 e;omega
 ·rw[beq_iff_eq];exact(h.mks _ (by rw[<-h.sz];exact d)).1.2 (Ac _)
theorem UnR.Apk(h:UnR m u x):m.cut 0 u size=min (x.sent+size) x.text.size:=by
 unfold OutM.cut;rw[h.AoA,h.sz];have e:=h.sn;rw[IQ (by omega) (fun t d f=>?_)]
 ·omega
 ·have:=(h.mks t (by omega)).1.2 d;simp[this]
theorem UnR.AoB{p:Nat}(h:UnR m u x)(f:x.al=(p,q)::r):m.hit 2 u=p:=by
 have g:=h.srt;rw[f]at g;have d:=h.ag;rw[f]at d;have n:=(d p).1 ⟨(p,q),AL,Ac _,g.head.1⟩;unfold OutM.hit;refine Ge (Af _) (by rw[h.sz];omega) (fun t _ ht=>?_) (fun _=>by simpa using n.2);rw[Cb];intro e;obtain⟨y,j,l,o⟩:=(d t).2 ⟨by omega,e⟩;rw[Ar]at j
 rcases j with rfl | j
 ·have:p<=t:=l;omega
 ·have:=g.head.2 y j;have:=g.head.1;omega
theorem UnR.Apl{p:Nat}(h:UnR m u x)(f:x.al=(p,q)::r)(A:1<=size):m.cut 2 u size=min q (p+size):=by
 have n:=h.srt;rw[f]at n;have d:=h.ag;rw[f]at d;have z:p<q:=n.head.1;have E:=(d (q-1)).1 ⟨(p,q),AL,by show p<=q-1;omega,by show q-1<q;omega⟩;unfold OutM.cut;rw[h.AoB f,h.sz];refine Ge (by omega) (by omega) (fun t o C=>?_) (fun j=>?_)
 ·have:=(d t).1 ⟨(p,q),AL,o,by show t<q;omega⟩;simp[this.2]
 ·have l:min q (p+size)=q:=by omega
  rw[l]at j |-;rw[DI];intro e;obtain⟨y,g,D,v⟩:=(d q).2 ⟨by omega,e⟩;rw[Ar]at g
  rcases g with rfl | g
  ·have:q<q:=v;omega
  ·have:=n.head.2 y g;have:q<y.1:=this;omega
theorem UnR.other{v:Nat}(h:UnR m v x)(d:v≠u):UnR (m.sent u a b) v x:=by
 have e:∀t,(m.sent u a b).mark v t=m.mark v t:=fun t=>by
  show(if v=u/\a<=t/\t<b then 1 else m.mark v t)=_;rw[Aa (fun h=>d h.1)]
 exact⟨h.tx,h.dn,h.lo,h.hi,h.sn,fun t ht=>by rw[e t];exact h.mks t ht,h.srt,fun t=>by rw[e t];exact h.ag t,h.dal⟩
theorem UnR.NC{p:Nat}{v':Value}(h:UnR m u x)(d:x.al=(p,q)::r)(E:1<=size):UnR (m.sent u p (min q (p+size))) u {x with av:=v',al:=if q<=p+size then r else (p+size,q)::r}:=by
 have l:=h.srt;rw[d]at l;have f:=h.ag;rw[d]at f;have o:∀y∈r,q<y.1:=l.head.2;have e:∀t,(m.sent u p (min q (p+size))).mark u t=if p<=t/\t<min q (p+size) then 1 else m.mark u t:=fun t=>by
  show(if u=u/\p<=t/\t<_ then 1 else m.mark u t)=_;simp
 have z:∀t,p<=t->t<q->t<x.text.size/\m.mark u t=2:=fun t a b=>(f t).1 ⟨(p,q),AL,a,b⟩
 refine⟨h.tx,h.dn,h.lo,h.hi,h.sn,fun t ht=>?_,?_,fun t=>?_,fun hd=>?_⟩
 ·rw[e t]
  show(_↔x.sent<=t)/\_
  by_cases n:p<=t/\t<min q (p+size)
  ·rw[Ab n];have A:=z t n.1 (by omega);have G:=(h.mks t A.1).1
   grind
  ·rw[Aa n];exact h.mks t ht
 ·show Srt (if q<=p+size then r else (p+size,q)::r)
  split
  ·exact l.KX
  ·refine⟨fun y g=>?_,CN.2 ⟨o,l.KX.2⟩⟩;rw[Ar]at g
   rcases g with rfl | g
   ·show p+size<q;omega
   ·exact l.KX.1 y g
 ·show inS (if q<=p+size then r else (p+size,q)::r) t↔t<x.text.size/\_;rw[e t];have j:=f t;rw[Gc]at j;have v:inS r t->q<t:=fun⟨y,g,a,_⟩=>by have:=o y g;omega
  split
  ·grind
  ·rename_i C;have D:min q (p+size)=p+size:=by omega
   rw[D,Gc]
   grind
 ·have:=h.dal hd;rw[d]at this
  cases this
theorem UnR.first(h:UnR m u x)(j:x.al=[])(n:1<=size):UnR (m.sent u x.sent (min (x.sent+size) x.text.size)) u {x with sent:=min (x.sent+size) x.text.size}:=by
 have e:∀t,(m.sent u x.sent (min (x.sent+size) x.text.size)).mark u t=if x.sent<=t/\t<min (x.sent+size) x.text.size then 1 else m.mark u t:=fun t=>by
  show(if u=u/\_<=t/\t<_ then 1 else m.mark u t)=_;simp
 have f:=h.ag;refine⟨h.tx,h.dn,h.lo,h.hi,by grind,fun t ht=>?_,h.srt,fun t=>?_,h.dal⟩
 ·rw[e t];have g:t<x.text.size:=ht;have o:=h.mks t g
  grind
 ·rw[e t]
  show inS x.al t↔t<x.text.size/\_;rw[f t]
  by_cases d:x.sent<=t/\t<min (x.sent+size) x.text.size
  ·rw[Ab d];refine⟨fun l=>?_,fun l=>by omega⟩;have:=(h.mks t l.1).1.2 d.1;omega
  ·rw[Aa d]
theorem SndM.Apy(h:SndM m us):m.who 2=m.beg+GC KF us:=by
 have l:=h.Agx;have g:=K9 KF us;unfold OutM.who OutM.Xu;rw[Ab rfl];refine Ge (by omega) (by omega) (fun j e f=>?_) (fun d=>?_)
 ·have:=Kz (p:=KF) (us:=us) (k:=j-m.beg) (by omega);have n:=(h.un (j-m.beg) (by omega)).Aog
  grind
 ·have:=OW (p:=KF) (us:=us) (by omega);rw[(h.un _ (by omega)).Aog,this];rfl
theorem SndM.Ao9(h:SndM m us)(hi:i<=min m.win us.length)(g:∀j,j<i->Lw (us.getD j .zero)=false)(d:i<min m.win us.length->Lw (us.getD i .zero)=true):m.who 0=m.beg+i/\m.Xu 0=m.beg+min m.win us.length:=by
 have o:=h.Agx;have e:m.Xu 0=m.beg+min m.win us.length:=by
  unfold OutM.Xu;rw[Aa (by decide)];omega
 refine⟨?_,e⟩;unfold OutM.who;rw[e];refine Ge (by omega) (by omega) (fun j l n=>?_) (fun f=>?_)
 ·have t:=(h.un (j-m.beg) (by omega)).Aof
  grind
 ·rw[(h.un i (by omega)).Aof];exact d (by omega)
theorem SndM.set{m y:OutM}{us:List UnP}{i a b:Nat}{x':UnP}(h:SndM m us)(hi:i<us.length)(C:y=m.sent (m.beg+i) a b)(E:UnR y (m.beg+i) x')(hd:x'.dn=(us.getD i .zero).dn)(H:(us.getD i .zero).sent<=x'.sent)(z:0<x'.sent->i<m.win/\∀j,j<i->0<(us.getD j .zero).sent):SndM y (us.set i x'):=by
 subst C;have G:=h.Agx;refine⟨h.w1,h.w2,h.bn,by rw[An];exact h.len,fun j d=>?_,h.old,fun u D=>?_,fun j d f=>?_,fun j d g=>?_,?_⟩
 ·rw[An]at d
  by_cases e:j=i
  ·subst e;rw[FL d];exact E
  ·rw[GH (fun l=>e l.symm)];exact(h.un j d).other (by show m.beg+j≠m.beg+i;omega)
 ·have v:m.n<=u:=D;have A:=h.fresh u v;refine⟨A.1,fun t=>?_⟩
  show(if u=m.beg+i/\a<=t/\t<b then 1 else m.mark u t)=0
  grind
 ·rw[An]at d;have key:∀k,0<(us.getD k .zero).sent->0<((us.set i x').getD k .zero).sent:=by grind
  by_cases e:j=i
  ·subst e;rw[FL d]at f;exact⟨(z f).1,fun k o=>key k ((z f).2 k o)⟩
  ·rw[GH (fun l=>e l.symm)]at f;exact⟨(h.pre j d f).1,fun k o=>key k ((h.pre j d f).2 k o)⟩
 ·rw[An]at d
  by_cases e:j=i
  ·subst e;rw[FL d]at g |-;rw[hd]at g;have:=h.dsn j d g;omega
  ·rw[GH (fun l=>e l.symm)]at g |-;exact h.dsn j d g
 ·have:GF (us.set i x')=GF us:=by
   rw[KO,KO,An]
   grind
  rw[this];exact h.few
theorem Abr{x':UnP}(hi:i<us.length)(d:∀g,x'.av.ownBlock=some g->(us.getD i .zero).av.ownBlock=some g):Ga B (F0 b ua us) (F0 b ua (us.set i x')):=by grind [Ga,F0]
theorem Ru(a i:Nat):(a % 64+i) % 64=(a+i) % 64:=by omega
theorem Akr(size:Int)(h:Snd w p F m):Calls prog 107 #[.pointer (some p),int i64 size] w fun e w'=>e=.returned (.tuple #[(m.next size).p.val,int i64 (m.next size).err])/\Kept F w w'/\∃F',Snd w' p F' (m.next size).m/\Ga w.heap.size F F':=by
 obtain⟨b,ua,c,us,rfl,rfl,I,d⟩:=h;have U:=d.short;have Y:=d.Agx;have v:∀w',Below w.heap.size w w'->Kept (F0 b ua us) w w'/\∃F',Snd w' ⟨b,0,none⟩ F' m/\Ga w.heap.size (F0 b ua us) F':=fun w' G=>⟨Kept.E5 G,F0 b ua us,⟨b,ua,c,us,rfl,rfl,I.kept (Kept.E5 (S:=[]) G) (by simp),d⟩,fun x X=> .inl X⟩
 by_cases H:size<1\/1500<size
 ·have E:m.next size=⟨m,.zero,1⟩:=by unfold OutM.next;rw[Ab H]
  rw[E];refine(Ahy H).mono ?_;rintro e w' ⟨rfl,G⟩;exact⟨rfl,v w' G⟩
 ·obtain⟨k,rfl⟩:∃k:Nat,size=(k:Int):=⟨size.toNat,by omega⟩;have f:1<=k:=by omega
  have C:k<=1500:=by omega
  have W:=d.Apy;have R:m.Xu 2=m.n:=by unfold OutM.Xu;rw[Ab rfl]
  by_cases D:GC KF us<us.length
  ·have E:m.next (k:Int)=m.Mw 2 (m.beg+GC KF us) k:=by
    grind [OutM.next]
   have o:=d.un _ D;have T:=OW (p:=KF) (us:=us) D;obtain⟨q,r,y⟩:∃q r,(us.getD (GC KF us) .zero).al=q::r:=by
    cases e:(us.getD (GC KF us) .zero).al with
    | nil=>
     grind [GC,KF]
    | cons q r=>exact⟨q,r,rfl⟩
   obtain⟨Z,qq⟩:=q;rw[E];unfold OutM.Mw;rw[o.AoB y,o.Apl y f];refine(Abs I (AZ _ (by omega)) (by omega) d.AkK f C rfl D y).mono ?_;rintro e w' ⟨rfl,M,v',J,V⟩;rw[FL D,B9]at J;refine⟨?_,M,_,⟨b,ua,c,_,rfl,rfl,J,?_⟩,Abr D V⟩
   ·unfold OutM.AjU LB PieceM.val;rw[Ru,o.sz,o.tx]
   ·exact d.set D rfl (o.NC y f) rfl (Ac _) (fun h=>d.pre _ D h)
  ·have t:∀j,j<us.length->(us.getD j .zero).al=[]:=fun j Q=>by
    grind [Kz,KF]
   by_cases L:∃i,i<min m.win us.length/\Lw (us.getD i .zero)=true/\∀j,j<i->Lw (us.getD j .zero)=false
   ·obtain⟨i,hi,A,l⟩:=L;obtain⟨O,K⟩:=d.Ao9 (i:=i) (by omega) l (fun _=>A);have z:i<us.length:=by omega
    have o:=d.un i z;have E:m.next (k:Int)=m.Mw 0 (m.beg+i) k:=by
     grind [OutM.next]
    rw[E];unfold OutM.Mw;rw[o.AoA,o.Apk];refine(Ahz I (AZ _ (by omega)) (by omega) d.AkK f C d.w2 t hi l A).mono ?_;rintro e w' ⟨rfl,M,J⟩;refine⟨?_,M,_,⟨b,ua,c,_,rfl,rfl,J,?_⟩,Abr z (fun g hg=>hg)⟩
    ·unfold OutM.AjU LB PieceM.val;rw[Ru,o.sz,o.tx]
    ·refine d.set z rfl (o.first (t i z) f) rfl (by show _<=min _ _;have:=o.sn;omega) (fun _=>⟨by omega,fun j Q=>?_⟩);have P:=l j Q;unfold Lw at P;have N:=d.un j (by omega)
     cases hd:(us.getD j .zero).dn with
     | true=>exact d.dsn j (by omega) hd
     | false=>
      rw[hd,Bool.not_false,Bool.true_and,DM]at P;have:=N.lo;omega
   ·have l:∀j,j<min m.win us.length->Lw (us.getD j .zero)=false:=by
     intro j
     induction j using Nat.strongRecOn with
     | ind j ih=>
      grind
    obtain⟨O,K⟩:=d.Ao9 (i:=min m.win us.length) (Ac _) l (fun h=>absurd h (Bp _));have E:m.next (k:Int)=⟨m,.zero,6⟩:=by
     grind [OutM.next]
    rw[E];refine(AdP I (by omega) d.AkK f C t l).mono ?_;rintro e w' ⟨rfl,G⟩;exact⟨rfl,v w' G⟩
theorem Kb(k:Int)(b:Nat):E9 k (b % 64)=E9 k b:=by
 unfold E9;rw[Nat.mod_mod]
theorem SndM.Ys(h:SndM m us)(d:Nat):m.Ys d=decide (d<=GC GR us):=by
 have v:=h.Agx;have t:=K9 GR us;have l:∀i,i<us.length->(m.mark (m.beg+i) 0≠0↔0<(us.getD i .zero).sent):=fun i hi=>by
  have j:=h.un i hi;have:=(j.mks 0 j.lo).1
  grind
 by_cases hd:d<=GC GR us
 ·rw[Ag hd];refine AM.2 fun i hi=>?_
  have hi:=Bv.1 hi;have f:=Kz (p:=GR) (us:=us) (k:=i) (by omega);rw[BD,Bq,DI];exact⟨by omega,(l i (by omega)).2 (AQ f)⟩
 ·rw[Ae hd];refine Bool.eq_false_iff.2 fun e=>?_
  have f:=AM.1 e (GC GR us) (Bv.2 (by omega));rw[BD,Bq,DI]at f;have n:=OW (p:=GR) (us:=us) (by omega);have o:=(l _ (by omega)).1 f.2;have g:GR (us.getD (GC GR us) .zero)=true:=Ag o;rw[n]at g
  cases g
theorem SndM.TH{m:OutM}{us:List UnP}(h:SndM m us){d:Nat}(hd:d<=us.length)(g:GapM):JV (m.beg % 64) d us g=m.TH d g:=by
 unfold JV OutM.TH;rw[Kb]
 by_cases e:E9 g.num m.beg<d
 ·rw[(h.un _ (by omega)).sz]
 ·rw[Ae e];simp
theorem SndM.repErr{m:OutM}{us:List UnP}(h:SndM m us)(r:ReportM):(m.take r).err=repErr (m.beg % 64) us r/\(Go.Proofs.YtbjgfoiikhbonahGreatDoor.repErr (m.beg % 64) us r≠0->(m.take r).m=m)/\(Go.Proofs.YtbjgfoiikhbonahGreatDoor.repErr (m.beg % 64) us r=0->(m.take r).m=m.taken (E9 r.next m.beg) r.miss):=by
 unfold OutM.take Go.Proofs.YtbjgfoiikhbonahGreatDoor.repErr;rw[Kb,h.Ys]
 by_cases e:r.next<0\/63<r.next
 ·grind
 ·rw[Aa e,Aa e]
  by_cases f:GC GR us<E9 r.next m.beg
  ·grind
  ·rw[Aa f,Ag (by omega),Aa (by simp)];have hd:E9 r.next m.beg<=us.length:=by have:=K9 GR us;omega
   have d:r.miss.all (JV (m.beg % 64) (E9 r.next m.beg) us)=r.miss.all (m.TH (E9 r.next m.beg)):=by
    congr 1
    funext g
    exact h.TH hd g
   grind
theorem V6(beg:Nat)(gs:List GapM)(i:Nat):XE beg gs (beg+i)=LQ (beg % 64) gs i:=by grind [XE,LQ,GapM.of,E9]
theorem Alw(beg:Nat)(gs:List GapM)(i t:Nat):ZN beg gs (beg+i) t=true↔Rn (beg % 64) gs i t:=by grind [ZN,Rn,GapM.of,Kb]
theorem Aae{l:Sps}(h:Srt l)(d:∀t,¬inS l t):l=[]:=by
 cases l with
 | nil=>rfl
 | cons q l=>exact absurd ⟨q,AL,Ac _,h.head.1⟩ (d q.1)
theorem UnR.taken{m:OutM}{d i:Nat}{gs:List GapM}{x x':UnP}(h:UnR m (m.beg+i) x)(ht:TkR d (LQ (m.beg % 64) gs) (Rn (m.beg % 64) gs) i x x'):UnR (m.taken d gs) (m.beg+i) x':=by
 obtain⟨e1,e2,e3,v,A,y⟩:=ht;have e:∀t,(m.taken d gs).mark (m.beg+i) t=m.Wg d gs (m.beg+i) t:=fun _=>rfl
 have g:∀t,m.Wg d gs (m.beg+i) t=if i<d then (if LQ (m.beg % 64) gs i=true then (if ZN m.beg gs (m.beg+i) t=true/\m.mark (m.beg+i) t=1/\m.done (m.beg+i)=false then 2 else m.mark (m.beg+i) t) else (if m.mark (m.beg+i) t=2 then 1 else m.mark (m.beg+i) t)) else (if m.mark (m.beg+i) t=1/\m.done (m.beg+i)=false then 2 else m.mark (m.beg+i) t):=fun t=>by
  unfold OutM.Wg;rw[Aa (by omega),V6]
  grind
 have j:x'.text.size=x.text.size:=by rw[e1]
 refine⟨by rw[e1];exact h.tx,?_,by rw[e1];exact h.lo,by rw[e1];exact h.hi,by rw[e1,e2];exact h.sn,fun t ht=>?_,v,fun t=>?_,fun hd=>?_⟩
 ·rw[e3,h.dn]
  show _=m.N9 d gs (m.beg+i);unfold OutM.N9;rw[V6]
  grind
 ·rw[j]at ht;rw[e t,g t,e2];have C:=h.mks t ht
  grind
 ·rw[y t,e t,g t,j,h.ag t,h.dn];have n:t<x.text.size->(t<x.sent↔m.mark (m.beg+i) t≠0):=fun ht=>by
   have C:=(h.mks t ht).1
   grind
  have G:=h.sn
  by_cases ht:t<x.text.size
  ·have D:=(h.mks t ht).2;have E:=n ht
   by_cases hd:i<d
   ·rw[Ab hd,Ab hd]
    by_cases z:LQ (m.beg % 64) gs i=true
    ·rw[Ab z,Ab z,<-Alw,E]
     grind
    grind
   grind
  grind
 ·cases o:x.dn with
  | false=>exact A hd o
  | true=>
   have l:=h.dal o;refine Aae v fun t ht=>?_
   have:=(y t).1 ht;rw[l,o]at this
   split at this
   ·split at this
    ·rcases this with f | f
     ·exact GT t f
     ·cases f.1
    ·exact this
   ·rcases this with f | f
    ·exact GT t f
    ·cases f.1
end Go.Proofs.YtbjgfoiikhbonahGreatDoor
