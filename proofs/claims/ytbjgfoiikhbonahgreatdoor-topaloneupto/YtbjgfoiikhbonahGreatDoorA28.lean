import Derived.Test.YtbjgfoiikhbonahGreatDoorA24
import Derived.Laws.ResultCell
set_option linter.unusedVariables false
set_option linter.unusedSimpArgs false
set_option maxRecDepth 100000
set_option maxHeartbeats 4000000
namespace Go.Proofs.YtbjgfoiikhbonahGreatDoor
open Go.ChangeShapes Go.WideShapes Go.ChangeAt Go.RowKit Go.Proofs.Tryz
open Value renaming bool->C,int->I,string->L,slice->O
open Bool renaming false->F
open Option renaming none->G,some->J
open Obj renaming cells->K
open IntKind renaming i64->Q
variable {B b bg c i win:Nat}{ua:Option Addr}{us us':List UnP}{w:World}
def TkR (told:Nat)(lk:Nat->Bool)(P:Nat->Nat->Prop)(i:Nat)(x x':UnP):Prop:=
 x'.text=x.text/\x'.sent=x.sent/\x'.dn=(x.dn || (decide (i<told) && !lk i))/\Srt x'.al/\(x'.dn=true->x.dn=F->x'.al=[])/\
 ∀t,inS x'.al t↔(if i<told then (if lk i=true then inS x.al t\/(x.dn=F/\t<x.sent/\P i t) else False) else inS x.al t\/(x.dn=F/\t<x.sent))
def Aep (told:Nat)(lk:Nat->Bool)(P:Nat->Nat->Prop)(us us':List UnP):Prop:=us'.length=us.length/\∀i,i<us.length->TkR told lk P i (us.getD i .zero) (us'.getD i .zero)
def Aic (w:World)(b win bg:Nat)(ua:Option Addr)(c:Nat)(us:List UnP)(r:ReportM):Ending->World->Prop:=fun e w'=>e=.returned (I Q 0)/\Kept (F0 b ua us) w w'/\∃us',Aep (E9 r.next bg) (LQ bg r.miss) (Rn bg r.miss) us us'/\NewU w.heap.size us us'/\PSnd w' b win ((bg+GC (·.dn) us') % 64) ua c (us'.drop (GC (·.dn) us'))
theorem AhD(r:ReportM)(a:Option Addr)(n cc:Nat)(h:PSnd w b win bg ua c us)(j:bg<64)(t:us.length<=4000)(d:UsOk us)(o:Gps w a r.miss)(q:r.miss.length=n)(p:n<=maxLen)(u:repErr bg us r≠0):
 Calls prog 32 #[.pointer (J ⟨b,0,G⟩),.agg #[I Q r.next, O a n cc]] w fun e w'=>e=.returned (I Q (repErr bg us r))/\Below w.heap.size w w':=by
 have f:=Fc w 95 [I Q r.next, O a n cc];have l:Kept [] w (w.alloc (K #[I Q r.next, O a n cc] 95)):=(Kept.refl _ w).alloc _;have k:=ND (w:=w.alloc (K #[I Q r.next, O a n cc] 95)) r a n cc (h.kept l (by simp)) j t d.size (o.kept l (fun x _=>by simp)) q p;have v:(w.alloc (K #[I Q r.next, O a n cc] 95)).cell? ⟨w.heap.size,0,G⟩=J (I Q r.next):=f.cell 0;have y:(w.alloc (K #[I Q r.next, O a n cc] 95)).cell? ⟨w.heap.size,1,G⟩=J (O a n cc):=f.cell 1;have s:=hid (show Below w.heap.size w (w.alloc (K #[I Q r.next, O a n cc] 95))from(Ad _ w).alloc (Ac _) _);have m:w.heap.size<=(w.alloc (K #[I Q r.next, O a n cc] 95)).heap.size:=by simp
 generalize repErr bg us r=E at*;obtain⟨next,miss⟩:=r;dsimp only at*;clear h d o q p f l;go_enter func32,ntmps32
 go_wp2_with(go_at_call 63;refine k.mono ?_;rintro e w1 ⟨rfl,g⟩);go_ret;exact⟨rfl,s.out.trans (g.mono m)⟩
theorem Q6{x:Nat}(h:NewU B us us')(a:us'.length=us.length)(d:x∈F0 b ua us'):x∈F0 b ua us\/B<=x:=by grind [NewU,F0,J4,KU,IK,Jy]
theorem AcU(w:World)(o:Obj)(cs:Array Value):Kept [] w ((w.alloc o).setRow w.heap.size cs):=
 ⟨rfl,rfl,rfl,by simp[World.setRow],fun k a _=>(Cl _ _ k cs (by omega)).trans (Bc w o k a)⟩
structure TkI(B:Nat)(wr:World)(b win bg:Nat)(ua:Option Addr)(c A:Nat)(lk:Nat->Bool)(P:Nat->Nat->Prop)(us us1 us':List UnP)(k:Nat):Prop where
 snd:PSnd wr b win bg ua c us'
 len:us'.length=us1.length
 did:∀i,i<k->TkR A lk P i (us.getD i .zero) (us'.getD i .zero)
 not:∀i,k<=i->us'.getD i .zero=us1.getD i .zero
 new:NewU B us1 us'
theorem TkI.skip{wr:World}{A:Nat}{d:Nat->Bool}{P:Nat->Nat->Prop}{a:List UnP}{k:Nat}(h:TkI B wr b win bg ua c A d P us a us' k)(f:TkR A d P k (us.getD k .zero) (a.getD k .zero)):TkI B wr b win bg ua c A d P us a us' (k+1):=
 ⟨h.snd,h.len,fun i hi=>by
  rcases AS i k with e | e
  ·exact h.did i e
  ·rw[show i=k by omega,h.not k (Ac _)];exact f,fun i hi=>h.not i (by omega),h.new⟩
theorem TkI.set{B:Nat}{wr w2:World}{b win bg:Nat}{ua:Option Addr}{c A:Nat}{f:Nat->Bool}{P:Nat->Nat->Prop}{us a us':List UnP}{k:Nat}{x':UnP}(h:TkI B wr b win bg ua c A f P us a us' k)(d:k<a.length)(o:PSnd w2 b win bg ua c (us'.set k x'))(m:TkR A f P k (us.getD k .zero) x')(l:B<=wr.heap.size)(n:∀g,x'.av.ownBlock=J g->(us'.getD k .zero).av.ownBlock=J g\/wr.heap.size<=g):TkI B w2 b win bg ua c A f P us a (us'.set k x') (k+1):=
 ⟨o,by rw[An];exact h.len,fun i hi=>by
  by_cases e:i=k
  ·subst e;rw[FL (by rw[h.len];exact d)];exact m
  ·rw[GH (fun j=>e j.symm)];exact h.did i (by omega),fun i hi=>by rw[GH (by omega)];exact h.not i (by omega),h.new.set h.len l d n⟩
theorem AdS(r:ReportM)(a:Option Addr)(n cc:Nat)(h:PSnd w b win bg ua c us)(am:bg<64)(hl:us.length<=4000)(a7:UsOk us)(hG:Gps w a r.miss)(bd:r.miss≠[]->Qh (F0 b ua us) a)(hn:r.miss.length=n)(hm:n<=maxLen)(he:repErr bg us r=0)(bt:E9 r.next bg<=32):
 Calls prog 32 #[.pointer (J ⟨b,0,G⟩),.agg #[I Q r.next, O a n cc]] w (Aic w b win bg ua c us r):=by
 have hA:=Fc w 95 [I Q r.next, O a n cc];have hk:Kept [] w (w.alloc (K #[I Q r.next, O a n cc] 95)):=(Kept.refl _ w).alloc _;have a5:=ND (w:=w.alloc (K #[I Q r.next, O a n cc] 95)) r a n cc (h.kept hk (by simp)) am hl a7.size (hG.kept hk (fun x _=>by simp)) hn hm;rw[he]at a5;have a8:(0<=r.next/\r.next<=63)/\E9 r.next bg<=GC GR us/\r.miss.all (JV bg (E9 r.next bg) us)=true:=by
  unfold repErr at he
  grind
 obtain⟨bh,b3,ar⟩:=a8;have bw:E9 r.next bg<=us.length:=Ak b3 (K9 _ _)
 have b8:(w.alloc (K #[I Q r.next, O a n cc] 95)).heap.size=w.heap.size+1:=Ax _ _;have hF:∀w1,Below (w.alloc (K #[I Q r.next, O a n cc] 95)).heap.size (w.alloc (K #[I Q r.next, O a n cc] 95)) w1->w1.cell? ⟨w.heap.size,0,G⟩=J (I Q r.next)/\w1.cell? ⟨w.heap.size,1,G⟩=J (O a n cc)/\Kept [] w w1/\w.heap.size<w1.heap.size/\Calls prog 64 #[.pointer (J ⟨b,0,G⟩), O a n cc] w1 (Aia w1 b win bg ua c us r.miss):=fun w1 q=>by
  have P:Kept [] w w1:=hk.trans (Kept.E5 q);exact⟨(AF (q.block w.heap.size (by omega))).trans (hA.cell 0),(AF (q.block w.heap.size (by omega))).trans (hA.cell 1),P,by have:=q.size;omega,XS r.miss a n cc (h.kept P (by simp)) am bt bw a7 ar (hG.kept P (fun x _=>by simp)) bd hn hm⟩
 have ap:∀W:World,(storeCells ⟨W.heap.size,0,G⟩ (lkC bg r.miss) 0).run prog (W.alloc (K #[C F, C F, C F, C F, C F, C F, C F, C F, C F, C F, C F, C F, C F, C F, C F, C F, C F, C F, C F, C F, C F, C F, C F, C F, C F, C F, C F, C F, C F, C F, C F, C F] 133))=.ok () ((W.alloc (K #[C F, C F, C F, C F, C F, C F, C F, C F, C F, C F, C F, C F, C F, C F, C F, C F, C F, C F, C F, C F, C F, C F, C F, C F, C F, C F, C F, C F, C F, C F, C F, C F] 133)).setRow W.heap.size (lkC bg r.miss).toArray):=fun W=>by
  have:=CU prog W.heap.size 0 133 (lkC bg r.miss) 0 #[C F, C F, C F, C F, C F, C F, C F, C F, C F, C F, C F, C F, C F, C F, C F, C F, C F, C F, C F, C F, C F, C F, C F, C F, C F, C F, C F, C F, C F, C F, C F, C F] (W.alloc (K #[C F, C F, C F, C F, C F, C F, C F, C F, C F, C F, C F, C F, C F, C F, C F, C F, C F, C F, C F, C F, C F, C F, C F, C F, C F, C F, C F, C F, C F, C F, C F, C F] 133)) (Am W _) (by simp[Nk]) (by
   intro v hv;simp only[lkC,Bb]at hv;obtain⟨i, -,rfl⟩:=hv
   rfl)
  rw[this];simp[Nk]
 have HF:=hid hF;have bs:=hid ap;have bq:=hid a7;have bv:=fun W=>Ll (k:=r.next) (bg:=bg) W am bh.1 bh.2
 have x0:(w.alloc (K #[I Q r.next, O a n cc] 95)).cell? ⟨w.heap.size,0,G⟩=J (I Q r.next):=hA.cell 0;have x1:(w.alloc (K #[I Q r.next, O a n cc] 95)).cell? ⟨w.heap.size,1,G⟩=J (O a n cc):=hA.cell 1;have H:=hid h;obtain⟨next,miss⟩:=r;dsimp only at*;clear hF ap h hG hn hm hA hk bd he ar;generalize a2:lkC bg miss=LK at*;have ca:LK.length=32:=by rw[<-a2];exact Nk _ _
 have ba:=hid a2;clear a2;go_enter func32,ntmps32;have ap:=bs.out
 go_upto_region 5 with(first
  | (go_at_call 63;refine a5.mono ?_;rintro e w1 ⟨rfl,q⟩;obtain⟨y0,y1,P,cb,bf⟩:=HF.out _ q)
  | (go_at_call 64;refine bf.mono ?_;rintro e w2 ⟨rfl,ao,d,a3,ak,bc⟩;rw[ba.out]))
 have f1:Kept [] w2 ((w2.alloc (K #[C F, C F, C F, C F, C F, C F, C F, C F, C F, C F, C F, C F, C F, C F, C F, C F, C F, C F, C F, C F, C F, C F, C F, C F, C F, C F, C F, C F, C F, C F, C F, C F] 133)).setRow w2.heap.size LK.toArray):=AcU _ _ _;have f2:At ((w2.alloc (K #[C F, C F, C F, C F, C F, C F, C F, C F, C F, C F, C F, C F, C F, C F, C F, C F, C F, C F, C F, C F, C F, C F, C F, C F, C F, C F, C F, C F, C F, C F, C F, C F] 133)).setRow w2.heap.size LK.toArray) w2.heap.size 133 LK:=Cn _ _ _ _ _ _ (Am w2 _);generalize ((w2.alloc (K #[C F, C F, C F, C F, C F, C F, C F, C F, C F, C F, C F, C F, C F, C F, C F, C F, C F, C F, C F, C F, C F, C F, C F, C F, C F, C F, C F, C F, C F, C F, C F, C F] 133)).setRow w2.heap.size LK.toArray)=W3 at*;have b7:w.heap.size∉F0 b ua us:=fun hx=>by have:=H.out.lt _ hx;omega
 have cf:=E8 f1 (E8 ao y0 b7) (by simp);have a4:PSnd W3 b win bg ua c d:=a3.kept f1 (by simp);obtain⟨-,c1,c2⟩:=a4.head;have ad:d.length=us.length:=ak.1;have ax:=ak.ok bq.out;have ac:=hid ax;have az:=hid ak;have a1:=hid bc;have br:=hid a4;have bk:=hid f1;have bl:=hid f2;have bm:=hid P;have bn:=hid ao;have aw:∀x∈F0 b ua d,x<w2.heap.size:=a3.lt;have bp:=hid aw;have cd:w1.heap.size<=w2.heap.size:=ao.size;have bi:w2.heap.size<W3.heap.size:=f2.lt;have au:∀i,i<32->LK[i]?=J (C (LQ bg miss i)):=fun i hi=>by rw[<-ba.out];exact XR _ _ hi
 have bo:=hid au;obtain⟨N, hN⟩ := E7 d.length;rw[<-hN]at c2 ad;have ab:=hid hN;clear a3 ak bc a4 f1 f2 P ao ax aw au hN y0 y1 x0 x1 ap q bf a5
 go_quiet (first | (go_at_call 65;exact Ba (bv _)));generalize bb:E9 next bg=A at*
 have bj:=hid bb;clear bb
 go_wp2_with fail
 go_loopw [32] (fun vi wr=>∃k:Nat,k<=N/\vi= I Q k/\∃us',TkI (w2.heap.size+1) wr b win bg ua c A (LQ bg miss) (Rn bg miss) us d us' k/\Kept (F0 b ua d) W3 wr) (fun vi _=>N-(intOf vi).toNat)
 case atStart=>exact⟨0,by omega,rfl,d,⟨br.out.kept ((Kept.refl [] _).drewN _) (by simp),rfl,fun i hi=>by omega,fun i _=>rfl,NewU.refl _ _⟩,(Kept.refl _ _).drewN _⟩
 case round=>
  obtain⟨k,hk,rfl,us',hT,M⟩:=hrel;obtain⟨-,d1,d2⟩:=hT.snd.head;rw[hT.len,<-ab.out]at d2;have bu:w2.heap.size∉F0 b ua d:=fun hx=>by have:=bp.out _ hx;omega
  have aj:=bl.out.kept M bu;have ay:w2.heap.size+1<=wr.heap.size:=Ak bi M.size
  by_cases b2:k<N
  ·have j:k<d.length:=by rw[<-ab.out];exact b2
   have b1:k<us.length:=by omega
   obtain⟨l,b5,b9,aq⟩:=hT.snd.un (i:=k) (by rw[hT.len];exact j);rw[hT.not k (Ac _)]at aq;obtain⟨m1,m2,m3,m4,m5⟩:=az.out.2 k b1;have ce:=ac.out.size k j;have a9:=ac.out.sent k j;have an:=ac.out.inn k j;subst b5;have u0:=aq.c0;have o:=hid hT;have aa:=hid M;have ai:=hid aq;have HM:=hid m5;have a0:=hid m4;clear hT M aq m5 m4
   by_cases hA:A<=k
   ·have bz:decide ((A:Int)<=(k:Int))=true:=Ag (by omega);have b4:=Z0 (a:=0) (z:=(d.getD k .zero).text.size) ai.out a0.out (TA a0.out fun t ht=>by have:=an t ht;omega) (by omega) (by omega) (by omega);have m:∀w4,Qg wr l (k*4) (d.getD k .zero) 0 (d.getD k .zero).text.size (.returned (.tuple #[])) w4->∃af,TkI (w2.heap.size+1) w4 b win bg (J ⟨l,0,G⟩) c A (LQ bg miss) (Rn bg miss) us d af (k+1)/\Kept (F0 b (J ⟨l,0,G⟩) d) W3 w4:=fun w4 ae=>by
     obtain⟨-,v',l',p1,p2,p3,p4,p5⟩:=ae;have E:=o.out.not k (Ac _);refine⟨us'.set k {d.getD k .zero with av:=v',al:=l'},o.out.set j ?_ ?_ ay (by rw[E];exact p5),?_⟩
     ·refine o.out.snd.upd (by rw[o.out.len];exact j) (f:=2) (by omega) p1 (fun s hs=>by rw[E];simpa using hs) (by rw[E];rfl) p2 (by rw[E];exact p5)
     ·refine⟨m1,m2,?_,p3,fun S h2=>?_,fun t=>?_⟩
      ·grind
      ·grind
      ·show inS l' t↔_;rw[p4 t,HM.out t,Aa (by omega),m2,m3]
       grind
     ·refine aa.out.trans (p1.kept.Fn fun s hs=>?_);rw[Ar]at hs
      rcases hs with rfl | hs
      ·exact IK (y:=⟨s,0,G⟩) rfl
      ·exact Jy j (by simpa using hs)
    have ah:=hid m;clear m m1 m2 m3 an a9;generalize (d.getD k .zero).text=tx at*
    go_wp2_with(go_at_call 66;refine b4.mono ?_;intro e w4 ae;obtain rfl:=ae.1;obtain⟨af,r1,r2⟩:=ah.out _ ae;have R1:=hid r1;have R2:=hid r2;clear r1 r2 ae);exact⟨⟨k+1,by omega,by go_num,af,R1.out,R2.out⟩,by simp[intOf];omega⟩
   ·have bz:decide ((A:Int)<=(k:Int))=F:=Ae (by omega);have be:k<32:=by omega
    have ck:wr.cell? ⟨w2.heap.size,k,G⟩=J (C (LQ bg miss k)):=by rw[aj.cell];exact bo.out k be
    cases D:LQ bg miss k with
    | true=>
     rw[D]at ck;have HR:Hid (TkR A (LQ bg miss) (Rn bg miss) k (us.getD k .zero) (d.getD k .zero)):=by
      refine⟨m1,m2,?_,a0.out,fun S h2=>?_,fun t=>?_⟩
      ·rw[m3,D];simp
      ·rw[m3,h2]at S;cases S
      ·rw[HM.out t,Ab (by omega),Ab D]
     clear m1 m2 m3 an a9 D aj
     go_wp2_with fail;exact⟨⟨k+1,by omega,by go_num,us',o.out.skip HR.out,aa.out⟩,by simp[intOf];omega⟩
    | false=>
     rw[D]at ck;have bx:=Acu ai.out;have HR:Hid (TkR A (LQ bg miss) (Rn bg miss) k (us.getD k .zero) ⟨(d.getD k .zero).text,(d.getD k .zero).sent, O G 0 0,[],true⟩):=by
      refine⟨m1,m2,?_,Srt.nil,fun _ _=>rfl,fun t=>?_⟩
      ·grind
      ·rw[Ab (by omega),Aa (by rw[D];simp)];exact⟨fun h=>GT t h,fun h=>h.elim⟩
     have m:TkI (w2.heap.size+1) ((wr.setCell ⟨l,k*4+3,G⟩ (C true)).setCell ⟨l,k*4+2,G⟩ (O G 0 0)) b win bg (J ⟨l,0,G⟩) c A (LQ bg miss) (Rn bg miss) us d (us'.set k ⟨(d.getD k .zero).text,(d.getD k .zero).sent, O G 0 0,[],true⟩) (k+1)/\Kept (F0 b (J ⟨l,0,G⟩) d) W3 ((wr.setCell ⟨l,k*4+3,G⟩ (C true)).setCell ⟨l,k*4+2,G⟩ (O G 0 0)):=by
      have E:=o.out.not k (Ac _);have a6:k<us'.length:=by rw[o.out.len];exact j
      have q1:PSnd (wr.setCell ⟨l,k*4+3,G⟩ (C true)) b win bg (J ⟨l,0,G⟩) c (us'.set k {d.getD k .zero with dn:=true}):=o.out.snd.upd a6 (f:=3) (by omega) (PtrPost.store (Kept.refl [] wr) (by simp)) (by simp) (by rw[E];rfl) (ai.out.ag.kept (FT _ _ _ _) (fun g' u=>by simpa using ai.out.sep g' u)) (fun g' u=> .inl (by rw[E];exact u));have q2:PSnd ((wr.setCell ⟨l,k*4+3,G⟩ (C true)).setCell ⟨l,k*4+2,G⟩ (O G 0 0)) b win bg (J ⟨l,0,G⟩) c ((us'.set k {d.getD k .zero with dn:=true}).set k ⟨(d.getD k .zero).text,(d.getD k .zero).sent, O G 0 0,[],true⟩):=q1.upd (by rw[An];exact a6) (f:=2) (by omega) (PtrPost.store (Kept.refl [] _) (by simp)) (by simp) (by rw[FL a6];rfl) (OwnSp.nil _) (fun g' u=>by simp[Value.ownBlock]at u);rw[B9]at q2;refine⟨o.out.set j q2 HR.out ay (fun g' u=>by simp[Value.ownBlock]at u),?_⟩;have hm:l∈F0 b (J ⟨l,0,G⟩) d:=IK (y:=⟨l,0,G⟩) rfl;exact Kept.setCell (p:=⟨l,k*4+2,G⟩) (Kept.setCell (p:=⟨l,k*4+3,G⟩) aa.out hm _) hm _
     have ah:=hid m;clear m1 m2 m3 an a9 D aj m
     go_wp2_with(go_at_call 67;refine bx.mono ?_;rintro e w4 ⟨rfl,b6⟩;rw[b6]);exact⟨⟨k+1,by omega,by go_num,_,ah.out.1,ah.out.2⟩,by simp[intOf];omega⟩
  ·have b0:=AiZ hT.snd (by rw[hT.len,<-ab.out];omega) am;have o:=hid hT;have aa:=hid M;clear hT M aj
   go_wp2_with(go_at_call 68;refine b0.mono ?_;rintro e w4 ⟨rfl,g1,g2⟩;have G1:=hid g1;have G2:=hid g2;clear g1 g2);go_ret;refine⟨rfl,?_,us',⟨by rw[o.out.len,<-ab.out];exact ad,fun i hi=>?_⟩,fun i hi g hg=>?_,G2.out⟩
   ·have s1:Kept (F0 b ua us) w w2:=GY (bm.out.Fn (by simp)) bn.out (fun x hx=> .inl hx)
    have s2:Kept (F0 b ua us) w wr:=GY (s1.trans (bk.out.Fn (by simp))) aa.out (fun x hx=>by
     rcases Q6 a1.out az.out.1 hx with S | S
     ·exact .inl S
     ·exact .inr (by omega))
    refine GY s2 G1.out (fun x hx=>?_)
    rcases Q6 o.out.new o.out.len hx with S | S
    ·rcases Q6 a1.out az.out.1 S with h2 | h2
     ·exact .inl h2
     ·exact .inr (by omega)
    ·exact .inr (by omega)
   ·rw[bj.out];exact o.out.did i (by omega)
   ·rcases o.out.new i (by rw[<-ab.out];omega) g hg with S | S
    ·rcases a1.out i hi g S with h2 | h2
     ·exact .inl h2
     ·exact .inr (by omega)
    ·exact .inr (by omega)
def LB (num a:Nat)(last:Bool)(d:ByteArray):Value:=.agg #[I Q (num:Int), I Q (a:Int), C last, L d]
theorem Wm{a z:Nat}(h:PSnd w b win bg ua c us)(hi:i<us.length)(aa:i<=4000)(A:bg<64)(ad:a<=z)(hz:z<=(us.getD i .zero).text.size)(ac:(us.getD i .zero).text.size<=1500):
 Calls prog 154 #[.pointer (J ⟨b,0,G⟩), I Q (i:Int),.agg #[I Q (a:Int), I Q (z:Int)]] w fun e w'=>e=.returned (LB ((bg+i) % 64) a (decide (z=(us.getD i .zero).text.size)) ((us.getD i .zero).text.extract a z))/\Below w.heap.size w w':=by
 obtain⟨-,c1,c2⟩:=h.head;obtain⟨g,rfl,H,hu⟩:=h.un hi;have u0:=hu.c0;have ae:=h.hd.lt;have P:g<w.heap.size:=Aj w _ u0;clear h hu;generalize (us.getD i .zero).text=t at*;generalize us.length=N at*;have E:=fun W=>Lm (n:=bg) (k:=i) W A aa
 have af:((z:Int)==(t.size:Int))=decide (z=t.size):=by
  grind
 generalize decide (z=t.size)=D at*;generalize (bg+i) % 64=M at*;go_enter func154,ntmps154;go_upto_region 2 with fail
 have x:Kept [] w ((w.alloc (K #[I Q (a:Int), I Q (z:Int)] 146)).alloc (K #[I Q 0, I Q 0, C F, L {data:=#[]}] 216)):=((Kept.refl _ w).alloc _).alloc _;have y:At ((w.alloc (K #[I Q (a:Int), I Q (z:Int)] 146)).alloc (K #[I Q 0, I Q 0, C F, L {data:=#[]}] 216)) w.heap.size 146 [I Q (a:Int), I Q (z:Int)]:=(Fc w _ _).kept (S:=[]) ((Kept.refl _ _).alloc _) (by simp);have f3:At ((w.alloc (K #[I Q (a:Int), I Q (z:Int)] 146)).alloc (K #[I Q 0, I Q 0, C F, L {data:=#[]}] 216)) (w.heap.size+1) 216 [I Q 0, I Q 0, C F, L {data:=#[]}]:=by
  have:=Fc (w.alloc (K #[I Q (a:Int), I Q (z:Int)] 146)) 216 [I Q 0, I Q 0, C F, L {data:=#[]}];rw[Ax]at this;exact this
 generalize (w.alloc (K #[I Q (a:Int), I Q (z:Int)] 146)).alloc (K #[I Q 0, I Q 0, C F, L {data:=#[]}] 216)=W at*;have f:=E8 x c1 (by simp);have j:W.cell? ⟨w.heap.size,0,G⟩=J (I Q (a:Int)):=y.cell 0;have l:W.cell? ⟨w.heap.size,1,G⟩=J (I Q (z:Int)):=y.cell 1;have y0:W.cell? ⟨w.heap.size+1,0,G⟩=J (I Q 0):=f3.cell 0;have y1:W.cell? ⟨w.heap.size+1,1,G⟩=J (I Q 0):=f3.cell 1;have y2:W.cell? ⟨w.heap.size+1,2,G⟩=J (C F):=f3.cell 2;have y3:W.cell? ⟨w.heap.size+1,3,G⟩=J (L {data:=#[]}):=f3.cell 3;have g0:=f3.free 0;have g1:=f3.free 1;have g2:=f3.free 2;have g3:=f3.free 3;have F1:=hid x;have F3:=hid f3;clear x y f3 c1 c2 u0 H P;have r:Hid (∀n,(W.drewN n).cell? ⟨b,1,G⟩=J (I Q (bg:Int))/\(W.drewN n).cell? ⟨w.heap.size,0,G⟩=J (I Q (a:Int))/\(W.drewN n).cell? ⟨w.heap.size,1,G⟩=J (I Q (z:Int))):=fun n=>⟨f,j,l⟩
 have m:Hid (W.cell? ⟨b,1,G⟩=J (I Q (bg:Int))/\W.cell? ⟨w.heap.size,0,G⟩=J (I Q (a:Int))/\W.cell? ⟨w.heap.size,1,G⟩=J (I Q (z:Int))):=⟨f,j,l⟩;have q:Hid (W.drew.cell? ⟨b,1,G⟩=J (I Q (bg:Int))/\W.drew.cell? ⟨w.heap.size,0,G⟩=J (I Q (a:Int))/\W.drew.cell? ⟨w.heap.size,1,G⟩=J (I Q (z:Int))):=⟨f,j,l⟩;have ab:¬(b=w.heap.size+1):=by omega
 have s:Hid (∀n (v0 v1 v2 v3:Value),(((((W.drewN n).setCell ⟨w.heap.size+1,0,G⟩ v0).setCell ⟨w.heap.size+1,1,G⟩ v1).setCell ⟨w.heap.size+1,2,G⟩ v2).setCell ⟨w.heap.size+1,3,G⟩ v3).cell? ⟨b,1,G⟩=J (I Q (bg:Int))/\(((((W.drewN n).setCell ⟨w.heap.size+1,0,G⟩ v0).setCell ⟨w.heap.size+1,1,G⟩ v1).setCell ⟨w.heap.size+1,2,G⟩ v2).setCell ⟨w.heap.size+1,3,G⟩ v3).cell? ⟨w.heap.size,0,G⟩=J (I Q (a:Int))/\(((((W.drewN n).setCell ⟨w.heap.size+1,0,G⟩ v0).setCell ⟨w.heap.size+1,1,G⟩ v1).setCell ⟨w.heap.size+1,2,G⟩ v2).setCell ⟨w.heap.size+1,3,G⟩ v3).cell? ⟨w.heap.size,1,G⟩=J (I Q (z:Int))):=fun n v0 v1 v2 v3=>by
  have d:Kept [w.heap.size+1] W (((((W.drewN n).setCell ⟨w.heap.size+1,0,G⟩ v0).setCell ⟨w.heap.size+1,1,G⟩ v1).setCell ⟨w.heap.size+1,2,G⟩ v2).setCell ⟨w.heap.size+1,3,G⟩ v3):=(((((Kept.refl _ W).drewN n).setCell (by simp) _).setCell (by simp) _).setCell (by simp) _).setCell (by simp) _;exact⟨E8 d f (by simp;omega),E8 d j (by simp),E8 d l (by simp)⟩
 have u:Hid (∀(v0 v1 v2 v3:Value),((((W.drew.setCell ⟨w.heap.size+1,0,G⟩ v0).setCell ⟨w.heap.size+1,1,G⟩ v1).setCell ⟨w.heap.size+1,2,G⟩ v2).setCell ⟨w.heap.size+1,3,G⟩ v3).cell? ⟨b,1,G⟩=J (I Q (bg:Int))/\((((W.drew.setCell ⟨w.heap.size+1,0,G⟩ v0).setCell ⟨w.heap.size+1,1,G⟩ v1).setCell ⟨w.heap.size+1,2,G⟩ v2).setCell ⟨w.heap.size+1,3,G⟩ v3).cell? ⟨w.heap.size,0,G⟩=J (I Q (a:Int))/\((((W.drew.setCell ⟨w.heap.size+1,0,G⟩ v0).setCell ⟨w.heap.size+1,1,G⟩ v1).setCell ⟨w.heap.size+1,2,G⟩ v2).setCell ⟨w.heap.size+1,3,G⟩ v3).cell? ⟨w.heap.size,1,G⟩=J (I Q (z:Int))):=fun v0 v1 v2 v3=>by
  have d:Kept [w.heap.size+1] W ((((W.drew.setCell ⟨w.heap.size+1,0,G⟩ v0).setCell ⟨w.heap.size+1,1,G⟩ v1).setCell ⟨w.heap.size+1,2,G⟩ v2).setCell ⟨w.heap.size+1,3,G⟩ v3):=((((Kept.refl _ W).drew.setCell (by simp) _).setCell (by simp) _).setCell (by simp) _).setCell (by simp) _;exact⟨E8 d f (by simp;omega),E8 d j (by simp),E8 d l (by simp)⟩
 have v:Hid (∀(v0 v1 v2 v3:Value),((((W.setCell ⟨w.heap.size+1,0,G⟩ v0).setCell ⟨w.heap.size+1,1,G⟩ v1).setCell ⟨w.heap.size+1,2,G⟩ v2).setCell ⟨w.heap.size+1,3,G⟩ v3).drew.cell? ⟨b,1,G⟩=J (I Q (bg:Int))/\((((W.setCell ⟨w.heap.size+1,0,G⟩ v0).setCell ⟨w.heap.size+1,1,G⟩ v1).setCell ⟨w.heap.size+1,2,G⟩ v2).setCell ⟨w.heap.size+1,3,G⟩ v3).drew.cell? ⟨w.heap.size,0,G⟩=J (I Q (a:Int))/\((((W.setCell ⟨w.heap.size+1,0,G⟩ v0).setCell ⟨w.heap.size+1,1,G⟩ v1).setCell ⟨w.heap.size+1,2,G⟩ v2).setCell ⟨w.heap.size+1,3,G⟩ v3).drew.cell? ⟨w.heap.size,1,G⟩=J (I Q (z:Int))):=fun v0 v1 v2 v3=>by
  have d:Kept [w.heap.size+1] W ((((W.setCell ⟨w.heap.size+1,0,G⟩ v0).setCell ⟨w.heap.size+1,1,G⟩ v1).setCell ⟨w.heap.size+1,2,G⟩ v2).setCell ⟨w.heap.size+1,3,G⟩ v3).drew:=(((((Kept.refl _ W).setCell (by simp) _).setCell (by simp) _).setCell (by simp) _).setCell (by simp) _).drew;exact⟨E8 d f (by simp;omega),E8 d j (by simp),E8 d l (by simp)⟩
 go_region_held3 (fun w'=>w'.cell? ⟨b,1,G⟩=J (I Q (bg:Int))/\w'.cell? ⟨w.heap.size,0,G⟩=J (I Q (a:Int))/\w'.cell? ⟨w.heap.size,1,G⟩=J (I Q (z:Int))) (first | with_reducible exact m.out | with_reducible exact q.out | with_reducible exact r.out _ | with_reducible exact s.out _ _ _ _ _ | with_reducible exact u.out _ _ _ _ | with_reducible exact v.out _ _ _ _ | go_keep) (first | (go_at_call 70;refine(E _).mono ?_;rintro e w2 ⟨rfl,rfl⟩))
 go_wp2_with fail;have hZ:At ((((W.setCell ⟨w.heap.size+1,0,G⟩ (I Q (M:Int))).setCell ⟨w.heap.size+1,1,G⟩ (I Q (a:Int))).setCell ⟨w.heap.size+1,2,G⟩ (C D)).setCell ⟨w.heap.size+1,3,G⟩ (L (t.extract a z))).drew (w.heap.size+1) 216 [I Q (M:Int), I Q (a:Int), C D, L (t.extract a z)]:=(((F3.out.setCell (o:=0) (I Q (M:Int))).setCell (o:=1) (I Q (a:Int))).setCell (o:=2) (C D)).setCell (o:=3) (L (t.extract a z));have hB:Below w.heap.size w ((((W.setCell ⟨w.heap.size+1,0,G⟩ (I Q (M:Int))).setCell ⟨w.heap.size+1,1,G⟩ (I Q (a:Int))).setCell ⟨w.heap.size+1,2,G⟩ (C D)).setCell ⟨w.heap.size+1,3,G⟩ (L (t.extract a z))).drew:=by
  refine Kept.below (S:=[w.heap.size+1]) ((((((F1.out.Fn (by simp)).setCell (by simp) _).setCell (by simp) _).setCell (by simp) _).setCell (by simp) _).drew) (Ac _) (by simp)
 refine Ah (BO (p:=6) (ty:=216) (by kernel_rfl) _ _ (w.heap.size+1) 216 _ (0,0) _ rfl hZ underlying216 rfl (by kernel_rfl)) rfl ?_;exact⟨rfl,hB⟩
def OI:Value:=.agg #[I Q 0, I Q 0, C F, L {data:=#[]}]
theorem Ahy{p:Addr}{size:Int}(h:size<1\/1500<size):
 Calls prog 107 #[.pointer (J p), I Q size] w fun e w'=>e=.returned (.tuple #[OI, I Q 1])/\Below w.heap.size w w':=by
 have a:Below w.heap.size w (w.alloc (K #[I Q 0, I Q 0, C F, L {data:=#[]}] 216)):=(Ad _ w).alloc (Ac _) _
 by_cases d:size<1
 ·go_enter func107,ntmps107
  go_wp2_with fail
  (try simp only[Exit.inBlock,Exit.then])
  refine Ah (v:=.tuple #[OI, I Q 1]) ?_ rfl ⟨rfl,?_⟩
  ·rw[AD rfl];unfold OI
   go_simp
  ·exact a
 ·have f:1500<size:=by omega
  go_enter func107,ntmps107
  go_wp2_with fail
  (try simp only[Exit.inBlock,Exit.then])
  refine Ah (v:=.tuple #[OI, I Q 1]) ?_ rfl ⟨rfl,?_⟩
  ·rw[AD rfl];unfold OI
   go_simp
  ·exact a
def KF (x:UnP):Bool:=x.al.isEmpty
def YK (w:World)(b win bg:Nat)(ua:Option Addr)(c:Nat)(us us':List UnP)(i a z:Nat)(tx:ByteArray):Ending->World->Prop:=fun e w'=>e=.returned (.tuple #[LB ((bg+i) % 64) a (decide (z=tx.size)) (tx.extract a z), I Q 0])/\Kept (F0 b ua us) w w'/\∃v',PSnd w' b win bg ua c (us'.set i {us'.getD i .zero with av:=v'})/\(∀g,v'.ownBlock=J g->(us.getD i .zero).av.ownBlock=J g)
theorem Wn{w1 w2:World}{a:List UnP}{v0 v1 v2 v3:Value}(h:PSnd w1 b win bg ua c a)(k:Kept (F0 b ua us) w w1)(d:∀x∈F0 b ua a,x<w.heap.size)(j:Below w1.heap.size w1 w2):
 Kept (F0 b ua us) w ((((w2.setCell ⟨w.heap.size,0,G⟩ v0).setCell ⟨w.heap.size,1,G⟩ v1).setCell ⟨w.heap.size,2,G⟩ v2).setCell ⟨w.heap.size,3,G⟩ v3)/\PSnd ((((w2.setCell ⟨w.heap.size,0,G⟩ v0).setCell ⟨w.heap.size,1,G⟩ v1).setCell ⟨w.heap.size,2,G⟩ v2).setCell ⟨w.heap.size,3,G⟩ v3) b win bg ua c a:=by
 have f:Kept [] w1 w2:=Kept.E5 j;have g:Kept [w.heap.size] w2 ((((w2.setCell ⟨w.heap.size,0,G⟩ v0).setCell ⟨w.heap.size,1,G⟩ v1).setCell ⟨w.heap.size,2,G⟩ v2).setCell ⟨w.heap.size,3,G⟩ v3):=((((Kept.refl _ _).setCell (by simp) _).setCell (by simp) _).setCell (by simp) _).setCell (by simp) _;exact⟨GY (k.trans (f.Fn (by simp))) g (fun x e=> .inr (by simp at e;omega)),(h.kept f (by simp)).kept g (fun x e=>by have:=d x e;simp;omega)⟩
theorem Abs{size p q:Nat}{r:Sps}(h:PSnd w b win bg ua c us)(a0:bg<64)(hl:us.length<=4000)(D:UsOk us)(h1:1<=size)(h2:size<=1500)(hi:i=GC KF us)(t:i<us.length)(n:(us.getD i .zero).al=(p,q)::r):
 Calls prog 107 #[.pointer (J ⟨b,0,G⟩), I Q (size:Int)] w (YK w b win bg ua c us (us.set i {us.getD i .zero with al:=if q<=p+size then r else (p+size,q)::r}) i p (min q (p+size)) (us.getD i .zero).text):=by
 have ac:Kept [] w (w.alloc (K #[I Q 0, I Q 0, C F, L {data:=#[]}] 216)):=(Kept.refl _ w).alloc _;have hA:=Fc w 216 [I Q 0, I Q 0, C F, L {data:=#[]}];have hP:=h.kept ac (by simp);have a5:(w.alloc (K #[I Q 0, I Q 0, C F, L {data:=#[]}] 216)).heap.size=w.heap.size+1:=Ax _ _;have ao:=h.lt;obtain⟨-, -,c2⟩:=hP.head;have ap:∀j,j<i->(us.getD j .zero).al=[]:=fun j hj=>by
  have:=Kz (p:=KF) (us:=us) (k:=j) (by omega);unfold KF at this;exact List.isEmpty_iff.1 this
 have hs:=D.srt i t;rw[n]at hs;have a3:=hs.head.1;have ab:=D.inn i t;have hq:q<=(us.getD i .zero).sent:=by
  have:=ab (q-1) (by rw[n];exact⟨(p,q),AL,by show p<=q-1;omega,by show q-1<q;omega⟩);omega
 have be:=D.sent i t;have aw:=D.size i t;have a4:r.length<=4000:=by
  have:=hs.KX.few (e:=4000) (fun y hy=>by
   have hE:=TA (D.srt i t) (e:=(us.getD i .zero).sent) ab;have:=hE y (by rw[n];exact AU _ hy)
   omega)
  exact this
 obtain⟨N, hN⟩ := E7 us.length;rw[<-hN]at c2 hl t;have HP:=hid hP;have ax:=hid ap;have HN:=hid hN;have HA:=hid hA;have af:=hid ac;have E:=hid ao;have ai:=hid a5;have HI:=hid hi;clear hP ap hN hA ac ao D ab h hi;obtain⟨m, em⟩ := E7 (min q (p+size));obtain⟨l', el⟩ := E7 ((if q<=p+size then r else (p+size,q)::r));rw[<-em,<-el];have EM:=hid em;have EL:=hid el;clear em el;generalize hQ:YK w b win bg ua c us (us.set i {us.getD i .zero with al:=l'}) i p m (us.getD i .zero).text=Post;have HQ:=hid hQ;clear hQ;go_enter func107,ntmps107;have bc:¬((size:Int)<1):=by omega
 have bd:¬(1500<(size:Int)):=by omega
 go_wp2_with fail
 go_loopw [23] (fun vi wr=>∃k:Nat,k<=i/\vi= I Q k/\Hid (wr=w.alloc (K #[I Q 0, I Q 0, C F, L {data:=#[]}] 216))) (fun vi _=>N-(intOf vi).toNat)
 case atStart=>exact⟨0,by omega,rfl,hid rfl⟩
 case round=>
  obtain⟨k,hk,rfl,hw⟩:=hrel;have HW:=hw;have hw:=hw.out;rw[<-hw]at c2;rw[<-hw]at HP HA af ai;obtain⟨A,a6,bb,l⟩:=HP.out.un (i:=k) (by rw[<-HN.out];omega);subst a6;clear hw
  by_cases a2:k<i
  ·have c3:=l.c2;obtain⟨ad,cc,d, -, -, -⟩:=l.ag.FC;rw[ax.out k a2]at d;rw[d]at c3;clear l d
   go_wp2_with fail;exact⟨⟨k+1,by omega,by go_num,HW⟩,by simp[intOf];omega⟩
  ·obtain rfl:k=i:=by omega
   obtain⟨ad,cc,d, -, -,aj⟩:=l.ag.FC;have H:=l.ag;rw[n]at H;rw[d,n]at H;obtain⟨ga,ay, -, -⟩:=H.at (i:=0) (by simp);subst ay;have c3:=l.c2;rw[d,n]at c3;have a1:ga≠A:=l.sep ga (by rw[d];rfl);have hcut:=AhB (w:=wr) (b:=A) (o:=k*4+2) (size:=size) c3 (l.fr _) H a1 a4 a3 (by omega) h1 (by omega);rw[<-EM.out,<-EL.out]at hcut;have u:k<us.length:=by rw[<-HN.out];exact t
   have W:∀w1 v',PtrPost wr w1 A (k*4+2) [ga] v'->OwnSp w1 v' l'->v'.ownBlock=J ga->PSnd w1 b win bg (J ⟨A,0,G⟩) c (us.set k {us.getD k .zero with av:=v',al:=l'})/\Kept (F0 b (J ⟨A,0,G⟩) us) w w1/\w.heap.size<w1.heap.size/\At w1 w.heap.size 216 [I Q 0, I Q 0, C F, L {data:=#[]}]:=fun w1 v' p1 p2 p3=>by
    have a9:ga∈F0 b (J ⟨A,0,G⟩) us:=Jy u (by rw[d];rfl);have ba:A∈F0 b (J ⟨A,0,G⟩) us:=IK (y:=⟨A,0,G⟩) rfl;have hS:∀x∈A::[ga],x∈F0 b (J ⟨A,0,G⟩) us:=by grind
    refine⟨HP.out.upd u (f:=2) (by omega) p1 (fun s hs=>by simp at hs;subst hs;rw[d];rfl) rfl p2 (fun g' am=> .inl (by rw[p3]at am;cases am;rw[d];rfl)),?_,?_,?_⟩
    ·exact GY (af.out.Fn (by simp)) p1.kept (fun x hx=> .inl (hS x hx))
    ·have:=p1.kept.size;have:=ai.out;omega
    ·exact HA.out.kept p1.kept (fun hx=>by have:=E.out _ (hS _ hx);omega)
   have aq:∀w1 v',PSnd w1 b win bg (J ⟨A,0,G⟩) c (us.set k {us.getD k .zero with av:=v',al:=l'})->Calls prog 154 #[.pointer (J ⟨b,0,G⟩), I Q (k:Int),.agg #[I Q (p:Int), I Q (m:Int)]] w1 fun e w'=>e=.returned (LB ((bg+k) % 64) p (decide (m=(us.getD k .zero).text.size)) ((us.getD k .zero).text.extract p m))/\Below w1.heap.size w1 w':=fun w1 v' a8=>by
    have:=Wm (i:=k) (a:=p) (z:=m) a8 (by rw[An];exact u) (by omega) a0 (by rw[EM.out];omega) (by rw[FL u,EM.out];grind) (by rw[FL u];exact aw);rw[FL u]at this;exact this
   have ae:=hid W;have ah:=hid aq;have M:Hid (∀w2 v',Kept (F0 b (J ⟨A,0,G⟩) us) w w2->PSnd w2 b win bg (J ⟨A,0,G⟩) c (us.set k {us.getD k .zero with av:=v',al:=l'})->v'.ownBlock=J ga->Post (.returned (.tuple #[LB ((bg+k) % 64) p (decide (m=(us.getD k .zero).text.size)) ((us.getD k .zero).text.extract p m), I Q 0])) w2):=hid fun w2 v' q1 q2 q3=>by
    rw[<-HQ.out];refine⟨rfl,q1,v',?_,fun g hg=>by rw[q3]at hg;cases hg;rw[d];rfl⟩;rw[FL u,B9];exact q2
   have P:Hid (∀v',v'.ownBlock=J ga->∀x∈F0 b (J ⟨A,0,G⟩) (us.set k {us.getD k .zero with av:=v',al:=l'}),x<w.heap.size):=hid fun v' a7 x hx=>by
    rcases J4 hx with rfl | ⟨y,hy,rfl⟩ | ⟨j,hj,e⟩
    ·exact E.out _ (KU _ _ _)
    ·exact E.out _ (IK hy)
    ·rw[An]at hj
     by_cases an:j=k
     ·subst an;rw[FL hj]at e;have e':v'.ownBlock=J x:=e;rw[a7]at e'
      cases e';exact E.out _ (Jy hj (by rw[d];rfl))
     ·rw[GH (fun e'=>an e'.symm)]at e;exact E.out _ (Jy hj e)
   generalize ar:LB ((bg+k) % 64) p (decide (m=(us.getD k .zero).text.size)) ((us.getD k .zero).text.extract p m)=PV at*;have au:∃v0 v1 v2 v3,PV=.agg #[I Q v0, I Q v1, C v2, L v3]:=⟨_,_,_,_,ar.symm⟩;obtain⟨v0,v1,v2,v3,az⟩:=au;subst az;clear ar W aq d H l n aj hs
   go_wp2_with(first
    | (go_at_call 155;refine hcut.mono ?_;rintro e w1 ⟨v',rfl,p1,p2,p3⟩;obtain⟨t1,t2,t3,t4⟩:=ae.out _ _ p1 p2 p3;have aa:=ah.out _ _ t1)
    | (go_at_call 154;refine aa.mono ?_;rintro e w2 ⟨rfl,ak⟩;have t5:=t4.kept (S:=[]) (Kept.E5 ak) (by simp);have y0:w2.cell? ⟨w.heap.size,0,G⟩=J (I Q 0):=t5.cell 0;have y1:w2.cell? ⟨w.heap.size,1,G⟩=J (I Q 0):=t5.cell 1;have y2:w2.cell? ⟨w.heap.size,2,G⟩=J (C F):=t5.cell 2;have y3:w2.cell? ⟨w.heap.size,3,G⟩=J (L {data:=#[]}):=t5.cell 3;have z0:=t5.free 0;have z1:=t5.free 1;have z2:=t5.free 2;have z3:=t5.free 3))
   obtain⟨e1,e2⟩:=Wn (v0:= I Q v0) (v1:= I Q v1) (v2:= C v2) (v3:= L v3) t1 t2 (P.out v' p3) ak
   (try simp only[Exit.inBlock,Exit.then])
   refine Ah (v:=.tuple #[.agg #[I Q v0, I Q v1, C v2, L v3], I Q 0]) ?_ rfl (M.out _ v' e1 e2 p3);rw[AD rfl];clear e1 e2 t1 t2 aa M P ah ae HP hcut
   go_simp
end Go.Proofs.YtbjgfoiikhbonahGreatDoor
