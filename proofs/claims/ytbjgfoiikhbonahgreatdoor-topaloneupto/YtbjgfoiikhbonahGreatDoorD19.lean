import Derived.Test.YtbjgfoiikhbonahGreatDoorD18
set_option linter.unusedVariables false
set_option linter.unusedSimpArgs false
set_option maxRecDepth 100000
set_option maxHeartbeats 4000000
namespace Go.Proofs.YtbjgfoiikhbonahGreatDoor
open Go.ChangeShapes Go.WideShapes Go.ChangeAt Go.RowKit Go.Proofs.Tryz
open Value (int slice)
open IntKind (i64)
variable {P:Nat->Nat->Prop}{b bg c fs g i k win:Nat}{ua:Option Addr}{us us':List UnP}{w wr:World}
def repErr(bg:Nat)(us:List UnP)(r:ReportM):Int:=
 if r.next<0\/63<r.next then 3 else if GC GR us<E9 r.next bg then 3 else if r.miss.all (JV bg (E9 r.next bg) us)=true then 0 else 3
theorem ND(r:ReportM)(a:Option Addr)(n cc:Nat)(h:PSnd w b win bg ua c us)(U:bg<64)(hl:us.length<=4000)(ab:∀i,i<us.length->(us.getD i .zero).text.size<=1500)(hG:Gps w a r.miss)(hn:r.miss.length=n)(hm:n<=maxLen):
 Calls prog 63 #[.pointer (some ⟨b,0,none⟩),.agg #[int i64 r.next,slice a n cc]] w fun e w'=>e=.returned (int i64 (repErr bg us r))/\Below w.heap.size w w':=by
 obtain⟨-,c1,c2⟩:=h.head;have hA:=Fc w 95 [int i64 r.next,slice a n cc];have Z:Kept [] w (w.alloc (.cells #[int i64 r.next,slice a n cc] 95)):=(Kept.refl _ w).alloc _;have hP:=h.kept Z (fun x _=>by simp);have O:=hG.kept Z (fun x _=>by simp);have k1:=E8 Z c1 (by simp);have x0:(w.alloc (.cells #[int i64 r.next,slice a n cc] 95)).cell? ⟨w.heap.size,0,none⟩=some (int i64 r.next):=hA.cell 0;have x1:(w.alloc (.cells #[int i64 r.next,slice a n cc] 95)).cell? ⟨w.heap.size,1,none⟩=some (slice a n cc):=hA.cell 1;have hB:Below w.heap.size w (w.alloc (.cells #[int i64 r.next,slice a n cc] 95)):=(Ad _ w).alloc (Ac _) _;have d:=fun W=>Ni r.next W
 have u:(w.alloc (.cells #[int i64 r.next,slice a n cc] 95)).heap.size=w.heap.size+1:=Ax _ _;obtain⟨V,B⟩:=E7 (repErr bg us r);rw[<-B];have aq:n<=9223372036854775807:=by unfold maxLen at hm;omega
 have M:=hid hP;have ae:=hid O;have HB:=hid hB;have HN:=hid hn;have ah:=hid ab;have v:=hid u;have af:=hid hl;obtain⟨next,miss⟩:=r;dsimp only at*;have ai:=c1;clear h hG hA Z c1 c2 hP O hB hm ab u hn
 by_cases F:next<0\/63<next
 ·rw[show decide (0<=next/\next<=63)=false from Ae (by omega)]at d;have y:=hid (show V=3 by rw[B];unfold repErr;rw[Ab F]);clear B F hl;go_enter func63,ntmps63;go_upto_region 1 with fail
  go_quiet (first | (go_at_call 115;exact Ba (d _)))
  go_wp2_with fail;go_ret;exact⟨by rw[y.out];rfl,JO HB.out _⟩
 ·rw[show decide (0<=next/\next<=63)=true from Ag (by omega)]at d;have C:=fun W=>Ll (k:=next) (bg:=bg) W U (by omega) (by omega)
  have S:∀m,Calls prog 116 #[.pointer (some ⟨b,0,none⟩)] ((w.alloc (.cells #[int i64 next,slice a n cc] 95)).drewN m) fun e w'=>e=.returned (int i64 ((GC GR us:Nat):Int))/\w'=(w.alloc (.cells #[int i64 next,slice a n cc] 95)).drewN m:=fun m=>Afr (M.out.kept ((Kept.refl [] _).drewN m) (by simp)) (by omega)
  by_cases q2:GC GR us<E9 next bg
  ·have y:=hid (show V=3 by rw[B];unfold repErr;rw[Aa F,Ab q2]);clear B F hl;generalize GC GR us=L at*;generalize E9 next bg=A at*
   go_enter func63,ntmps63;go_upto_region 1 with fail
   go_quiet (first | (go_at_call 115;exact Ba (d _)) | (go_at_call 65;exact Ba (C _)) | (go_at_call 116;exact Ba (S _)))
   go_wp2_with fail;go_ret;exact⟨by rw[y.out];rfl,JO HB.out _⟩
  ·have Q:=hid (show V=if miss.all (JV bg (E9 next bg) us)=true then 0 else 3 by rw[B];unfold repErr;rw[Aa F,Aa q2]);have aj:E9 next bg<=us.length:=by have:=K9 GR us;omega
   have X:∀W,Below w.heap.size w W->PSnd W b win bg ua c us->∀g:GapM,Calls prog 117 #[.pointer (some ⟨b,0,none⟩),g.val,int i64 ((E9 next bg:Nat):Int)] W fun e w'=>e=.returned (int i64 (Mq bg (E9 next bg) us g))/\Below W.heap.size W w':=fun W _ hW g=>Xh g hW U aj af.out ah.out
   have ar:¬(GC GR us<E9 next bg):=q2;clear B F hl q2;generalize GC GR us=L at*;generalize ao:E9 next bg=A at*
   go_enter func63,ntmps63;go_upto_region 1 with fail
   go_quiet (first | (go_at_call 115;exact Ba (d _)) | (go_at_call 65;exact Ba (C _)) | (go_at_call 116;exact Ba (S _)))
   go_wp2_with fail;have ap:b<w.heap.size:=by
    exact Aj w ⟨b,1,none⟩ ai
   go_loopw [27] (fun vi wr=>∃k:Nat,k<=n/\vi=int i64 k/\Hid (∀j,j<k->JV bg A us (miss.getD j .zero)=true)/\Below (w.heap.size+1) (w.alloc (.cells #[int i64 next,slice a n cc] 95)) wr) (fun vi _=>n-(intOf vi).toNat)
   case atStart=>exact⟨0,by omega,rfl,hid (fun j hj=>by omega),JO (Ad _ _) _⟩
   case round=>
    obtain⟨k,Z,rfl,HJ,s⟩:=hrel;have E:Below w.heap.size w wr:=HB.out.trans (s.mono (by omega))
    by_cases aa:k<n
    ·obtain⟨gb,go,rfl,hC⟩:=ae.out (by intro e;have:=HN.out;rw[e]at this;simp at this;omega);obtain⟨e0,e1,e2⟩:=hC k (by rw[HN.out];exact aa);have l:gb<w.heap.size+1:=by have:=Aj _ _ e0;rw[v.out]at this;exact this
     have f0:=(AF (s.block gb l)).trans e0;have f1:=(AF (s.block gb l)).trans e1;have f2:=(AF (s.block gb l)).trans e2;have H:=hid E;have I:=hid s;have y0:=(AF (s.block w.heap.size (by omega))).trans x0;have y1:=(AF (s.block b (by omega))).trans k1;have ac:w.heap.size+1<=wr.heap.size:=by have:=s.size;rw[v.out]at this;exact this
     clear hC e0 e1 e2 s E;generalize Y:miss.getD k .zero=g at*;have K:=hid Y;clear Y;obtain⟨num,frm,til⟩:=g;dsimp only at f0 f1 f2;go_upto_region 6 with fail
     have f:Kept [] wr (wr.alloc (.cells #[int i64 num,int i64 frm,int i64 til] 154)):=(Kept.refl _ wr).alloc _;have p:=Fc wr 154 [int i64 num,int i64 frm,int i64 til];have an:wr.heap.size<(wr.alloc (.cells #[int i64 num,int i64 frm,int i64 til] 154)).heap.size:=by simp
     generalize wr.alloc (.cells #[int i64 num,int i64 frm,int i64 til] 154)=o at*;have z0:=E8 f y0 (by simp);have z1:=E8 f y1 (by simp);have g0:o.cell? ⟨wr.heap.size,0,none⟩=some (int i64 num):=p.cell 0;have g1:o.cell? ⟨wr.heap.size,1,none⟩=some (int i64 frm):=p.cell 1;have g2:o.cell? ⟨wr.heap.size,2,none⟩=some (int i64 til):=p.cell 2;have am:∀q,Calls prog 117 #[.pointer (some ⟨b,0,none⟩),.agg #[int i64 num,int i64 frm,int i64 til],int i64 (A:Int)] (o.drewN q) fun e w'=>e=.returned (int i64 (Mq bg A us ⟨num,frm,til⟩))/\Below o.heap.size o w':=fun q=>by
      have ak:PSnd (o.drewN q) b win bg ua c us:=(M.out.kept (T:=[]) (Kept.E5 (by rw[v.out];exact I.out)) (by simp)).kept (f.drewN q) (by simp);exact(X _ (H.out.trans (Kept.below (f.drewN q) (H.out.size) (by simp))) ak ⟨num,frm,til⟩).mono (fun e w' z=>⟨z.1,(JO (Ad _ o) q).trans z.2⟩)
     have ag:=hid f;clear f p X y0 y1 f0 f1 f2;generalize N:Mq bg A us ⟨num,frm,til⟩=ER at*;have J:=hid N;clear N
     go_cut [7]from 28 to 44 (fun t wx=>t=int i64 ER/\Below o.heap.size o wx)
     case first=>
      go_region_with (first | (go_at_call 65;refine(C _).mono ?_;rintro e w2 ⟨rfl,rfl⟩) | (go_at_call 117;refine(am _).mono ?_;rintro e w2 ⟨rfl,al⟩))
      all_goals (go_wp2;go_meet;exact⟨rfl,al⟩)
     case rest=>
      obtain⟨rfl,R⟩:=hcut;have D:=(I.out.trans (Kept.below ag.out ac (by simp))).trans (R.mono (by omega));have ad:=hid D;have G:=hid (HB.out.trans (D.mono (by omega)));clear R D z0 z1 g0 g1 g2 x0 x1 k1
      by_cases q5:JV bg A us ⟨num,frm,til⟩=true
      ·have e5:ER=0:=by rw[<-J.out];unfold Mq;rw[Ab q5]
       subst e5
       go_wp2_with fail;refine⟨⟨k+1,by omega,by go_num,hid (fun j hj=>?_),ad.out⟩,by simp[intOf];omega⟩
       rcases AS j k with z | z
       ·exact HJ.out j z
       ·rw[show j=k by omega,K.out];exact q5
      ·have e5:ER=3:=by rw[<-J.out];unfold Mq;rw[Aa q5]
       subst e5
       have y:=hid (show V=3 by
        rw[Q.out,Aa];intro z
        have:=AM.1 z (miss.getD k .zero) (by
         rw[Au,Ap (by rw[HN.out];exact aa)]
         exact A4 _)
        rw[K.out]at this
        exact q5 this)
       go_wp2_with fail;go_ret;exact⟨by rw[y.out];rfl,G.out⟩
    ·have y:=hid (show V=0 by
      rw[Q.out,Ab];refine AM.2 fun g hg=>?_
      obtain⟨j,hj,rfl⟩:=List.mem_iff_getElem.1 hg;have:=HJ.out j (by rw[HN.out]at hj;omega)
      grind)
     go_wp2_with fail;go_ret;exact⟨by rw[y.out];rfl,E⟩
theorem TA{l:Sps}(h:Srt l){e:Nat}(hi:∀t,inS l t->t<e):Qe l e:=fun q a=>by
 have d:=h.1 q a;have:=hi (q.2-1) ⟨q,a,by omega,by omega⟩;omega
def Lost (P:Nat->Nat->Prop)(us us':List UnP):Prop:=us'.length=us.length/\∀i,i<us.length->(us'.getD i .zero).text=(us.getD i .zero).text/\(us'.getD i .zero).sent=(us.getD i .zero).sent/\(us'.getD i .zero).dn=(us.getD i .zero).dn/\Srt (us'.getD i .zero).al/\(∀t,inS (us'.getD i .zero).al t↔inS (us.getD i .zero).al t\/((us.getD i .zero).dn=false/\t<(us.getD i .zero).sent/\P i t))
structure UsOk(us:List UnP):Prop where
 srt:∀i,i<us.length->Srt (us.getD i .zero).al
 sent:∀i,i<us.length->(us.getD i .zero).sent<=(us.getD i .zero).text.size
 size:∀i,i<us.length->(us.getD i .zero).text.size<=1500
 inn:∀i,i<us.length->∀t,inS (us.getD i .zero).al t->t<(us.getD i .zero).sent
theorem Lost.refl(h:UsOk us):Lost (fun _ _=>False) us us:=⟨rfl,fun i hi=>⟨rfl,rfl,rfl,h.srt i hi,fun a=>⟨.inl,fun h=>h.elim id fun h=>h.2.2.elim⟩⟩⟩
theorem Lost.ok(h:Lost P us us')(d:UsOk us):UsOk us':=by
 refine⟨fun i hi=>?_,fun i hi=>?_,fun i hi=>?_,fun i hi t ht=>?_⟩
 all_goals
  rw[h.1]at hi;obtain⟨e1,e2,e3,e,f⟩:=h.2 i hi
 ·exact e
 ·rw[e1,e2];exact d.sent i hi
 ·rw[e1];exact d.size i hi
 ·rw[e2]
  rcases (f t).1 ht with a | a
  ·exact d.inn i hi t a
  ·exact a.2.1
theorem Lost.step{a z:Nat}{e:Sps}{v':Value}(h:Lost P us us')(hi:i<us.length)(n:Srt e)(o:∀t,inS e t↔inS (us'.getD i .zero).al t\/((us'.getD i .zero).dn=false/\a<=t/\t<min z (us'.getD i .zero).sent)):
 Lost (fun j t=>P j t\/(j=i/\a<=t/\t<z)) us (us'.set i {us'.getD i .zero with av:=v',al:=e}):=by
 refine⟨by rw[An];exact h.1,fun j f=>?_⟩;obtain⟨e1,e2,e3,l,m⟩:=h.2 j f
 by_cases d:j=i
 ·subst d;rw[FL (by rw[h.1];exact f)]
  grind
 grind
theorem Lost.congr{Q:Nat->Nat->Prop}(h:Lost P us us')(a:∀i,i<us.length->∀t,t<(us.getD i .zero).sent->(P i t↔Q i t)):Lost Q us us':=by grind [Lost]
def NewU (B:Nat)(us us':List UnP):Prop:=∀i,i<us.length->∀g,(us'.getD i .zero).av.ownBlock=some g->(us.getD i .zero).av.ownBlock=some g\/B<=g
theorem NewU.refl(B:Nat)(us:List UnP):NewU B us us:=fun _ _ _ h=> .inl h
theorem NewU.set{B a:Nat}{x':UnP}(h:NewU B us us')(e:us'.length=us.length)(d:B<=a)(hi:i<us.length)(f:∀g,x'.av.ownBlock=some g->(us'.getD i .zero).av.ownBlock=some g\/a<=g):NewU B us (us'.set i x'):=by grind [NewU]
def LQ (bg:Nat)(gs:List GapM)(i:Nat):Bool:=gs.any fun g=>E9 g.num bg==i
def lkC (bg:Nat)(gs:List GapM):List Value:=(List.range 32).map fun i=>Value.bool (LQ bg gs i)
theorem AlH(bg:Nat):lkC bg []=List.replicate 32 (.bool false):=by
 unfold lkC LQ;rfl
theorem Nk(bg:Nat)(gs:List GapM):(lkC bg gs).length=32:=by simp[lkC]
theorem XR(bg:Nat)(gs:List GapM)(hi:i<32):(lkC bg gs)[i]?=some (.bool (LQ bg gs i)):=by
 unfold lkC
 grind
theorem Ajj(bg:Nat)(gs:List GapM)(g:GapM)(h:E9 g.num bg<32):lkC bg (gs++[g])=(lkC bg gs).set (E9 g.num bg) (.bool true):=by
 refine Bf fun i=>?_
 grind [Nk,XR,E9,LQ]
def Rn (bg:Nat)(gs:List GapM)(i t:Nat):Prop:=∃g∈gs,E9 g.num bg=i/\g.at t=true
def Aia (w:World)(b win bg:Nat)(ua:Option Addr)(c:Nat)(us:List UnP)(gs:List GapM):Ending->World->Prop:=fun e w'=>e=.returned (.agg (lkC bg gs).toArray)/\Kept (F0 b ua us) w w'/\∃us',PSnd w' b win bg ua c us'/\Lost (Rn bg gs) us us'/\NewU w.heap.size us us'
theorem AeM{S:List Nat}{a:World}(h:Kept S a w){p:Addr}(f:a.heap.size<=p.block)(u:Value):Kept S a (w.setCell p u):=
 ⟨h.os,h.tape,h.output,by rw[Ef];exact h.size,fun k d e=>(Co w p k u (by omega)).trans (h.block k d e)⟩
theorem GY{F T:List Nat}{w2:World}(h:Kept F w wr)(a:Kept T wr w2)(ht:∀x∈T,x∈F\/w.heap.size<=x):Kept F w w2:=
 ⟨a.os.trans h.os,a.tape.trans h.tape,a.output.trans h.output,Ak h.size a.size,fun k d e=>by
  rw[a.block k (AI d h.size) (fun f=>(ht k f).elim e (by omega)),h.block k d e]⟩
theorem XS{d:Nat}(gs:List GapM)(a:Option Addr)(n cc:Nat)(h:PSnd w b win bg ua c us)(bo:bg<64)(hd:d<=32)(b2:d<=us.length)(a3:UsOk us)(hg:gs.all (JV bg d us)=true)(hG:Gps w a gs)(ax:gs≠[]->Qh (F0 b ua us) a)(hn:gs.length=n)(hm:n<=maxLen):
 Calls prog 64 #[.pointer (some ⟨b,0,none⟩),slice a n cc] w (Aia w b win bg ua c us gs):=by
 obtain⟨-,c1,c2⟩:=h.head;have b1:=h.hd.lt;have b3:n<=9223372036854775807:=by unfold maxLen at hm;omega
 have a2:=h.lt;have H:=hid h;have T:=hid a3;have ba:=hid hg;have HG:=hid hG;have bd:=hid ax;have HN:=hid hn;have ar:=hid a2;clear h a3 hg hG ax hn hm c1 c2 a2;go_enter func64,ntmps64
 go_wp2_with fail
 go_loopw [12] (fun vi wr=>∃k:Nat,k<=n/\vi=int i64 k/\∃us',PSnd wr b win bg ua c us'/\Lost (Rn bg (gs.take k)) us us'/\NewU (w.heap.size+2) us us'/\Kept (F0 b ua us) w wr/\At wr (w.heap.size+1) 133 (lkC bg (gs.take k))/\At wr w.heap.size 133 (List.replicate 32 (.bool false))) (fun vi _=>n-(intOf vi).toNat)
 case atStart=>
  refine⟨0,by omega,rfl,us,H.out.kept (((Kept.refl [] w).alloc _).alloc _) (by simp),?_,NewU.refl _ _,((Kept.refl _ w).alloc _).alloc _,?_,?_⟩
  ·refine(Lost.refl T.out).congr fun i hi t ht=>⟨fun h=>h.elim,fun⟨g,hg,_⟩=>?_⟩
   simp at hg
  ·have:=Fc (w.alloc (.cells (List.replicate 32 (.bool false)).toArray 133)) 133 (List.replicate 32 (.bool false));rw[Ax]at this;rw[C0,AlH];exact this
  ·exact(Fc w 133 (List.replicate 32 (.bool false))).kept (S:=[]) ((Kept.refl _ _).alloc _) (by simp)
 case round=>
  obtain⟨k,hk,rfl,us',hP,V,I,hK,u,K⟩:=hrel
  by_cases bq:k<n
  ·have X:k<gs.length:=by rw[HN.out];exact bq
   obtain⟨gb,go,rfl,hC⟩:=HG.out (by rintro rfl;simp at X);obtain⟨e0,e1,e2⟩:=hC k X;have ai:gb∉F0 b ua us:=bd.out (by rintro rfl;simp at X) _ rfl;have f0:=E8 hK e0 ai;have f1:=E8 hK e1 ai;have f2:=E8 hK e2 ai
   have aj:=AM.1 ba.out (gs.getD k .zero) (by
    grind)
   have a7:gs.take (k+1)=gs.take k++[gs.getD k .zero]:=by
    rw[Br,Au,Ap X];rfl
   have au:=hid a7;clear hC e0 e1 e2 a7;generalize gs.getD k .zero=g at*;unfold JV at aj;rw[BD,BD,Bq,Bq,Bq]at aj;obtain⟨ad,bz,br⟩:=aj;have bn:=fun W=>Ll (k:=g.num) (bg:=bg) W bo ad.1 ad.2
   have U:E9 g.num bg<us'.length:=by rw[V.1];omega
   have r:E9 g.num bg<us.length:=by omega
   have Y:E9 g.num bg<32:=by omega
   obtain⟨G,bs,bx,am⟩:=hP.un U;obtain⟨m1,m2,m3,m4,m5⟩:=V.2 _ r;have bv:=T.out.size _ r;have a4:=T.out.sent _ r;have ac:=T.out.inn _ r;have a5:w.heap.size+1<wr.heap.size:=u.lt;have B:∀x∈F0 b ua us',x≠w.heap.size+1/\x≠w.heap.size:=fun x C=>by
    have O:x∈F0 b ua us\/w.heap.size+2<=x:=by
     rcases J4 C with rfl | ⟨y,hy,rfl⟩ | ⟨i,hi,e⟩
     ·exact .inl (KU _ _ _)
     ·exact .inl (IK hy)
     ·rw[V.1]at hi
      rcases I i hi x e with l | l
      ·exact .inl (Jy hi l)
      ·exact .inr l
    rcases O with l | l
    ·have:=ar.out x l;omega
    ·omega
   obtain⟨-,c1,c2⟩:=hP.head;subst bs;have HP:=hid hP;have HL:=hid V;have R:=hid I;have HK:=hid hK;have a9:=hid u;have af:=hid K;have j:=hid B;have u0:=am.c0;have be:=hid am;have HM:=hid m5;have bb:=hid (show lkC bg (gs.take (k+1))=(lkC bg (gs.take k)).set (E9 g.num bg) (.bool true)by rw[au.out,Ajj _ _ _ Y]);have ay:wr.cell? ⟨w.heap.size+1,E9 g.num bg,none⟩=some (.bool (LQ bg (gs.take k) (E9 g.num bg))):=by rw[u.cell,XR _ _ Y]
   have az:=u.free (E9 g.num bg);clear hP V I hK u K B am m5;obtain⟨num,frm,til⟩:=g;dsimp only at*;obtain⟨z,hz⟩:=E7 (if til<0 then (us.getD (E9 num bg) .zero).text.size else til.toNat:Nat);obtain⟨J,bm⟩:∃J:Nat,frm=(J:Int):=⟨frm.toNat,by omega⟩;subst bm;have bt:z<=3000:=by rw[hz];split<;>omega
   have N:∀W,Kept [w.heap.size+1] wr W->Calls prog 66 #[.pointer (some ⟨G,E9 num bg*4,none⟩),.agg #[int i64 (J:Int),int i64 (z:Int)]] W (Qg W G (E9 num bg*4) (us'.getD (E9 num bg) .zero) J z):=fun W hW=>by
    have hu:UnAt W G (E9 num bg*4) (us'.getD (E9 num bg) .zero):=be.out.kept hW (by simpa using (j.out G (IK (y:=⟨G,0,none⟩) rfl)).1) (fun g' bp=>by simpa using (j.out g' (Jy U bp)).1);refine Z0 hu m4 ?_ (by rw[m2];omega) (by omega) bt;refine TA m4 fun t ht=>?_
    rcases (HM.out t).1 ht with h' | h'
    ·have:=ac t h';omega
    ·omega
   have ab:∀W w2,Kept [w.heap.size+1] wr W->At W (w.heap.size+1) 133 (lkC bg (gs.take (k+1)))->At W w.heap.size 133 (List.replicate 32 (.bool false))->Qg W G (E9 num bg*4) (us'.getD (E9 num bg) .zero) J z (.returned (.tuple #[])) w2->∃m,PSnd w2 b win bg (some ⟨G,0,none⟩) c m/\Lost (Rn bg (gs.take (k+1))) us m/\NewU (w.heap.size+2) us m/\Kept (F0 b (some ⟨G,0,none⟩) us) w w2/\At w2 (w.heap.size+1) 133 (lkC bg (gs.take (k+1)))/\At w2 w.heap.size 133 (List.replicate 32 (.bool false)):=fun W w2 hW bi bh bk=>by
    obtain⟨-,v',l',p1,p2,p3,p4,p5⟩:=bk;have bl:PSnd W b win bg (some ⟨G,0,none⟩) c us':=HP.out.kept hW (fun x C=>by simpa using (j.out x C).1);have hS:∀s∈G::(us'.getD (E9 num bg) .zero).av.ownBlock.toList,s∈F0 b (some ⟨G,0,none⟩) us':=fun s hs=>by
     rw[Ar]at hs
     rcases hs with rfl | hs
     ·exact IK (y:=⟨s,0,none⟩) rfl
     ·exact Jy U (by simpa using hs)
    refine⟨us'.set (E9 num bg) {us'.getD (E9 num bg) .zero with av:=v',al:=l'},?_,?_,?_,?_,?_,?_⟩
    ·exact bl.upd U (f:=2) (by omega) p1 (fun s hs=>by simpa using hs) rfl p2 p5
    ·refine(HL.out.step (v':=v') r p3 p4).congr fun i hi t ht=>?_
     rw[au.out]
     constructor
     ·rintro(⟨g,hg,l⟩ | ⟨rfl,l,h2⟩)
      ·exact⟨g,Df _ hg,l⟩
      ·refine⟨⟨num,J,til⟩,DH _ (by simp),rfl,Ag ⟨by show(J:Int)<=t;omega,?_⟩⟩
       grind
     ·rintro⟨g,hg,l,h2⟩;rw[BH,AC]at hg
      rcases hg with hg | rfl
      ·exact .inl ⟨g,hg,l,h2⟩
      ·have h3:=AQ h2
       grind
    ·exact R.out.set HL.out.1 (show w.heap.size+2<=W.heap.size by have:=hW.size;omega) r p5
    ·refine GY (GY HK.out hW (fun x C=>by simp at C;omega)) p1.kept (fun x C=>?_)
     rcases J4 (hS x C)with rfl | ⟨y,hy,rfl⟩ | ⟨i,hi,e⟩
     ·exact .inl (KU _ _ _)
     ·exact .inl (IK hy)
     ·rw[HL.out.1]at hi
      rcases R.out i hi x e with l | l
      ·exact .inl (Jy hi l)
      ·exact .inr (by omega)
    ·exact bi.kept p1.kept (fun C=>(j.out _ (hS _ C)).1 rfl)
    ·exact bh.kept p1.kept (fun C=>(j.out _ (hS _ C)).2 rfl)
   have aq:=hid N;have ap:=hid ab;have a8:(us'.getD (E9 num bg) .zero).text=(us.getD (E9 num bg) .zero).text:=m1;rw[a8]at u0;have HZ:=hid hz;clear N ab m1 m2 m3 m4 a8 ac a4 hz;generalize (us.getD (E9 num bg) .zero).text=tx at*;generalize us'.length=N' at*;generalize bj:LQ bg (gs.take k) (E9 num bg)=lk at*;clear bj;generalize bf:E9 num bg=A at*;clear bf;go_upto_region 5 with fail
   have D:Kept [] wr (wr.alloc (.cells #[int i64 num,int i64 (J:Int),int i64 til] 154)):=(Kept.refl _ wr).alloc _;have L:=Fc wr 154 [int i64 num,int i64 (J:Int),int i64 til];generalize wr.alloc (.cells #[int i64 num,int i64 (J:Int),int i64 til] 154)=W1 at*;have z1:=E8 D c1 (by simp);have z2:=E8 D c2 (by simp);have zu:=E8 D u0 (by simp);have zA:=E8 D ay (by simp);have zf:=Ic D az (by grind) (by simp);have g0:W1.cell? ⟨wr.heap.size,0,none⟩=some (int i64 num):=L.cell 0;have g1:W1.cell? ⟨wr.heap.size,1,none⟩=some (int i64 (J:Int)):=L.cell 1;have g2:W1.cell? ⟨wr.heap.size,2,none⟩=some (int i64 til):=L.cell 2;have gf:=L.free 2;have bu:¬(w.heap.size+1=wr.heap.size):=by omega
   have bw:¬(G=w.heap.size+1):=(j.out G (IK (y:=⟨G,0,none⟩) rfl)).1;have b0:¬(b=w.heap.size+1):=(j.out b (KU _ _ _)).1;have ag:=hid D;clear D L c1 c2 u0 ay az f0 f1 f2
   go_quiet (first | (go_at_call 65;exact Ba (bn _)));have M:∀q,Kept [w.heap.size+1] wr ((W1.drewN q).setCell ⟨w.heap.size+1,A,none⟩ (.bool true)):=fun q=>((ag.out.Fn (by simp)).drewN q).setCell (by simp) _
   have aa:∀q,At ((W1.drewN q).setCell ⟨w.heap.size+1,A,none⟩ (.bool true)) (w.heap.size+1) 133 (lkC bg (gs.take (k+1))):=fun q=>by
    rw[bb.out];exact(a9.out.kept (ag.out.drewN q) (by simp)).setCell (o:=A) (.bool true)
   have Z:∀q,At ((W1.drewN q).setCell ⟨w.heap.size+1,A,none⟩ (.bool true)) w.heap.size 133 (List.replicate 32 (.bool false)):=fun q=>(af.out.kept (ag.out.drewN q) (by simp)).MU _ _ (by grind)
   have Q:=hid M;have an:=hid aa;have ao:=hid Z;clear M aa Z
   by_cases a6:til<0
   ·have ez:z=tx.size:=by rw[HZ.out,Ab a6]
    subst ez
    go_wp2_with(go_at_call 66;refine(aq.out _ (AeM (Q.out _) (Ac _) _)).mono ?_;intro e w2 E;obtain rfl:=E.1;obtain⟨m,r1,r2,r3,r4,r5,r6⟩:=ap.out _ _ (AeM (Q.out _) (Ac _) _) ((an.out _).MU _ _ (by grind)) ((ao.out _).MU _ _ (by show w.heap.size≠wr.heap.size;omega)) E;have R1:=hid r1;have R2:=hid r2;have R3:=hid r3;have R4:=hid r4;have R5:=hid r5;have R6:=hid r6;clear r1 r2 r3 r4 r5 r6 E);exact⟨⟨k+1,by omega,by go_num,m,R1.out,R2.out,R3.out,R4.out,R5.out,R6.out⟩,by simp[intOf];omega⟩
   ·have ez:(z:Int)=til:=by rw[HZ.out,Aa a6];omega
    subst ez
    go_wp2_with(go_at_call 66;refine(aq.out _ (Q.out _)).mono ?_;intro e w2 E;obtain rfl:=E.1;obtain⟨m,r1,r2,r3,r4,r5,r6⟩:=ap.out _ _ (Q.out _) (an.out _) (ao.out _) E;have R1:=hid r1;have R2:=hid r2;have R3:=hid r3;have R4:=hid r4;have R5:=hid r5;have R6:=hid r6;clear r1 r2 r3 r4 r5 r6 E);exact⟨⟨k+1,by omega,by go_num,m,R1.out,R2.out,R3.out,R4.out,R5.out,R6.out⟩,by simp[intOf];omega⟩
  ·have ek:gs.take k=gs:=Aw (by rw[HN.out];omega);rw[ek]at u V;have HP:=hid hP;have HL:=hid V;have R:=hid I;have HK:=hid hK;have a5:w.heap.size+1<wr.heap.size:=u.lt;have B:∀x∈F0 b ua us',x≠w.heap.size:=fun x C=>by
    have O:x∈F0 b ua us\/w.heap.size+2<=x:=by
     rcases J4 C with rfl | ⟨y,hy,rfl⟩ | ⟨i,hi,e⟩
     ·exact .inl (KU _ _ _)
     ·exact .inl (IK hy)
     ·rw[V.1]at hi
      rcases I i hi x e with l | l
      ·exact .inl (Jy hi l)
      ·exact .inr l
    rcases O with l | l
    ·have:=ar.out x l;omega
    ·omega
   have j:=hid B;clear hP V I hK B ek;have ae:∀v∈lkC bg gs,v.oneCell'=true:=by
    intro v hv;simp only[lkC,Bb]at hv;obtain⟨i, -,rfl⟩:=hv;rfl
   generalize ak:lkC bg gs=LK at*;have F:LK.length=32:=by rw[<-ak];exact Nk _ _
   have bc:=hid ak;clear ak;obtain⟨W9,ah⟩:=E7 (wr.setRow w.heap.size LK.toArray);have b4:(storeCells ⟨w.heap.size,0,none⟩ LK 0).run prog wr=.ok () W9:=by
    have:=CU prog w.heap.size 0 133 LK 0 (List.replicate 32 (Value.bool false)).toArray wr (show wr.heap[w.heap.size]?=some (.cells (List.replicate 32 (Value.bool false)).toArray 133 (0,0))from K) (by simp[F]) ae;rw[this,ah];simp[F]
   have aw:=hid ah;have af:=hid K;clear ah K ae
   go_wp2_with(first | (refine CP rfl 133 (.tmp 5) rfl (w.heap.size+1) rfl 133 _ (0,0) _ u underlying133 rfl (by rw[A8,F];kernel_rfl) ?_));have hZ:At W9 w.heap.size 133 LK:=by rw[aw.out];exact af.out.set
   have a1:Kept [w.heap.size] wr W9:=by rw[aw.out];exact FO _ _ _
   refine Ah (BO (p:=4) (ty:=133) (by kernel_rfl) _ _ w.heap.size 133 _ (0,0) _ rfl hZ underlying133 rfl (by rw[A8,F];kernel_rfl)) rfl ?_;refine⟨by rw[bc.out],GY HK.out a1 (fun x C=> .inr (by simp at C;omega)),us',HP.out.kept a1 (fun x C=>by simpa using j.out x C),HL.out,fun i hi g hg=>?_⟩
   rcases R.out i hi g hg with l | l
   ·exact .inl l
   ·exact .inr (by omega)
theorem Ao5{us:List TkP}(h:k<us.length):us.take (k+1)=us.take k++[us.getD k .zero]:=by
 rw[Br,Au,Ap h];rfl
def Ks (l:List TkP):List ByteArray:=l.map fun x=>strOfNums x.data
theorem TkAt.box{us:List TkP}(h:PRcv w b fs g c us)(f:Below w.heap.size w wr)(x:TkP)(m:x=us.getD k .zero):TkAt (wr.alloc (.cells #[x.dv,x.tv,int i64 (x.len:Int)] 151)) wr.heap.size 0 x:=by
 have d:=Fc wr 151 [x.dv,x.tv,int i64 (x.len:Int)];have l:Kept [] w (wr.alloc (.cells #[x.dv,x.tv,int i64 (x.len:Int)] 151)):=(Kept.E5 f).alloc _;have n:=f.size;subst m;refine⟨d.cell 0,d.cell 1,d.cell 2,fun j=>d.free j,Ky (h.od k) l (by simp),(h.ot k).kept l (by simp),fun q a=>?_,fun q a=>?_,fun q a e=>?_⟩
 ·have:=h.kl (k:=false) a;omega
 ·have:=h.kl (k:=true) a;omega
 ·have:=(h.nn k k false true q a e).2
  cases this
def Lj (w:World)(b fs g c:Nat)(us:List TkP):Ending->World->Prop:=fun e w'=>∃k a cc,k<=us.length/\e=.returned (slice a k cc)/\(∀j,j<k->(us.getD j .zero).whole=true)/\(k<us.length->(us.getD k .zero).whole=false)/\Txs w' a (Ks (us.take k))/\Aen w.heap.size a/\(∀x,a=some x->x.block<w'.heap.size)/\Kept [b,g] w w'/\PRcv w' b ((fs+k) % 64) g c (us.drop k++List.replicate k .zero)/\w'.ownsRow w.heap.size 9 1 (slice a k cc) k ((Ks (us.take k)).map Value.string)
theorem WM{H v z:World}{cc:Nat}{a:Option Addr}{us:List TkP}(h:PRcv w b fs g c us)(G:k<=us.length)(D:∀j,j<k->(us.getD j .zero).whole=true)(E:k<us.length->(us.getD k .zero).whole=false)
 (I:Below w.heap.size w wr) (u:wr.ownsRow w.heap.size 9 1 (slice a k cc) k ((Ks (us.take k)).map Value.string))
 (s:Kept [g] wr H) (t:Kept [g] H v) (C:v.ownsRow 0 151 3 (slice (some ⟨g,0,none⟩) us.length c) us.length (FE (us.drop k++List.replicate k .zero)))
 (m:z=(v.setCell ⟨b,1,none⟩ (slice (some ⟨g,0,none⟩) us.length c)).setCell ⟨b,0,none⟩ (int i64 (((fs+k) % 64:Nat):Int))):Lj w b fs g c us (.returned (slice a k cc)) z:=by
 have L:=h.gl;have J:=h.hd.lt;have p:Kept [g] w v:=((Kept.E5 I).trans s).trans t;have r:Kept [b,g] w z:=by
  rw[m];exact((p.Fn (by simp)).setCell (by simp) _).setCell (by simp) _
 have B:(Ks (us.take k)).length=k:=by unfold Ks;grind
 have A:Txs wr a (Ks (us.take k)):=Amd (by rw[B];exact u);have n:∀x,a=some x->w.heap.size<=x.block/\x.block<wr.heap.size:=fun x o=>by
  obtain⟨a',c',e, -, -,F⟩:=Fg u;simp only[Aq]at e;obtain⟨rfl, -,rfl⟩:=e;obtain⟨q,rfl,f⟩:=F x o;exact AB u q f
 have d:Kept [b,g] wr z:=by
  rw[m];exact((((s.trans t).Fn (by simp)).setCell (by simp) _).setCell (by simp) _)
 refine⟨k,a,cc,G,rfl,D,E,A.kept d (fun x o y=>?_),fun x o=>(n x o).1,fun x o=>AI (n x o).2 d.size,r,?_,FY u d (fun q f y=>by have:=(AB u q f).1;simp at y;omega)⟩
 ·grind
 ·have K:(us.drop k++List.replicate k TkP.zero).length=us.length:=by grind
  refine h.Ad2 G r (fun i l q f y=>?_) ?_ ?_
  ·have:=h.na i l q f;simp at y;omega
  ·rw[m];exact((h.hd.kept p (by simpa using fun e=>h.nb e.symm)).setCell _).setCell _
  ·rw[m];refine FY (FY C (FT v b 1 _) (fun q f=>?_)) (FT _ b 0 _) (fun q f=>?_)
   ·simp[Value.ownBlock]at f;subst f
    simpa using h.nb
   ·simp[Value.ownBlock]at f;subst f
    simpa using h.nb
theorem Zd{us:List TkP}(h:∀i,∃a n c a' n' c',(us.getD i .zero).dv=slice a n c/\(us.getD i .zero).tv=slice a' n' c'):∀v∈FE us,v.oneCell'=true:=by
 intro v d;obtain⟨x,l,d⟩:=Ce.1 d;obtain⟨i,hi,rfl⟩:=List.mem_iff_getElem.1 l;have e:us.getD i .zero=us[i]:=by grind
 obtain⟨a,n,c,a',n',c',f,j⟩:=h i;rw[e]at f j;unfold TkP.cells at d;rw[f,j]at d;simp at d
 rcases d with rfl | rfl | rfl<;>rfl
structure TellAt(w wq:World)(b fs g c N k:Nat)(us:List TkP):Prop where
 c0:wq.cell? ⟨b,0,none⟩=some (int i64 (fs:Int))
 c1:wq.cell? ⟨b,1,none⟩=some (slice (some ⟨g,0,none⟩) N c)
 del:Calls prog 245 #[slice (some ⟨g,0,none⟩) N c,int i64 (0:Int),int i64 (k:Int)] wq fun e w'=>e=.returned (slice (some ⟨g,0,none⟩) (N-k) c)/\w'.cell? ⟨b,0,none⟩=some (int i64 (fs:Int))/\w'.cell? ⟨b,1,none⟩=some (slice (some ⟨g,0,none⟩) N c)/\Kept [g] wq w'/\∃W,(∀ty,(Builtin.append_ #[147,3] ty #[slice (some ⟨g,0,none⟩) (N-k) c,int i64 (k:Int)]).run prog w'=.ok (slice (some ⟨g,0,none⟩) N c) W)/\W.ownsRow 0 151 3 (slice (some ⟨g,0,none⟩) N c) N (FE (us.drop k++List.replicate k .zero))/\Kept [g] w' W/\W.cell? ⟨b,0,none⟩=some (int i64 (fs:Int))/\W.cell? ⟨b,1,none⟩=some (slice (some ⟨g,0,none⟩) N c)/\W.frozen? ⟨b,0,none⟩=false/\W.frozen? ⟨b,1,none⟩=false
theorem TellAt.of{r:World}{N:Nat}{us:List TkP}(h:PRcv w b fs g c us)(z:Below w.heap.size w r)(x:N=us.length)(y:N<=32)(u:k<=N):TellAt w r b fs g c N k us:=by
 subst x;have p:=h.kept (Kept.E5 (S:=[]) z) (by simp);have l:b∉[g]:=by simpa using fun e=>h.nb e.symm
 refine⟨p.hd.cell 0,p.hd.cell 1,?_⟩
 have o:=Zd (us:=us) (fun i=>by
  obtain⟨a,c,e, -⟩:=(h.od i).FC;obtain⟨a',c',v, -⟩:=(h.ot i).FC
  exact⟨_,_,_,_,_,_,e,v⟩)
 obtain⟨-, -, -,A, -⟩:=F9 p.own;refine(Xs p.own o u).mono ?_;rintro e B ⟨rfl,n,f⟩;have f:Kept [g] r B:=f;have j:=p.hd.kept f l;rw[Xe]at n;obtain⟨W,t,q,s⟩:=AkC (m:=k) n (by omega) (by omega);rw[Nat.sub_add_cancel u]at t q;rw[<-Zc]at q;have d:=j.kept s l;exact⟨rfl,j.cell 0,j.cell 1,f,W,t,q,s,d.cell 0,d.cell 1,d.free 0,d.free 1⟩
theorem AkA{us:List TkP}(h:PRcv w b fs g c us)(hl:us.length<=32)(U:fs<64)(Z:∀i,(us.getD i .zero).th.length<=4000)(X:∀i,(us.getD i .zero).len<=3000)(am:∀i,(us.getD i .zero).data.length<=4000):
 Calls prog 207 #[.pointer (some ⟨b,0,none⟩)] w (Lj w b fs g c us):=by
 have c1:w.cell? ⟨b,1,none⟩=some (slice (some ⟨g,0,none⟩) us.length c):=h.hd.cell 1;obtain⟨N,hN⟩:=E7 us.length;rw[<-hN]at c1 hl;have H:=hid h;have t:=hid hN;obtain⟨i0,hi,aa,ab,ac⟩:=As Tryz.Rr;have HI:=hid hi;have aj:=hid aa;have ak:=hid ab;have al:=hid ac;generalize hP:Lj w b fs g c us=P;have HP:=hid hP;have ai:=hid Z;have ag:=hid X;have Y:=fun(wq:World) (k:Nat) (hb:Below w.heap.size w wq) (J:k<=N)=>TellAt.of (k:=k) h hb hN hl J
 have F:=hid Y;clear Y h hN hP hi aa ab ac Z X am;go_enter func207,ntmps207
 go_wp2_with fail
 go_loopw [3,11] (fun vt vi wr=>∃(k cc:Nat) (a:Option Addr),k<=N/\vi=int i64 (k:Int)/\vt=slice a k cc/\Hid (∀j,j<k->(us.getD j .zero).whole=true)/\Hid (wr.ownsRow w.heap.size 9 1 (slice a k cc) k ((Ks (us.take k)).map Value.string))/\Hid (Below w.heap.size w wr)) (fun _ vi _=>N-(intOf vi).toNat)
 case atStart=>exact⟨0,0,none,Af _,rfl,rfl,hid fun j hj=>absurd hj (CG _),hid (Bj _ _ _ _),hid (Ad _ _)⟩
 case round=>
  obtain⟨k,cc,a,J,rfl,rfl,HW,HO,y⟩:=hrel
  by_cases K:k<N
  ·obtain⟨x,A⟩:=E7 (us.getD k .zero);have hu:=H.out.un (i:=k) (by rw[<-t.out];exact K);have z0:=E8 (Kept.E5 (S:=[]) y.out) hu.c0 (by simp);have z1:=E8 (Kept.E5 (S:=[]) y.out) hu.c1 (by simp);have z2:=E8 (Kept.E5 (S:=[]) y.out) hu.c2 (by simp);rw[<-A]at z0 z1 z2;have m:=TkAt.box H.out y.out x A;have f:=Aea m (by rw[A];exact ag.out k) (by rw[A];exact ai.out k);obtain⟨M,I,eD, -, -, -⟩:=m.od.FC;obtain⟨aT,cT,eT, -, -, -⟩:=m.ot.FC;rw[eD]at z0;rw[eT]at z1;have u:=m.od;rw[eD]at u;rw[eT]at u;rw[eD,eT]at f;have Q:=hid (show Ks (us.take (k+1))=Ks (us.take k)++[strOfNums x.data]by rw[Ao5 (by rw[<-t.out];exact K)];unfold Ks;rw[AR,A];rfl);obtain⟨S,eS⟩:=E7 (strOfNums x.data);rw[<-eS]at Q;have hF:∀w1,(∃n,w1=(wr.alloc (.cells #[slice M x.data.length I,slice aT x.th.length cT,int i64 (x.len:Int)] 151)).drewN n)->w1.cell? ⟨wr.heap.size,0,none⟩=some (slice M x.data.length I)/\(convert 103 9 (slice M x.data.length I)).run prog w1=.ok (.string S) w1/\Hid (w1.ownsRow w.heap.size 9 1 (slice a k cc) k ((Ks (us.take k)).map Value.string))/\Hid (Below w.heap.size w w1):=by
    rintro w1 ⟨n,rfl⟩;have hA:=Fc wr 151 [slice M x.data.length I,slice aT x.th.length cT,int i64 (x.len:Int)];refine⟨hA.cell 0,?_,hid ?_,hid ?_⟩
    ·rw[eS];have hr:Rd .u8 ((wr.alloc (.cells #[slice M x.data.length I,slice aT x.th.length cT,int i64 (x.len:Int)] 151)).drewN n) M x.data:=Own.rd (B:=0) (n:=x.data.length) (c:=I) u;exact L6 hr I
    ·exact A6 HO.out _
    ·exact JO (y.out.alloc y.out.size _) n
   have HF:=hid hF;have ao:=hid A;have R:=hid (show x.whole=(us.getD k .zero).whole by rw[A]);have af:Hid (k+1<=maxLen):=hid (by unfold maxLen;omega);have ae:Hid ((k+1)*16<=140737488355328):=hid (by omega);clear hu m u eD eT hF eS A;generalize x.data.length=LD at*;generalize x.th.length=LT at*;generalize x.len=LN at*
   cases l:x.whole with
   | true=>
    rw[l]at f;have G:=hid l;clear l
    go_wp2_with(first
     | (go_at_call 244;refine f.mono ?_;rintro e w1 ⟨rfl,d⟩;obtain⟨f0,f1,O,s⟩:=HF.out w1 d;clear d)
     | (at_builtin;refine I3 w.heap.size w1.heap.size underlying22 HI.out aj.out ak.out al.out rfl (by decide) (A6 O.out _) rfl _ _ rfl rfl rfl (news:=[.string S]) rfl (fun j z hj=>by rw[Al _ _ _ _ _ _ (Am w1 _)];simpa using hj) (by intro z hz;simp at hz;subst hz;rfl) af.out ae.out (by have:=s.out.size;simp;omega) ?_;intro v4 w4 L V an;obtain⟨a4,c4,rfl, -, -, -⟩:=Fg L;have ah:=hid L;have ad:=hid V;clear L V an))
    go_roundw
    case rel=>
     refine⟨k+1,c4,a4,by omega,by go_num,rfl,hid fun j hj=>?_,hid ?_,hid ?_⟩
     ·by_cases e:j=k
      ·subst e;rw[<-R.out];exact G.out
      ·exact HW.out j (by omega)
     ·rw[Q.out,AR];exact ah.out
     ·exact(s.out.alloc s.out.size _).grown ad.out (by have:=s.out.size;simp;omega) (fun q hq=>(AB O.out q hq).1)
    case measure=>simp[intOf];omega
   | false=>
    rw[l]at f;have G:=hid l;clear l
    go_wp2_with(first
     | (go_at_call 244;refine f.mono ?_;rintro e w1 ⟨rfl,d⟩;obtain⟨f0,f1,O,s⟩:=HF.out w1 d;clear d;obtain⟨t0,t1,v⟩:=F.out w1 k s.out J)
     | (go_at_call 245;refine v.mono ?_;rintro e w3 ⟨rfl,p0,p1,o,W,T,r,p,r0,r1,r2,r3⟩;have C:=hid o;have E:=hid r;have D:=hid p;have HR:=hid (fun ty cs=>GG (T ty) cs);clear o r p T)
     | (at_builtin;refine IM w3 rfl .append _ _ 147 3 rfl _ _ rfl rfl (HR.out _) ?_)
     | (go_at_call 70;refine(Lm _ U (show k<=4000 by omega)).mono ?_;rintro e w6 ⟨rfl,rfl⟩))
    rw[<-HP.out]
    show Lj w b fs g c us (.returned (slice a k cc)) _;exact WM H.out (by rw[<-t.out];exact J) HW.out (fun _=>by rw[<-R.out];exact G.out) s.out O.out C.out D.out (by rw[<-t.out];exact E.out) (by rw[<-t.out];simp)
  ·obtain⟨t0,t1,v⟩:=F.out wr k y.out J
   go_wp2_with(first
    | (go_at_call 244;refine f.mono ?_;rintro e w1 ⟨rfl,d⟩;obtain⟨f0,f1,O,s⟩:=HF.out w1 d;clear d;obtain⟨t0,t1,v⟩:=F.out w1 k s.out J)
    | (go_at_call 245;refine v.mono ?_;rintro e w3 ⟨rfl,p0,p1,o,W,T,r,p,r0,r1,r2,r3⟩;have C:=hid o;have E:=hid r;have D:=hid p;have HR:=hid (fun ty cs=>GG (T ty) cs);clear o r p T)
    | (at_builtin;refine IM w3 rfl .append _ _ 147 3 rfl _ _ rfl rfl (HR.out _) ?_)
    | (go_at_call 70;refine(Lm _ U (show k<=4000 by omega)).mono ?_;rintro e w6 ⟨rfl,rfl⟩))
   rw[<-HP.out]
   show Lj w b fs g c us (.returned (slice a k cc)) _;exact WM H.out (by rw[<-t.out];exact J) HW.out (fun h=>absurd h (by rw[<-t.out];exact K)) y.out HO.out C.out D.out (by rw[<-t.out];exact E.out) (by rw[<-t.out];simp)
end Go.Proofs.YtbjgfoiikhbonahGreatDoor
