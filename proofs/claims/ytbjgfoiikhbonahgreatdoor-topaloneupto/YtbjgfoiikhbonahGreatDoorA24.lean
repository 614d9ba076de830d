import Derived.Test.YtbjgfoiikhbonahGreatDoorA23
set_option linter.unusedVariables false
set_option linter.unusedSimpArgs false
set_option maxRecDepth 100000
set_option maxHeartbeats 4000000
namespace Go.Proofs.YtbjgfoiikhbonahGreatDoor
open Go.ChangeShapes Go.WideShapes Go.ChangeAt Go.RowKit Go.Proofs.Tryz
open Value renaming slice->C,int->D,bool->J
open Option renaming none->E,some->G
open Obj renaming cells->I
open Ending renaming returned->K
open Bool renaming false->M
open IntKind renaming i64->O
variable {P:Nat->Nat->Prop}{b bg c fs g i k win:Nat}{ua:Option Addr}{us us':List UnP}{w wr:World}
def repErr(bg:Nat)(us:List UnP)(r:ReportM):Int:=
 if r.next<0\/63<r.next then 3 else if GC GR us<E9 r.next bg then 3 else if r.miss.all (JV bg (E9 r.next bg) us)=true then 0 else 3
theorem ND(r:ReportM)(a:Option Addr)(n cc:Nat)(h:PSnd w b win bg ua c us)(al:bg<64)(hl:us.length<=4000)(ap:∀i,i<us.length->(us.getD i .zero).text.size<=1500)(hG:Gps w a r.miss)(hn:r.miss.length=n)(hm:n<=maxLen):
 Calls prog 63 #[.pointer (G ⟨b,0,E⟩),.agg #[D O r.next, C a n cc]] w fun e w'=>e= K (D O (repErr bg us r))/\Below w.heap.size w w':=by
 obtain⟨-,c1,c2⟩:=h.head;have hA:=Fc w 95 [D O r.next, C a n cc];have hk:Kept [] w (w.alloc (I #[D O r.next, C a n cc] 95)):=(Kept.refl _ w).alloc _;have hP:=h.kept hk (fun x _=>by simp);have ah:=hG.kept hk (fun x _=>by simp);have k1:=E8 hk c1 (by simp);have x0:(w.alloc (I #[D O r.next, C a n cc] 95)).cell? ⟨w.heap.size,0,E⟩=G (D O r.next):=hA.cell 0;have x1:(w.alloc (I #[D O r.next, C a n cc] 95)).cell? ⟨w.heap.size,1,E⟩=G (C a n cc):=hA.cell 1;have hB:Below w.heap.size w (w.alloc (I #[D O r.next, C a n cc] 95)):=(Ad _ w).alloc (Ac _) _;have d:=fun W=>Ni r.next W
 have y:(w.alloc (I #[D O r.next, C a n cc] 95)).heap.size=w.heap.size+1:=Ax _ _;obtain⟨V, H⟩ := E7 (repErr bg us r);rw[<-H];have a6:n<=9223372036854775807:=by unfold maxLen at hm;omega
 have af:=hid hP;have au:=hid ah;have HB:=hid hB;have HN:=hid hn;have ax:=hid ap;have z:=hid y;have av:=hid hl;obtain⟨next,miss⟩:=r;dsimp only at*;have ay:=c1;clear h hG hA hk c1 c2 hP ah hB hm ap y hn
 by_cases q1:next<0\/63<next
 ·rw[show decide (0<=next/\next<=63)=M from Ae (by omega)]at d;have B:=hid (show V=3 by rw[H];unfold repErr;rw[Ab q1]);clear H q1 hl;go_enter func63,ntmps63;go_upto_region 1 with fail
  go_quiet (first | (go_at_call 115;exact Ba (d _)))
  go_wp2_with fail;go_ret;exact⟨by rw[B.out];rfl,JO HB.out _⟩
 ·rw[show decide (0<=next/\next<=63)=true from Ag (by omega)]at d;have N:=fun W=>Ll (k:=next) (bg:=bg) W al (by omega) (by omega)
  have ak:∀m,Calls prog 116 #[.pointer (G ⟨b,0,E⟩)] ((w.alloc (I #[D O next, C a n cc] 95)).drewN m) fun e w'=>e= K (D O ((GC GR us:Nat):Int))/\w'=(w.alloc (I #[D O next, C a n cc] 95)).drewN m:=fun m=>Afr (af.out.kept ((Kept.refl [] _).drewN m) (by simp)) (by omega)
  by_cases q2:GC GR us<E9 next bg
  ·have B:=hid (show V=3 by rw[H];unfold repErr;rw[Aa q1,Ab q2]);clear H q1 hl;generalize GC GR us=L at*;generalize E9 next bg=A at*
   go_enter func63,ntmps63;go_upto_region 1 with fail
   go_quiet (first | (go_at_call 115;exact Ba (d _)) | (go_at_call 65;exact Ba (N _)) | (go_at_call 116;exact Ba (ak _)))
   go_wp2_with fail;go_ret;exact⟨by rw[B.out];rfl,JO HB.out _⟩
  ·have ai:=hid (show V=if miss.all (JV bg (E9 next bg) us)=true then 0 else 3 by rw[H];unfold repErr;rw[Aa q1,Aa q2]);have az:E9 next bg<=us.length:=by have:=K9 GR us;omega
   have am:∀W,Below w.heap.size w W->PSnd W b win bg ua c us->∀g:GapM,Calls prog 117 #[.pointer (G ⟨b,0,E⟩),g.val, D O ((E9 next bg:Nat):Int)] W fun e w'=>e= K (D O (Mq bg (E9 next bg) us g))/\Below W.heap.size W w':=fun W _ hW g=>Xh g hW al az av.out ax.out
   have a7:¬(GC GR us<E9 next bg):=q2;clear H q1 hl q2;generalize GC GR us=L at*;generalize a4:E9 next bg=A at*
   go_enter func63,ntmps63;go_upto_region 1 with fail
   go_quiet (first | (go_at_call 115;exact Ba (d _)) | (go_at_call 65;exact Ba (N _)) | (go_at_call 116;exact Ba (ak _)))
   go_wp2_with fail;have a5:b<w.heap.size:=by
    exact Aj w ⟨b,1,E⟩ ay
   go_loopw [27] (fun vi wr=>∃k:Nat,k<=n/\vi= D O k/\Hid (∀j,j<k->JV bg A us (miss.getD j .zero)=true)/\Below (w.heap.size+1) (w.alloc (I #[D O next, C a n cc] 95)) wr) (fun vi _=>n-(intOf vi).toNat)
   case atStart=>exact⟨0,by omega,rfl,hid (fun j hj=>by omega),JO (Ad _ _) _⟩
   case round=>
    obtain⟨k,hk,rfl,HJ,v⟩:=hrel;have S:Below w.heap.size w wr:=HB.out.trans (v.mono (by omega))
    by_cases ao:k<n
    ·obtain⟨gb,go,rfl,hC⟩:=au.out (by intro e;have:=HN.out;rw[e]at this;simp at this;omega);obtain⟨e0,e1,e2⟩:=hC k (by rw[HN.out];exact ao);have p:gb<w.heap.size+1:=by have:=Aj _ _ e0;rw[z.out]at this;exact this
     have f0:=(AF (v.block gb p)).trans e0;have f1:=(AF (v.block gb p)).trans e1;have f2:=(AF (v.block gb p)).trans e2;have ab:=hid S;have ac:=hid v;have y0:=(AF (v.block w.heap.size (by omega))).trans x0;have y1:=(AF (v.block b (by omega))).trans k1;have aq:w.heap.size+1<=wr.heap.size:=by have:=v.size;rw[z.out]at this;exact this
     clear hC e0 e1 e2 v S;generalize an:miss.getD k .zero=g at*;have ae:=hid an;clear an;obtain⟨num,frm,til⟩:=g;dsimp only at f0 f1 f2;go_upto_region 6 with fail
     have l:Kept [] wr (wr.alloc (I #[D O num, D O frm, D O til] 154)):=(Kept.refl _ wr).alloc _;have u:=Fc wr 154 [D O num, D O frm, D O til];have a3:wr.heap.size<(wr.alloc (I #[D O num, D O frm, D O til] 154)).heap.size:=by simp
     generalize wr.alloc (I #[D O num, D O frm, D O til] 154)=s at*;have z0:=E8 l y0 (by simp);have z1:=E8 l y1 (by simp);have g0:s.cell? ⟨wr.heap.size,0,E⟩=G (D O num):=u.cell 0;have g1:s.cell? ⟨wr.heap.size,1,E⟩=G (D O frm):=u.cell 1;have g2:s.cell? ⟨wr.heap.size,2,E⟩=G (D O til):=u.cell 2;have a2:∀q,Calls prog 117 #[.pointer (G ⟨b,0,E⟩),.agg #[D O num, D O frm, D O til], D O (A:Int)] (s.drewN q) fun e w'=>e= K (D O (Mq bg A us ⟨num,frm,til⟩))/\Below s.heap.size s w':=fun q=>by
      have a0:PSnd (s.drewN q) b win bg ua c us:=(af.out.kept (T:=[]) (Kept.E5 (by rw[z.out];exact ac.out)) (by simp)).kept (l.drewN q) (by simp);exact(am _ (ab.out.trans (Kept.below (l.drewN q) (ab.out.size) (by simp))) a0 ⟨num,frm,til⟩).mono (fun e w' F=>⟨F.1,(JO (Ad _ s) q).trans F.2⟩)
     have aw:=hid l;clear l u am y0 y1 f0 f1 f2;generalize ag:Mq bg A us ⟨num,frm,til⟩=ER at*;have ad:=hid ag;clear ag
     go_cut [7]from 28 to 44 (fun t wx=>t= D O ER/\Below s.heap.size s wx)
     case first=>
      go_region_with (first | (go_at_call 65;refine(N _).mono ?_;rintro e w2 ⟨rfl,rfl⟩) | (go_at_call 117;refine(a2 _).mono ?_;rintro e w2 ⟨rfl,a1⟩))
      all_goals (go_wp2;go_meet;exact⟨rfl,a1⟩)
     case rest=>
      obtain⟨rfl,aj⟩:=hcut;have Q:=(ac.out.trans (Kept.below aw.out aq (by simp))).trans (aj.mono (by omega));have ar:=hid Q;have aa:=hid (HB.out.trans (Q.mono (by omega)));clear aj Q z0 z1 g0 g1 g2 x0 x1 k1
      by_cases q5:JV bg A us ⟨num,frm,til⟩=true
      ·have e5:ER=0:=by rw[<-ad.out];unfold Mq;rw[Ab q5]
       subst e5
       go_wp2_with fail;refine⟨⟨k+1,by omega,by go_num,hid (fun j hj=>?_),ar.out⟩,by simp[intOf];omega⟩
       rcases AS j k with F | F
       ·exact HJ.out j F
       ·rw[show j=k by omega,ae.out];exact q5
      ·have e5:ER=3:=by rw[<-ad.out];unfold Mq;rw[Aa q5]
       subst e5
       have B:=hid (show V=3 by
        rw[ai.out,Aa];intro F
        have:=AM.1 F (miss.getD k .zero) (by
         rw[Au,Ap (by rw[HN.out];exact ao)]
         exact A4 _)
        rw[ae.out]at this
        exact q5 this)
       go_wp2_with fail;go_ret;exact⟨by rw[B.out];rfl,aa.out⟩
    ·have B:=hid (show V=0 by
      rw[ai.out,Ab];refine AM.2 fun g hg=>?_
      obtain⟨j,hj,rfl⟩:=List.mem_iff_getElem.1 hg;have:=HJ.out j (by rw[HN.out]at hj;omega)
      grind)
     go_wp2_with fail;go_ret;exact⟨by rw[B.out];rfl,S⟩
theorem TA{l:Sps}(h:Srt l){e:Nat}(hi:∀t,inS l t->t<e):Qe l e:=fun q a=>by
 have d:=h.1 q a;have:=hi (q.2-1) ⟨q,a,by omega,by omega⟩;omega
def Lost (P:Nat->Nat->Prop)(us us':List UnP):Prop:=us'.length=us.length/\∀i,i<us.length->(us'.getD i .zero).text=(us.getD i .zero).text/\(us'.getD i .zero).sent=(us.getD i .zero).sent/\(us'.getD i .zero).dn=(us.getD i .zero).dn/\Srt (us'.getD i .zero).al/\(∀t,inS (us'.getD i .zero).al t↔inS (us.getD i .zero).al t\/((us.getD i .zero).dn=M/\t<(us.getD i .zero).sent/\P i t))
structure UsOk(us:List UnP):Prop where
 srt:∀i,i<us.length->Srt (us.getD i .zero).al
 sent:∀i,i<us.length->(us.getD i .zero).sent<=(us.getD i .zero).text.size
 size:∀i,i<us.length->(us.getD i .zero).text.size<=1500
 inn:∀i,i<us.length->∀t,inS (us.getD i .zero).al t->t<(us.getD i .zero).sent
theorem Lost.refl(h:UsOk us):Lost (fun _ _=>False) us us:=⟨rfl,fun i hi=>⟨rfl,rfl,rfl,h.srt i hi,fun a=>⟨.inl,fun h=>h.elim id fun h=>h.2.2.elim⟩⟩⟩
theorem Lost.ok(h:Lost P us us')(d:UsOk us):UsOk us':=by
 refine⟨fun i hi=>?_,fun i hi=>?_,fun i hi=>?_,fun i hi t ht=>?_⟩
 all_goals
  rw[h.1]at hi;obtain⟨e1,e2,e3,e,j⟩:=h.2 i hi
 ·exact e
 ·rw[e1,e2];exact d.sent i hi
 ·rw[e1];exact d.size i hi
 ·rw[e2]
  rcases (j t).1 ht with a | a
  ·exact d.inn i hi t a
  ·exact a.2.1
theorem Lost.step{a z:Nat}{n:Sps}{v':Value}(h:Lost P us us')(hi:i<us.length)(u:Srt n)(v:∀t,inS n t↔inS (us'.getD i .zero).al t\/((us'.getD i .zero).dn=M/\a<=t/\t<min z (us'.getD i .zero).sent)):
 Lost (fun j t=>P j t\/(j=i/\a<=t/\t<z)) us (us'.set i {us'.getD i .zero with av:=v',al:=n}):=by
 refine⟨by rw[An];exact h.1,fun j r=>?_⟩;obtain⟨e1,e2,e3,s,q⟩:=h.2 j r
 by_cases m:j=i
 ·subst m;rw[FL (by rw[h.1];exact r)];refine⟨e1,e2,e3,u,fun t=>?_⟩
  show inS n t↔_;rw[v t,q t,e2,e3]
  constructor
  ·rintro((d | d) | d)
   ·exact .inl d
   ·exact .inr ⟨d.1,d.2.1,.inl d.2.2⟩
   ·exact .inr ⟨d.1,by omega,.inr ⟨rfl,d.2.1,by omega⟩⟩
  ·rintro(d | ⟨d,p,l | ⟨_,l,x⟩⟩)
   ·exact .inl (.inl d)
   ·exact .inl (.inr ⟨d,p,l⟩)
   ·exact .inr ⟨d,l,by omega⟩
 ·rw[GH (fun e=>m e.symm)];refine⟨e1,e2,e3,s,fun t=>?_⟩;rw[q t]
  constructor
  ·rintro(d | d)
   ·exact .inl d
   ·exact .inr ⟨d.1,d.2.1,.inl d.2.2⟩
  ·rintro(d | ⟨d,p,l | l⟩)
   ·exact .inl d
   ·exact .inr ⟨d,p,l⟩
   ·exact absurd l.1 m
theorem Lost.congr{Q:Nat->Nat->Prop}(h:Lost P us us')(a:∀i,i<us.length->∀t,t<(us.getD i .zero).sent->(P i t↔Q i t)):Lost Q us us':=by grind [Lost]
def NewU (B:Nat)(us us':List UnP):Prop:=∀i,i<us.length->∀g,(us'.getD i .zero).av.ownBlock=G g->(us.getD i .zero).av.ownBlock=G g\/B<=g
theorem NewU.refl(B:Nat)(us:List UnP):NewU B us us:=fun _ _ _ h=> .inl h
theorem NewU.set{B a:Nat}{x':UnP}(h:NewU B us us')(e:us'.length=us.length)(d:B<=a)(hi:i<us.length)(j:∀g,x'.av.ownBlock=G g->(us'.getD i .zero).av.ownBlock=G g\/a<=g):NewU B us (us'.set i x'):=by grind [NewU]
def LQ (bg:Nat)(gs:List GapM)(i:Nat):Bool:=gs.any fun g=>E9 g.num bg==i
def lkC (bg:Nat)(gs:List GapM):List Value:=(List.range 32).map fun i=>J (LQ bg gs i)
theorem AlH(bg:Nat):lkC bg []=List.replicate 32 (J M):=by
 unfold lkC LQ;rfl
theorem Nk(bg:Nat)(gs:List GapM):(lkC bg gs).length=32:=by simp[lkC]
theorem XR(bg:Nat)(gs:List GapM)(hi:i<32):(lkC bg gs)[i]?=G (J (LQ bg gs i)):=by
 unfold lkC
 grind
theorem Ajj(bg:Nat)(gs:List GapM)(g:GapM)(h:E9 g.num bg<32):lkC bg (gs++[g])=(lkC bg gs).set (E9 g.num bg) (J true):=by
 refine Bf fun i=>?_
 rw[BW,Nk]
 by_cases hi:i<32
 ·rw[XR _ _ hi,XR _ _ hi]
  by_cases e:E9 g.num bg=i
  ·rw[Ab e,Ab h];simp[LQ,e]
  ·rw[Aa e];simp[LQ,e]
 ·rw[Aa (by omega),AY (by rw[Nk];omega),AY (by rw[Nk];omega)]
def Rn (bg:Nat)(gs:List GapM)(i t:Nat):Prop:=∃g∈gs,E9 g.num bg=i/\g.at t=true
def Aia (w:World)(b win bg:Nat)(ua:Option Addr)(c:Nat)(us:List UnP)(gs:List GapM):Ending->World->Prop:=fun e w'=>e= K (.agg (lkC bg gs).toArray)/\Kept (F0 b ua us) w w'/\∃us',PSnd w' b win bg ua c us'/\Lost (Rn bg gs) us us'/\NewU w.heap.size us us'
theorem AeM{S:List Nat}{a:World}(h:Kept S a w){p:Addr}(j:a.heap.size<=p.block)(u:Value):Kept S a (w.setCell p u):=
 ⟨h.os,h.tape,h.output,by rw[Ef];exact h.size,fun k d e=>(Co w p k u (by omega)).trans (h.block k d e)⟩
theorem GY{F T:List Nat}{w2:World}(h:Kept F w wr)(a:Kept T wr w2)(ht:∀x∈T,x∈F\/w.heap.size<=x):Kept F w w2:=
 ⟨a.os.trans h.os,a.tape.trans h.tape,a.output.trans h.output,Ak h.size a.size,fun k d e=>by
  rw[a.block k (AI d h.size) (fun j=>(ht k j).elim e (by omega)),h.block k d e]⟩
theorem XS{d:Nat}(gs:List GapM)(a:Option Addr)(n cc:Nat)(h:PSnd w b win bg ua c us)(b1:bg<64)(hd:d<=32)(cf:d<=us.length)(bf:UsOk us)(hg:gs.all (JV bg d us)=true)(hG:Gps w a gs)(ba:gs≠[]->Qh (F0 b ua us) a)(hn:gs.length=n)(hm:n<=maxLen):
 Calls prog 64 #[.pointer (G ⟨b,0,E⟩), C a n cc] w (Aia w b win bg ua c us gs):=by
 obtain⟨-,c1,c2⟩:=h.head;have ce:=h.hd.lt;have cg:n<=9223372036854775807:=by unfold maxLen at hm;omega
 have be:=h.lt;have H:=hid h;have ah:=hid bf;have bn:=hid hg;have HG:=hid hG;have bq:=hid ba;have HN:=hid hn;have a7:=hid be;clear h bf hg hG ba hn hm c1 c2 be;go_enter func64,ntmps64
 go_wp2_with fail
 go_loopw [12] (fun vi wr=>∃k:Nat,k<=n/\vi= D O k/\∃us',PSnd wr b win bg ua c us'/\Lost (Rn bg (gs.take k)) us us'/\NewU (w.heap.size+2) us us'/\Kept (F0 b ua us) w wr/\At wr (w.heap.size+1) 133 (lkC bg (gs.take k))/\At wr w.heap.size 133 (List.replicate 32 (J M))) (fun vi _=>n-(intOf vi).toNat)
 case atStart=>
  refine⟨0,by omega,rfl,us,H.out.kept (((Kept.refl [] w).alloc _).alloc _) (by simp),?_,NewU.refl _ _,((Kept.refl _ w).alloc _).alloc _,?_,?_⟩
  ·refine(Lost.refl ah.out).congr fun i hi t ht=>⟨fun h=>h.elim,fun⟨g,hg,_⟩=>?_⟩
   simp at hg
  ·have:=Fc (w.alloc (I (List.replicate 32 (J M)).toArray 133)) 133 (List.replicate 32 (J M));rw[Ax]at this;rw[C0,AlH];exact this
  ·exact(Fc w 133 (List.replicate 32 (J M))).kept (S:=[]) ((Kept.refl _ _).alloc _) (by simp)
 case round=>
  obtain⟨k,hk,rfl,us',hP,hL,V,hK,u,aa⟩:=hrel
  by_cases b3:k<n
  ·have aj:k<gs.length:=by rw[HN.out];exact b3
   obtain⟨gb,go,rfl,hC⟩:=HG.out (by rintro rfl;simp at aj);obtain⟨e0,e1,e2⟩:=hC k aj;have ay:gb∉F0 b ua us:=bq.out (by rintro rfl;simp at aj) _ rfl;have f0:=E8 hK e0 ay;have f1:=E8 hK e1 ay;have f2:=E8 hK e2 ay
   have az:=AM.1 bn.out (gs.getD k .zero) (by
    grind)
   have bk:gs.take (k+1)=gs.take k++[gs.getD k .zero]:=by
    rw[Br,Au,Ap aj];rfl
   have a8:=hid bk;clear hC e0 e1 e2 bk;generalize gs.getD k .zero=g at*;unfold JV at az;rw[BD,BD,Bq,Bq,Bq]at az;obtain⟨aq,cb,b4⟩:=az;have b0:=fun W=>Ll (k:=g.num) (bg:=bg) W b1 aq.1 aq.2
   have ai:E9 g.num bg<us'.length:=by rw[hL.1];omega
   have r:E9 g.num bg<us.length:=by omega
   have ak:E9 g.num bg<32:=by omega
   obtain⟨T,b5,ca,a2⟩:=hP.un ai;obtain⟨m1,m2,m3,m4,m5⟩:=hL.2 _ r;have b8:=ah.out.size _ r;have bh:=ah.out.sent _ r;have ap:=ah.out.inn _ r;have bi:w.heap.size+1<wr.heap.size:=u.lt;have B:∀x∈F0 b ua us',x≠w.heap.size+1/\x≠w.heap.size:=fun x F=>by
    have ae:x∈F0 b ua us\/w.heap.size+2<=x:=by
     rcases J4 F with rfl | ⟨y,hy,rfl⟩ | ⟨i,hi,e⟩
     ·exact .inl (KU _ _ _)
     ·exact .inl (IK hy)
     ·rw[hL.1]at hi
      rcases V i hi x e with l | l
      ·exact .inl (Jy hi l)
      ·exact .inr l
    rcases ae with l | l
    ·have:=a7.out x l;omega
    ·omega
   obtain⟨-,c1,c2⟩:=hP.head;subst b5;have HP:=hid hP;have HL:=hid hL;have ag:=hid V;have HK:=hid hK;have bm:=hid u;have au:=hid aa;have j:=hid B;have u0:=a2.c0;have br:=hid a2;have HM:=hid m5;have bo:=hid (show lkC bg (gs.take (k+1))=(lkC bg (gs.take k)).set (E9 g.num bg) (J true)by rw[a8.out,Ajj _ _ _ ak]);have bb:wr.cell? ⟨w.heap.size+1,E9 g.num bg,E⟩=G (J (LQ bg (gs.take k) (E9 g.num bg))):=by rw[u.cell,XR _ _ ak]
   have bc:=u.free (E9 g.num bg);clear hP hL V hK u aa B a2 m5;obtain⟨num,frm,til⟩:=g;dsimp only at*;obtain⟨z, hz⟩ := E7 (if til<0 then (us.getD (E9 num bg) .zero).text.size else til.toNat:Nat);obtain⟨a0,bz⟩:∃a0:Nat,frm=(a0:Int):=⟨frm.toNat,by omega⟩;subst bz;have b6:z<=3000:=by rw[hz];split<;>omega
   have ad:∀W,Kept [w.heap.size+1] wr W->Calls prog 66 #[.pointer (G ⟨T,E9 num bg*4,E⟩),.agg #[D O (a0:Int), D O (z:Int)]] W (Qg W T (E9 num bg*4) (us'.getD (E9 num bg) .zero) a0 z):=fun W hW=>by
    have hu:UnAt W T (E9 num bg*4) (us'.getD (E9 num bg) .zero):=br.out.kept hW (by simpa using (j.out T (IK (y:=⟨T,0,E⟩) rfl)).1) (fun g' b2=>by simpa using (j.out g' (Jy ai b2)).1);refine Z0 hu m4 ?_ (by rw[m2];omega) (by omega) b6;refine TA m4 fun t ht=>?_
    rcases (HM.out t).1 ht with h' | h'
    ·have:=ap t h';omega
    ·omega
   have ao:∀W w2,Kept [w.heap.size+1] wr W->At W (w.heap.size+1) 133 (lkC bg (gs.take (k+1)))->At W w.heap.size 133 (List.replicate 32 (J M))->Qg W T (E9 num bg*4) (us'.getD (E9 num bg) .zero) a0 z (K (.tuple #[])) w2->∃m,PSnd w2 b win bg (G ⟨T,0,E⟩) c m/\Lost (Rn bg (gs.take (k+1))) us m/\NewU (w.heap.size+2) us m/\Kept (F0 b (G ⟨T,0,E⟩) us) w w2/\At w2 (w.heap.size+1) 133 (lkC bg (gs.take (k+1)))/\At w2 w.heap.size 133 (List.replicate 32 (J M)):=fun W w2 hW bu bt bw=>by
    obtain⟨-,v',l',p1,p2,p3,p4,p5⟩:=bw;have bx:PSnd W b win bg (G ⟨T,0,E⟩) c us':=HP.out.kept hW (fun x F=>by simpa using (j.out x F).1);have hS:∀s∈T::(us'.getD (E9 num bg) .zero).av.ownBlock.toList,s∈F0 b (G ⟨T,0,E⟩) us':=fun s hs=>by
     rw[Ar]at hs
     rcases hs with rfl | hs
     ·exact IK (y:=⟨s,0,E⟩) rfl
     ·exact Jy ai (by simpa using hs)
    refine⟨us'.set (E9 num bg) {us'.getD (E9 num bg) .zero with av:=v',al:=l'},?_,?_,?_,?_,?_,?_⟩
    ·exact bx.upd ai (f:=2) (by omega) p1 (fun s hs=>by simpa using hs) rfl p2 p5
    ·refine(HL.out.step (v':=v') r p3 p4).congr fun i hi t ht=>?_
     rw[a8.out]
     constructor
     ·rintro(⟨g,hg,l⟩ | ⟨rfl,l,h2⟩)
      ·exact⟨g,Df _ hg,l⟩
      ·refine⟨⟨num,a0,til⟩,DH _ (by simp),rfl,Ag ⟨by show(a0:Int)<=t;omega,?_⟩⟩
       grind
     ·rintro⟨g,hg,l,h2⟩;rw[BH,AC]at hg
      rcases hg with hg | rfl
      ·exact .inl ⟨g,hg,l,h2⟩
      ·have h3:=AQ h2
       grind
    ·exact ag.out.set HL.out.1 (show w.heap.size+2<=W.heap.size by have:=hW.size;omega) r p5
    ·refine GY (GY HK.out hW (fun x F=>by simp at F;omega)) p1.kept (fun x F=>?_)
     rcases J4 (hS x F)with rfl | ⟨y,hy,rfl⟩ | ⟨i,hi,e⟩
     ·exact .inl (KU _ _ _)
     ·exact .inl (IK hy)
     ·rw[HL.out.1]at hi
      rcases ag.out i hi x e with l | l
      ·exact .inl (Jy hi l)
      ·exact .inr (by omega)
    ·exact bu.kept p1.kept (fun F=>(j.out _ (hS _ F)).1 rfl)
    ·exact bt.kept p1.kept (fun F=>(j.out _ (hS _ F)).2 rfl)
   have a6:=hid ad;have a5:=hid ao;have bl:(us'.getD (E9 num bg) .zero).text=(us.getD (E9 num bg) .zero).text:=m1;rw[bl]at u0;have HZ:=hid hz;clear ad ao m1 m2 m3 m4 bl ap bh hz;generalize (us.getD (E9 num bg) .zero).text=tx at*;generalize us'.length=N' at*;generalize bv:LQ bg (gs.take k) (E9 num bg)=lk at*;clear bv;generalize bs:E9 num bg=A at*;clear bs;go_upto_region 5 with fail
   have L:Kept [] wr (wr.alloc (I #[D O num, D O (a0:Int), D O til] 154)):=(Kept.refl _ wr).alloc _;have ab:=Fc wr 154 [D O num, D O (a0:Int), D O til];generalize wr.alloc (I #[D O num, D O (a0:Int), D O til] 154)=W1 at*;have z1:=E8 L c1 (by simp);have z2:=E8 L c2 (by simp);have zu:=E8 L u0 (by simp);have zA:=E8 L bb (by simp);have zf:=Ic L bc (by grind) (by simp);have g0:W1.cell? ⟨wr.heap.size,0,E⟩=G (D O num):=ab.cell 0;have g1:W1.cell? ⟨wr.heap.size,1,E⟩=G (D O (a0:Int)):=ab.cell 1;have g2:W1.cell? ⟨wr.heap.size,2,E⟩=G (D O til):=ab.cell 2;have gf:=ab.free 2;have b7:¬(w.heap.size+1=wr.heap.size):=by omega
   have b9:¬(T=w.heap.size+1):=(j.out T (IK (y:=⟨T,0,E⟩) rfl)).1;have cd:¬(b=w.heap.size+1):=(j.out b (KU _ _ _)).1;have aw:=hid L;clear L ab c1 c2 u0 bb bc f0 f1 f2
   go_quiet (first | (go_at_call 65;exact Ba (b0 _)));have ac:∀q,Kept [w.heap.size+1] wr ((W1.drewN q).setCell ⟨w.heap.size+1,A,E⟩ (J true)):=fun q=>((aw.out.Fn (by simp)).drewN q).setCell (by simp) _
   have an:∀q,At ((W1.drewN q).setCell ⟨w.heap.size+1,A,E⟩ (J true)) (w.heap.size+1) 133 (lkC bg (gs.take (k+1))):=fun q=>by
    rw[bo.out];exact(bm.out.kept (aw.out.drewN q) (by simp)).setCell (o:=A) (J true)
   have am:∀q,At ((W1.drewN q).setCell ⟨w.heap.size+1,A,E⟩ (J true)) w.heap.size 133 (List.replicate 32 (J M)):=fun q=>(au.out.kept (aw.out.drewN q) (by simp)).MU _ _ (by grind)
   have af:=hid ac;have a3:=hid an;have a4:=hid am;clear ac an am
   by_cases bj:til<0
   ·have ez:z=tx.size:=by rw[HZ.out,Ab bj]
    subst ez
    go_wp2_with(go_at_call 66;refine(a6.out _ (AeM (af.out _) (Ac _) _)).mono ?_;intro e w2 N;obtain rfl:=N.1;obtain⟨m,r1,r2,r3,r4,r5,r6⟩:=a5.out _ _ (AeM (af.out _) (Ac _) _) ((a3.out _).MU _ _ (by grind)) ((a4.out _).MU _ _ (by show w.heap.size≠wr.heap.size;omega)) N;have R1:=hid r1;have R2:=hid r2;have R3:=hid r3;have R4:=hid r4;have R5:=hid r5;have R6:=hid r6;clear r1 r2 r3 r4 r5 r6 N);exact⟨⟨k+1,by omega,by go_num,m,R1.out,R2.out,R3.out,R4.out,R5.out,R6.out⟩,by simp[intOf];omega⟩
   ·have ez:(z:Int)=til:=by rw[HZ.out,Aa bj];omega
    subst ez
    go_wp2_with(go_at_call 66;refine(a6.out _ (af.out _)).mono ?_;intro e w2 N;obtain rfl:=N.1;obtain⟨m,r1,r2,r3,r4,r5,r6⟩:=a5.out _ _ (af.out _) (a3.out _) (a4.out _) N;have R1:=hid r1;have R2:=hid r2;have R3:=hid r3;have R4:=hid r4;have R5:=hid r5;have R6:=hid r6;clear r1 r2 r3 r4 r5 r6 N);exact⟨⟨k+1,by omega,by go_num,m,R1.out,R2.out,R3.out,R4.out,R5.out,R6.out⟩,by simp[intOf];omega⟩
  ·have ek:gs.take k=gs:=Aw (by rw[HN.out];omega);rw[ek]at u hL;have HP:=hid hP;have HL:=hid hL;have ag:=hid V;have HK:=hid hK;have bi:w.heap.size+1<wr.heap.size:=u.lt;have B:∀x∈F0 b ua us',x≠w.heap.size:=fun x F=>by
    have ae:x∈F0 b ua us\/w.heap.size+2<=x:=by
     rcases J4 F with rfl | ⟨y,hy,rfl⟩ | ⟨i,hi,e⟩
     ·exact .inl (KU _ _ _)
     ·exact .inl (IK hy)
     ·rw[hL.1]at hi
      rcases V i hi x e with l | l
      ·exact .inl (Jy hi l)
      ·exact .inr l
    rcases ae with l | l
    ·have:=a7.out x l;omega
    ·omega
   have j:=hid B;clear hP hL V hK B ek;have ar:∀v∈lkC bg gs,v.oneCell'=true:=by
    intro v hv;simp only[lkC,Bb]at hv;obtain⟨i, -,rfl⟩:=hv;rfl
   generalize a1:lkC bg gs=LK at*;have Q:LK.length=32:=by rw[<-a1];exact Nk _ _
   have bp:=hid a1;clear a1;obtain⟨W9, ax⟩ := E7 (wr.setRow w.heap.size LK.toArray);have ch:(storeCells ⟨w.heap.size,0,E⟩ LK 0).run prog wr=.ok () W9:=by
    have:=CU prog w.heap.size 0 133 LK 0 (List.replicate 32 (J M)).toArray wr (show wr.heap[w.heap.size]?=G (I (List.replicate 32 (J M)).toArray 133 (0,0))from aa) (by simp[Q]) ar;rw[this,ax];simp[Q]
   have a9:=hid ax;have au:=hid aa;clear ax aa ar
   go_wp2_with(first | (refine CP rfl 133 (.tmp 5) rfl (w.heap.size+1) rfl 133 _ (0,0) _ u underlying133 rfl (by rw[A8,Q];kernel_rfl) ?_));have hZ:At W9 w.heap.size 133 LK:=by rw[a9.out];exact au.out.set
   have bd:Kept [w.heap.size] wr W9:=by rw[a9.out];exact FO _ _ _
   refine Ah (BO (p:=4) (ty:=133) (by kernel_rfl) _ _ w.heap.size 133 _ (0,0) _ rfl hZ underlying133 rfl (by rw[A8,Q];kernel_rfl)) rfl ?_;refine⟨by rw[bp.out],GY HK.out bd (fun x F=> .inr (by simp at F;omega)),us',HP.out.kept bd (fun x F=>by simpa using j.out x F),HL.out,fun i hi g hg=>?_⟩
   rcases ag.out i hi g hg with l | l
   ·exact .inl l
   ·exact .inr (by omega)
theorem Ao5{us:List TkP}(h:k<us.length):us.take (k+1)=us.take k++[us.getD k .zero]:=by
 rw[Br,Au,Ap h];rfl
def Ks (l:List TkP):List ByteArray:=l.map fun x=>strOfNums x.data
theorem TkAt.box{us:List TkP}(h:PRcv w b fs g c us)(l:Below w.heap.size w wr)(x:TkP)(n:x=us.getD k .zero):TkAt (wr.alloc (I #[x.dv,x.tv, D O (x.len:Int)] 151)) wr.heap.size 0 x:=by
 have d:=Fc wr 151 [x.dv,x.tv, D O (x.len:Int)];have m:Kept [] w (wr.alloc (I #[x.dv,x.tv, D O (x.len:Int)] 151)):=(Kept.E5 l).alloc _;have p:=l.size;subst n;refine⟨d.cell 0,d.cell 1,d.cell 2,fun j=>d.free j,Ky (h.od k) m (by simp),(h.ot k).kept m (by simp),fun q a=>?_,fun q a=>?_,fun q a e=>?_⟩
 ·have:=h.kl (k:=M) a;omega
 ·have:=h.kl (k:=true) a;omega
 ·have:=(h.nn k k M true q a e).2
  cases this
def Lj (w:World)(b fs g c:Nat)(us:List TkP):Ending->World->Prop:=fun e w'=>∃k a cc,k<=us.length/\e= K (C a k cc)/\(∀j,j<k->(us.getD j .zero).whole=true)/\(k<us.length->(us.getD k .zero).whole=M)/\Txs w' a (Ks (us.take k))/\Aen w.heap.size a/\(∀x,a=G x->x.block<w'.heap.size)/\Kept [b,g] w w'/\PRcv w' b ((fs+k) % 64) g c (us.drop k++List.replicate k .zero)/\w'.ownsRow w.heap.size 9 1 (C a k cc) k ((Ks (us.take k)).map Value.string)
theorem WM{V A B:World}{cc:Nat}{a:Option Addr}{us:List TkP}(h:PRcv w b fs g c us)(T:k<=us.length)(N:∀j,j<k->(us.getD j .zero).whole=true)(Q:k<us.length->(us.getD k .zero).whole=M)
 (W:Below w.heap.size w wr) (z:wr.ownsRow w.heap.size 9 1 (C a k cc) k ((Ks (us.take k)).map Value.string))
 (u:Kept [g] wr V) (v:Kept [g] V A) (L:A.ownsRow 0 151 3 (C (G ⟨g,0,E⟩) us.length c) us.length (FE (us.drop k++List.replicate k .zero)))
 (p:B=(A.setCell ⟨b,1,E⟩ (C (G ⟨g,0,E⟩) us.length c)).setCell ⟨b,0,E⟩ (D O (((fs+k) % 64:Nat):Int))):Lj w b fs g c us (K (C a k cc)) B:=by
 have ac:=h.gl;have aa:=h.hd.lt;have s:Kept [g] w A:=((Kept.E5 W).trans u).trans v;have t:Kept [b,g] w B:=by
  rw[p];exact((s.Fn (by simp)).setCell (by simp) _).setCell (by simp) _
 have H:(Ks (us.take k)).length=k:=by unfold Ks;rw[Bo,Ay];omega
 have F:Txs wr a (Ks (us.take k)):=Amd (by rw[H];exact z);have m:∀x,a=G x->w.heap.size<=x.block/\x.block<wr.heap.size:=fun x r=>by
  obtain⟨a',c',e, -, -,S⟩:=Fg z;simp only[Aq]at e;obtain⟨rfl, -,rfl⟩:=e;obtain⟨q,rfl,n⟩:=S x r;exact AB z q n
 have d:Kept [b,g] wr B:=by
  rw[p];exact((((u.trans v).Fn (by simp)).setCell (by simp) _).setCell (by simp) _)
 refine⟨k,a,cc,T,rfl,N,Q,F.kept d (fun x r y=>?_),fun x r=>(m x r).1,fun x r=>AI (m x r).2 d.size,t,?_,FY z d (fun q n y=>by have:=(AB z q n).1;simp at y;omega)⟩
 ·have:=(m x r).1;simp at y;omega
 ·have ab:(us.drop k++List.replicate k TkP.zero).length=us.length:=by rw[Ai,AJ,A7];omega
  refine h.Ad2 T t (fun i l q n y=>?_) ?_ ?_
  ·have:=h.na i l q n;simp at y;omega
  ·rw[p];exact((h.hd.kept s (by simpa using fun e=>h.nb e.symm)).setCell _).setCell _
  ·rw[p];refine FY (FY L (FT A b 1 _) (fun q n=>?_)) (FT _ b 0 _) (fun q n=>?_)
   ·simp[Value.ownBlock]at n;subst n
    simpa using h.nb
   ·simp[Value.ownBlock]at n;subst n
    simpa using h.nb
theorem Zd{us:List TkP}(h:∀i,∃a n c a' n' c',(us.getD i .zero).dv= C a n c/\(us.getD i .zero).tv= C a' n' c'):∀v∈FE us,v.oneCell'=true:=by
 intro v d;obtain⟨x,m,d⟩:=Ce.1 d;obtain⟨i,hi,rfl⟩:=List.mem_iff_getElem.1 m;have e:us.getD i .zero=us[i]:=by grind
 obtain⟨a,n,c,a',n',c',j,l⟩:=h i;rw[e]at j l;unfold TkP.cells at d;rw[j,l]at d;simp at d
 rcases d with rfl | rfl | rfl<;>rfl
structure TellAt(w wq:World)(b fs g c N k:Nat)(us:List TkP):Prop where
 c0:wq.cell? ⟨b,0,E⟩=G (D O (fs:Int))
 c1:wq.cell? ⟨b,1,E⟩=G (C (G ⟨g,0,E⟩) N c)
 del:Calls prog 245 #[C (G ⟨g,0,E⟩) N c, D O (0:Int), D O (k:Int)] wq fun e w'=>e= K (C (G ⟨g,0,E⟩) (N-k) c)/\w'.cell? ⟨b,0,E⟩=G (D O (fs:Int))/\w'.cell? ⟨b,1,E⟩=G (C (G ⟨g,0,E⟩) N c)/\Kept [g] wq w'/\∃W,(∀ty,(Builtin.append_ #[147,3] ty #[C (G ⟨g,0,E⟩) (N-k) c, D O (k:Int)]).run prog w'=.ok (C (G ⟨g,0,E⟩) N c) W)/\W.ownsRow 0 151 3 (C (G ⟨g,0,E⟩) N c) N (FE (us.drop k++List.replicate k .zero))/\Kept [g] w' W/\W.cell? ⟨b,0,E⟩=G (D O (fs:Int))/\W.cell? ⟨b,1,E⟩=G (C (G ⟨g,0,E⟩) N c)/\W.frozen? ⟨b,0,E⟩=M/\W.frozen? ⟨b,1,E⟩=M
theorem TellAt.of{t:World}{N:Nat}{us:List TkP}(h:PRcv w b fs g c us)(B:Below w.heap.size w t)(z:N=us.length)(A:N<=32)(x:k<=N):TellAt w t b fs g c N k us:=by
 subst z;have r:=h.kept (Kept.E5 (S:=[]) B) (by simp);have n:b∉[g]:=by simpa using fun e=>h.nb e.symm
 refine⟨r.hd.cell 0,r.hd.cell 1,?_⟩
 have q:=Zd (us:=us) (fun i=>by
  obtain⟨a,c,e, -⟩:=(h.od i).FC;obtain⟨a',c',y, -⟩:=(h.ot i).FC
  exact⟨_,_,_,_,_,_,e,y⟩)
 obtain⟨-, -, -,F, -⟩:=F9 r.own;refine(Xs r.own q x).mono ?_;rintro e H ⟨rfl,p,j⟩;have j:Kept [g] t H:=j;have l:=r.hd.kept j n;rw[Xe]at p;obtain⟨W,v,s,u⟩:=AkC (m:=k) p (by omega) (by omega);rw[Nat.sub_add_cancel x]at v s;rw[<-Zc]at s;have d:=l.kept u n;exact⟨rfl,l.cell 0,l.cell 1,j,W,v,s,u,d.cell 0,d.cell 1,d.free 0,d.free 1⟩
theorem AkA{us:List TkP}(h:PRcv w b fs g c us)(hl:us.length<=32)(ag:fs<64)(ak:∀i,(us.getD i .zero).th.length<=4000)(ai:∀i,(us.getD i .zero).len<=3000)(az:∀i,(us.getD i .zero).data.length<=4000):
 Calls prog 207 #[.pointer (G ⟨b,0,E⟩)] w (Lj w b fs g c us):=by
 have c1:w.cell? ⟨b,1,E⟩=G (C (G ⟨g,0,E⟩) us.length c):=h.hd.cell 1;obtain⟨N, hN⟩ := E7 us.length;rw[<-hN]at c1 hl;have H:=hid h;have v:=hid hN;obtain⟨i0,hi,al,am,an⟩:=As Tryz.Rr;have HI:=hid hi;have aw:=hid al;have ax:=hid am;have ay:=hid an;generalize hP:Lj w b fs g c us=P;have HP:=hid hP;have av:=hid ak;have ar:=hid ai;have aj:=fun(wq:World) (k:Nat) (hb:Below w.heap.size w wq) (hk:k<=N)=>TellAt.of (k:=k) h hb hN hl hk
 have aa:=hid aj;clear aj h hN hP hi al am an ak ai az;go_enter func207,ntmps207
 go_wp2_with fail
 go_loopw [3,11] (fun vt vi wr=>∃(k cc:Nat) (a:Option Addr),k<=N/\vi= D O (k:Int)/\vt= C a k cc/\Hid (∀j,j<k->(us.getD j .zero).whole=true)/\Hid (wr.ownsRow w.heap.size 9 1 (C a k cc) k ((Ks (us.take k)).map Value.string))/\Hid (Below w.heap.size w wr)) (fun _ vi _=>N-(intOf vi).toNat)
 case atStart=>exact⟨0,0,E,Af _,rfl,rfl,hid fun j hj=>absurd hj (CG _),hid (Bj _ _ _ _),hid (Ad _ _)⟩
 case round=>
  obtain⟨k,cc,a,hk,rfl,rfl,HW,HO,F⟩:=hrel
  by_cases ac:k<N
  ·obtain⟨x, L⟩ := E7 (us.getD k .zero);have hu:=H.out.un (i:=k) (by rw[<-v.out];exact ac);have z0:=E8 (Kept.E5 (S:=[]) F.out) hu.c0 (by simp);have z1:=E8 (Kept.E5 (S:=[]) F.out) hu.c1 (by simp);have z2:=E8 (Kept.E5 (S:=[]) F.out) hu.c2 (by simp);rw[<-L]at z0 z1 z2;have p:=TkAt.box H.out F.out x L;have l:=Aea p (by rw[L];exact ar.out k) (by rw[L];exact av.out k);obtain⟨aD,cD,eD, -, -, -⟩:=p.od.FC;obtain⟨aT,cT,eT, -, -, -⟩:=p.ot.FC;rw[eD]at z0;rw[eT]at z1;have y:=p.od;rw[eD]at y;rw[eT]at y;rw[eD,eT]at l;have ae:=hid (show Ks (us.take (k+1))=Ks (us.take k)++[strOfNums x.data]by rw[Ao5 (by rw[<-v.out];exact ac)];unfold Ks;rw[AR,L];rfl);obtain⟨S, eS⟩ := E7 (strOfNums x.data);rw[<-eS]at ae;have hF:∀w1,(∃n,w1=(wr.alloc (I #[C aD x.data.length cD, C aT x.th.length cT, D O (x.len:Int)] 151)).drewN n)->w1.cell? ⟨wr.heap.size,0,E⟩=G (C aD x.data.length cD)/\(convert 103 9 (C aD x.data.length cD)).run prog w1=.ok (.string S) w1/\Hid (w1.ownsRow w.heap.size 9 1 (C a k cc) k ((Ks (us.take k)).map Value.string))/\Hid (Below w.heap.size w w1):=by
    rintro w1 ⟨n,rfl⟩;have hA:=Fc wr 151 [C aD x.data.length cD, C aT x.th.length cT, D O (x.len:Int)];refine⟨hA.cell 0,?_,hid ?_,hid ?_⟩
    ·rw[eS];have hr:Rd .u8 ((wr.alloc (I #[C aD x.data.length cD, C aT x.th.length cT, D O (x.len:Int)] 151)).drewN n) aD x.data:=Own.rd (B:=0) (n:=x.data.length) (c:=cD) y;exact L6 hr cD
    ·exact A6 HO.out _
    ·exact JO (F.out.alloc F.out.size _) n
   have HF:=hid hF;have a1:=hid L;have af:=hid (show x.whole=(us.getD k .zero).whole by rw[L]);have aq:Hid (k+1<=maxLen):=hid (by unfold maxLen;omega);have ap:Hid ((k+1)*16<=140737488355328):=hid (by omega);clear hu p y eD eT hF eS L;generalize x.data.length=LD at*;generalize x.th.length=LT at*;generalize x.len=LN at*
   cases m:x.whole with
   | true=>
    rw[m]at l;have ab:=hid m;clear m
    go_wp2_with(first
     | (go_at_call 244;refine l.mono ?_;rintro e w1 ⟨rfl,d⟩;obtain⟨f0,f1,F2,u⟩:=HF.out w1 d;clear d)
     | (at_builtin;refine I3 w.heap.size w1.heap.size underlying22 HI.out aw.out ax.out ay.out rfl (by decide) (A6 F2.out _) rfl _ _ rfl rfl rfl (news:=[.string S]) rfl (fun j z hj=>by rw[Al _ _ _ _ _ _ (Am w1 _)];simpa using hj) (by intro z hz;simp at hz;subst hz;rfl) aq.out ap.out (by have:=u.out.size;simp;omega) ?_;intro v4 w4 ad ah a0;obtain⟨a4,c4,rfl, -, -, -⟩:=Fg ad;have au:=hid ad;have ao:=hid ah;clear ad ah a0))
    go_roundw
    case rel=>
     refine⟨k+1,c4,a4,by omega,by go_num,rfl,hid fun j hj=>?_,hid ?_,hid ?_⟩
     ·by_cases e:j=k
      ·subst e;rw[<-af.out];exact ab.out
      ·exact HW.out j (by omega)
     ·rw[ae.out,AR];exact au.out
     ·exact(u.out.alloc u.out.size _).grown ao.out (by have:=u.out.size;simp;omega) (fun q hq=>(AB F2.out q hq).1)
    case measure=>simp[intOf];omega
   | false=>
    rw[m]at l;have ab:=hid m;clear m
    go_wp2_with(first
     | (go_at_call 244;refine l.mono ?_;rintro e w1 ⟨rfl,d⟩;obtain⟨f0,f1,F2,u⟩:=HF.out w1 d;clear d;obtain⟨t0,t1,A⟩:=aa.out w1 k u.out hk)
     | (go_at_call 245;refine A.mono ?_;rintro e w3 ⟨rfl,p0,p1,r,W,hR,t,s,r0,r1,r2,r3⟩;have Q:=hid r;have V:=hid t;have T:=hid s;have HR:=hid (fun ty cs=>GG (hR ty) cs);clear r t s hR)
     | (at_builtin;refine IM w3 rfl .append _ _ 147 3 rfl _ _ rfl rfl (HR.out _) ?_)
     | (go_at_call 70;refine(Lm _ ag (show k<=4000 by omega)).mono ?_;rintro e w6 ⟨rfl,rfl⟩))
    rw[<-HP.out]
    show Lj w b fs g c us (K (C a k cc)) _;exact WM H.out (by rw[<-v.out];exact hk) HW.out (fun _=>by rw[<-af.out];exact ab.out) u.out F2.out Q.out T.out (by rw[<-v.out];exact V.out) (by rw[<-v.out];simp)
  ·obtain⟨t0,t1,A⟩:=aa.out wr k F.out hk
   go_wp2_with(first
    | (go_at_call 244;refine l.mono ?_;rintro e w1 ⟨rfl,d⟩;obtain⟨f0,f1,F2,u⟩:=HF.out w1 d;clear d;obtain⟨t0,t1,A⟩:=aa.out w1 k u.out hk)
    | (go_at_call 245;refine A.mono ?_;rintro e w3 ⟨rfl,p0,p1,r,W,hR,t,s,r0,r1,r2,r3⟩;have Q:=hid r;have V:=hid t;have T:=hid s;have HR:=hid (fun ty cs=>GG (hR ty) cs);clear r t s hR)
    | (at_builtin;refine IM w3 rfl .append _ _ 147 3 rfl _ _ rfl rfl (HR.out _) ?_)
    | (go_at_call 70;refine(Lm _ ag (show k<=4000 by omega)).mono ?_;rintro e w6 ⟨rfl,rfl⟩))
   rw[<-HP.out]
   show Lj w b fs g c us (K (C a k cc)) _;exact WM H.out (by rw[<-v.out];exact hk) HW.out (fun h=>absurd h (by rw[<-v.out];exact ac)) F.out HO.out Q.out T.out (by rw[<-v.out];exact V.out) (by rw[<-v.out];simp)
end Go.Proofs.YtbjgfoiikhbonahGreatDoor
