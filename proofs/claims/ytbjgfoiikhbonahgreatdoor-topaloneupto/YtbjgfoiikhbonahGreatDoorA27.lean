import Derived.Test.YtbjgfoiikhbonahGreatDoorA26
set_option linter.unusedVariables false
set_option linter.unusedSimpArgs false
set_option maxRecDepth 100000
set_option maxHeartbeats 4000000
namespace Go.Proofs.YtbjgfoiikhbonahGreatDoor
open Go.ChangeShapes Go.WideShapes Go.ChangeAt Go.RowKit Go.Proofs.Tryz
open Value renaming slice->A,pointer->C,int->I
open Option renaming none->D,some->J
open IntKind renaming i64->O
variable {F:List Nat}{p:Addr}{r:InM}{us:List TkP}{w w':World}
def RW (w:World)(fs:Nat)(us:List TkP):Ending->World->Prop:=fun e w'=>∃k a n c,k<=us.length/\(0<k->(us.getD (k-1) .zero).th≠[])/\(∀j,k<=j->j<us.length->(us.getD j .zero).th=[])/\e=.returned (.agg #[I O (((fs+k) % 64:Nat):Int), A a n c])/\Gps w' a (Hh fs us k)/\(Hh fs us k).length=n/\n<=maxLen/\Aen w.heap.size a/\Below w.heap.size w w'/\n<=100000/\w'.ownsRow (w.heap.size+2) 154 3 (A a n c) n (GS (Hh fs us k))
theorem Aa1{b fs g c:Nat}(h:PRcv w b fs g c us)(hl:us.length<=32)(c9:fs<64)(am:∀i,Srt (us.getD i .zero).th)(bb:∀i,G8 (us.getD i .zero).th<=1500)(cd:∀i,(us.getD i .zero).len<=1500):
 Calls prog 33 #[C (J ⟨b,0,D⟩)] w (RW w fs us):=by
 have be:∀i,(us.getD i .zero).th.length<=1500:=fun i=>Ak ((am i).few (am i).Tz) (bb i)
 have c0:w.cell? ⟨b,0,D⟩=J (I O (fs:Int)):=h.hd.cell 0;have c1:w.cell? ⟨b,1,D⟩=J (A (J ⟨g,0,D⟩) us.length c):=h.hd.cell 1;have dn:=h.hd.lt;obtain⟨W1, ag⟩ := E7 (w.alloc (.cells #[I O 0, A D 0 0] 95));have l:Kept [] w W1:=by rw[ag];exact(Kept.refl _ w).alloc _
 have a8:=Adu (h.kept l (by simp)) hl (fun i=>by have:=be i;omega);have ab:At W1 w.heap.size 95 [I O 0, A D 0 0]:=by rw[ag];exact Fc w _ _
 have b0:W1.heap.size=w.heap.size+1:=by rw[ag];simp
 have k0:=E8 l c0 (by simp);have k1:=E8 l c1 (by simp);obtain⟨N, hN⟩ := E7 us.length;generalize hP:RW w fs us=P;have b4:=fun(W:World) (k:Nat) (hk:k<=4000)=>Lm (n:=fs) (k:=k) W c9 hk
 have bz:∀nx:Int,RpAt w (W1.alloc (.cells #[I O nx, A D 0 0] 95)) nx [] D 0:=fun nx=>by
  have hA:=Fc W1 95 [I O nx, A D 0 0];rw[b0]at hA;refine⟨hA,ab.kept ((Kept.refl [] W1).alloc _) (by simp),Bj _ _ _ _,?_⟩;exact(l.alloc _).below (Ac _) (by simp)
 have bt:=hid bz;have H:=hid h;have HP:=hid hP;have HN:=hid hN;have cx:=hid am;have ck:=hid bb;have cq:=hid cd;have a3:=hid be;rw[<-hN]at k1 hl a8;have co:=hid l;clear h hP am bb cd be bz ab l c0 c1 hN;go_enter func33,ntmps33;go_upto_region 1 with fail
 rw[<-ag];clear ag
 go_upto_region 3 with(first
  | (go_at_call 69;refine a8.mono ?_;rintro e w1 ⟨k,hk,rfl,b9,ca,rfl⟩;have cl:=hid b9;have cm:=hid ca;have HK:=hid hk;clear b9 ca;clear hk;have dm:k<=32:=by(have:=HK.out;omega))
  | (go_at_call 70;refine(b4 _ k (by omega)).mono ?_;rintro e w2 ⟨rfl,rfl⟩))
 have ct:=hid (show((fs:Int)+(k:Int)) % 64=(((fs+k) % 64:Nat):Int)by omega);generalize ((fs:Int)+(k:Int)) % 64=NX at*;have bx:=hid (bt.out NX);generalize w2.alloc (.cells #[I O NX, A D 0 0] 95)=W3 at*;clear k0 k1 bt co a8
 go_wp2_with fail
 go_loopw [18] (fun vi wr=>∃(i cr:Nat) (ar:Option Addr),i<=k/\vi= I O (i:Int)/\Hid (RpAt w wr NX (Hh fs us i) ar cr)) (fun vi _=>k-(intOf vi).toNat)
 case atStart=>exact⟨0,0,D,Af _,rfl,bx⟩
 case round=>
  obtain⟨y, rfl⟩ := E7 wr;obtain⟨i,cr,ar,hi,rfl,HR⟩:=hrel;clear bx;have bd:Kept [] w y:=Kept.E5 HR.out.bel
  by_cases dq:i<k
  ·have da:i<N:=by have:=HK.out;omega
   have a7:=H.out.kept bd (by simp);have u1:y.cell? ⟨b,1,D⟩=J (A (J ⟨g,0,D⟩) N c):=by rw[HN.out];exact a7.hd.cell 1
   have ba:=AhN (a7.un (i:=i) (by rw[<-HN.out];exact da)) (cx.out i) (by have:=cq.out i;omega) (by have:=ck.out i;omega);obtain⟨G, eG⟩ := E7 ((us.getD i .zero).NR);obtain⟨m, em⟩ := E7 G.length;have hm:m<=1502:=by rw[em,eG];exact TkP.ZB (a3.out i)
   have hG:MC y (us.getD i .zero)=fun e w'=>∃a' c',e=.returned (A a' m c')/\OwnSi w' y.heap.size (A a' m c') G/\Below y.heap.size y w':=by
    funext e w'
    unfold MC;rw[<-eG,em];refine propext ⟨?_,?_⟩
    ·rintro⟨v',rfl,ho,hb⟩;obtain⟨a',c',rfl, -, -, -⟩:=Fg ho;exact⟨a',c',rfl,ho,hb⟩
    grind
   rw[hG]at ba;have EG:=hid eG;have EM:=hid em;clear hG eG em a7;go_upto_region 7 with(go_at_call 71;refine ba.mono ?_;rintro e w4 ⟨aG,cG,rfl,bw,b1⟩;have bp:=hid bw;have bf:=hid b1;clear bw b1)
   have dh:w.heap.size+1<y.heap.size:=HR.out.row.lt;have dj:=bf.out.size;obtain⟨S, eS⟩ := E7 ((w.heap.size+1)::(A ar (Hh fs us i).length cr).ownBlock.toList:List Nat);have au:∀q∈S,w.heap.size+1<=q/\q<y.heap.size:=fun q hq=>by
    rw[eS,Ar]at hq
    rcases hq with rfl | hq
    ·omega
    ·have:=AB HR.out.own q (by simpa using hq);omega
   have br:=hid au;have cw:Hid (w.heap.size+1∈S):=by grind
   have bs:Hid (∀q,(A ar (Hh fs us i).length cr).ownBlock=J q->q∈S\/w4.heap.size<=q):=hid fun q hq=> .inl (by rw[eS,hq];simp)
   have cp:=hid (PP (fs:=fs) a3.out i);obtain⟨GO, a4⟩ := E7 (Nc fs i (us.getD i .zero));have aq:GO.length=m:=by rw[a4];unfold Nc;rw[Bo,EM.out,EG.out]
   have bk:=hid a4;have ap:=hid aq;obtain⟨M, eM⟩ := E7 ((((fs+i) % 64:Nat):Int):Int);have c7:∀W,Calls prog 70 #[I O (fs:Int), I O (i:Int)] W fun e w'=>e=.returned (I O M)/\w'=W:=by grind
   have ci:=hid eM;have cu:=hid (HR.out.later bf.out);clear ba u1 bd au eS a4 aq eM b4
   go_loopw [29] (fun vj f=>∃(j cs:Nat) (E:Option Addr),j<=m/\vj= I O (j:Int)/\Hid (RpAt w f NX (Hh fs us i++GO.take j) E cs)/\Hid (Kept S w4 f)/\Hid (∀q,(A E (Hh fs us i++GO.take j).length cs).ownBlock=J q->q∈S\/w4.heap.size<=q)) (fun vj _=>m-(intOf vj).toNat)
   case atStart=>exact⟨0,cr,ar,Af _,rfl,hid (by rw[C0,AA];exact cu.out),hid (Kept.refl _ _),hid (by rw[C0,AA];exact bs.out)⟩
   case round=>
    obtain⟨f, rfl⟩ := E7 wr;obtain⟨j,cs,E,hj,rfl,HS,af,aj⟩:=hrel
    by_cases b8:j<m
    ·have bc:j<G.length:=by rw[<-EM.out];exact b8
     obtain⟨gG,rfl,dl,b6⟩:=bp.out.at (i:=j) bc;have dk:y.heap.size<=gG:=(AB bp.out gG rfl).1;obtain⟨z0,z1⟩:=b6 j bc;have a9:gG∉S:=fun hq=>by have:=(br.out _ hq).2;omega
     have z0:=E8 af.out z0 a9;have z1:=E8 af.out z1 a9;obtain⟨p, ep⟩ := E7 ((G.getD j (0,0)).1);obtain⟨q, eq⟩ := E7 ((G.getD j (0,0)).2);rw[<-ep]at z0;rw[<-eq]at z1
     have bu:Hid (GO.take (j+1)=GO.take j++[⟨M,p,q⟩]):=hid (by
      have db:j<GO.length:=by rw[ap.out];exact b8
      rw[Br,Ap db];have e:GO[j]=(⟨M,p,q⟩:GapM):=by
       have h1:GO[j]?=J (⟨M,p,q⟩:GapM):=by
        rw[bk.out];unfold Nc;rw[<-EG.out,A9,Ap bc,<-ci.out]
        grind
       grind
      rw[e]
      rfl)
     obtain⟨LL, al⟩ := E7 (Hh fs us i++GO.take j);obtain⟨L, eL⟩ := E7 LL.length;have c6:L<=100000:=by
      rw[eL,al,Ai,Ay];have:=cp.out
      grind
     rw[<-al]at HS aj;have cc:Kept [] w f:=Kept.E5 HS.out.bel;obtain⟨WB, ah⟩ := E7 (f.alloc (.cells #[I O p, I O q] 146));have ae:Kept [] f WB:=by rw[ah];exact(Kept.refl _ f).alloc _
     have b5:At WB f.heap.size 146 [I O p, I O q]:=by rw[ah];exact Fc f _ _
     have av:WB.heap.size=f.heap.size+1:=by rw[ah];simp
     have di:w.heap.size+1<f.heap.size:=HS.out.row.lt;have f0:w.cell? ⟨b,0,D⟩=J (I O (fs:Int)):=H.out.hd.cell 0;have g0:=E8 (cc.trans ae) f0 (by simp);have m0:WB.cell? ⟨w.heap.size+1,1,D⟩=J (A E L cs):=by rw[eL];exact(HS.out.row.kept ae (by simp)).cell 1
     have df:=HS.out.row.kept ae (by simp);have ai:WB.ownsRow (w.heap.size+2) 154 3 (A E L cs) L (GS LL):=by
      have:=FY (B:=w.heap.size+2) HS.out.own ae (by simp)
      grind
     have aw:∀x,x∈(A E L cs).ownBlock.toList->w.heap.size+2<=x/\x<f.heap.size:=fun x hx=>by
      have:=AB HS.out.own x (by rw[<-eL];simpa using hx);exact this
     have n1:w.heap.size+1∉(A E L cs).ownBlock.toList:=by grind
     have n2:b∉(A E L cs).ownBlock.toList:=by grind
     have n3:f.heap.size∉(A E L cs).ownBlock.toList:=by grind
     obtain⟨i0,b7,cf,cg,ch⟩:=As Tryz.Anm;have HI:=hid b7;have cy:=hid cf;have cz:=hid cg;have c2:=hid ch;have bq:=hid ai;have bn:=hid m0;have bj:=hid g0;have ay:=hid b5;have a1:=hid n1;have bo:=hid n2;have a2:=hid n3;have an:=hid aw;have ak:=hid av;have bg:=hid c7;have a0:=hid ae;have ad:=hid eL;have ao:=hid al;have bh:Hid (Enters prog 70):=hid (enters_of func70 (by kernel_rfl) rfl);clear b6 a9 ep eq al eL cc ae b5 g0 f0 df ai aw b7 cf cg ch n1 n2 n3 m0;go_upto_region 9 with fail
     rw[<-ah];clear ah z0 z1 av;have ax:prog.follows .mixedOrders=true:=by kernel_rfl
     refine Bi (Ox (Q:=fun e a' w'=>e=.normal/\∃gx a5 c5,a'={tmps:=(Ft _ [(33, C (J ⟨w.heap.size+1,1,D⟩)),(34, A E L cs),(35, C (J ⟨b,0,D⟩)),(36, C (J ⟨b,0,D⟩)),(37, C (J ⟨b,0,D⟩)),(38, I O (fs:Int)),(39, I O (i:Int)),(40, I O M),(41, C (J ⟨f.heap.size,0,D⟩)),(42, I O p),(43, C (J ⟨f.heap.size,1,D⟩)),(44, I O q),(45,.agg #[I O M, I O p, I O q]),(46, A (J ⟨gx,0,D⟩) 1 1),(47, A a5 (L+1) c5),(48, C (J ⟨w.heap.size+1,1,D⟩))]).toArray,defers:=[]}/\Hid (RpAt w w' NX (LL++[⟨M,p,q⟩]) a5 c5)/\Hid (Kept S w4 w')/\Hid (∀x,(A a5 (L+1) c5).ownBlock=J x->x∈S\/w4.heap.size<=x)) 17 16 14 (A E L cs).ownBlock.toList [33,34,35,36,37,38,39,40,41,42,43,44,45,46,47,48]
      [[4],[33],[0],[35],[36],[37],[5],[38,39],[7],[41],[7],[43],[40,42,44],[45],[34,46],[4]] [1,14,3,4,5,7,7,12,9,12,11,12,13,14,16,16] (AaV (w.heap.size+1) b f.heap.size fs i M p q (A E L cs) (w.heap.size+2) L WB.heap.size LL (A E L cs).ownBlock.toList) WB ax rfl (by decide) rfl (by decide) (by kernel_rfl) (by kernel_rfl) (by kernel_rfl) (by kernel_rfl) (by kernel_rfl) (by kernel_rfl) (fun j hj σ σ' w0 he a=>Ahh j σ σ' w0 (he j (Or.inl rfl)) a) Ahi AdA (fun i' dp σ ac wc T c8 a v Q K hK=>by
      have c4:i'=0\/i'=1\/i'=2\/i'=3\/i'=4\/i'=5\/i'=6\/i'=7\/i'=8\/i'=9\/i'=10\/i'=11\/i'=12\/i'=13\/i'=14\/i'=15:=by omega
      rcases c4 with rfl | rfl | rfl | rfl | rfl | rfl | rfl | rfl | rfl | rfl | rfl | rfl | rfl | rfl | rfl | rfl
      ·exact E6 rfl rfl (Aa7 wc rfl (v 4 (by decide))) (hK _ wc (Kept.refl _ _) (fun σ' _ h=>h))
      ·exact E6 rfl rfl (Aj9 wc rfl ((v 33 (by decide)).trans (a 0 (by decide) (by kernel_rfl))) (E8 T bn.out a1.out)) (hK _ wc (Kept.refl _ _) (fun σ' _ h=>h))
      ·exact E6 rfl rfl (Fd wc rfl (v 0 (by decide))) (hK _ wc (Kept.refl _ _) (fun σ' _ h=>h))
      ·exact E6 rfl rfl (Ie wc rfl ((v 35 (by decide)).trans (a 2 (by decide) (by kernel_rfl)))) (hK _ wc (Kept.refl _ _) (fun σ' _ h=>h))
      ·exact E6 rfl rfl (Aj3 wc rfl ((v 36 (by decide)).trans (a 3 (by decide) (by kernel_rfl)))) (hK _ wc (Kept.refl _ _) (fun σ' _ h=>h))
      ·exact E6 rfl rfl (UC wc rfl ((v 37 (by decide)).trans (a 4 (by decide) (by kernel_rfl))) (E8 T bj.out bo.out)) (hK _ wc (Kept.refl _ _) (fun σ' _ h=>h))
      ·exact E6 rfl rfl (Fd wc rfl (v 5 (by decide))) (hK _ wc (Kept.refl _ _) (fun σ' _ h=>h))
      ·exact FM rfl rfl rfl bh.out (Oj ((v 38 (by decide)).trans (a 5 (by decide) (by kernel_rfl))) ((v 39 (by decide)).trans (a 6 (by decide) (by kernel_rfl)))) (bg.out wc) (fun e w' h=>⟨_,h.1,by rw[h.2];exact hK _ wc (Kept.refl _ _) (fun σ' _ h=>h)⟩)
      ·exact E6 rfl rfl (Aj4 wc rfl (v 7 (by decide))) (hK _ wc (Kept.refl _ _) (fun σ' _ h=>h))
      ·exact E6 rfl rfl (UC wc rfl ((v 41 (by decide)).trans (a 8 (by decide) (by kernel_rfl))) ((ay.out.kept T a2.out).cell 0)) (hK _ wc (Kept.refl _ _) (fun σ' _ h=>h))
      ·exact E6 rfl rfl (Aj5 wc rfl (v 7 (by decide))) (hK _ wc (Kept.refl _ _) (fun σ' _ h=>h))
      ·exact E6 rfl rfl (UC wc rfl ((v 43 (by decide)).trans (a 10 (by decide) (by kernel_rfl))) ((ay.out.kept T a2.out).cell 1)) (hK _ wc (Kept.refl _ _) (fun σ' _ h=>h))
      ·exact E6 rfl rfl (Aj1 wc rfl ((v 40 (by decide)).trans (a 7 (by decide) (by kernel_rfl))) ((v 42 (by decide)).trans (a 9 (by decide) (by kernel_rfl))) ((v 44 (by decide)).trans (a 11 (by decide) (by kernel_rfl)))) (hK _ wc (Kept.refl _ _) (fun σ' _ h=>h))
      ·refine E6 rfl rfl (Aj2 wc rfl ((v 45 (by decide)).trans (a 12 (by decide) (by kernel_rfl)))) (hK _ _ ((Kept.refl _ wc).alloc _) (fun σ' _ h=>⟨wc.heap.size,fun hm=>?_,h,Fc wc _ _⟩));have h1:=(an.out _ hm).2;have h2:=T.size;have h3:=ak.out;omega
      ·obtain⟨gx, -,b2,b3⟩:=a 13 (by decide) (by kernel_rfl);have hb:=c8 rfl
       exact AjE rfl rfl HI.out cy.out cz.out c2.out (w.heap.size+2) M p q gx rfl ((v 34 (by decide)).trans (a 1 (by decide) (by kernel_rfl))) ((v 46 (by decide)).trans b2) (FY bq.out (Kept.E5 (S:=[]) hb) (by simp)) b3 c6 (by have h1:=hb.size;have h2:=ak.out;omega) (fun v' w' hO hg hn=>hK v' w' (Kept.PR hg) (fun σ' _ h=>by
       obtain⟨a5,c5,e5, -, -, -⟩:=Fg hO;subst e5;refine⟨a5,c5,h,hO,fun x hx=>?_⟩
       rcases hn with hn | hn
       ·exact .inl (hn▸hx)
       ·right;rw[hn]at hx
        cases hx
        exact hb.size))
      ·exact E6 rfl rfl (Aa7 wc rfl (v 4 (by decide))) (hK _ wc (Kept.refl _ _) (fun σ' _ h=>h)))
      (fun σ wc T a=>by
       have p0:σ 0=_:=a 0 (by decide);have p1:σ 1=_:=a 1 (by decide);have p2:σ 2=_:=a 2 (by decide);have p3:σ 3=_:=a 3 (by decide);have p4:σ 4=_:=a 4 (by decide);have p5:σ 5=_:=a 5 (by decide);have p6:σ 6=_:=a 6 (by decide);have p7:σ 7=_:=a 7 (by decide);have p8:σ 8=_:=a 8 (by decide);have p9:σ 9=_:=a 9 (by decide);have dr:σ 10=_:=a 10 (by decide);have ds:σ 11=_:=a 11 (by decide);have dt:σ 12=_:=a 12 (by decide);have dw:σ 15=_:=a 15 (by decide);obtain⟨gx, -,du, -⟩:=a 13 (by decide);obtain⟨a5,c5,dv,de,dc⟩:=a 14 (by decide);have c3:tbS [33,34,35,36,37,38,39,40,41,42,43,44,45,46,47,48] 16 σ=[(33, C (J ⟨w.heap.size+1,1,D⟩)),(34, A E L cs),(35, C (J ⟨b,0,D⟩)),(36, C (J ⟨b,0,D⟩)),(37, C (J ⟨b,0,D⟩)),(38, I O (fs:Int)),(39, I O (i:Int)),(40, I O M),(41, C (J ⟨f.heap.size,0,D⟩)),(42, I O p),(43, C (J ⟨f.heap.size,1,D⟩)),(44, I O q),(45,.agg #[I O M, I O p, I O q]),(46, A (J ⟨gx,0,D⟩) 1 1),(47, A a5 (L+1) c5),(48, C (J ⟨w.heap.size+1,1,D⟩))]:=by
        show [(33,σ 0),(34,σ 1),(35,σ 2),(36,σ 3),(37,σ 4),(38,σ 5),(39,σ 6),(40,σ 7),(41,σ 8),(42,σ 9),(43,σ 10),(44,σ 11),(45,σ 12),(46,σ 13),(47,σ 14),(48,σ 15)]=_
        grind
       rw[c3];have ce:=(HS.out.row.kept a0.out (by simp)).kept T a1.out;have cb:Kept (A E L cs).ownBlock.toList f wc:=(a0.out.Fn (by simp)).trans T;refine Aak rfl rfl (Akc wc rfl ((Fj (t:=[(33, C (J ⟨w.heap.size+1,1,D⟩)),(34, A E L cs),(35, C (J ⟨b,0,D⟩)),(36, C (J ⟨b,0,D⟩)),(37, C (J ⟨b,0,D⟩)),(38, I O (fs:Int)),(39, I O (i:Int)),(40, I O M),(41, C (J ⟨f.heap.size,0,D⟩)),(42, I O p),(43, C (J ⟨f.heap.size,1,D⟩)),(44, I O q),(45,.agg #[I O M, I O p, I O q]),(46, A (J ⟨gx,0,D⟩) 1 1),(47, A a5 (L+1) c5),(48, C (J ⟨w.heap.size+1,1,D⟩))]) 48 (show([33,34,35,36,37,38,39,40,41,42,43,44,45,46,47,48]:List Nat).Nodup by decide) (by kernel_rfl)).trans rfl) ((Fj (t:=[(33, C (J ⟨w.heap.size+1,1,D⟩)),(34, A E L cs),(35, C (J ⟨b,0,D⟩)),(36, C (J ⟨b,0,D⟩)),(37, C (J ⟨b,0,D⟩)),(38, I O (fs:Int)),(39, I O (i:Int)),(40, I O M),(41, C (J ⟨f.heap.size,0,D⟩)),(42, I O p),(43, C (J ⟨f.heap.size,1,D⟩)),(44, I O q),(45,.agg #[I O M, I O p, I O q]),(46, A (J ⟨gx,0,D⟩) 1 1),(47, A a5 (L+1) c5),(48, C (J ⟨w.heap.size+1,1,D⟩))]) 47 (show([33,34,35,36,37,38,39,40,41,42,43,44,45,46,47,48]:List Nat).Nodup by decide) (by kernel_rfl)).trans rfl) (ce.cell 1) (ce.free _)) ⟨rfl,gx,a5,c5,rfl,hid ?_,hid ?_,hid ?_⟩
       ·have h1:=HS.out.AoT (wc:=wc) (a':=a5) (c':=c5) (q:=⟨M,p,q⟩) (by rw[<-ad.out];exact cb) (by rw[<-ad.out];exact de);rw[<-ad.out]at h1;exact h1
       ·have h2:Kept S w4 wc:=GY af.out cb (fun x hx=>by
         refine aj.out x ?_;rw[<-ad.out]
         simpa using hx)
        exact h2.setCell (p:=⟨w.heap.size+1,1,D⟩) cw.out _
       ·intro x hx
        rcases dc x hx with h3 | h3
        ·exact aj.out x (by rw[<-ad.out];exact h3)
        ·right;have h4:=ak.out;have h5:=af.out.size
         omega)) ?_
     rintro e a' w5 ⟨rfl,gx,a5,c5,rfl,cv,cn,cj⟩;dsimp only[Ft,List.set,List.append_nil,List.cons_append,List.nil_append];clear ax bq bn bj ay a1 bo a2 an ak bg a0 bh
     go_wp2_with fail
     go_roundw
     case rel=>
      refine⟨j+1,c5,a5,by omega,by go_num,hid ?_,cn,hid ?_⟩
      ·rw[bu.out,<-Bg,<-ao.out];exact cv.out
      ·rw[bu.out,<-Bg,<-ao.out,Ai,<-ad.out];exact cj.out
     case measure=>simp[intOf];omega
    ·have ej:j=m:=by omega
     subst ej
     have bi:Hid (Hh fs us (i+1)=Hh fs us i++GO.take j):=hid (by
      rw[Sd,<-bk.out,Aw (by rw[ap.out];exact Ac _)])
     clear af aj
     go_wp2_with fail
     go_roundw
     case rel=>exact⟨i+1,cs,E,by omega,by go_num,hid (by rw[bi.out];exact HS.out)⟩
     case measure=>simp[intOf];omega
  ·have ei:i=k:=by omega
   subst ei;have r0:y.cell? ⟨w.heap.size+1,0,D⟩=J (I O NX):=HR.out.row.cell 0;have r1:y.cell? ⟨w.heap.size+1,1,D⟩=J (A ar (Hh fs us i).length cr):=HR.out.row.cell 1;have s0:y.cell? ⟨w.heap.size,0,D⟩=J (I O 0):=HR.out.res.cell 0;have s1:y.cell? ⟨w.heap.size,1,D⟩=J (A D 0 0):=HR.out.res.cell 1;have f0:y.frozen? ⟨w.heap.size,0,D⟩=false:=HR.out.res.free 0;have f1:y.frozen? ⟨w.heap.size,1,D⟩=false:=HR.out.res.free 1;have bm:=hid (PP (fs:=fs) a3.out i);clear bd;generalize bv:(Hh fs us i).length=LG at*;have bl:=hid bv;clear bv
   go_wp2_with fail;have hZ:At ((y.setCell ⟨w.heap.size,0,D⟩ (I O NX)).setCell ⟨w.heap.size,1,D⟩ (A ar LG cr)) w.heap.size 95 [I O NX, A ar LG cr]:=(HR.out.res.setCell (o:=0) (I O NX)).setCell (o:=1) (A ar LG cr);have a6:Kept [w.heap.size] y ((y.setCell ⟨w.heap.size,0,D⟩ (I O NX)).setCell ⟨w.heap.size,1,D⟩ (A ar LG cr)):=((Kept.refl _ y).setCell (by simp) _).setCell (by simp) _;have aa:=HR.out.own;have dd:∀x,ar=J x->w.heap.size+2<=x.block:=fun x hx=>by
    obtain⟨a',c',e, -, -,dg⟩:=Fg aa;simp only[Aq]at e;obtain⟨rfl, -,rfl⟩:=e;obtain⟨g',rfl,h5⟩:=dg x hx;exact(AB aa g' h5).1
   refine Ah (BO (p:=2) (ty:=95) (by kernel_rfl) _ _ w.heap.size 95 _ (0,0) _ rfl hZ underlying95 rfl (by kernel_rfl)) rfl ?_;rw[<-HP.out];refine⟨i,ar,LG,cr,by rw[<-HN.out];exact HK.out,cl.out,fun j h1 h2=>cm.out j h1 (by rw[HN.out];exact h2),by rw[<-ct.out],?_,bl.out,?_,fun x hx=>by have:=dd x hx;omega,?_,?_,?_⟩
   ·refine(AeH aa).kept a6 (fun x hx hm=>?_)
    grind
   ·have h1:=bm.out;have h2:i*(1500+2)<=32*1502:=by grind
    unfold maxLen;omega
   ·exact HR.out.bel.trans (a6.below HR.out.bel.size (by simp))
   ·have h1:=bm.out
    grind
   ·have h9:=FY aa a6 (fun q hq hm=>by have:=(AB aa q hq).1;simp at hm;omega);rw[bl.out]at h9;exact h9
theorem Ob{f g:Nat->List GapM}:∀{k:Nat},(∀i,i<k->f i=g i)->(List.range k).flatMap f=(List.range k).flatMap g
 | 0,_=>rfl
 | k+1,h=>by
  rw[Az,Bd,Bd,Ob (fun i hi=>h i (by omega))];simp[h k (by omega)]
def Rcv (w:World)(p:Addr)(F:List Nat)(r:InM):Prop:=∃b g c us,p=⟨b,0,D⟩/\F=Mu b g us/\PRcv w b (r.fst % 64) g c us/\RcvM r us
theorem RcvM.ok(h:RcvM r us)(j:Nat):TkOk (us.getD j .zero):=by
 rcases AS j us.length with a | a
 ·have:=h.un j a;exact⟨this.srt,this.hi,this.lh,this.dl⟩
 ·rw[AeE a];exact TkOk.zero
theorem AnL(h:Rcv w p F r):∀x∈F,x<w.heap.size:=by
 obtain⟨b,g,c,us, -,rfl,a, -⟩:=h;exact a.lt
theorem Ur{T:List Nat}(h:Rcv w p F r)(f:Kept T w w')(hd:∀x∈F,x∉T):Rcv w' p F r:=by
 obtain⟨b,g,c,us,rfl,rfl,a,e⟩:=h;exact⟨b,g,c,us,rfl,rfl,a.kept f hd,e⟩
theorem Al6(k:Int)(w:World)(j:1<=k)(m:k<=32):Calls prog 127 #[I O k] w fun e w'=>∃p F,e=.returned (.tuple #[C (J p), I O 0])/\Rcv w' p F (InM.new k.toNat)/\(∀x∈F,w.heap.size<=x)/\Below w.heap.size w w':=by
 obtain⟨n,rfl⟩:∃n:Nat,k=(n:Int):=⟨k.toNat,by omega⟩;rw[AN];refine(Rx w (by omega) (by omega)).mono ?_;rintro e w' ⟨b,g,rfl,f,c,hg,a⟩;refine⟨_,_,rfl,⟨b,g,n,_,rfl,rfl,f,RcvM.new (by omega) (by omega)⟩,fun x h=>?_,a⟩
 rcases Uq h with rfl | rfl | ⟨i,l,e⟩
 ·exact c
 ·exact hg
 ·rw[Lr,TkP.KP]at e
  cases e
theorem Afj(num:Int)(n:Nat):E9 num (n % 64)=E9 num n:=by
 unfold E9;rw[Nat.mod_mod]
theorem AjZ{B b k n:Nat}{T:TypeId}{v:Value}{xs:List Value}(h:w.ownsRow B T k v n xs)(i:b<=B):w.ownsRow b T k v n xs:=⟨h.1,h.2.imp id fun⟨g,a,cur,c,e,f⟩=>⟨g,a,cur,c,Ak i e,f⟩⟩
theorem Amw(w:World)(a:Option Addr):Txs w a []:=fun h=>absurd rfl h
def WX (w:World)(p:Addr)(F:List Nat)(r:InM)(x:PieceM):Ending->World->Prop:=fun e w'=>∃a n c,e=.returned (.tuple #[A a n c, I O (r.take x).err])/\Txs w' a (r.take x).out/\(r.take x).out.length=n/\Aen w.heap.size a/\Kept F w w'/\∃F',Rcv w' p F' (r.take x).m/\Ga w.heap.size F F'/\Qh F' a
def Qj (w:World)(p:Addr)(F:List Nat)(r:InM)(x:PieceM):Ending->World->Prop:=fun e w'=>∃a n c,e=.returned (.tuple #[A a n c, I O (r.take x).err])/\n<=32/\w'.ownsRow w.heap.size 9 1 (A a n c) n ((r.take x).out.map Value.string)/\WX w p F r x e w'
theorem RN{x:PieceM}{E:Int}(h:Rcv w p F r)(c:r.take x=⟨r,[],E⟩)(b:Below w.heap.size w w'):Qj w p F r x (.returned (.tuple #[A D 0 0, I O E])) w':=by
 unfold Qj WX;rw[c];exact⟨D,0,0,rfl,by omega,Bj _ _ _ _,D,0,0,rfl,Amw _ _,rfl,(fun y a=>by cases a),Kept.E5 b,F,Ur h (Kept.E5 (S:=[]) b) (by simp),(fun y a=>Or.inl a),(fun y a=>by cases a)⟩
theorem Ahf(x:PieceM)(h:Rcv w p F r)(S:x.data.size<=Wf):Calls prog 167 #[C (J p),x.val] w (Qj w p F r x):=by
 have h0:=h;obtain⟨b,g,c,us,rfl,rfl,Q,E⟩:=h;have L:=E.len;have am:=E.w2;have l:=E.ok;have v:E9 x.num (r.fst % 64)=E9 x.num r.fst:=Afj _ _;have i:r.fst % 64<64:=AZ _ (by omega)
 by_cases B:x.bad=true
 ·refine(P2 x Q (by omega) i l S 3 (.inl ⟨B,rfl⟩)).mono ?_;rintro e w' ⟨rfl,G⟩;exact RN h0 (by unfold InM.take;rw[Ab B]) G
 ·have m:x.bad=false:=by simpa using B
  by_cases T:r.win<=E9 x.num r.fst
  ·refine(P2 x Q (by omega) i l S 8 (.inr (.inl ⟨m,by rw[v,L];exact T,rfl⟩))).mono ?_;rintro e w' ⟨rfl,G⟩;exact RN h0 (by unfold InM.take;rw[Aa B,Ab T]) G
  ·have j:E9 x.num r.fst<us.length:=by omega
   have hT:=E.un _ j;have K:=hT.J9 (p:=x)
   by_cases W:r.J9 (r.fst+E9 x.num r.fst) x=true
   ·refine(P2 x Q (by omega) i l S 3 (.inr (.inr ⟨m,by rw[v];exact j,by rw[v,<-K];exact W,rfl⟩))).mono ?_;rintro e w' ⟨rfl,G⟩;exact RN h0 (by unfold InM.take;rw[Aa B,Aa T,Ab W]) G
   ·have P:r.J9 (r.fst+E9 x.num r.fst) x=false:=by simpa using W
    obtain⟨-, -, -,ae,H, -⟩:=O3 m;have f:=AdD x Q (by omega) i l S m (by rw[v];exact j) (by rw[v,<-K];exact P);rw[v]at f;refine f.mono ?_;rintro e w' ⟨x',w6,ha,h6,t,af,k,a,cc,rfl,kk,a',ai,q,e1,M,N,ad,hN,ak,aa,aj,ac⟩;simp only[Ending.returned.injEq,Aq]at e1;obtain⟨rfl,rfl,rfl⟩:=e1;have hM:=E.put j ha ae H P;have ah:=hM.upto q M N;have n:=hM.out q M;have ab:=hM.Ad2 q;have al:k<=us.length:=by rw[An]at q;exact q
    have ag:r.take x=⟨{r.put (r.fst+E9 x.num r.fst) x with fst:=r.fst+k},Ks ((us.set (E9 x.num r.fst) x').take k),0⟩:=by
     unfold InM.take;rw[Aa B,Aa T,Aa W];unfold InM.Ad2;rw[ah];have e2:(r.put (r.fst+E9 x.num r.fst) x).fst=r.fst:=rfl;rw[e2,CZ];rw[e2]at n;rw[n];rfl
    unfold Qj WX;rw[ag];refine⟨a,k,cc,rfl,by omega,AjZ ac t.size,a,k,cc,rfl,ad,?_,fun y o=>Ak t.size (hN y o),?_,Mu b g ((us.set (E9 x.num r.fst) x').drop k++List.replicate k .zero),⟨b,g,c,(us.set (E9 x.num r.fst) x').drop k++List.replicate k TkP.zero,rfl,rfl,?_,ab⟩,fun y o=>af y (Wr q y o),fun y o hm=>?_⟩
    ·unfold Ks
     grind
    ·refine t.trans (aa.Fn (fun y o=>?_));simp at o
     rcases o with rfl | rfl
     ·exact Adw _ _ _
     ·exact Ye _ _ _
    ·grind
    ·have h8:=h6.lt y.block (Wr q _ hm);have h9:=hN y o;omega
theorem AaP(h:Rcv w p F r):Calls prog 33 #[C (J p)] w fun e w'=>∃a n c,e=.returned (.agg #[I O r.Fx.next, A a n c])/\Gps w' a r.Fx.miss/\r.Fx.miss.length=n/\n<=maxLen/\Aen w.heap.size a/\Kept F w w'/\∃F',Rcv w' p F' r/\Ga w.heap.size F F'/\Qh F' a/\n<=100000/\w'.ownsRow w.heap.size 154 3 (A a n c) n (GS r.Fx.miss)/\Below w.heap.size w w':=by
 have L:=h;obtain⟨b,g,c,us,rfl,rfl,B,j⟩:=h;have K:=j.len;have W:=j.w2;have f:=j.ok;refine(Aa1 B (by omega) (AZ _ (by omega)) (fun i=>(f i).srt) (fun i=>(f i).hi) (fun i=>(f i).lh)).mono ?_;rintro e w' ⟨k,a,n,c',Q,o,q,rfl,M,T,S,H,E,N,P⟩;have m:=j.nxt Q o q;have t:r.Fx.miss=Hh (r.fst % 64) us k:=by
  unfold InM.Fx Hh;rw[m,CZ]
  show(List.range k).flatMap _=_;have key:∀i,i<k->r.NR (r.fst+i)=Nc (r.fst % 64) i (us.getD i .zero):=fun i hi=>by
   rw[(j.un i (by omega)).NR];unfold Nc
   grind
  exact Ob key
 have v:r.Fx.next=(((r.fst % 64+k) % 64:Nat):Int):=by
  show((r.nxt % 64:Nat):Int)=_;rw[m]
  congr 1
  omega
 have G:Kept [] w w':=Kept.E5 E;rw[t,v];refine⟨a,n,c',rfl,M,T,S,H,G.Fn (by simp),_,Ur L G (by simp),fun x y=> .inl y,fun x y l=>?_,N,AjZ P (by omega),E⟩;have h3:=B.lt _ l;have h4:=H x y;omega
end Go.Proofs.YtbjgfoiikhbonahGreatDoor
