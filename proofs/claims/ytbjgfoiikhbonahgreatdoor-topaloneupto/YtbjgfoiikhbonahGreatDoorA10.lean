import Derived.Test.YtbjgfoiikhbonahGreatDoorA09
set_option linter.unusedVariables false
set_option linter.unusedSimpArgs false
set_option maxRecDepth 100000
set_option maxHeartbeats 4000000
namespace Go.Proofs.YtbjgfoiikhbonahGreatDoor
open Go.ChangeShapes Go.WideShapes Go.ChangeAt Go.RowKit Go.Shelf Go.Proofs.Tryz
open Value renaming int->C,slice->E
open Option renaming none->D,some->H
open Go renaming World->I
open IntKind renaming i64->J
variable {Q:Exit->Act->I->Prop}{a:Act}{b:List Int}{g h i j k m n order:Nat}{o:Oper}{ops:Array Oper}{p q z:Int}{v:Value}{w w':I}{x y:Operand}{ρ:Operand->Value}
theorem PT{h:Nat}{x:Int}(e:h<=3)(l: -1000<=x/\x<=1000)(place c:Nat):∀j,0<=FB h x place c j/\FB h x place c j<=9223372036854775807
 | 0=>by simp[FB]
 | j+1=>by
  have s:=PT e l place c j;have t:=Akv e l j;rw[FB]
  grind
theorem Agq{x:Int}{place y:Nat}(c:J6 k place=y):[FB h x place 0 k,FB h x place 1 k].set y (min ([FB h x place 0 k,FB h x place 1 k].getD y 0) (sqM h x k))=[FB h x place 0 (k+1),FB h x place 1 (k+1)]:=by grind [J6,FB,sqM]
theorem Sj(h n g place:Nat)(x:Int)(w:I)(hh:h<=3)(hn:n=2 ^ h)(hp:place<h)(hx: -1000<=x/\x<=1000)(ab:ArrAt J 3 w g (Po h)):
 Calls prog 235 #[E (H ⟨g,0,D⟩) n n, C J x, C J place] w fun e w'=>e=.returned (C J (IE h x place))/\Below w.heap.size w w':=by
 have HN:=hid hn;have h8:n<=8:=by
  rw[hn];exact(show 2 ^ h<=2 ^ 3 from BC (by omega) hh)
 have ak:Enters prog 264:=enters_of func264 (by kernel_rfl) rfl;have ae:prog.follows .mixedOrders=true:=by kernel_rfl
 have HE:=hid (show IE h x place=FB h x place 1 n-FB h x place 0 n by rw[hn];rfl);have am:=ab.lt;have T:=Ql J 397 w [9223372036854775807,9223372036854775807];have ac:Below w.heap.size w (w.alloc (.cells (([9223372036854775807,9223372036854775807]:List Int).map (Value.int J)).toArray 397)):=(Ad _ w).alloc (Ac _) _;clear hn;go_enter func235,ntmps235;go_wp2
 go_loopw [14] (fun q wr=>∃k:Nat,k<=n/\q= C J k/\ArrAt J 397 wr w.heap.size [FB h x place 0 k,FB h x place 1 k]/\Below w.heap.size w wr) (fun q _=>n-(intOf q).toNat)
 case atStart=>exact⟨0,Af _,rfl,T,ac⟩
 case round=>
  clear T ac;obtain⟨k,hk,rfl,s,t⟩:=hrel
  by_cases an:k<n
  ·have R:=ab.below t am;have c1:=Ac4 R (j:=k) (by rw[<-HN.out];exact an);have b1:=XP k h hh;have hA:=Aer k place (by omega);have hb:=LS k place;have l:=hid (Agq (h:=h) (x:=x) (place:=place) (k:=k) (y:=J6 k place) rfl);have U:=hid (show sqM h x k=(x-Gr k h)*(x-Gr k h)from rfl);obtain⟨y, ey⟩ := E7 (J6 k place);rw[<-ey]at hA hb l;have aa:y<2:=by omega
   have P:=s.cell (j:=y) (by simpa using aa);have ad:=s.free y;obtain⟨L, eL⟩ := E7 ([FB h x place 0 k,FB h x place 1 k]);rw[<-eL]at s P l;obtain⟨z, ez⟩ := E7 (L.getD y 0);rw[<-ez]at P l;obtain⟨v, ev⟩ := E7 (Gr k h);rw[<-ev]at c1 b1 U;have ah:IntKind.i64.wrap (x-v)=x-v:=by rw[AO];omega
   have af:=fun w=>AdR (x-v) w (by omega)
   rw[U.out]at l;clear ey eL ez ev R hb;go_upto_region 6 with fail
   refine Bi (Ow (Q:=fun e a' w'=>e=.normal/\a'=_/\∃w1,Below wr.heap.size wr w1/\w'=w1.setCell ⟨w.heap.size,y,D⟩ (C J (min z ((x-v)*(x-v))))) 11 10 9 [(23, C J y),(24, C J y),(25,.pointer (H ⟨w.heap.size,y,D⟩)),(26, C J z),(27, C J x),(28, C J v),(29, C J (x-v)),(30, C J ((x-v)*(x-v))),(31, C J (min z ((x-v)*(x-v))))] 32 []
    [[10],[10],[7,24],[25],[1],[9],[27,28],[29],[26,30],[7,23]] [9,2,3,8,6,6,7,8,10,10] (fun u _=>u=.pointer (H ⟨w.heap.size,y,D⟩)) wr ae rfl (by decide) rfl rfl (show([23,24,25,26,27,28,29,30,31,32]:List Nat).Nodup by decide) (by kernel_rfl) (by kernel_rfl) (by kernel_rfl) (by kernel_rfl) (by kernel_rfl) (by kernel_rfl) (fun _ _ _ h _=>h)
    (fun G aq x0 a wc F B Q K aj N=>by
     have ai:G=0\/G=1\/G=2\/G=3\/G=4\/G=5\/G=6\/G=7\/G=8\/G=9:=by omega
     have c:=Nf wc;have qz:=(F.cell (Aj wr _ P)).trans P
     rcases ai with rfl | rfl | rfl | rfl | rfl | rfl | rfl | rfl | rfl | rfl
     ·exact E6 rfl rfl (Fd wc rfl (B 10 (by decide))) (N (by decide) wc c)
     ·exact E6 rfl rfl (Fd wc rfl (B 10 (by decide))) (N (by decide) wc c)
     ·exact E6 rfl rfl (Abd wc rfl (B 7 (by decide)) (B 24 (by decide)) aa) (N (by decide) wc c)
     ·exact E6 rfl rfl (F5 wc rfl (B 25 (by decide)) qz) (N (by decide) wc c)
     ·exact E6 rfl rfl (Fd wc rfl (B 1 (by decide))) (N (by decide) wc c)
     ·exact E6 rfl rfl (Fd wc rfl (B 9 (by decide))) (N (by decide) wc c)
     ·exact E6 rfl rfl (Akd wc rfl (B 27 (by decide)) (B 28 (by decide)) ah) (N (by decide) wc c)
     ·refine Oo rfl rfl rfl ak (by simp only[Ca,Be,BE];rw[B 29 (by decide)];rfl) (af wc) fun e w' ao=>?_
      obtain⟨rfl,rfl⟩:=ao;exact⟨_,rfl,N (by decide) wc c⟩
     ·exact E6 rfl rfl (Aka wc rfl (B 26 (by decide)) (B 30 (by decide))) (N (by decide) wc c)
     ·exact E6 rfl rfl (Abd wc rfl (B 7 (by decide)) (B 23 (by decide)) aa) (aj rfl _ wc c rfl))
    (fun x0 wc F ap=>by
     subst ap;have qz:=(F.cell (Aj wr _ P)).trans P;have qf:=(F.frozen (p:=⟨w.heap.size,y,D⟩) (Aj wr _ P)).trans ad
     exact Aal rfl rfl (UG wc rfl rfl rfl qz qf) ⟨rfl,rfl,wc,F,rfl⟩)) ?_
   rintro e a' w' ⟨rfl,rfl,w1,W,rfl⟩;have S:=s.below W s.lt;have ag:=S.set y (min z ((x-v)*(x-v)));rw[l.out]at ag;have al:=(t.trans (W.mono t.size)).setCell (p:=⟨w.heap.size,y,D⟩) (Ac _) (C J (min z ((x-v)*(x-v))));generalize w1.setCell ⟨w.heap.size,y,D⟩ (C J (min z ((x-v)*(x-v))))=w2 at*;clear l U S W s P ad c1 t af ah;generalize min z ((x-v)*(x-v))=mm at*;dsimp only[Ft,List.set,List.append_nil,List.cons_append,List.nil_append];go_wp2
   go_roundw
   case rel=>grind
   case measure=>simp[intOf];omega
  ·obtain rfl:k=n:=by omega
   have d0:=PT hh hx place 0 k;have d1:=PT hh hx place 1 k;have c0:=s.cell (j:=0) (by simp);have c1:=s.cell (j:=1) (by simp);simp only[List.getD_cons_zero,D3]at c0 c1;generalize FB h x place 0 k=p0 at*;generalize FB h x place 1 k=p1 at*;clear s;go_wp2;go_ret;exact⟨Fs HE.out.symm,t⟩
theorem AaU{P:Program}{id:Nat}{t:List Value}(n k u:Nat)(pre:List (Nat×Value))(l:Nat)(c:List (Nat×Value))(reads:List (List Nat))(F:List Nat)(U:Value->I->Prop)(wr:I)(o2:Oper)(G d2:Nat)(v:Value)(R:I->Prop)(hm:P.follows .mixedOrders=true)(hn:ops.size=n)(ak:n=k+2)
 (hu:pre.length=u) (ae:pre.length+1+c.length=k) (ah:((pre++(l,undef)::c).map (·.1)).Nodup) (ad:((pre++(l,undef)::c).all fun q=>decide (q.1<t.length))=true)
 (B:((List.range k).all fun i=>(reads.getD i []).all fun s=>(List.range k).all fun j=>(((pre++(l,undef)::c).getD j (0,undef)).1 !=s) || Ff ops i j)=true) (W:((List.range n).all fun i=>Gt ops i)=true)
 (aj:((List.range k).all fun i=>(reads.getD i []).all fun s=>decide (s<t.length))=true)
 (ab:((List.range k).all fun j=>decide (j<F.getD j 0) && (decide (F.getD j 0<=k) && Ff ops (F.getD j 0) j))=true) (T:((List.range n).all fun i=>decide (i<=k) || Ff ops i (i-1))=true)
 (hU:∀x w w',U x w->w.grownBy w' D->U x w')
 (ai:ops[k+1]?=H o2) (ag:o2.guard=D) (aa:o2.op=.assign (.tmp G)) (L:o2.dst=H d2) (ac:G<t.length)
 (S:∀i,i<k->∀(x:Value) (a:Act) (w:I),Below wr.heap.size wr w->(∀s∈reads.getD i [],a.eval (.tmp s)=lkp t (pre++(l,x)::c) s)->∀(Q:Exit->Act->I->Prop) (K:Act->I->Prop),(i=u->∀x' w',w.grownBy w' D->U x' w'->K (a.put (H l) x') w')->(i≠u->∀w',w.grownBy w' D->K (a.put (H ((pre++(l,undef)::c).getD i (0,undef)).1) ((pre++(l,undef)::c).getD i (0,undef)).2) w')->wpOp P ops Q i K a w)
 (N:∀x w,Below wr.heap.size wr w->U x w->∀(Q:Exit->Act->I->Prop) (K:Act->I->Prop),(∀w',R w'->K (({tmps:=(Ft t (pre++(l,x)::c)).toArray,defers:=[]}:Act).put (H G) v) w')->wpOp P ops Q k K {tmps:=(Ft t (pre++(l,x)::c)).toArray,defers:=[]} w):
 (Code.region id ops true).wp P (fun e a' w'=>e=.normal/\(∃x,a'={tmps:=(((Ft t (pre++(l,x)::c)).set G v).set d2 v).toArray,defers:=[]})/\R w') {tmps:=t.toArray,defers:=[]} wr:=by
 refine Ow n k u pre l c reads F U wr hm hn (by omega) hu ae ah ad B W aj ab T hU S (fun x w hb hu=>?_);rw[show n-k=2 by omega]
 show wpOp P ops _ k (fun a' w'=>wpOp P ops _ (k+1) _ a' w') _ w;refine N x w hb hu _ _ fun w' hR=>?_
 rw[G4];have af:({tmps:=((Ft t (pre++(l,x)::c)).set G v).toArray,defers:=[]}:Act).eval (.tmp G)=v:=by
  have hl:=Jh (pre++(l,x)::c) t;have:G<(Ft t (pre++(l,x)::c)).length:=by rw[hl];exact ac
  simp[Act.eval,this]
 refine E6 ai ag (Aa3 w' aa af) ⟨rfl,⟨x,?_⟩,hR⟩;rw[L,G4]
def G7 (b:List Int)(order j:Nat):List Int:=(b.drop (j*order)).take order
theorem Mm(c:b.length=m*order)(e:j<m):(G7 b order j).length=order:=by
 unfold G7;rw[Ay,AJ,c];have:(j+1)*order<=m*order:=BM _ (by omega);rw[CD]at this;omega
theorem AfI(c:k<order):(G7 b order j).getD k 0=b.getD (j*order+k) 0:=by
 unfold G7;simp[List.getD,c]
theorem AfJ{o:Nat}(G:Rd .u8 w (H ⟨g,o,D⟩) b)(s:b.length=m*order)(B:j<m):Rd .u8 w (H ⟨g,o+j*order,D⟩) (G7 b order j):=by
 intro F;refine⟨g,o+j*order,rfl,fun t ht=>?_⟩;have L:=Mm s B;have l:(j+1)*order<=m*order:=BM _ (by omega);rw[CD]at l;have c:j*order+t<b.length:=by omega
 obtain⟨K,N,e,u⟩:=G.at c;simp only[Bl,BI,BJ]at e;obtain⟨rfl,rfl⟩:=e;have:=u (j*order+t) c;rw[<-BZ]at this;rw[this,AfI (by omega)]
def ptA (h:Nat)(c:List Int):Int×Int:=(Gr (Jv c 0 h) h,Gr (Jv c 1 h) h)
def Py (h:Nat)(b:List Int)(order n i:Nat):List (Int×Int):=(List.range i).map (fun j=>ptA h (G7 b order j))++List.replicate (n-i) (0,0)
theorem Ahv(hi:i<n):(Py h b order n i).set i (ptA h (G7 b order i))=Py h b order n (i+1):=by
 unfold Py;rw[Cq _ _ (by simp),Bo,C1,Bm,Az,AR,Bg,show n-i=n-(i+1)+1 by omega,Dy];rfl
theorem QY(hi:i<=n):(Py h b order n i).length=n:=by simp[Py];omega
theorem Aj7(w:I){c:Nat}(s:o.op=.indexAddr 288 x y)(h:ρ x= E (H ⟨g,0,D⟩) n c)(e:ρ y= C J j)(l:j<n):(execOp ρ o).run prog w=.ok (.value (.pointer (H ⟨g,j*2,D⟩))) w:=by
 unfold execOp;simp only[s,h,e];simp[go_sem,underlying288,l]
theorem AdE(w:I)(e:o.op=.build 335 #[(0,x),(1,y)])(h:ρ x= C J p)(c:ρ y= C J q):(execOp ρ o).run prog w=.ok (.value (.agg #[C J p, C J q])) w:=by
 unfold execOp;simp only[e];simp[go_sem,h,c]
theorem Aht(b:List Int)(h o n:Nat)(a:Option Addr)(c:Nat)(w:I)(F:Rd .u8 w a b)(L:b.length<=c)(a8:c<=maxLen)(hE:F6 b=0)(h1:1<=h)(hh:h<=3)(ho:o=2*h)(hl:b.length=n*o)(hn:n<=4096)(aw:∀x∈b,x=0\/x=1):
 Calls prog 193 #[E a b.length c, C J o] w fun e w'=>∃g,e=.returned (.tuple #[E (H ⟨g,0,D⟩) n n, C J 0])/\PArr w' g (Py h b o n n)/\w.heap.size<=g/\Below w.heap.size w w':=by
 have U:=IP b a c w F (Ak L a8);rw[hE]at U;have ae:=AeU o w;rw[show Nm o=0 by unfold Nm PW;rw[Ag (by omega)];rfl]at ae;have ad:=TU h (2 ^ h) w h1 hh rfl;obtain⟨N8, eN⟩ := E7 (2 ^ h);rw[<-eN]at ad;have af:=hid eN;have HL:=hid hl;have HO:=hid ho;have bf:(o:Int).tdiv 2=h:=by grind
 have ba:(o:Int) / 2=h:=by rw[ho];omega
 obtain⟨T, eT⟩ := E7 b.length;have bc:T<=24576:=by
  rw[eT,hl];have:n*o<=4096*6:=DW hn (by omega);omega
 have bg:((T:Int)).tdiv (o:Int)=n:=by rw[eT,hl,Int.tdiv_eq_ediv_of_nonneg (by omega)];rw[CE,Int.mul_ediv_cancel _ (by omega)]
 have bb:((T:Int)) / (o:Int)=n:=by grind
 have bh:((T:Int)).tmod (o:Int)=0:=by rw[eT,hl,C8 (by omega),CE,Int.mul_emod_left]
 rw[<-eT]at U L;rw[<-eT];have HT:=hid eT;have ap:Enters prog 233:=enters_of func233 (by kernel_rfl) rfl;have az:prog.follows .mixedOrders=true:=by kernel_rfl
 clear eT hl ho eN;go_enter func193,ntmps193
 go_wp2_with(first
  | (go_at_call 225;refine U.mono ?_;rintro e w1 ⟨rfl,rfl⟩)
  | (go_at_call 231;refine ae.mono ?_;rintro e w1 ⟨rfl,rfl⟩)
  | (go_at_call 232;refine ad.mono ?_;rintro e w1 ⟨gL,rfl,ac,bd,P⟩)
  | (refine U4 n rfl _ _ rfl _ _ rfl rfl rfl rfl (by omega) ?_;intro w2 aq ah))
 obtain⟨G, eG⟩ := E7 w1.heap.size;rw[<-eG]at aq ah;rw[<-eG];have ag:w.heap.size<=G:=by rw[eG];exact P.size
 have ax:gL<G:=by rw[eG];exact ac.lt
 have am:=ac.below ah ax;have S:Below w.heap.size w w2:=P.trans (ah.mono ag);clear eG U ae ad ac ah P
 go_loopw [37] (fun q wr=>∃i:Nat,i<=n/\q= C J i/\PArr wr G (Py h b o n i)/\Kept [G] w2 wr) (fun q _=>n-(intOf q).toNat)
 case atStart=>exact⟨0,Af _,rfl,by simpa [Py]using aq,Kept.refl _ _⟩
 case round=>
  obtain⟨i,hi,rfl,hP,t⟩:=hrel
  by_cases aa:i<n
  ·have h3:(i+1)*o<=n*o:=BM _ (by omega);rw[CD,Nat.one_mul,<-HL.out,<-HT.out]at h3;obtain⟨s, es⟩ := E7 (i*o);rw[<-es]at h3;have bi:(i:Int)*(o:Int)=(s:Int):=by rw[es,CE]
   have bj:((i:Int)+1)*(o:Int)=((s+o:Nat):Int):=by grind
   have ai:Below w.heap.size w wr:=S.trans (t.below (B:=w.heap.size) S.size (by simpa using ag));obtain⟨b1,o1,rfl, -⟩:=F.at (i:=0) (by rw[<-HT.out];omega);have aj:=AfJ (F.below ai) HL.out aa;rw[<-es]at aj;have ay:=Mm HL.out aa;have R:∀j,(G7 b o i).getD j 0=0\/(G7 b o i).getD j 0=1:=fun j=>by
    by_cases hj:j<(G7 b o i).length
    ·rw[ZC _ _ hj];exact aw _ (BQ (Cr (A4 hj)))
    grind
   clear es;go_upto_region 15 with fail
   have al:s+o-s=o:=by omega
   have a0:=fun w F=>Uc (G7 b o i) 0 h o (H ⟨b1,o1+s,D⟩) (c-s) w F ay HO.out hh (by omega) R
   have a1:=fun w F=>Uc (G7 b o i) 1 h o (H ⟨b1,o1+s,D⟩) (c-s) w F ay HO.out hh (by omega) R
   have au:Jv (G7 b o i) 0 h<N8:=by rw[af.out];exact X3 R 0 h
   have av:Jv (G7 b o i) 1 h<N8:=by rw[af.out];exact X3 R 1 h
   have N:=am.kept t (by simp;omega);have c0:=Ac4 N (j:=Jv (G7 b o i) 0 h) (by rw[<-af.out];exact au);have c1:=Ac4 N (j:=Jv (G7 b o i) 1 h) (by rw[<-af.out];exact av);have ab:=hid (Ahv (h:=h) (b:=b) (order:=o) aa);have ak:=hid (QY (h:=h) (b:=b) (order:=o) hi);have ao:=hid (show ptA h (G7 b o i)=(Gr (Jv (G7 b o i) 0 h) h,Gr (Jv (G7 b o i) 1 h) h)from rfl);rw[ao.out]at ab;generalize Jv (G7 b o i) 0 h=x0 at*;generalize Jv (G7 b o i) 1 h=x1 at*;generalize Gr x0 h=y0 at*;generalize Gr x1 h=y1 at*
   refine Bi (Ow (Q:=fun e a' w'=>e=.normal/\a'=_/\∃w1,Below wr.heap.size wr w1/\w'=w1.setCells G (i*2) [C J y0, C J y1]) 15 14 13 [(49, E (H ⟨G,0,D⟩) n n),(50, C J i),(51, E (H ⟨gL,0,D⟩) N8 N8),(52, E (H ⟨b1,o1+s,D⟩) o (c-s)),(53, C J x0),(54,.pointer (H ⟨gL,0+x0,D⟩)),(55, C J y0),(56, E (H ⟨gL,0,D⟩) N8 N8),(57, E (H ⟨b1,o1+s,D⟩) o (c-s)),(58, C J x1),(59,.pointer (H ⟨gL,0+x1,D⟩)),(60, C J y1),(61,.agg #[C J y0, C J y1])] 62 []
    [[9],[10],[8],[11],[52],[51,53],[54],[8],[11],[57],[56,58],[59],[55,60],[49,50]] [13,13,5,4,5,6,12,10,9,10,11,12,14,14] (fun u _=>u=.pointer (H ⟨G,i*2,D⟩)) wr az rfl (by decide) rfl rfl (show([49,50,51,52,53,54,55,56,57,58,59,60,61,62]:List Nat).Nodup by decide) (by kernel_rfl) (by kernel_rfl) (by kernel_rfl) (by kernel_rfl) (by kernel_rfl) (by kernel_rfl) (fun _ _ _ h _=>h)
    (fun W be u0 a wc L F Q K a7 hK=>by
     have a6:W=0\/W=1\/W=2\/W=3\/W=4\/W=5\/W=6\/W=7\/W=8\/W=9\/W=10\/W=11\/W=12\/W=13:=by omega
     have l:=Nf wc;have q0:=(L.cell (Aj wr _ c0)).trans c0;have q1:=(L.cell (Aj wr _ c1)).trans c1
     rcases a6 with rfl | rfl | rfl | rfl | rfl | rfl | rfl | rfl | rfl | rfl | rfl | rfl | rfl | rfl
     ·exact E6 rfl rfl (Fd wc rfl (F 9 (by decide))) (hK (by decide) wc l)
     ·exact E6 rfl rfl (Fd wc rfl (F 10 (by decide))) (hK (by decide) wc l)
     ·exact E6 rfl rfl (Fd wc rfl (F 8 (by decide))) (hK (by decide) wc l)
     ·exact E6 rfl rfl (Fd wc rfl ((F 11 (by decide)).trans (congrArg (fun z=>E (H ⟨b1,o1+s,D⟩) z (c-s)) al))) (hK (by decide) wc l)
     ·refine Oo rfl rfl rfl ap (by simp only[Ca,Be,BE];rw[F 52 (by decide)];rfl) (a0 wc (aj.below L)) fun e w' a3=>?_
      grind
     ·exact E6 rfl rfl (OB wc rfl (F 51 (by decide)) (F 53 (by decide)) au) (hK (by decide) wc l)
     ·exact E6 rfl rfl (F5 wc rfl (F 54 (by decide)) (by rw[Ao];exact q0)) (hK (by decide) wc l)
     ·exact E6 rfl rfl (Fd wc rfl (F 8 (by decide))) (hK (by decide) wc l)
     ·exact E6 rfl rfl (Fd wc rfl ((F 11 (by decide)).trans (congrArg (fun z=>E (H ⟨b1,o1+s,D⟩) z (c-s)) al))) (hK (by decide) wc l)
     ·refine Oo rfl rfl rfl ap (by simp only[Ca,Be,BE];rw[F 57 (by decide)];rfl) (a1 wc (aj.below L)) fun e w' a3=>?_
      obtain⟨rfl,rfl⟩:=a3;exact⟨_,rfl,hK (by decide) wc l⟩
     ·exact E6 rfl rfl (OB wc rfl (F 56 (by decide)) (F 58 (by decide)) av) (hK (by decide) wc l)
     ·exact E6 rfl rfl (F5 wc rfl (F 59 (by decide)) (by rw[Ao];exact q1)) (hK (by decide) wc l)
     ·exact E6 rfl rfl (AdE wc rfl (F 55 (by decide)) (F 60 (by decide))) (hK (by decide) wc l)
     ·exact E6 rfl rfl (Aj7 wc rfl (F 49 (by decide)) (F 50 (by decide)) aa) (a7 rfl _ wc l rfl))
    (fun u0 wc L a9=>by
     subst a9;have a2:([49,50,51,52,53,54,55,56,57,58,59,60,61,62]:List Nat).Nodup:=by decide
     exact Aal rfl rfl (AdI (g:=G) (i:=i) (p:=(y0,y1)) wc rfl (Fj 62 a2 (by kernel_rfl)) (Fj 61 a2 (by kernel_rfl)) (hP.below L hP.lt) (by rw[ak.out];exact aa)) ⟨rfl,rfl,wc,L,rfl⟩)) ?_
   rintro e a' w' ⟨rfl,rfl,w3,an,rfl⟩;have ar:=hP.below an hP.lt;have a4:=ar.set (i:=i) (by rw[ak.out];exact aa) (y0,y1);rw[ab.out]at a4;have a5:Kept [G] w2 (w3.setCells G (i*2) [C J y0, C J y1]):=((t.trans (Kept.E5 an)).setCell (p:=⟨G,i*2,D⟩) (by simp) _).setCell (p:=⟨G,i*2+1,D⟩) (by simp) _;generalize w3.setCells G (i*2) [C J y0, C J y1]=w4 at*;clear ab ar hP an c0 c1 a0 a1 aj N ai t ao;dsimp only[Ft,List.set,List.append_nil,List.cons_append,List.nil_append];go_wp2
   go_roundw
   case rel=>grind
   case measure=>simp[intOf];omega
  ·obtain rfl:i=n:=by omega
   have ai:Below w.heap.size w wr:=S.trans (t.below (B:=w.heap.size) S.size (by simpa using ag));clear t;go_wp2
   go_ret2;exact⟨G,rfl,hP,ag,ai⟩
theorem AcH(h:Below w.heap.size w w'):w.grownBy w' D:=⟨h.os,h.tape,h.output,h.size,fun k c _=>h.block k c⟩
theorem Qm(h:w.grownBy w' D):Below w.heap.size w w':=(Ad _ w).grown h (Ac _) (fun g e=>by cases e)
theorem Kept.AmI{S:List Nat}{a b:I}(h:Kept S a b){p:Addr}(c:a.cell? p=H v)(l:p.block∉S):b.cell? p=H v:=by
 have e:=h.block p.block (Aj a _ c) l;rw[<-c];unfold World.cell?;rw[e]
theorem AcV(h:w.grownBy w' (H g)):Kept [g] w w':=⟨h.os,h.tape,h.output,h.size,fun k c l=>h.block k c (fun e=>l (by grind))⟩
def Jg (F:Int->Nat->Int)(h:Nat)(ps:List (Int×Int))(k:Nat):List Int:=(ps.take k).flatMap fun p=>KC (F p.1) (F p.2) h h
theorem Vj{F:Int->Nat->Int}{ps:List (Int×Int)}(c:k<ps.length):Jg F h ps (k+1)=Jg F h ps k++KC (F (ps.getD k (0,0)).1) (F (ps.getD k (0,0)).2) h h:=by
 unfold Jg;rw[Bu c,Bd];simp[List.getD,c]
def Two (k:IntKind)(y z:Int)(x:Value)(w:I):Prop:=∃g,x= E (H ⟨g,0,D⟩) 2 2/\w.cell? ⟨g,0,D⟩=H (.int k y)/\w.cell? ⟨g,1,D⟩=H (.int k z)
theorem Two.grow{k:IntKind}{y:Int}{x:Value}(h:Two k y z x w)(hg:w.grownBy w' D):Two k y z x w':=by
 obtain⟨g,e,c,l⟩:=h;have s:=Qm hg;exact⟨g,e,(s.cell (Aj w _ c)).trans c,(s.cell (Aj w _ l)).trans l⟩
theorem Amv(k:IntKind)(y z:Int)(w:I)(T:TypeId):Two k y z (E (H ⟨w.heap.size,0,D⟩) 2 2) (w.alloc (.cells #[.int k y,.int k z] T)):=by
 refine⟨w.heap.size,rfl,?_,?_⟩<;>rw[Al _ _ _ _ _ _ (Am w _)]<;>rfl
theorem ZF(w:I)(b:Obj):w.grownBy (w.alloc b) D:=AcH ((Ad _ w).alloc (Ac _) b)
theorem Aa5(w:I)(e:o.op=.buildSlice 74 2 #[(0,x),(1,y)])(h:ρ x= C J p)(c:ρ y= C J q):(execOp ρ o).run prog w=.ok (.value (E (H ⟨w.heap.size,0,D⟩) 2 2)) (w.alloc (.cells #[C J p, C J q] 3)):=by
 unfold execOp;simp only[e];simp[go_sem,h,c]
theorem AjD{W:I}{K:Act->I->Prop}{L:List Int}{c:Nat}{y:Int}(hi:ops[i]?=H o)(hg:o.guard=D){s:Operand}
 (R:o.op=.call {callee:=.builtin .append,args:=#[s,x],argTypes:=#[74,74]}) (hs:a.eval s= E (H ⟨g,0,D⟩) m c) (hx:a.eval x=v) (hown:OwnI W g (E (H ⟨g,0,D⟩) m c) L) (hv:Two J y z v W) (hcap:m+2<=c)
 (h:∀w',OwnI w' g (E (H ⟨g,0,D⟩) (m+2) c) (L++[y,z])->W.grownBy w' (H g)->K (a.put o.dst (E (H ⟨g,0,D⟩) (m+2) c)) w'):wpOp prog ops Q i K a W:=by
 have N:=hown.len;subst N;obtain⟨F,rfl,c0,c1⟩:=hv;obtain⟨i0,t,T,B,U⟩:=As Tryz.Wa
 obtain⟨w',l,r1,r2⟩:=run_append_fits (P:=prog) W g 74 o.type 3 i0 1 underlying74 t B g L.length c _ hown ⟨F,0,D⟩ 2 2 [C J y, C J z] rfl (fun j u e=>by
  match j,e with
  | 0,e=>simp at e;subst e;simpa [Addr.add]using c0
  | 1,e=>simp at e;subst e;simpa [Addr.add]using c1) (by simp;exact⟨rfl,rfl⟩) hcap
 have G:OwnI w' g (E (H ⟨g,0,D⟩) (L.length+2) c) (L++[y,z]):=by
  unfold OwnI
  grind
 unfold wpOp;rw[hi];have S:Region.wanted o (yielded ops a.tmps)=true:=by simp[Region.wanted,hg]
 simp only[S,AP,Oper.wp]
 left;simp[execOp,R,resolve,invoke,builtin,hs,hx,l,Result.andThen];exact h w' G r2
theorem ST{e:List Oper}(N:Nat)(s:o.guard=D)(l c:Operand)
 (P:o.op=Op.makeSlice 74 l c) (y:Int) (L:a.eval l= C J 0) (K:a.eval c= C J y) (R:y=(N:Int)) (T:N<=1000000)
 (h:∀w',OwnI w' w.heap.size (E (H ⟨w.heap.size,0,D⟩) 0 N) []->Below w.heap.size w w'->wpList prog ops Q e (a.put o.dst (E (H ⟨w.heap.size,0,D⟩) 0 N)) w'):
 wpList prog ops Q (o::e) a w:=by
 obtain⟨S,hi,t,u,B⟩:=As Tryz.Wa;exact D4 w s l c 74 P w.heap.size 3 S (C J 0) 1 underlying74 hi t u J J y N L K R (by rw[B];omega) (by unfold maxLen;omega) (Ac _) fun w' F G=>h w' F (Qm G)
def Qr (ps:List (Int×Int))(order:Int):Int:=if IR ps order then 0 else 1
theorem Acg(ps:List (Int×Int))(order:Int)(a:Option Addr)(c:Nat)(w:I)(ha:Pts w a ps)(hz:ps.length<=8796093022208):
 Calls prog 234 #[E a ps.length c, C J order] w fun e w'=>e=.returned (C J (Qr ps order))/\Below w.heap.size w w':=by
 have l:=AeU order w
 by_cases R:order=2\/order=4\/order=6
 ·have t:PW order=true:=Ag R;rw[show Nm order=0 by unfold Nm;rw[t];rfl]at l;obtain⟨m,hm⟩:∃m:Nat,(m:Int)=(4096:Int).tdiv order/\(ps.length<=m↔(ps.length:Int)*order<=4096)/\m<=2048:=by
   rcases R with rfl | rfl | rfl
   ·exact⟨2048,rfl,by omega,by omega⟩
   ·exact⟨1024,rfl,by omega,by omega⟩
   ·exact⟨682,rfl,by omega,by omega⟩
  obtain⟨K,ad,al⟩:=hm;have aj:(4096:Int) / order=m:=by grind
  have ak:order≠0:=by omega
  by_cases h4:ps.length<=m
  ·have P:Hid (∀b,ps.all Kn=b->(if b then 0 else 1)=Qr ps order):=fun b hb=>by unfold Qr IR;grind
   obtain⟨n, N⟩ := E7 ps.length;rw[<-N]at h4;rw[<-N];have HN:=hid N;have HH:=hid (fun k (hk:k<ps.length)=>AlQ hk);clear N hz t R ad;have ac:=K.symm;have af:=hid (show decide (m<n)=false from Ae (by omega));clear K;go_enter func234,ntmps234
   go_wp2_with(go_at_call 231;refine l.mono ?_;rintro e w1 ⟨rfl,rfl⟩)
   go_loopw [20] (fun i wr=>∃k:Nat,k<=n/\i= C J k/\Hid (Am0 ps k)/\Below w.heap.size w wr) (fun i _=>n-(intOf i).toNat)
   case atStart=>exact⟨0,Af _,rfl,fun j hj=>by omega,Ad _ _⟩
   case round=>
    clear l;obtain⟨k,hk,rfl,ab,B⟩:=hrel
    by_cases ah:k<n
    ·have F:k<ps.length:=by have:=HN.out;omega
     obtain⟨b1,o1,rfl,aa⟩:=(ha.below B).at F;obtain⟨g1,ag⟩:=aa k F;have L:=hid (show Kn (ps.getD k (0,0))=decide ((-1000<=(ps.getD k (0,0)).1/\(ps.getD k (0,0)).1<=1000)/\ -1000<=(ps.getD k (0,0)).2/\(ps.getD k (0,0)).2<=1000)from rfl);have T:=hid (HH.out k F);obtain⟨x, e1⟩ := E7 ((ps.getD k (0,0)).1);obtain⟨y, e2⟩ := E7 ((ps.getD k (0,0)).2);rw[<-e1]at g1 L;rw[<-e2]at ag L;clear aa e1 e2 F;have W:=fun w=>AeB x w
     have f2:=fun w=>AeB y w
     have s:=B.alloc B.size (.cells #[C J x, C J y] 335)
     cases u:AfX x with
     | true=>
      have S:=hid (P.out false (T.out (by rw[L.out];have:=AQ u;exact Ae (by omega))));simp only[u]at W;clear u L T
      go_wp2_with(go_at_call 263;refine(W _).mono ?_;rintro e w1 ⟨rfl,rfl⟩);go_ret;exact⟨Fs S.out,s⟩
     | false=>
      simp only[u]at W;have ae:=EF u
      cases G:AfX y with
      | true=>
       have S:=hid (P.out false (T.out (by rw[L.out];have:=AQ G;exact Ae (by omega))));simp only[G]at f2;clear u G L T ae
       go_wp2_with(go_at_call 263;first | (refine(W _).mono ?_;rintro e w1 ⟨rfl,rfl⟩) | (refine(f2 _).mono ?_;rintro e w1 ⟨rfl,rfl⟩));go_ret;exact⟨Fs S.out,s⟩
      | false=>
       simp only[G]at f2;have ai:=EF G;have HI:Hid (Am0 ps (k+1)):=fun j hj=>by
        by_cases e:j=k
        ·subst e;rw[L.out];exact Ag (by omega)
        ·exact ab.out j (by omega)
       have U:=hid ah;clear u G L T ae ai
       go_wp2_with(go_at_call 263;first | (refine(W _).mono ?_;rintro e w1 ⟨rfl,rfl⟩) | (refine(f2 _).mono ?_;rintro e w1 ⟨rfl,rfl⟩))
       go_roundw
       case rel=>
        have:=U.out
        first | exact⟨k+1,by omega,by go_num,HI,s⟩ | ((repeat apply Exists.intro);exact⟨⟨k+1,by omega,by go_num,HI,s⟩,by rw[af.out];rfl⟩)
       case measure=>
        have:=U.out;simp[intOf];omega
    ·have S:=hid (P.out true (Aih (k:=k) (by have:=HN.out;omega) ab.out));go_wp2;go_ret;exact⟨Fs S.out,B⟩
  ·have P:=hid (show 1=Qr ps order by unfold Qr IR;grind);obtain⟨n, N⟩ := E7 ps.length;rw[<-N]at h4 hz;rw[<-N];clear N t R ad;have ac:=K.symm;clear K;go_enter func234,ntmps234
   go_wp2_with(go_at_call 231;refine l.mono ?_;rintro e w1 ⟨rfl,rfl⟩);go_ret;exact⟨Fs P.out,Ad _ _⟩
 ·have t:PW order=false:=Ae R;rw[show Nm order=1 by unfold Nm;rw[t];rfl]at l;have P:=hid (show 1=Qr ps order by unfold Qr IR;rw[t];rfl);clear R t;go_enter func234,ntmps234
  go_wp2_with(go_at_call 231;refine l.mono ?_;rintro e w1 ⟨rfl,rfl⟩);go_ret;exact⟨Fs P.out,Ad _ _⟩
theorem Age(ps:List (Int×Int))(h o n N:Nat)(a:Option Addr)(c:Nat)(w:I)(hp:Pts w a ps)(h1:1<=h)(hh:h<=3)(ho:o=2*h)(hn:ps.length=n)(hN:N=n*o)(bt:N<=4096)(au:IR ps o=true):
 Calls prog 198 #[E a n c, C J o] w fun e w'=>∃g,e=.returned (.tuple #[E (H ⟨g,0,D⟩) N N, C J 0])/\OwnI w' w.heap.size (E (H ⟨g,0,D⟩) N N) (Jg (IE h) h ps n)/\Below w.heap.size w w':=by
 have bw:n<=4096:=by
  have:n*1<=n*o:=DZ _ (by omega);omega
 have af:=Acg ps o a c w hp (by omega);rw[show Qr ps o=0 by unfold Qr;rw[au];rfl,hn]at af;have bm:∀k,k<ps.length->Kn (ps.getD k (0,0))=true:=fun k hk=>by
  unfold IR at au
  grind
 have ag:=fun w=>TU h (2 ^ h) w h1 hh rfl
 obtain⟨N8, eN⟩ := E7 (2 ^ h);rw[<-eN]at ag;have a0:=hid eN;have HL:=hid hn;have HO:=hid ho;have HN:=hid hN;have bx:(o:Int).tdiv 2=h:=by grind
 have br:(o:Int) / 2=h:=by rw[ho];omega
 have ba:(n:Int)*(o:Int)=(N:Int):=by rw[hN,CE]
 have a1:Enters prog 235:=enters_of func235 (by kernel_rfl) rfl;have a9:prog.follows .mixedOrders=true:=by kernel_rfl
 clear eN hn ho hN au;go_enter func198,ntmps198
 go_wp2_with(first
  | (go_at_call 234;refine af.mono ?_;rintro e w1 ⟨rfl,ar⟩)
  | (go_at_call 232;refine(ag _).mono ?_;rintro e w2 ⟨gL,rfl,ad,bu,U⟩)
  | (refine ST N rfl _ _ rfl _ rfl rfl (by first | rfl | exact ba) (by omega) ?_;intro w3 W aj))
 obtain⟨G, eG⟩ := E7 w2.heap.size;rw[<-eG]at W aj;rw[<-eG];have ai:w.heap.size<=G:=by rw[eG];exact Ak ar.size U.size
 have a4:gL<G:=by rw[eG];exact ad.lt
 have ap:=ad.below aj a4;have ab:Below w.heap.size w w3:=(Fr ar U).trans (aj.mono ai);clear eG af ag ad aj U ar
 go_loopw [9,30] (fun s q wr=>∃k m:Nat,k<=n/\q= C J k/\Hid (m=k*o)/\s= E (H ⟨G,0,D⟩) m N/\OwnI wr G (E (H ⟨G,0,D⟩) m N) (Jg (IE h) h ps k)/\Kept [G] w3 wr) (fun _ q _=>n-(intOf q).toNat)
 case atStart=>exact⟨0,0,Af _,rfl,by unfold Hid;omega,rfl,by simpa [Jg]using W,Kept.refl _ _⟩
 case round=>
  clear W;obtain⟨k,m,hk,rfl,HM,rfl,L,l⟩:=hrel
  by_cases a7:k<n
  ·have S:k<ps.length:=by rw[HL.out];exact a7
   have ay:=hid a7;have aa:=hid (Vj (F:=IE h) (h:=h) S);have ak:Below w.heap.size w wr:=ab.trans (l.below (B:=w.heap.size) ab.size (by simpa using ai));obtain⟨b1,o1,rfl,a2⟩:=(hp.below ak).at S;obtain⟨g1,bi⟩:=a2 k S;have al:=AQ (bm k S);have bd:Hid (∀t,t<h->m+2*t+2<=N):=fun t ht=>by
    have e1:=HM.out;have e2:=HN.out;have e3:=HO.out;have:(k+1)*o<=n*o:=BM _ (by omega);rw[CD]at this;omega
   obtain⟨A, eA⟩ := E7 (Jg (IE h) h ps k);rw[<-eA]at L aa;obtain⟨x, e1⟩ := E7 ((ps.getD k (0,0)).1);obtain⟨y, e2⟩ := E7 ((ps.getD k (0,0)).2);rw[<-e1]at g1 al aa;rw[<-e2]at bi al aa;have bs:G<wr.heap.size:=L.block.2;have ah:=L.below ((Ad wr.heap.size wr).alloc (Ac _) (.cells #[C J x, C J y] 335));have a6:=l.trans (Kept.E5 ((Ad wr.heap.size wr).alloc (Ac _) (.cells #[C J x, C J y] 335)));have cx:(wr.alloc (.cells #[C J x, C J y] 335)).cell? ⟨wr.heap.size,0,D⟩=H (C J x):=by rw[Al _ _ _ _ _ _ (Am wr _)];rfl
   have cy:(wr.alloc (.cells #[C J x, C J y] 335)).cell? ⟨wr.heap.size,1,D⟩=H (C J y):=by rw[Al _ _ _ _ _ _ (Am wr _)];rfl
   clear a2 eA e1 e2 S L l ak;go_wp2;generalize wr.alloc (.cells #[C J x, C J y] 335)=wp at*;generalize wr.heap.size=gP at*
   go_loopw [9,12] (fun s q ws=>∃(t m':Nat) (z:Int),t<=h/\Hid (z=(h:Int)-1-t)/\q= C J z/\Hid (m'=m+2*t)/\s= E (H ⟨G,0,D⟩) m' N/\OwnI ws G (E (H ⟨G,0,D⟩) m' N) (A++KC (IE h x) (IE h y) h t)/\Kept [G] wp ws) (fun _ q _=>(intOf q+1).toNat)
   case atStart=>exact⟨0,m,_,Af _,by unfold Hid;omega,rfl,by unfold Hid;omega,rfl,by simpa [KC]using ah,Kept.refl _ _⟩
   case round=>
    clear ah;obtain⟨t,m',z,ht,HZ,rfl,az,rfl,L,l⟩:=hrel
    by_cases ax:t<h
    ·obtain⟨pl,ez⟩:∃pl:Nat,z=(pl:Int):=⟨z.toNat,by have:=HZ.out;omega⟩;subst ez;have bb:pl<h:=by have:=HZ.out;omega
     have be:=hid (show h-1-t=pl by have:=HZ.out;omega);have bf:=hid ax;have a3:m'+2<=N:=by rw[az.out];exact bd.out t ax
     have qx:=l.AmI cx (by simp;omega);have qy:=l.AmI cy (by simp;omega);have ae:=ap.kept (a6.trans l) (by simp;omega);have f0:=fun wc ao=>Sj h N8 gL pl x wc hh a0.out bb al.1 ao
     have f1:=fun wc ao=>Sj h N8 gL pl y wc hh a0.out bb al.2 ao
     have an:=hid (QO (IE h x) (IE h y) h t);rw[be.out]at an;generalize IE h x pl=y0 at*;generalize IE h y pl=y1 at*;clear ax;go_upto_region 13 with fail
     refine Bi (AaU 14 12 11 [(40, E (H ⟨G,0,D⟩) m' N),(41, E (H ⟨gL,0,D⟩) N8 N8),(42,.pointer (H ⟨gP,0,D⟩)),(43, C J x),(44, C J pl),(45, C J y0),(46, E (H ⟨gL,0,D⟩) N8 N8),(47,.pointer (H ⟨gP,1,D⟩)),(48, C J y),(49, C J pl),(50, C J y1)] 51 []
      [[9],[8],[11],[42],[12],[41,43,44],[8],[11],[47],[12],[46,48,49],[45,50]] [12,5,3,5,5,11,10,8,10,10,11,12] (fun u w=>Two J y0 y1 u w) wr _ 52 9 (E (H ⟨G,0,D⟩) (m'+2) N) (fun w'=>OwnI w' G (E (H ⟨G,0,D⟩) (m'+2) N) ((A++KC (IE h x) (IE h y) h t)++[y0,y1])/\Kept [G] wr w') a9 rfl rfl rfl rfl (show([40,41,42,43,44,45,46,47,48,49,50,51]:List Nat).Nodup by decide) (by kernel_rfl) (by kernel_rfl) (by kernel_rfl) (by kernel_rfl) (by kernel_rfl) (by kernel_rfl) (fun _ _ _ h hg=>h.grow hg) rfl rfl rfl rfl (AQ (by kernel_rfl))
      (fun i' bv u0 a wc ac T Q K bk hK=>by
       have bj:i'=0\/i'=1\/i'=2\/i'=3\/i'=4\/i'=5\/i'=6\/i'=7\/i'=8\/i'=9\/i'=10\/i'=11:=by omega
       have P:=Nf wc;have bg:=(ac.cell (Aj wr _ qx)).trans qx;have bh:=(ac.cell (Aj wr _ qy)).trans qy;have am:=ae.below ac ae.lt
       rcases bj with rfl | rfl | rfl | rfl | rfl | rfl | rfl | rfl | rfl | rfl | rfl | rfl
       ·exact E6 rfl rfl (Fd wc rfl (T 9 (by decide))) (hK (by decide) wc P)
       ·exact E6 rfl rfl (Fd wc rfl (T 8 (by decide))) (hK (by decide) wc P)
       ·exact E6 rfl rfl (Aa8 wc rfl (T 11 (by decide))) (hK (by decide) wc P)
       ·exact E6 rfl rfl (F5 wc rfl (T 42 (by decide)) bg) (hK (by decide) wc P)
       ·exact E6 rfl rfl (Fd wc rfl (T 12 (by decide))) (hK (by decide) wc P)
       ·refine Oo rfl rfl rfl a1 (by simp only[Ca,Be,BE];rw[T 41 (by decide),T 43 (by decide),T 44 (by decide)];rfl) (f0 wc am) fun e w' aw=>?_
        obtain⟨rfl,aq⟩:=aw;exact⟨_,rfl,hK (by decide) w' (AcH aq)⟩
       ·exact E6 rfl rfl (Fd wc rfl (T 8 (by decide))) (hK (by decide) wc P)
       ·exact E6 rfl rfl (Aa9 wc rfl (T 11 (by decide))) (hK (by decide) wc P)
       ·exact E6 rfl rfl (F5 wc rfl (T 47 (by decide)) bh) (hK (by decide) wc P)
       ·exact E6 rfl rfl (Fd wc rfl (T 12 (by decide))) (hK (by decide) wc P)
       ·refine Oo rfl rfl rfl a1 (by simp only[Ca,Be,BE];rw[T 46 (by decide),T 48 (by decide),T 49 (by decide)];rfl) (f1 wc am) fun e w' aw=>?_
        obtain⟨rfl,aq⟩:=aw;exact⟨_,rfl,hK (by decide) w' (AcH aq)⟩
       ·exact E6 rfl rfl (Aa5 wc rfl (T 45 (by decide)) (T 50 (by decide))) (bk rfl _ _ (ZF wc _) (Amv J y0 y1 wc _)))
      (fun u0 wc ac bp Q K hK=>AjD rfl rfl rfl (Fj 40 (show([40,41,42,43,44,45,46,47,48,49,50,51]:List Nat).Nodup by decide) (by kernel_rfl)) (Fj 51 (show([40,41,42,43,44,45,46,47,48,49,50,51]:List Nat).Nodup by decide) (by kernel_rfl)) (L.below ac) bp a3 fun w' bo bl=>hK w' ⟨bo,(Kept.E5 ac).trans (AcV bl)⟩)) ?_
     rintro e a' w' ⟨rfl,⟨u0,rfl⟩,av,a5⟩;rw[Bg,<-an.out]at av;have R:=l.trans a5;clear L l a5 qx qy ae f0 f1 an;dsimp only[Ft,List.set,List.append_nil,List.cons_append,List.nil_append];go_wp2
     go_roundw
     case rel=>
      have:=bf.out
      grind
     case measure=>simp[intOf]
    ·have bc:t=h:=by omega
     have bq:z= -1:=by have:=HZ.out;omega
     subst bq;rw[bc,<-aa.out]at L;have a8:Hid (m'=(k+1)*o):=by
      unfold Hid;have e1:=HM.out;have e2:=az.out;have e3:=HO.out;rw[CD,Nat.one_mul];omega
     have R:=a6.trans l;clear bc l;go_wp2
     go_roundw
     case rel=>
      have:=ay.out
      first | exact⟨k+1,m',by omega,by go_num,a8,rfl,L,R⟩ | ((repeat apply Exists.intro);exact⟨⟨k+1,m',by omega,by go_num,a8,rfl,L,R⟩,rfl⟩)
     case measure=>
      have:=ay.out;simp[intOf];omega
  ·obtain rfl:k=n:=by omega
   have bn:m=N:=by rw[HM.out,HN.out]
   subst bn;have ak:Below w.heap.size w wr:=ab.trans (l.below (B:=w.heap.size) ab.size (by simpa using ai));clear l;go_wp2
   go_ret2;exact⟨G,rfl,L.mono ai,ak⟩
def XW (h order:Nat)(p:Int×Int):Nat->Nat
 | 0=>0
 | j+1=>if Oa p (ptM h ((FI order).getD j []))<Oa p (ptM h ((FI order).getD (XW h order p j) [])) then j else XW h order p j
theorem AmT(z:Int):0<=z*z:=by
 have c:z*z=(z.natAbs*z.natAbs:Nat):=by rw[DX]
 omega
theorem Alr(p q:Int×Int):0<=Oa p q:=by
 have c:=AmT (p.1-q.1);have e:=AmT (p.2-q.2);unfold Oa;omega
theorem Apd(h order:Nat)(p:Int×Int):∀j k,k<j->Oa p (ptM h ((FI order).getD (XW h order p j) []))<=Oa p (ptM h ((FI order).getD k [])):=by intro a;induction a<;>grind [Oa,ptM,FI,XW]
theorem PE(h order:Nat)(p:Int×Int)(k:Nat)(x:Int):∀j,(∀i,i<j->((FI order).getD i []).getD k 0=x->0<=Kc h order p k x j/\Kc h order p k x j<=Oa p (ptM h ((FI order).getD i [])))/\(Kc h order p k x j= -1\/∃i,i<j/\((FI order).getD i []).getD k 0=x/\Kc h order p k x j=Oa p (ptM h ((FI order).getD i []))):=by intro a;induction a<;>grind [FI,Kc,Oa,ptM,Alr]
theorem U1{c:List Int}(h:c.length=order)(l:∀x∈c,x=0\/x=1):∃i,i<2 ^ order/\(FI order).getD i []=c:=by
 have s:c∈FI order:=List.count_pos_iff.1 (by rw[AbP h l];omega);obtain⟨i,hi,e⟩:=A5 s;exact⟨i,by rw[<-Vw order];exact hi,by simp[List.getD,hi,e]⟩
theorem Ael(l:k<order)(x:Int)(s:x=0\/x=1):∃i,i<2 ^ order/\((FI order).getD i []).getD k 0=x:=by
 obtain⟨i,hi,e⟩:=U1 (order:=order) (c:=List.replicate order x) (by simp) (fun y t=>by grind)
 grind
theorem YW(p:Int×Int)(c:k<order)(x:Int)(l:x=0\/x=1):∃i,i<2 ^ order/\((FI order).getD i []).getD k 0=x/\Kc h order p k x (2 ^ order)=Oa p (ptM h ((FI order).getD i [])):=by
 obtain⟨i,hi,e⟩:=Ael c x l;obtain⟨s,t⟩:=PE h order p k x (2 ^ order)
 grind
end Go.Proofs.YtbjgfoiikhbonahGreatDoor
