import Derived.Test.YtbjgfoiikhbonahGreatDoorD08
set_option linter.unusedVariables false
set_option linter.unusedSimpArgs false
set_option maxRecDepth 100000
set_option maxHeartbeats 4000000
namespace Go.Proofs.YtbjgfoiikhbonahGreatDoor
open Go.ChangeShapes Go.WideShapes Go.ChangeAt Go.RowKit Go.Shelf Go.Proofs.Tryz
open Value (int slice)
open IntKind (i64)
variable {Q:Exit->Act->World->Prop}{a:Act}{b:List Int}{g h i j k m n order:Nat}{o:Oper}{ops:Array Oper}{p q z:Int}{v:Value}{w w':World}{x y:Operand}{ρ:Operand->Value}
theorem PT{h:Nat}{x:Int}(d:h<=3)(e: -1000<=x/\x<=1000)(place c:Nat):∀j,0<=FB h x place c j/\FB h x place c j<=9223372036854775807
 | 0=>by simp[FB]
 | j+1=>by
  have f:=PT d e place c j;have l:=Akv d e j
  grind [FB,sqM]
theorem Agq{x:Int}{place y:Nat}(c:J6 k place=y):[FB h x place 0 k,FB h x place 1 k].set y (min ([FB h x place 0 k,FB h x place 1 k].getD y 0) (sqM h x k))=[FB h x place 0 (k+1),FB h x place 1 (k+1)]:=by grind [J6,FB,sqM]
theorem Sj(h n g place:Nat)(x:Int)(w:World)(S:h<=3)(T:n=2 ^ h)(hp:place<h)(hx: -1000<=x/\x<=1000)(I:ArrAt i64 3 w g (Po h)):
 Calls prog 235 #[slice (some ⟨g,0,none⟩) n n,int i64 x,int i64 place] w fun e w'=>e=.returned (int i64 (IE h x place))/\Below w.heap.size w w':=by
 have HN:=hid T;have h8:n<=8:=by
  rw[T];exact(show 2 ^ h<=2 ^ 3 from BC (by omega) S)
 have W:Enters prog 264:=enters_of func264 (by kernel_rfl) rfl;have N:prog.follows .mixedOrders=true:=by kernel_rfl
 have HE:=hid (show IE h x place=FB h x place 1 n-FB h x place 0 n by rw[T];rfl);have Y:=I.lt;have E:=Ql i64 397 w [9223372036854775807,9223372036854775807];have J:Below w.heap.size w (w.alloc (.cells (([9223372036854775807,9223372036854775807]:List Int).map (Value.int i64)).toArray 397)):=(Ad _ w).alloc (Ac _) _;clear T;go_enter func235,ntmps235;go_wp2
 go_loopw [14] (fun q wr=>∃k:Nat,k<=n/\q=int i64 k/\ArrAt i64 397 wr w.heap.size [FB h x place 0 k,FB h x place 1 k]/\Below w.heap.size w wr) (fun q _=>n-(intOf q).toNat)
 case atStart=>exact⟨0,Af _,rfl,E,J⟩
 case round=>
  clear E J;obtain⟨k,hk,rfl,f,l⟩:=hrel
  by_cases Z:k<n
  ·have C:=I.below l Y;have c1:=Ac4 C (j:=k) (by rw[<-HN.out];exact Z);have b1:=XP k h S;have hA:=Aer k place (by omega);have hb:=LS k place;have d:=hid (Agq (h:=h) (x:=x) (place:=place) (k:=k) (y:=J6 k place) rfl);have F:=hid (show sqM h x k=(x-Gr k h)*(x-Gr k h)from rfl);obtain⟨y,ey⟩:=E7 (J6 k place);rw[<-ey]at hA hb d;have H:y<2:=by omega
   have B:=f.cell (j:=y) (by simpa using H);have M:=f.free y;obtain⟨L,eL⟩:=E7 ([FB h x place 0 k,FB h x place 1 k]);rw[<-eL]at f B d;obtain⟨z,ez⟩:=E7 (L.getD y 0);rw[<-ez]at B d;obtain⟨v,ev⟩:=E7 (Gr k h);rw[<-ev]at c1 b1 F;have R:IntKind.i64.wrap (x-v)=x-v:=by rw[AO];omega
   have O:=fun w=>AdR (x-v) w (by omega)
   rw[F.out]at d;clear ey eL ez ev C hb;go_upto_region 6 with fail
   refine Bi (Ow (Q:=fun e a' w'=>e=.normal/\a'=_/\∃w1,Below wr.heap.size wr w1/\w'=w1.setCell ⟨w.heap.size,y,none⟩ (int i64 (min z ((x-v)*(x-v))))) 11 10 9 [(23,int i64 y),(24,int i64 y),(25,.pointer (some ⟨w.heap.size,y,none⟩)),(26,int i64 z),(27,int i64 x),(28,int i64 v),(29,int i64 (x-v)),(30,int i64 ((x-v)*(x-v))),(31,int i64 (min z ((x-v)*(x-v))))] 32 []
    [[10],[10],[7,24],[25],[1],[9],[27,28],[29],[26,30],[7,23]] [9,2,3,8,6,6,7,8,10,10] (fun u _=>u=.pointer (some ⟨w.heap.size,y,none⟩)) wr N rfl (by decide) rfl rfl (show([23,24,25,26,27,28,29,30,31,32]:List Nat).Nodup by decide) (by kernel_rfl) (by kernel_rfl) (by kernel_rfl) (by kernel_rfl) (by kernel_rfl) (by kernel_rfl) (fun _ _ _ h _=>h)
    (fun t ac x0 a wc s r Q K V A=>by
     have U:t=0\/t=1\/t=2\/t=3\/t=4\/t=5\/t=6\/t=7\/t=8\/t=9:=by omega
     have c:=Nf wc;have qz:=(s.cell (Aj wr _ B)).trans B
     rcases U with rfl | rfl | rfl | rfl | rfl | rfl | rfl | rfl | rfl | rfl
     ·exact E6 rfl rfl (Fd wc rfl (r 10 (by decide))) (A (by decide) wc c)
     ·exact E6 rfl rfl (Fd wc rfl (r 10 (by decide))) (A (by decide) wc c)
     ·exact E6 rfl rfl (Abd wc rfl (r 7 (by decide)) (r 24 (by decide)) H) (A (by decide) wc c)
     ·exact E6 rfl rfl (F5 wc rfl (r 25 (by decide)) qz) (A (by decide) wc c)
     ·exact E6 rfl rfl (Fd wc rfl (r 1 (by decide))) (A (by decide) wc c)
     ·exact E6 rfl rfl (Fd wc rfl (r 9 (by decide))) (A (by decide) wc c)
     ·exact E6 rfl rfl (Akd wc rfl (r 27 (by decide)) (r 28 (by decide)) R) (A (by decide) wc c)
     ·refine Oo rfl rfl rfl W (by simp only[Ca,Be,BE];rw[r 29 (by decide)];rfl) (O wc) fun e w' aa=>?_
      obtain⟨rfl,rfl⟩:=aa;exact⟨_,rfl,A (by decide) wc c⟩
     ·exact E6 rfl rfl (Aka wc rfl (r 26 (by decide)) (r 30 (by decide))) (A (by decide) wc c)
     ·exact E6 rfl rfl (Abd wc rfl (r 7 (by decide)) (r 23 (by decide)) H) (V rfl _ wc c rfl))
    (fun x0 wc s ab=>by
     subst ab;have qz:=(s.cell (Aj wr _ B)).trans B;have qf:=(s.frozen (p:=⟨w.heap.size,y,none⟩) (Aj wr _ B)).trans M
     exact Aal rfl rfl (UG wc rfl rfl rfl qz qf) ⟨rfl,rfl,wc,s,rfl⟩)) ?_
   rintro e a' w' ⟨rfl,rfl,w1,G,rfl⟩;have D:=f.below G f.lt;have P:=D.set y (min z ((x-v)*(x-v)));rw[d.out]at P;have X:=(l.trans (G.mono l.size)).setCell (p:=⟨w.heap.size,y,none⟩) (Ac _) (int i64 (min z ((x-v)*(x-v))));generalize w1.setCell ⟨w.heap.size,y,none⟩ (int i64 (min z ((x-v)*(x-v))))=w2 at*;clear d F D G f B M c1 l O R;generalize min z ((x-v)*(x-v))=mm at*;dsimp only[Ft,List.set,List.append_nil,List.cons_append,List.nil_append];go_wp2
   go_roundw
   case rel=>grind
   case measure=>simp[intOf];omega
  ·obtain rfl:k=n:=by omega
   have d0:=PT S hx place 0 k;have d1:=PT S hx place 1 k;have c0:=f.cell (j:=0) (by simp);have c1:=f.cell (j:=1) (by simp);simp only[List.getD_cons_zero,D3]at c0 c1;generalize FB h x place 0 k=p0 at*;generalize FB h x place 1 k=p1 at*;clear f;go_wp2;go_ret;exact⟨Fs HE.out.symm,l⟩
theorem AaU{P:Program}{id:Nat}{f:List Value}(n k u:Nat)(pre:List (Nat×Value))(d:Nat)(c:List (Nat×Value))(reads:List (List Nat))(r:List Nat)(U:Value->World->Prop)(wr:World)(H:Oper)(t W:Nat)(v:Value)(R:World->Prop)(hm:P.follows .mixedOrders=true)(hn:ops.size=n)(aa:n=k+2)
 (V:pre.length=u) (L:pre.length+1+c.length=k) (O:((pre++(d,undef)::c).map (·.1)).Nodup) (J:((pre++(d,undef)::c).all fun q=>decide (q.1<f.length))=true)
 (l:((List.range k).all fun i=>(reads.getD i []).all fun s=>(List.range k).all fun j=>(((pre++(d,undef)::c).getD j (0,undef)).1 !=s) || Ff ops i j)=true) (E:((List.range n).all fun i=>Gt ops i)=true)
 (T:((List.range k).all fun i=>(reads.getD i []).all fun s=>decide (s<f.length))=true)
 (G:((List.range k).all fun j=>decide (j<r.getD j 0) && (decide (r.getD j 0<=k) && Ff ops (r.getD j 0) j))=true) (D:((List.range n).all fun i=>decide (i<=k) || Ff ops i (i-1))=true)
 (Y:∀x w w',U x w->w.grownBy w' none->U x w')
 (S:ops[k+1]?=some H) (N:H.guard=none) (F:H.op=.assign (.tmp t)) (A:H.dst=some W) (I:t<f.length)
 (C:∀i,i<k->∀(x:Value) (a:Act) (w:World),Below wr.heap.size wr w->(∀s∈reads.getD i [],a.eval (.tmp s)=lkp f (pre++(d,x)::c) s)->∀(Q:Exit->Act->World->Prop) (K:Act->World->Prop),(i=u->∀x' w',w.grownBy w' none->U x' w'->K (a.put (some d) x') w')->(i≠u->∀w',w.grownBy w' none->K (a.put (some ((pre++(d,undef)::c).getD i (0,undef)).1) ((pre++(d,undef)::c).getD i (0,undef)).2) w')->wpOp P ops Q i K a w)
 (B:∀x w,Below wr.heap.size wr w->U x w->∀(Q:Exit->Act->World->Prop) (K:Act->World->Prop),(∀w',R w'->K (({tmps:=(Ft f (pre++(d,x)::c)).toArray,defers:=[]}:Act).put (some t) v) w')->wpOp P ops Q k K {tmps:=(Ft f (pre++(d,x)::c)).toArray,defers:=[]} w):
 (Code.region id ops true).wp P (fun e a' w'=>e=.normal/\(∃x,a'={tmps:=(((Ft f (pre++(d,x)::c)).set t v).set W v).toArray,defers:=[]})/\R w') {tmps:=f.toArray,defers:=[]} wr:=by
 refine Ow n k u pre d c reads r U wr hm hn (by omega) V L O J l E T G D Y C (fun x w Z V=>?_);rw[show n-k=2 by omega]
 show wpOp P ops _ k (fun a' w'=>wpOp P ops _ (k+1) _ a' w') _ w;refine B x w Z V _ _ fun w' X=>?_
 rw[G4];have M:({tmps:=((Ft f (pre++(d,x)::c)).set t v).toArray,defers:=[]}:Act).eval (.tmp t)=v:=by
  have hl:=Jh (pre++(d,x)::c) f;have:t<(Ft f (pre++(d,x)::c)).length:=by rw[hl];exact I
  simp[Act.eval,this]
 refine E6 S N (Aa3 w' F M) ⟨rfl,⟨x,?_⟩,X⟩;rw[A,G4]
def G7 (b:List Int)(order j:Nat):List Int:=(b.drop (j*order)).take order
theorem Mm(c:b.length=m*order)(d:j<m):(G7 b order j).length=order:=by
 unfold G7;rw[Ay,AJ,c];have:(j+1)*order<=m*order:=BM _ (by omega);rw[CD]at this;omega
theorem AfI(c:k<order):(G7 b order j).getD k 0=b.getD (j*order+k) 0:=by
 unfold G7;simp[List.getD,c]
theorem AfJ{o:Nat}(s:Rd .u8 w (some ⟨g,o,none⟩) b)(f:b.length=m*order)(l:j<m):Rd .u8 w (some ⟨g,o+j*order,none⟩) (G7 b order j):=by
 intro r;refine⟨g,o+j*order,rfl,fun t ht=>?_⟩;have B:=Mm f l;have d:(j+1)*order<=m*order:=BM _ (by omega);rw[CD]at d;have c:j*order+t<b.length:=by omega
 obtain⟨u,C,e,A⟩:=s.at c
 grind [AfI]
def ptA (h:Nat)(c:List Int):Int×Int:=(Gr (Jv c 0 h) h,Gr (Jv c 1 h) h)
def Py (h:Nat)(b:List Int)(order n i:Nat):List (Int×Int):=(List.range i).map (fun j=>ptA h (G7 b order j))++List.replicate (n-i) (0,0)
theorem Ahv(hi:i<n):(Py h b order n i).set i (ptA h (G7 b order i))=Py h b order n (i+1):=by
 unfold Py;rw[Cq _ _ (by simp),Bo,C1,Bm,Az,AR,Bg,show n-i=n-(i+1)+1 by omega,Dy];rfl
theorem QY(hi:i<=n):(Py h b order n i).length=n:=by simp[Py];omega
theorem Aj7(w:World){c:Nat}(f:o.op=.indexAddr 288 x y)(h:ρ x=slice (some ⟨g,0,none⟩) n c)(d:ρ y=int i64 j)(e:j<n):(execOp ρ o).run prog w=.ok (.value (.pointer (some ⟨g,j*2,none⟩))) w:=by
 unfold execOp;simp only[f,h,d];simp[go_sem,underlying288,e]
theorem AdE(w:World)(d:o.op=.build 335 #[(0,x),(1,y)])(h:ρ x=int i64 p)(c:ρ y=int i64 q):(execOp ρ o).run prog w=.ok (.value (.agg #[int i64 p,int i64 q])) w:=by
 unfold execOp;simp only[d];simp[go_sem,h,c]
theorem Aht(b:List Int)(h o n:Nat)(a:Option Addr)(c:Nat)(w:World)(l:Rd .u8 w a b)(r:b.length<=c)(au:c<=maxLen)(hE:F6 b=0)(h1:1<=h)(hh:h<=3)(ho:o=2*h)(hl:b.length=n*o)(hn:n<=4096)(ag:∀x∈b,x=0\/x=1):
 Calls prog 193 #[slice a b.length c,int i64 o] w fun e w'=>∃g,e=.returned (.tuple #[slice (some ⟨g,0,none⟩) n n,int i64 0])/\PArr w' g (Py h b o n n)/\w.heap.size<=g/\Below w.heap.size w w':=by
 have E:=IP b a c w l (Ak r au);rw[hE]at E;have N:=AeU o w;rw[show Nm o=0 by unfold Nm PW;rw[Ag (by omega)];rfl]at N;have M:=TU h (2 ^ h) w h1 hh rfl;obtain⟨N8,eN⟩:=E7 (2 ^ h);rw[<-eN]at M;have O:=hid eN;have HL:=hid hl;have HO:=hid ho;have a1:(o:Int).tdiv 2=h:=by grind
 have aw:(o:Int) / 2=h:=by rw[ho];omega
 obtain⟨T,X⟩:=E7 b.length;have ay:T<=24576:=by
  rw[X,hl];have:n*o<=4096*6:=DW hn (by omega);omega
 have a2:((T:Int)).tdiv (o:Int)=n:=by rw[X,hl,Int.tdiv_eq_ediv_of_nonneg (by omega)];rw[CE,Int.mul_ediv_cancel _ (by omega)]
 have ax:((T:Int)) / (o:Int)=n:=by grind
 have a3:((T:Int)).tmod (o:Int)=0:=by rw[X,hl,C8 (by omega),CE,Int.mul_emod_left]
 rw[<-X]at E r;rw[<-X];have HT:=hid X;have ab:Enters prog 233:=enters_of func233 (by kernel_rfl) rfl;have aj:prog.follows .mixedOrders=true:=by kernel_rfl
 clear X hl ho eN;go_enter func193,ntmps193
 go_wp2_with(first
  | (go_at_call 225;refine E.mono ?_;rintro e w1 ⟨rfl,rfl⟩)
  | (go_at_call 231;refine N.mono ?_;rintro e w1 ⟨rfl,rfl⟩)
  | (go_at_call 232;refine M.mono ?_;rintro e w1 ⟨gL,rfl,L,az,A⟩)
  | (refine U4 n rfl _ _ rfl _ _ rfl rfl rfl rfl (by omega) ?_;intro w2 ac R))
 obtain⟨G,eG⟩:=E7 w1.heap.size;rw[<-eG]at ac R;rw[<-eG];have P:w.heap.size<=G:=by rw[eG];exact A.size
 have ah:gL<G:=by rw[eG];exact L.lt
 have Y:=L.below R ah;have D:Below w.heap.size w w2:=A.trans (R.mono P);clear eG E N M L R A
 go_loopw [37] (fun q wr=>∃i:Nat,i<=n/\q=int i64 i/\PArr wr G (Py h b o n i)/\Kept [G] w2 wr) (fun q _=>n-(intOf q).toNat)
 case atStart=>exact⟨0,Af _,rfl,by simpa [Py]using ac,Kept.refl _ _⟩
 case round=>
  obtain⟨i,hi,rfl,hP,f⟩:=hrel
  by_cases H:i<n
  ·have h3:(i+1)*o<=n*o:=BM _ (by omega);rw[CD,Nat.one_mul,<-HL.out,<-HT.out]at h3;obtain⟨s,es⟩:=E7 (i*o);rw[<-es]at h3;have a4:(i:Int)*(o:Int)=(s:Int):=by rw[es,CE]
   have a5:((i:Int)+1)*(o:Int)=((s+o:Nat):Int):=by grind
   have S:Below w.heap.size w wr:=D.trans (f.below (B:=w.heap.size) D.size (by simpa using P));obtain⟨b1,o1,rfl, -⟩:=l.at (i:=0) (by rw[<-HT.out];omega);have U:=AfJ (l.below S) HL.out H;rw[<-es]at U;have ai:=Mm HL.out H;have C:∀j,(G7 b o i).getD j 0=0\/(G7 b o i).getD j 0=1:=fun j=>by
    by_cases hj:j<(G7 b o i).length
    ·rw[ZC _ _ hj];exact ag _ (BQ (Cr (A4 hj)))
    grind
   clear es;go_upto_region 15 with fail
   have W:s+o-s=o:=by omega
   have ak:=fun w l=>Uc (G7 b o i) 0 h o (some ⟨b1,o1+s,none⟩) (c-s) w l ai HO.out hh (by omega) C
   have al:=fun w l=>Uc (G7 b o i) 1 h o (some ⟨b1,o1+s,none⟩) (c-s) w l ai HO.out hh (by omega) C
   have ae:Jv (G7 b o i) 0 h<N8:=by rw[O.out];exact X3 C 0 h
   have af:Jv (G7 b o i) 1 h<N8:=by rw[O.out];exact X3 C 1 h
   have t:=Y.kept f (by simp;omega);have c0:=Ac4 t (j:=Jv (G7 b o i) 0 h) (by rw[<-O.out];exact ae);have c1:=Ac4 t (j:=Jv (G7 b o i) 1 h) (by rw[<-O.out];exact af);have J:=hid (Ahv (h:=h) (b:=b) (order:=o) H);have V:=hid (QY (h:=h) (b:=b) (order:=o) hi);have aa:=hid (show ptA h (G7 b o i)=(Gr (Jv (G7 b o i) 0 h) h,Gr (Jv (G7 b o i) 1 h) h)from rfl);rw[aa.out]at J;generalize Jv (G7 b o i) 0 h=x0 at*;generalize Jv (G7 b o i) 1 h=x1 at*;generalize Gr x0 h=y0 at*;generalize Gr x1 h=y1 at*
   refine Bi (Ow (Q:=fun e a' w'=>e=.normal/\a'=_/\∃w1,Below wr.heap.size wr w1/\w'=w1.setCells G (i*2) [int i64 y0,int i64 y1]) 15 14 13 [(49,slice (some ⟨G,0,none⟩) n n),(50,int i64 i),(51,slice (some ⟨gL,0,none⟩) N8 N8),(52,slice (some ⟨b1,o1+s,none⟩) o (c-s)),(53,int i64 x0),(54,.pointer (some ⟨gL,0+x0,none⟩)),(55,int i64 y0),(56,slice (some ⟨gL,0,none⟩) N8 N8),(57,slice (some ⟨b1,o1+s,none⟩) o (c-s)),(58,int i64 x1),(59,.pointer (some ⟨gL,0+x1,none⟩)),(60,int i64 y1),(61,.agg #[int i64 y0,int i64 y1])] 62 []
    [[9],[10],[8],[11],[52],[51,53],[54],[8],[11],[57],[56,58],[59],[55,60],[49,50]] [13,13,5,4,5,6,12,10,9,10,11,12,14,14] (fun u _=>u=.pointer (some ⟨G,i*2,none⟩)) wr aj rfl (by decide) rfl rfl (show([49,50,51,52,53,54,55,56,57,58,59,60,61,62]:List Nat).Nodup by decide) (by kernel_rfl) (by kernel_rfl) (by kernel_rfl) (by kernel_rfl) (by kernel_rfl) (by kernel_rfl) (fun _ _ _ h _=>h)
    (fun F a0 u0 a wc r l Q K ar I=>by
     have aq:F=0\/F=1\/F=2\/F=3\/F=4\/F=5\/F=6\/F=7\/F=8\/F=9\/F=10\/F=11\/F=12\/F=13:=by omega
     have d:=Nf wc;have q0:=(r.cell (Aj wr _ c0)).trans c0;have q1:=(r.cell (Aj wr _ c1)).trans c1
     rcases aq with rfl | rfl | rfl | rfl | rfl | rfl | rfl | rfl | rfl | rfl | rfl | rfl | rfl | rfl
     ·exact E6 rfl rfl (Fd wc rfl (l 9 (by decide))) (I (by decide) wc d)
     ·exact E6 rfl rfl (Fd wc rfl (l 10 (by decide))) (I (by decide) wc d)
     ·exact E6 rfl rfl (Fd wc rfl (l 8 (by decide))) (I (by decide) wc d)
     ·exact E6 rfl rfl (Fd wc rfl ((l 11 (by decide)).trans (congrArg (fun z=>slice (some ⟨b1,o1+s,none⟩) z (c-s)) W))) (I (by decide) wc d)
     ·refine Oo rfl rfl rfl ab (by simp only[Ca,Be,BE];rw[l 52 (by decide)];rfl) (ak wc (U.below r)) fun e w' an=>?_
      grind
     ·exact E6 rfl rfl (OB wc rfl (l 51 (by decide)) (l 53 (by decide)) ae) (I (by decide) wc d)
     ·exact E6 rfl rfl (F5 wc rfl (l 54 (by decide)) (by rw[Ao];exact q0)) (I (by decide) wc d)
     ·exact E6 rfl rfl (Fd wc rfl (l 8 (by decide))) (I (by decide) wc d)
     ·exact E6 rfl rfl (Fd wc rfl ((l 11 (by decide)).trans (congrArg (fun z=>slice (some ⟨b1,o1+s,none⟩) z (c-s)) W))) (I (by decide) wc d)
     ·refine Oo rfl rfl rfl ab (by simp only[Ca,Be,BE];rw[l 57 (by decide)];rfl) (al wc (U.below r)) fun e w' an=>?_
      obtain⟨rfl,rfl⟩:=an;exact⟨_,rfl,I (by decide) wc d⟩
     ·exact E6 rfl rfl (OB wc rfl (l 56 (by decide)) (l 58 (by decide)) af) (I (by decide) wc d)
     ·exact E6 rfl rfl (F5 wc rfl (l 59 (by decide)) (by rw[Ao];exact q1)) (I (by decide) wc d)
     ·exact E6 rfl rfl (AdE wc rfl (l 55 (by decide)) (l 60 (by decide))) (I (by decide) wc d)
     ·exact E6 rfl rfl (Aj7 wc rfl (l 49 (by decide)) (l 50 (by decide)) H) (ar rfl _ wc d rfl))
    (fun u0 wc r av=>by
     subst av;have am:([49,50,51,52,53,54,55,56,57,58,59,60,61,62]:List Nat).Nodup:=by decide
     exact Aal rfl rfl (AdI (g:=G) (i:=i) (p:=(y0,y1)) wc rfl (Fj 62 am (by kernel_rfl)) (Fj 61 am (by kernel_rfl)) (hP.below r hP.lt) (by rw[V.out];exact H)) ⟨rfl,rfl,wc,r,rfl⟩)) ?_
   rintro e a' w' ⟨rfl,rfl,w3,Z,rfl⟩;have ad:=hP.below Z hP.lt;have ao:=ad.set (i:=i) (by rw[V.out];exact H) (y0,y1);rw[J.out]at ao;have ap:Kept [G] w2 (w3.setCells G (i*2) [int i64 y0,int i64 y1]):=((f.trans (Kept.E5 Z)).setCell (p:=⟨G,i*2,none⟩) (by simp) _).setCell (p:=⟨G,i*2+1,none⟩) (by simp) _;generalize w3.setCells G (i*2) [int i64 y0,int i64 y1]=w4 at*;clear J ad hP Z c0 c1 ak al U t S f aa;dsimp only[Ft,List.set,List.append_nil,List.cons_append,List.nil_append];go_wp2
   go_roundw
   case rel=>grind
   case measure=>simp[intOf];omega
  ·obtain rfl:i=n:=by omega
   have S:Below w.heap.size w wr:=D.trans (f.below (B:=w.heap.size) D.size (by simpa using P));clear f;go_wp2
   go_ret2;exact⟨G,rfl,hP,P,S⟩
theorem AcH(h:Below w.heap.size w w'):w.grownBy w' none:=⟨h.os,h.tape,h.output,h.size,fun k c _=>h.block k c⟩
theorem Qm(h:w.grownBy w' none):Below w.heap.size w w':=(Ad _ w).grown h (Ac _) (fun g e=>by cases e)
theorem Kept.AmI{S:List Nat}{a b:World}(h:Kept S a b){p:Addr}(c:a.cell? p=some v)(e:p.block∉S):b.cell? p=some v:=by
 have d:=h.block p.block (Aj a _ c) e;rw[<-c];unfold World.cell?;rw[d]
theorem AcV(h:w.grownBy w' (some g)):Kept [g] w w':=⟨h.os,h.tape,h.output,h.size,fun k c d=>h.block k c (fun e=>d (by grind))⟩
def Jg (F:Int->Nat->Int)(h:Nat)(ps:List (Int×Int))(k:Nat):List Int:=(ps.take k).flatMap fun p=>KC (F p.1) (F p.2) h h
theorem Vj{F:Int->Nat->Int}{ps:List (Int×Int)}(c:k<ps.length):Jg F h ps (k+1)=Jg F h ps k++KC (F (ps.getD k (0,0)).1) (F (ps.getD k (0,0)).2) h h:=by
 unfold Jg;rw[Bu c,Bd];simp[List.getD,c]
def Two (k:IntKind)(y z:Int)(x:Value)(w:World):Prop:=∃g,x=slice (some ⟨g,0,none⟩) 2 2/\w.cell? ⟨g,0,none⟩=some (.int k y)/\w.cell? ⟨g,1,none⟩=some (.int k z)
theorem Two.grow{k:IntKind}{y:Int}{x:Value}(h:Two k y z x w)(hg:w.grownBy w' none):Two k y z x w':=by
 obtain⟨g,e,c,d⟩:=h;have f:=Qm hg;exact⟨g,e,(f.cell (Aj w _ c)).trans c,(f.cell (Aj w _ d)).trans d⟩
theorem Amv(k:IntKind)(y z:Int)(w:World)(T:TypeId):Two k y z (slice (some ⟨w.heap.size,0,none⟩) 2 2) (w.alloc (.cells #[.int k y,.int k z] T)):=by
 refine⟨w.heap.size,rfl,?_,?_⟩<;>rw[Al _ _ _ _ _ _ (Am w _)]<;>rfl
theorem ZF(w:World)(b:Obj):w.grownBy (w.alloc b) none:=AcH ((Ad _ w).alloc (Ac _) b)
theorem Aa5(w:World)(d:o.op=.buildSlice 74 2 #[(0,x),(1,y)])(h:ρ x=int i64 p)(c:ρ y=int i64 q):(execOp ρ o).run prog w=.ok (.value (slice (some ⟨w.heap.size,0,none⟩) 2 2)) (w.alloc (.cells #[int i64 p,int i64 q] 3)):=by
 unfold execOp;simp only[d];simp[go_sem,h,c]
theorem AjD{W:World}{K:Act->World->Prop}{L:List Int}{c:Nat}{y:Int}(hi:ops[i]?=some o)(hg:o.guard=none){s:Operand}
 (B:o.op=.call {callee:=.builtin .append,args:=#[s,x],argTypes:=#[74,74]}) (hs:a.eval s=slice (some ⟨g,0,none⟩) m c) (hx:a.eval x=v) (hown:OwnI W g (slice (some ⟨g,0,none⟩) m c) L) (hv:Two i64 y z v W) (hcap:m+2<=c)
 (h:∀w',OwnI w' g (slice (some ⟨g,0,none⟩) (m+2) c) (L++[y,z])->W.grownBy w' (some g)->K (a.put o.dst (slice (some ⟨g,0,none⟩) (m+2) c)) w'):wpOp prog ops Q i K a W:=by
 have A:=hown.len;subst A;obtain⟨r,rfl,c0,c1⟩:=hv;obtain⟨F,f,D,l,E⟩:=As Tryz.Wa
 obtain⟨w',e,H,G⟩:=run_append_fits (P:=prog) W g 74 o.type 3 F 1 underlying74 f l g L.length c _ hown ⟨r,0,none⟩ 2 2 [int i64 y,int i64 z] rfl (fun j u d=>by
  match j,d with
  | 0,d=>simp at d;subst d;simpa [Addr.add]using c0
  | 1,d=>simp at d;subst d;simpa [Addr.add]using c1) (by simp;exact⟨rfl,rfl⟩) hcap
 have t:OwnI w' g (slice (some ⟨g,0,none⟩) (L.length+2) c) (L++[y,z]):=by
  unfold OwnI
  grind
 unfold wpOp;rw[hi];have C:Region.wanted o (yielded ops a.tmps)=true:=by simp[Region.wanted,hg]
 simp only[C,AP,Oper.wp]
 left;simp[execOp,B,resolve,invoke,builtin,hs,hx,e,Result.andThen];exact h w' t G
theorem ST{d:List Oper}(N:Nat)(e:o.guard=none)(l c:Operand)
 (C:o.op=Op.makeSlice 74 l c) (y:Int) (B:a.eval l=int i64 0) (A:a.eval c=int i64 y) (D:y=(N:Int)) (F:N<=1000000)
 (h:∀w',OwnI w' w.heap.size (slice (some ⟨w.heap.size,0,none⟩) 0 N) []->Below w.heap.size w w'->wpList prog ops Q d (a.put o.dst (slice (some ⟨w.heap.size,0,none⟩) 0 N)) w'):
 wpList prog ops Q (o::d) a w:=by
 obtain⟨E,hi,f,r,s⟩:=As Tryz.Wa;exact D4 w e l c 74 C w.heap.size 3 E (int i64 0) 1 underlying74 hi f r i64 i64 y N B A D (by rw[s];omega) (by unfold maxLen;omega) (Ac _) fun w' t u=>h w' t (Qm u)
def Qr (ps:List (Int×Int))(order:Int):Int:=if IR ps order then 0 else 1
theorem Acg(ps:List (Int×Int))(order:Int)(a:Option Addr)(c:Nat)(w:World)(ha:Pts w a ps)(hz:ps.length<=8796093022208):
 Calls prog 234 #[slice a ps.length c,int i64 order] w fun e w'=>e=.returned (int i64 (Qr ps order))/\Below w.heap.size w w':=by
 have d:=AeU order w
 by_cases E:order=2\/order=4\/order=6
 ·have l:PW order=true:=Ag E;rw[show Nm order=0 by unfold Nm;rw[l];rfl]at d;obtain⟨m,hm⟩:∃m:Nat,(m:Int)=(4096:Int).tdiv order/\(ps.length<=m↔(ps.length:Int)*order<=4096)/\m<=2048:=by
   rcases E with rfl | rfl | rfl
   ·exact⟨2048,rfl,by omega,by omega⟩
   ·exact⟨1024,rfl,by omega,by omega⟩
   ·exact⟨682,rfl,by omega,by omega⟩
  obtain⟨A,M,aa⟩:=hm;have Y:(4096:Int) / order=m:=by grind
  have Z:order≠0:=by omega
  by_cases W:ps.length<=m
  ·have D:Hid (∀b,ps.all Kn=b->(if b then 0 else 1)=Qr ps order):=fun b hb=>by unfold Qr IR;grind
   obtain⟨n,C⟩:=E7 ps.length;rw[<-C]at W;rw[<-C];have V:=hid C;have HH:=hid (fun k (X:k<ps.length)=>AlQ X);clear C hz l E M;have L:=A.symm;have P:=hid (show decide (m<n)=false from Ae (by omega));clear A;go_enter func234,ntmps234
   go_wp2_with(go_at_call 231;refine d.mono ?_;rintro e w1 ⟨rfl,rfl⟩)
   go_loopw [20] (fun i wr=>∃k:Nat,k<=n/\i=int i64 k/\Hid (Am0 ps k)/\Below w.heap.size w wr) (fun i _=>n-(intOf i).toNat)
   case atStart=>exact⟨0,Af _,rfl,fun j hj=>by omega,Ad _ _⟩
   case round=>
    clear d;obtain⟨k,X,rfl,K,s⟩:=hrel
    by_cases S:k<n
    ·have t:k<ps.length:=by have:=V.out;omega
     obtain⟨b1,o1,rfl,J⟩:=(ha.below s).at t;obtain⟨g1,R⟩:=J k t;have B:=hid (show Kn (ps.getD k (0,0))=decide ((-1000<=(ps.getD k (0,0)).1/\(ps.getD k (0,0)).1<=1000)/\ -1000<=(ps.getD k (0,0)).2/\(ps.getD k (0,0)).2<=1000)from rfl);have G:=hid (HH.out k t);obtain⟨x,e1⟩:=E7 ((ps.getD k (0,0)).1);obtain⟨y,e2⟩:=E7 ((ps.getD k (0,0)).2);rw[<-e1]at g1 B;rw[<-e2]at R B;clear J e1 e2 t;have I:=fun w=>AeB x w
     have O:=fun w=>AeB y w
     have f:=s.alloc s.size (.cells #[int i64 x,int i64 y] 335)
     cases r:AfX x with
     | true=>
      have F:=hid (D.out false (G.out (by rw[B.out];have:=AQ r;exact Ae (by omega))));simp only[r]at I;clear r B G
      go_wp2_with(go_at_call 263;refine(I _).mono ?_;rintro e w1 ⟨rfl,rfl⟩);go_ret;exact⟨Fs F.out,f⟩
     | false=>
      simp only[r]at I;have N:=EF r
      cases u:AfX y with
      | true=>
       have F:=hid (D.out false (G.out (by rw[B.out];have:=AQ u;exact Ae (by omega))));simp only[u]at O;clear r u B G N
       go_wp2_with(go_at_call 263;first | (refine(I _).mono ?_;rintro e w1 ⟨rfl,rfl⟩) | (refine(O _).mono ?_;rintro e w1 ⟨rfl,rfl⟩));go_ret;exact⟨Fs F.out,f⟩
      | false=>
       simp only[u]at O;have T:=EF u;have U:Hid (Am0 ps (k+1)):=fun j hj=>by
        by_cases e:j=k
        ·subst e;rw[B.out];exact Ag (by omega)
        ·exact K.out j (by omega)
       have H:=hid S;clear r u B G N T
       go_wp2_with(go_at_call 263;first | (refine(I _).mono ?_;rintro e w1 ⟨rfl,rfl⟩) | (refine(O _).mono ?_;rintro e w1 ⟨rfl,rfl⟩))
       go_roundw
       case rel=>
        have:=H.out
        first | exact⟨k+1,by omega,by go_num,U,f⟩ | ((repeat apply Exists.intro);exact⟨⟨k+1,by omega,by go_num,U,f⟩,by rw[P.out];rfl⟩)
       case measure=>
        have:=H.out;simp[intOf];omega
    ·have F:=hid (D.out true (Aih (k:=k) (by have:=V.out;omega) K.out));go_wp2;go_ret;exact⟨Fs F.out,s⟩
  ·have D:=hid (show 1=Qr ps order by unfold Qr IR;grind);obtain⟨n,C⟩:=E7 ps.length;rw[<-C]at W hz;rw[<-C];clear C l E M;have L:=A.symm;clear A;go_enter func234,ntmps234
   go_wp2_with(go_at_call 231;refine d.mono ?_;rintro e w1 ⟨rfl,rfl⟩);go_ret;exact⟨Fs D.out,Ad _ _⟩
 ·have l:PW order=false:=Ae E;rw[show Nm order=1 by unfold Nm;rw[l];rfl]at d;have D:=hid (show 1=Qr ps order by unfold Qr IR;rw[l];rfl);clear E l;go_enter func234,ntmps234
  go_wp2_with(go_at_call 231;refine d.mono ?_;rintro e w1 ⟨rfl,rfl⟩);go_ret;exact⟨Fs D.out,Ad _ _⟩
theorem Age(ps:List (Int×Int))(h o n N:Nat)(a:Option Addr)(c:Nat)(w:World)(hp:Pts w a ps)(h1:1<=h)(hh:h<=3)(ho:o=2*h)(hn:ps.length=n)(hN:N=n*o)(bi:N<=4096)(az:IR ps o=true):
 Calls prog 198 #[slice a n c,int i64 o] w fun e w'=>∃g,e=.returned (.tuple #[slice (some ⟨g,0,none⟩) N N,int i64 0])/\OwnI w' w.heap.size (slice (some ⟨g,0,none⟩) N N) (Jg (IE h) h ps n)/\Below w.heap.size w w':=by
 have bl:n<=4096:=by
  have:n*1<=n*o:=DZ _ (by omega);omega
 have S:=Acg ps o a c w hp (by omega);rw[show Qr ps o=0 by unfold Qr;rw[az];rfl,hn]at S;have bb:∀k,k<ps.length->Kn (ps.getD k (0,0))=true:=fun k hk=>by
  grind [IR]
 have T:=fun w=>TU h (2 ^ h) w h1 hh rfl
 obtain⟨N8,eN⟩:=E7 (2 ^ h);rw[<-eN]at T;have am:=hid eN;have HL:=hid hn;have HO:=hid ho;have HN:=hid hN;have bm:(o:Int).tdiv 2=h:=by grind
 have bg:(o:Int) / 2=h:=by rw[ho];omega
 have ay:(n:Int)*(o:Int)=(N:Int):=by rw[hN,CE]
 have an:Enters prog 235:=enters_of func235 (by kernel_rfl) rfl;have ax:prog.follows .mixedOrders=true:=by kernel_rfl
 clear eN hn ho hN az;go_enter func198,ntmps198
 go_wp2_with(first
  | (go_at_call 234;refine S.mono ?_;rintro e w1 ⟨rfl,ag⟩)
  | (go_at_call 232;refine(T _).mono ?_;rintro e w2 ⟨gL,rfl,P,bj,E⟩)
  | (refine ST N rfl _ _ rfl _ rfl rfl (by first | rfl | exact ay) (by omega) ?_;intro w3 H Y))
 obtain⟨G,eG⟩:=E7 w2.heap.size;rw[<-eG]at H Y;rw[<-eG];have X:w.heap.size<=G:=by rw[eG];exact Ak ag.size E.size
 have aq:gL<G:=by rw[eG];exact P.lt
 have ae:=P.below Y aq;have J:Below w.heap.size w w3:=(Fr ag E).trans (Y.mono X);clear eG S T P Y E ag
 go_loopw [9,30] (fun s q wr=>∃k m:Nat,k<=n/\q=int i64 k/\Hid (m=k*o)/\s=slice (some ⟨G,0,none⟩) m N/\OwnI wr G (slice (some ⟨G,0,none⟩) m N) (Jg (IE h) h ps k)/\Kept [G] w3 wr) (fun _ q _=>n-(intOf q).toNat)
 case atStart=>exact⟨0,0,Af _,rfl,by unfold Hid;omega,rfl,by simpa [Jg]using H,Kept.refl _ _⟩
 case round=>
  clear H;obtain⟨k,m,hk,rfl,HM,rfl,f,d⟩:=hrel
  by_cases av:k<n
  ·have C:k<ps.length:=by rw[HL.out];exact av
   have ak:=hid av;have I:=hid (Vj (F:=IE h) (h:=h) C);have Z:Below w.heap.size w wr:=J.trans (d.below (B:=w.heap.size) J.size (by simpa using X));obtain⟨b1,o1,rfl,ao⟩:=(hp.below Z).at C;obtain⟨g1,a7⟩:=ao k C;have aa:=AQ (bb k C);have a2:Hid (∀t,t<h->m+2*t+2<=N):=fun t ht=>by
    have e1:=HM.out;have e2:=HN.out;have e3:=HO.out;have:(k+1)*o<=n*o:=BM _ (by omega);rw[CD]at this;omega
   obtain⟨A,eA⟩:=E7 (Jg (IE h) h ps k);rw[<-eA]at f I;obtain⟨x,e1⟩:=E7 ((ps.getD k (0,0)).1);obtain⟨y,e2⟩:=E7 ((ps.getD k (0,0)).2);rw[<-e1]at g1 aa I;rw[<-e2]at a7 aa I;have bh:G<wr.heap.size:=f.block.2;have U:=f.below ((Ad wr.heap.size wr).alloc (Ac _) (.cells #[int i64 x,int i64 y] 335));have au:=d.trans (Kept.E5 ((Ad wr.heap.size wr).alloc (Ac _) (.cells #[int i64 x,int i64 y] 335)));have cx:(wr.alloc (.cells #[int i64 x,int i64 y] 335)).cell? ⟨wr.heap.size,0,none⟩=some (int i64 x):=by rw[Al _ _ _ _ _ _ (Am wr _)];rfl
   have cy:(wr.alloc (.cells #[int i64 x,int i64 y] 335)).cell? ⟨wr.heap.size,1,none⟩=some (int i64 y):=by rw[Al _ _ _ _ _ _ (Am wr _)];rfl
   clear ao eA e1 e2 C f d Z;go_wp2;generalize wr.alloc (.cells #[int i64 x,int i64 y] 335)=wp at*;generalize wr.heap.size=gP at*
   go_loopw [9,12] (fun s q ws=>∃(t V:Nat) (z:Int),t<=h/\Hid (z=(h:Int)-1-t)/\q=int i64 z/\Hid (V=m+2*t)/\s=slice (some ⟨G,0,none⟩) V N/\OwnI ws G (slice (some ⟨G,0,none⟩) V N) (A++KC (IE h x) (IE h y) h t)/\Kept [G] wp ws) (fun _ q _=>(intOf q+1).toNat)
   case atStart=>exact⟨0,m,_,Af _,by unfold Hid;omega,rfl,by unfold Hid;omega,rfl,by simpa [KC]using U,Kept.refl _ _⟩
   case round=>
    clear U;obtain⟨t,V,z,ht,HZ,rfl,al,rfl,f,d⟩:=hrel
    by_cases aj:t<h
    ·obtain⟨W,ez⟩:∃W:Nat,z=(W:Int):=⟨z.toNat,by have:=HZ.out;omega⟩;subst ez;have a0:W<h:=by have:=HZ.out;omega
     have a3:=hid (show h-1-t=W by have:=HZ.out;omega);have a4:=hid aj;have ap:V+2<=N:=by rw[al.out];exact a2.out t aj
     have qx:=d.AmI cx (by simp;omega);have qy:=d.AmI cy (by simp;omega);have R:=ae.kept (au.trans d) (by simp;omega);have f0:=fun wc ad=>Sj h N8 gL W x wc hh am.out a0 aa.1 ad
     have f1:=fun wc ad=>Sj h N8 gL W y wc hh am.out a0 aa.2 ad
     have ac:=hid (QO (IE h x) (IE h y) h t);rw[a3.out]at ac;generalize IE h x W=y0 at*;generalize IE h y W=y1 at*;clear aj;go_upto_region 13 with fail
     refine Bi (AaU 14 12 11 [(40,slice (some ⟨G,0,none⟩) V N),(41,slice (some ⟨gL,0,none⟩) N8 N8),(42,.pointer (some ⟨gP,0,none⟩)),(43,int i64 x),(44,int i64 W),(45,int i64 y0),(46,slice (some ⟨gL,0,none⟩) N8 N8),(47,.pointer (some ⟨gP,1,none⟩)),(48,int i64 y),(49,int i64 W),(50,int i64 y1)] 51 []
      [[9],[8],[11],[42],[12],[41,43,44],[8],[11],[47],[12],[46,48,49],[45,50]] [12,5,3,5,5,11,10,8,10,10,11,12] (fun u w=>Two i64 y0 y1 u w) wr _ 52 9 (slice (some ⟨G,0,none⟩) (V+2) N) (fun w'=>OwnI w' G (slice (some ⟨G,0,none⟩) (V+2) N) ((A++KC (IE h x) (IE h y) h t)++[y0,y1])/\Kept [G] wr w') ax rfl rfl rfl rfl (show([40,41,42,43,44,45,46,47,48,49,50,51]:List Nat).Nodup by decide) (by kernel_rfl) (by kernel_rfl) (by kernel_rfl) (by kernel_rfl) (by kernel_rfl) (by kernel_rfl) (fun _ _ _ h hg=>h.grow hg) rfl rfl rfl rfl (AQ (by kernel_rfl))
      (fun O bk u0 a wc M D Q K a9 L=>by
       have a8:O=0\/O=1\/O=2\/O=3\/O=4\/O=5\/O=6\/O=7\/O=8\/O=9\/O=10\/O=11:=by omega
       have l:=Nf wc;have a5:=(M.cell (Aj wr _ qx)).trans qx;have a6:=(M.cell (Aj wr _ qy)).trans qy;have ab:=R.below M R.lt
       rcases a8 with rfl | rfl | rfl | rfl | rfl | rfl | rfl | rfl | rfl | rfl | rfl | rfl
       ·exact E6 rfl rfl (Fd wc rfl (D 9 (by decide))) (L (by decide) wc l)
       ·exact E6 rfl rfl (Fd wc rfl (D 8 (by decide))) (L (by decide) wc l)
       ·exact E6 rfl rfl (Aa8 wc rfl (D 11 (by decide))) (L (by decide) wc l)
       ·exact E6 rfl rfl (F5 wc rfl (D 42 (by decide)) a5) (L (by decide) wc l)
       ·exact E6 rfl rfl (Fd wc rfl (D 12 (by decide))) (L (by decide) wc l)
       ·refine Oo rfl rfl rfl an (by simp only[Ca,Be,BE];rw[D 41 (by decide),D 43 (by decide),D 44 (by decide)];rfl) (f0 wc ab) fun e w' ai=>?_
        obtain⟨rfl,af⟩:=ai;exact⟨_,rfl,L (by decide) w' (AcH af)⟩
       ·exact E6 rfl rfl (Fd wc rfl (D 8 (by decide))) (L (by decide) wc l)
       ·exact E6 rfl rfl (Aa9 wc rfl (D 11 (by decide))) (L (by decide) wc l)
       ·exact E6 rfl rfl (F5 wc rfl (D 47 (by decide)) a6) (L (by decide) wc l)
       ·exact E6 rfl rfl (Fd wc rfl (D 12 (by decide))) (L (by decide) wc l)
       ·refine Oo rfl rfl rfl an (by simp only[Ca,Be,BE];rw[D 46 (by decide),D 48 (by decide),D 49 (by decide)];rfl) (f1 wc ab) fun e w' ai=>?_
        obtain⟨rfl,af⟩:=ai;exact⟨_,rfl,L (by decide) w' (AcH af)⟩
       ·exact E6 rfl rfl (Aa5 wc rfl (D 45 (by decide)) (D 50 (by decide))) (a9 rfl _ _ (ZF wc _) (Amv i64 y0 y1 wc _)))
      (fun u0 wc M be Q K L=>AjD rfl rfl rfl (Fj 40 (show([40,41,42,43,44,45,46,47,48,49,50,51]:List Nat).Nodup by decide) (by kernel_rfl)) (Fj 51 (show([40,41,42,43,44,45,46,47,48,49,50,51]:List Nat).Nodup by decide) (by kernel_rfl)) (f.below M) be ap fun w' bd ba=>L w' ⟨bd,(Kept.E5 M).trans (AcV ba)⟩)) ?_
     rintro e a' w' ⟨rfl,⟨u0,rfl⟩,ah,ar⟩;rw[Bg,<-ac.out]at ah;have r:=d.trans ar;clear f d ar qx qy R f0 f1 ac;dsimp only[Ft,List.set,List.append_nil,List.cons_append,List.nil_append];go_wp2
     go_roundw
     case rel=>
      have:=a4.out
      grind
     case measure=>simp[intOf]
    ·have a1:t=h:=by omega
     have bf:z= -1:=by have:=HZ.out;omega
     subst bf;rw[a1,<-I.out]at f;have aw:Hid (V=(k+1)*o):=by
      unfold Hid;have e1:=HM.out;have e2:=al.out;have e3:=HO.out;rw[CD,Nat.one_mul];omega
     have r:=au.trans d;clear a1 d;go_wp2
     go_roundw
     case rel=>
      have:=ak.out
      first | exact⟨k+1,V,by omega,by go_num,aw,rfl,f,r⟩ | ((repeat apply Exists.intro);exact⟨⟨k+1,V,by omega,by go_num,aw,rfl,f,r⟩,rfl⟩)
     case measure=>
      have:=ak.out;simp[intOf];omega
  ·obtain rfl:k=n:=by omega
   have bc:m=N:=by rw[HM.out,HN.out]
   subst bc;have Z:Below w.heap.size w wr:=J.trans (d.below (B:=w.heap.size) J.size (by simpa using X));clear d;go_wp2
   go_ret2;exact⟨G,rfl,f.mono X,Z⟩
def XW (h order:Nat)(p:Int×Int):Nat->Nat
 | 0=>0
 | j+1=>if Oa p (ptM h ((FI order).getD j []))<Oa p (ptM h ((FI order).getD (XW h order p j) [])) then j else XW h order p j
theorem AmT(z:Int):0<=z*z:=by
 have c:z*z=(z.natAbs*z.natAbs:Nat):=by rw[DX]
 omega
theorem Alr(p q:Int×Int):0<=Oa p q:=by
 have c:=AmT (p.1-q.1);have d:=AmT (p.2-q.2);unfold Oa;omega
theorem Apd(h order:Nat)(p:Int×Int):∀j k,k<j->Oa p (ptM h ((FI order).getD (XW h order p j) []))<=Oa p (ptM h ((FI order).getD k [])):=by intro a;induction a<;>grind [Oa,ptM,FI,XW]
theorem PE(h order:Nat)(p:Int×Int)(k:Nat)(x:Int):∀j,(∀i,i<j->((FI order).getD i []).getD k 0=x->0<=Kc h order p k x j/\Kc h order p k x j<=Oa p (ptM h ((FI order).getD i [])))/\(Kc h order p k x j= -1\/∃i,i<j/\((FI order).getD i []).getD k 0=x/\Kc h order p k x j=Oa p (ptM h ((FI order).getD i []))):=by intro a;induction a<;>grind [FI,Kc,Oa,ptM,Alr]
theorem U1{c:List Int}(h:c.length=order)(d:∀x∈c,x=0\/x=1):∃i,i<2 ^ order/\(FI order).getD i []=c:=by
 have f:c∈FI order:=List.count_pos_iff.1 (by rw[AbP h d];omega);obtain⟨i,hi,e⟩:=A5 f;exact⟨i,by rw[<-Vw order];exact hi,by simp[List.getD,hi,e]⟩
theorem Ael(d:k<order)(x:Int)(f:x=0\/x=1):∃i,i<2 ^ order/\((FI order).getD i []).getD k 0=x:=by
 obtain⟨i,hi,e⟩:=U1 (order:=order) (c:=List.replicate order x) (by simp) (fun y l=>by grind)
 grind
theorem YW(p:Int×Int)(c:k<order)(x:Int)(d:x=0\/x=1):∃i,i<2 ^ order/\((FI order).getD i []).getD k 0=x/\Kc h order p k x (2 ^ order)=Oa p (ptM h ((FI order).getD i [])):=by
 obtain⟨i,hi,e⟩:=Ael c x d
 grind [PE]
end Go.Proofs.YtbjgfoiikhbonahGreatDoor
