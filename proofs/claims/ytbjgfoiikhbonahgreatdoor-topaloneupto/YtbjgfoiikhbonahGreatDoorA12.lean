import Derived.Test.YtbjgfoiikhbonahGreatDoorA11
set_option linter.unusedVariables false
set_option linter.unusedSimpArgs false
set_option maxRecDepth 100000
set_option maxHeartbeats 4000000
namespace Go.Proofs.YtbjgfoiikhbonahGreatDoor
open Go.ChangeShapes Go.WideShapes Go.ChangeAt Go.RowKit Go.Shelf Go.Proofs.Tryz
open Value renaming int->C,slice->H,pointer->J
open Option renaming none->E,some->I
open Obj renaming cells->O
open Ending renaming returned->U
open Go renaming World->V
open IntKind renaming i64->d
variable {B B0 N b g:Nat}{L s:List Int}{S:Setg}{o:Oper}{p:Addr}{r:List Value}{t:TypeId}{w w':V}{x:Operand}{ρ:Operand->Value}
attribute [local go_sem] Da
theorem Afs{u:Value}(h:Boxed w B t u)(a:Below w.heap.size w w'):Boxed w' B t u:=(a.block B h.lt).trans h
theorem Ajb{S:List Nat}{W:V}(h:Kept S w W){D:Nat}(c:w.heap.size<=D)(o:Obj):Kept S w (W.putObj D o):=
 ⟨h.os,h.tape,h.output,by have:=h.size;simp only[World.putObj,DU];omega,fun i hi a=>(World.putObj_heap_other (by omega)).trans (h.block i hi a)⟩
theorem Aid(a:Option Addr)(m n c v:Nat)(xs:List Int)(hC:Col w)(bi:b≠g)(a0:BoxR w b t r (H (I ⟨g,0,E⟩) n n))(hg:ArrAt d 3 w g s)
 (an:s.length=n) (h1:1<=n) (hn:n<=4096) (hs:Fy s=true) (ha:Rd d w a xs) (a4:Fy xs=true) (a3:xs.length=m) (hm:m<=4096) (hv:v<=3) (G:List Int) (HG:Hid (JW n v xs s (List.range m)=G)):
 Calls prog 199 #[J (I ⟨b,0,E⟩), H a m c, C d v] w fun e w'=>
  (Fy G=true->e= U (C d 0)/\(∃k,w.heap.size<=k/\BoxR w' b t r (H (I ⟨k,0,E⟩) n n)/\ArrAt d 3 w' k G)/\Kept [b] w w')/\
  (Fy G=false->e= U (C d 2)/\Below w.heap.size w w'):=by
 have ad:Below w.heap.size w (w.alloc (O #[H a m c] 74)):=(Ad _ w).alloc (Ac _) _;have bS:=Boxed.new w 74 (H a m c);have a1:=MH xs a c (w.alloc (O #[H a m c] 74)) (ha.below ad) (by unfold maxLen;omega);rw[a3,show Gv xs=0 by unfold Gv;rw[a4];rfl]at a1;have a2:=Kh (v:Int) (w.alloc (O #[H a m c] 74));rw[show Ku (v:Int)=0 by unfold Ku;rw[show LO (v:Int)=true from Ag (by omega)];rfl]at a2;have T:=Abu (t:=t) (r:=r) (w:=w.alloc (O #[H a m c] 74)) (p:=⟨b,0,E⟩) (S:=[b,g]) (s:=s) ⟨b,g,rfl,rfl,bi,by rw[an];exact a0.old ad,hg.below ad hg.lt⟩ (by omega) (by omega);rw[an]at T;have d2:decide ((4096:Int)<(m:Int))=false:=Ae (by omega);have a6:=hid a3;have a5:=hid an;have cS:=bS.cell;clear a3 an;refine(Bw (n:=3)).1 ?_;refine callsIn_of_wp_marks func199 rfl trivial ?_ rfl;simp only[ntmps199,A8,AE,Bs,Nat.reduceAdd,Nat.reduceSub,Cz,CA,CB,CC,AK,AT]
 gi_wp2_with (first
  | (refine⟨trivial,?_⟩;gi_at_call 236;refine(Bw.2 a1).mono ?_;rintro e w' ⟨rfl,rfl⟩)
  | (refine⟨trivial,?_⟩;gi_at_call 227;refine(Bw.2 a2).mono ?_;rintro e w' ⟨rfl,rfl⟩)
  | (refine⟨trivial,?_⟩;gi_at_call 237;refine(Bw.2 T).mono ?_;rintro e w2 ⟨k,rfl,ae,bg,ak⟩;have aw:=Afs bS ak;have bf:=(aw.alloc (O #[H (I ⟨k,0,E⟩) n n] 74)).cell)
  | (refine⟨trivial,?_⟩;gi_at_call 228;refine(AaZ 2 n v m _).mono ?_;rintro e w' ⟨rfl,rfl⟩))
 have bt:w.heap.size+1<=w2.heap.size:=by have:=ak.size;rwa [Ax]at this
 have bp:w.heap.size+1<=k:=by rwa [Ax]at bg
 have bq:=ae.lt;have aq:Below w.heap.size w w2:=ad.trans (ak.mono (by simp));have bP:=Boxed.new w2 74 (H (I ⟨k,0,E⟩) n n);obtain⟨M, ab⟩ := E7 (w2.alloc (O #[H (I ⟨k,0,E⟩) n n] 74));have be:M.heap.size=w2.heap.size+1:=by rw[ab];simp
 have a7:Boxed M w.heap.size 74 (H a m c):=by rw[ab];exact aw.alloc _
 have ap:ArrAt d 3 M k s:=by rw[ab];exact ae.alloc _
 have ag:Below w.heap.size w M:=by rw[ab];exact aq.alloc (by omega) _
 rw[<-ab]at bP;rw[<-ab,<-be];obtain⟨w4, R⟩ := E7 (((M.alloc (O #[C d n] 3)).alloc (O #[C d v] 3)).alloc (O #[C d m] 3));have b1:Boxed w4 M.heap.size 3 (C d n):=by rw[R];exact((Boxed.new M _ _).alloc _).alloc _
 have b2:Boxed w4 (M.heap.size+1) 3 (C d v):=by rw[R];have:=(Boxed.new (M.alloc (O #[C d n] 3)) 3 (C d v)).alloc (O #[C d m] 3);rwa [Ax]at this
 have b3:Boxed w4 (M.heap.size+2) 3 (C d m):=by rw[R];have:=Boxed.new ((M.alloc (O #[C d n] 3)).alloc (O #[C d v] 3)) 3 (C d m);rwa [Ax,Ax]at this
 have ax:Boxed w4 w.heap.size 74 (H a m c):=by rw[R];exact((a7.alloc _).alloc _).alloc _
 have av:Boxed w4 w2.heap.size 74 (H (I ⟨k,0,E⟩) n n):=by rw[R];exact((bP.alloc _).alloc _).alloc _
 have af:ArrAt d 3 w4 k s:=by rw[R];exact((ap.alloc _).alloc _).alloc _
 have al:Below w.heap.size w w4:=by rw[R];exact((ag.alloc ag.size _).alloc (by simp;have:=ag.size;omega) _).alloc (by simp;have:=ag.size;omega) _
 have bj:w4.heap.size=M.heap.size+3:=by rw[R];simp
 rw[<-R];have br:w2.heap.size<M.heap.size:=by omega
 have bs:M.heap.size<w4.heap.size:=by omega
 clear be bj ab R aw bP ae ak a7 ap ag ad bf cS bS a1 a2 T d2 aq;refine wpIn_rangeFunc_ownG rfl (by decide) (gf:=256) (lb:=#[J (I ⟨M.heap.size,0,E⟩), J (I ⟨M.heap.size+1,0,E⟩), J (I ⟨M.heap.size+2,0,E⟩)]) rfl trivial (enters_of func256 (by kernel_rfl) rfl)
  (Sz n v m h1 hn hv hm M.heap.size (M.heap.size+1) (M.heap.size+2) [k] w4 (hC.later al) b1.cell b2.cell b3.cell (by simp;omega) (by simp;omega)) KeptC.trans XK (Ad _ _) (fun _=>rfl)
  (fun pre W=>Boxed W w.heap.size 74 (H a m c)/\Boxed W w2.heap.size 74 (H (I ⟨k,0,E⟩) n n)/\ArrAt d 3 W k (JW n v xs s (pre.map Fin.val))/\Below w.heap.size w W)
  (fun _ _ _=>False)
  (fun pre X Y row hs hg F=>⟨Zaa hs.1 hg F,Zaa hs.2.1 hg F,Zaa hs.2.2.1 hg F,hs.2.2.2.grown hg hs.2.2.2.size (fun j e=>by have:=(F j e).1;omega)⟩)
  (fun _ _ _ _ _ hs _ _=>hs)
  ⟨ax,av,af,al⟩
  (fun x=>{tmps:=#[J (I ⟨b,0,E⟩), H a m c, C d v,undef, J (I ⟨w.heap.size,0,E⟩),undef, C d 0, C d 0, C d 0, J (I ⟨w2.heap.size,0,E⟩), C d (x.val:Int), C d ((Gi n v x.val:Nat):Int), H a m c, C d 0, C d 0,.bool false,undef, H a m c, C d m,.bool false, C d v, C d 0, C d 0,.bool false,undef, J (I ⟨b,0,E⟩), H (I ⟨k,0,E⟩) n n, H (I ⟨k,0,E⟩) n n, C d n, C d v, H a m c, C d m,.func (.func 256) #[] #[J (I ⟨M.heap.size,0,E⟩), J (I ⟨M.heap.size+1,0,E⟩), J (I ⟨M.heap.size+2,0,E⟩)], C d (x.val:Int), C d ((Gi n v x.val:Nat):Int),undef,undef,undef,undef,undef,undef,undef,undef,undef,undef,undef,undef,undef,undef,undef,undef,undef],defers:=[]}) ?assign ?body ?done ?stop
 case assign=>
  intro l x W K hK;unfold AiK
  gi_wp2
  exact hK
 case body=>
  rintro l pre ⟨x,hx⟩ W ⟨bS,bP,aa,hB⟩ bh;dsimp only;have am:=Aay (n:=n) (v:=v) (i:=x) h1;obtain⟨bx,ox,rfl,ba⟩:=(ha.below hB).at (i:=x) (by rw[a6.out];exact hx);have g1:=ba x (by rw[a6.out];exact hx);have cC:=bS.cell;have cP:=bP.cell;have HF:=hid ((Qx n v xs (pre.map Fin.val) s).trans a5.out);have g2:=aa.cell (j:=Gi n v x) (by rw[HF.out];exact am);have bb:=aa.free (Gi n v x);have HS:=hid (TI n v xs s (pre.map Fin.val) x);have ao:=AiU n v hs a4 (pre.map Fin.val) (Gi n v x);rw[Bo]at ao;have bm:=O8 a4 x;obtain⟨pk, ay⟩ := E7 (Gi n v x);rw[<-ay]at am g2 HS bb ao;obtain⟨z, ez⟩ := E7 (xs.getD x 0);rw[<-ez]at g1 HS bm;obtain⟨y, ey⟩ := E7 ((JW n v xs s (pre.map Fin.val)).getD pk 0);rw[<-ey]at g2 HS ao;have bn: -409700000<=y/\y<=409700000:=by omega
  rw[<-ay];have ai:=aa.set pk (y+z);rw[<-HS.out]at ai;have aj:ArrAt d 3 (W.setCell ⟨k,pk,E⟩ (C d (y+z))).drew k (JW n v xs s ((pre++[(⟨x,hx⟩:Fin m)]).map Fin.val)):=by rw[AR];exact ai
  have ar:KeepsFrom w4.heap.size W (W.setCell ⟨k,pk,E⟩ (C d (y+z))).drew/\KeptC [k] W (W.setCell ⟨k,pk,E⟩ (C d (y+z))).drew/\Boxed (W.setCell ⟨k,pk,E⟩ (C d (y+z))).drew w.heap.size 74 (H (I ⟨bx,ox,E⟩) m c)/\Boxed (W.setCell ⟨k,pk,E⟩ (C d (y+z))).drew w2.heap.size 74 (H (I ⟨k,0,E⟩) n n)/\ArrAt d 3 (W.setCell ⟨k,pk,E⟩ (C d (y+z))).drew k (JW n v xs s ((pre++[(⟨x,hx⟩:Fin m)]).map Fin.val))/\Below w.heap.size w (W.setCell ⟨k,pk,E⟩ (C d (y+z))).drew:=
   ⟨((KeepsOthers.setCell _ _ _).trans (TO _)).from _,(KeptC.setCell _ (by simp) _).drew,LW bS (by simp;omega) _,LW bP (by simp;omega) _,aj,(hB.setCell (p:=⟨k,pk,E⟩) (by simp;omega) _).drew⟩
  have bd:prog.follows .mixedOrders=true:=by kernel_rfl
  clear ba ay ez ey ai aj HS aa HF ao bS bP hB bh ax av af al ha
  gi_wp2
  refine wpIn_mono (Q:=fun e _ w'=>e=.normal/\w'=(W.setCell ⟨k,pk,E⟩ (C d (y+z))).drew) ?_ ?_
  ·clear ar;have bk:IntKind.i64.wrap (y+z)=y+z:=by rw[AO];omega
   refine QT 10 35 [H (I ⟨k,0,E⟩) n n, C d (pk:Int), J (I ⟨k,0+pk,E⟩), C d y, H (I ⟨bx,ox,E⟩) m c, C d (x:Int), J (I ⟨bx,ox+x,E⟩), C d z, C d (y+z), J (I ⟨k,0+pk,E⟩)]
    [[],[],[0,1],[2],[],[],[4,5],[6],[3,7],[0,1]] _ W bd rfl (by simp) (by kernel_rfl) (by kernel_rfl) (by kernel_rfl) ?_ ?_
   ·intro i hi ac hu hs K hK;have bc:i=0\/i=1\/i=2\/i=3\/i=4\/i=5\/i=6\/i=7\/i=8\/i=9:=by omega
    rcases bc with rfl | rfl | rfl | rfl | rfl | rfl | rfl | rfl | rfl | rfl
    ·exact FP rfl rfl (fun c h=>by cases h) rfl (UE _ rfl (hs 9 (by omega)) cP) hK
    ·exact FP rfl rfl (fun c h=>by cases h) rfl (Fd _ rfl (hs 11 (by omega))) hK
    ·exact FP rfl rfl (fun c h=>by cases h) rfl (OB _ rfl (hu 0 (by decide)) (hu 1 (by decide)) am) hK
    ·exact FP rfl rfl (fun c h=>by cases h) rfl (F5 _ rfl (hu 2 (by decide)) (by rw[Ao];exact g2)) hK
    ·exact FP rfl rfl (fun c h=>by cases h) rfl (UE _ rfl (hs 4 (by omega)) cC) hK
    ·exact FP rfl rfl (fun c h=>by cases h) rfl (Fd _ rfl (hs 10 (by omega))) hK
    ·exact FP rfl rfl (fun c h=>by cases h) rfl (OB _ rfl (hu 4 (by decide)) (hu 5 (by decide)) hx) hK
    ·exact FP rfl rfl (fun c h=>by cases h) rfl (F5 _ rfl (hu 6 (by decide)) g1) hK
    ·exact FP rfl rfl (fun c h=>by cases h) rfl (Aj0 _ rfl (hu 3 (by decide)) (hu 7 (by decide)) bk) hK
    ·exact FP rfl rfl (fun c h=>by cases h) rfl (OB _ rfl (hu 0 (by decide)) (hu 1 (by decide)) am) hK
   ·intro ac hu hs;exact Wj rfl rfl (fun c h=>by cases h) rfl (UG _ rfl (hu 9 (by decide)) (hu 8 (by decide)) (by rw[Ao];exact g2) (by rw[Ao];exact bb)) ⟨rfl,by rw[Ao];rfl⟩
  ·rintro e a' w' ⟨rfl,rfl⟩;exact ar
 case done=>
  rintro D ys W hD bl ⟨bS,bP,aa,hB⟩ hK;rw[bl,HG.out]at aa;have cP:=bP.cell;have a8:=hid ((congrArg List.length HG.out).symm.trans ((Qx n v xs (List.range m) s).trans a5.out));have ah:=MH G (I ⟨k,0,E⟩) n W (ArrAt.rd (A:=[]) (Z:=[]) (by simpa using aa) rfl) (by rw[a8.out];unfold maxLen;omega);rw[a8.out]at ah;have az:=a0.old hB;have cB:=az.cell;have fB:=az.frozen;have bo:=a0.lt;clear ax av af al b1 b2 b3
  cases T:Fy G with
  | true=>
   rw[show Gv G=0 by unfold Gv;rw[T];rfl]at ah;have au:=hid T;clear T
   gi_wp2_with (first | (refine⟨trivial,?_⟩;gi_at_call 236;refine(Bw.2 ah).mono ?_;rintro e w' ⟨rfl,rfl⟩))
   have a9:(W.setCell ⟨b,0,E⟩ (H (I ⟨k,0,E⟩) n n)).heap[D]?=I (.deferred (I [])):=(KeepsOthers.setCell W _ _).same D _ hK rfl;have F:∀r,I D=I r->0<=r/\∃o:Obj,(W.setCell ⟨b,0,E⟩ (H (I ⟨k,0,E⟩) n n)).heap[r]?=I o/\o.isCells=false:=fun r e=>by cases e;exact⟨Af _,_,a9,rfl⟩
   refine⟨by simp,.inl ⟨_,_,rfl,run_takeDeferred a9,?_⟩⟩;exact⟨_,D2 rfl _ _ _,fun _=>⟨rfl,⟨k,by omega,Zaa (az.set _) (grownBy_putObj' _ D (.deferred E)) F,Zaa (aa.other ⟨b,0,E⟩ _ (by simp;omega)) (grownBy_putObj' _ D (.deferred E)) F⟩,Ajb ((Kept.E5 hB).setCell (p:=⟨b,0,E⟩) (by simp) _) (by omega) _⟩,fun h=>by rw[au.out]at h;cases h⟩
  | false=>
   rw[show Gv G=1 by unfold Gv;rw[T];rfl]at ah;have au:=hid T;clear T
   gi_wp2_with (first | (refine⟨trivial,?_⟩;gi_at_call 236;refine(Bw.2 ah).mono ?_;rintro e w' ⟨rfl,rfl⟩))
   refine⟨by simp,.inl ⟨_,_,rfl,run_takeDeferred hK,?_⟩⟩;exact⟨_,D2 rfl _ _ _,fun h=>(by rw[au.out]at h;cases h),fun _=>⟨rfl,hB.trans (belowK_b (w:=w) (Ac _) W D _ _ (by omega) hK rfl rfl)⟩⟩
 grind
theorem Ak4{S:List Nat}(a:Option Addr)(c:Nat)(xs:List Int)(v:Int)(hC:Col w)(z:BufR t r w p S s)(h1:1<=s.length)(hn:s.length<=4096)(hs:Fy s=true)(X:Rd d w a xs)(hz:xs.length<=maxLen):
 Calls prog 199 #[J (I p), H a xs.length c, C d v] w fun e w'=>∃S',e= U (C d (Iw s xs v))/\BufR t r w' p S' (Qk s xs v)/\(∀x∈S',x∈S\/w.heap.size<=x)/\Kept [p.block] w w':=by
 cases ht:OD xs v with
 | false=>
  refine(Ak5 a c xs v X hz ht).mono fun e w' h=>?_
  obtain⟨rfl,Y⟩:=h;refine⟨S,by unfold Iw;rw[ht];rfl,?_,fun x Q=> .inl Q,Kept.E5 Y⟩;have m:Qk s xs v=s:=by unfold Qk;rw[ht];rfl
  rw[m];exact z.kept (Kept.E5 (S:=[]) Y) (fun x _=>by simp)
 | true=>
  obtain⟨b,g,rfl,rfl,F,n,hg⟩:=id z;obtain⟨T,R,y⟩:Fy xs=true/\xs.length<=4096/\LO v=true:=by
   have K:=ht;unfold OD at K
   grind
  obtain⟨j,rfl,M⟩:∃j:Nat,v=(j:Int)/\j<=3:=by
   unfold LO at y;simp at y;exact⟨v.toNat,by omega,by omega⟩
  have hG:JW s.length j xs s (List.range xs.length)=GV s xs (j:Int):=Se s.length j xs s xs.length xs.length (Ac _);refine(Aid a xs.length s.length c j xs hC F n hg rfl h1 hn hs X T rfl R M (GV s xs (j:Int)) hG).mono fun e w' h=>?_
  obtain⟨hy,G⟩:=h
  cases i:Fy (GV s xs (j:Int))with
  | true=>
   obtain⟨rfl,⟨W,aa,k,D⟩,hk⟩:=hy i;have m:Qk s xs (j:Int)=GV s xs (j:Int):=by unfold Qk;rw[ht,i];rfl
   refine⟨[b,W],by unfold Iw;rw[ht,i];rfl,?_,?_,hk⟩
   ·rw[m];exact⟨b,W,rfl,rfl,by have:=n.lt;omega,by rw[QK];exact k,D⟩
   grind
  | false=>
   obtain⟨rfl,k⟩:=G i;have m:Qk s xs (j:Int)=s:=by unfold Qk;rw[ht,i];rfl
   refine⟨[b,g],by unfold Iw;rw[ht,i];rfl,?_,fun x Q=> .inl Q,Kept.E5 k⟩;rw[m];exact z.kept (Kept.E5 (S:=[]) k) (fun x _=>by simp)
def L8 (S:Setg)(B:Nat):List Value:=[C d S.code, C d S.size, C d S.order, C d S.seed, C d S.count, C d (B:Int)]
def EarP (w:V)(p:Addr)(F:List Nat)(S:Setg)(B:Nat)(s:List Int):Prop:=BufR 343 (L8 S B) w p F s
def Ald (N B0 b g:Nat)(w:V):Prop:=BoxR w b 337 [] (H (I ⟨g,0,E⟩) N N)/\ArrAt d 3 w g (List.replicate N 0)/\B0<=g
def bufT (N B0:Nat):Value->V->Prop:=fun x w=>∃b g,x=.tuple #[J (I ⟨b,0,E⟩), C d 0]/\Ald N B0 b g w
def Ab5 (N B0:Nat):Value->V->Prop:=fun x w=>∃b g,x= J (I ⟨b,0,E⟩)/\Ald N B0 b g w
def Am5 (N B0:Nat):Value->V->Prop:=fun x w=>∃g,x=.agg #[H (I ⟨g,0,E⟩) N N]/\ArrAt d 3 w g (List.replicate N 0)/\B0<=g
def Tw (S:Setg)(B N g:Nat):Value:=.agg #[H (I ⟨g,0,E⟩) N N, C d S.code, C d S.size, C d S.order, C d S.seed, C d S.count, C d (B:Int)]
def Am6 (N B0:Nat)(S:Setg)(B:Nat):Value->V->Prop:=fun x w=>∃g,x=Tw S B N g/\ArrAt d 3 w g (List.replicate N 0)/\B0<=g
def earR (N B0:Nat)(S:Setg)(B:Nat):Value->V->Prop:=fun x w=>∃b g,x= J (I ⟨b,0,E⟩)/\(BoxR w b 343 (L8 S B) (H (I ⟨g,0,E⟩) N N)/\ArrAt d 3 w g (List.replicate N 0)/\B0<=g/\B0<=b/\b≠g)
theorem ME{k:IntKind}{T:TypeId}(h:ArrAt k T w g L)(hg:w.grownBy w' E):ArrAt k T w' g L:=h.below (GJ hg) h.lt
theorem Tc(h:Ald N B0 b g w)(hg:w.grownBy w' E):Ald N B0 b g w':=⟨h.1.old (GJ hg),ME h.2.1 hg,h.2.2⟩
theorem Afv(N B0:Nat):MB (bufT N B0):=fun _ _ _ ⟨b,g,a,c⟩ hg=>⟨b,g,a,Tc c hg⟩
theorem Afu(N B0:Nat):MB (Ab5 N B0):=fun _ _ _ ⟨b,g,a,c⟩ hg=>⟨b,g,a,Tc c hg⟩
theorem Afw(N B0:Nat):MB (Am5 N B0):=fun _ _ _ ⟨g,a,c,e⟩ hg=>⟨g,a,ME c hg,e⟩
theorem Afx(N B0:Nat)(S:Setg)(B:Nat):MB (Am6 N B0 S B):=fun _ _ _ ⟨g,a,c,e⟩ hg=>⟨g,a,ME c hg,e⟩
theorem AfW(N B0:Nat)(S:Setg)(B:Nat):MB (earR N B0 S B):=fun _ _ _ ⟨b,g,a,c,e,h⟩ hg=>⟨b,g,a,c.old (GJ hg),ME e hg,h⟩
theorem bufT.mk{F:List Nat}(h:Aoa w p F (List.replicate N 0))(hF:∀x∈F,B0<=x):bufT N B0 (.tuple #[J (I p), C d 0]) w:=by
 obtain⟨b,g,rfl,rfl,_,a,hg⟩:=h;rw[A7]at a;exact⟨b,g,rfl,a,hg,hF g (by simp)⟩
theorem earR.mk(a:B0<=w.heap.size)(h:ArrAt d 3 w g (List.replicate N 0)/\B0<=g):earR N B0 S B (J (I ⟨w.heap.size,0,E⟩)) (w.alloc (O #[H (I ⟨g,0,E⟩) N N, C d S.code, C d S.size, C d S.order, C d S.seed, C d S.count, C d (B:Int)] 343)):=
 ⟨w.heap.size,g,rfl,Am w _,h.1.alloc _,h.2,a,by have:=h.1.lt;omega⟩
theorem Abf(w:V){v:Value}(c:o.op=.load 337 x)(h:ρ x= J (I ⟨g,0,E⟩))(a:w.cell? ⟨g,0,E⟩=I v):(execOp ρ o).run prog w=.ok (.value (.agg #[v])) w:=by
 unfold execOp;simp only[c,h];simp[go_sem,a]
theorem Vl(w:V){y z:Operand}(a:o.op=.build 343 #[(0,x),(1,y),(2,z)])(c:ρ x=.agg #[H (I ⟨g,0,E⟩) N N])(e:ρ y=S.val)(h:ρ z= C d (B:Int)):(execOp ρ o).run prog w=.ok (.value (Tw S B N g)) w:=by
 unfold execOp;simp only[a];simp[c,e,h,go_sem,Setg.val,Tw]
theorem Aa4(w:V)(a:o.op=.box 343 x)(h:ρ x=Tw S B N g):(execOp ρ o).run prog w=.ok (.value (J (I ⟨w.heap.size,0,E⟩))) (w.alloc (O #[H (I ⟨g,0,E⟩) N N, C d S.code, C d S.size, C d S.order, C d S.seed, C d S.count, C d (B:Int)] 343)):=by
 unfold Tw at h;unfold execOp;simp only[a,h];simp[go_sem]
theorem To(a:SetOk S B):∃N:Nat,Ij S B=N/\1<=N/\N<=4096:=by
 refine⟨(Ij S B).toNat,?_⟩;have e:=a.few;unfold Ij
 rcases a.code with h | h
 ·rw[Ab h];omega
 ·rw[Aa (by omega)];have c:=(a.size1 h).1;unfold Np at c;have:=AQ c;omega
theorem Sn(v:Int)(w:V)(h:LO v=true):Calls prog 186 #[C d v] w fun e w'=>e= U (C d 0)/\w=w':=by
 have h:=AQ h;have a:decide (v<0)=false:=Ae (by omega);have c:decide (4<=v)=false:=Ae (by omega);clear h;go_enter func186,ntmps186;go_wp2;go_ret;exact⟨rfl,rfl⟩
theorem Ah8(n:Nat):AllBits (List.replicate n (0:Int)):=fun x a=>by
 rw[List.eq_of_mem_replicate a];omega
theorem Ajl(S:Setg)(B:Nat)(w:V)(hR:ReadyL w)(hE:RE S B=0)(ap:∀k,Calls prog 185 #[S.val, C d (B:Int)] k fun e w'=>e= U (C d 0)/\Below k.heap.size k w'):Calls prog 163 #[S.val, C d B] w fun e w'=>∃p F,e= U (.tuple #[J (I p), C d 0])/\EarP w' p F S B (List.replicate (Ij S B).toNat 0)/\(∀x∈F,w.heap.size<=x)/\Below w.heap.size w w':=by
 have hS:=MT hE;have hB:B<=40:=by have:=hS.few;omega
 obtain⟨N,eN,bw,bx⟩:=To hS;rw[eN,AN];have b3:=fun k=>LE (B:Int) k ⟨by omega,by omega⟩
 have ad:=fun(k:V) (a:Option Addr) (c:Nat) (j:ReadyL k) (h:Rd .u8 k a (List.replicate (8*B+24) 0))=>Sm S B (List.replicate (8*B+24) 0) a (8*B+24) c k hS j h (Ah8 _) (by simp) rfl
 have aq:=Qt (S:=S) (z:=List.replicate (8*B+24) 0) (n:=B) (by simp) hS.code fun e=>(hS.size1 e).1
 obtain⟨L, eL⟩ := E7 (JR S (List.replicate (8*B+24) 0));rw[<-eL]at ad aq;have HL:Hid (L.length=N):=by show L.length=N;omega
 obtain⟨KK, eK⟩ := E7 (8*B+24);have HK:Hid ((8*(B:Int)+24)=(KK:Int)):=by show _=_;omega
 rw[<-eK]at ad;have cg:KK<=400:=by omega
 have b2:=fun k=>AlP N k bw bx
 have X:prog.follows .mixedOrders=true:=by kernel_rfl
 have ag:Hid (∀k,Below (w.alloc (O #[C d S.code, C d S.size, C d S.order, C d S.seed, C d S.count] 286)).heap.size (w.alloc (O #[C d S.code, C d S.size, C d S.order, C d S.seed, C d S.count] 286)) k->k.cell? ⟨w.heap.size,0,E⟩=I (C d S.code)/\k.cell? ⟨w.heap.size,1,E⟩=I (C d S.size)/\k.cell? ⟨w.heap.size,2,E⟩=I (C d S.order)/\k.cell? ⟨w.heap.size,3,E⟩=I (C d S.seed)/\k.cell? ⟨w.heap.size,4,E⟩=I (C d S.count)):=fun k h=>Wx h
 have ab:Below w.heap.size w (w.alloc (O #[C d S.code, C d S.size, C d S.order, C d S.seed, C d S.count] 286)):=(Ad _ w).alloc (Ac _) _;have ar:w.heap.size<(w.alloc (O #[C d S.code, C d S.size, C d S.order, C d S.seed, C d S.count] 286)).heap.size:=by simp
 have bz:=hR.below ab;clear hS hE eL aq eN eK;unfold Setg.val;go_enter func163,ntmps163
 go_wp2_with fail;generalize w.alloc (O #[C d S.code, C d S.size, C d S.order, C d S.seed, C d S.count] 286)=w0 at*;refine(ap _).mono ?_;rintro e w1 ⟨rfl,am⟩;have i:=am;have b0:∀k,Below w0.heap.size w0 k->ReadyL k:=fun k h=>bz.below h
 go_wp2_with fail
 refine Bi (II (Q:=fun e a' w'=>e=.normal/\∃σ:Nat->Value,a'=({tmps:=((Ft _ (tbS [14,15,16,17,18,19] 6 σ)).set 7 (C d (N:Int))).toArray,defers:=[]}:Act)/\Below w1.heap.size w1 w') 7 6 [14,15,16,17,18,19]
  [[1],[14],[15],[2],[16,17],[18]] [1,2,4,4,5,6]
  [eqR (C d (B:Int)),eqR (C d (KK:Int)),sliR .u8 KK (List.replicate KK 0),eqR S.val,sliR .u8 N L,eqR (C d (N:Int))] w1 X rfl (by decide) rfl (by decide) (by kernel_rfl) (by kernel_rfl) (by kernel_rfl) (by kernel_rfl) (by kernel_rfl) (by kernel_rfl)
  (by intro R hR;simp only[Ar,Bt,BF]at hR;rcases hR with rfl | rfl | rfl | rfl | rfl | rfl<;>(first | (exact Lp _) | (exact O7 _ _ _)))
  (fun D b1 σ W wc v m j Q K y=>by
   have ae:D=0\/D=1\/D=2\/D=3\/D=4\/D=5:=by omega
   rcases ae with rfl | rfl | rfl | rfl | rfl | rfl
   ·have e1:=j 1 (by decide);exact E6 rfl rfl (Fd wc rfl e1) (y _ wc (Fb wc) rfl)
   ·have a5:W.eval (.tmp 14)=(C d (B:Int)):=(j 14 (by decide)).trans (m 0 (by decide) (by kernel_rfl));refine FM rfl rfl rfl (enters_of func195 (by kernel_rfl) rfl) (AeS a5) (b3 wc) fun e w' G=>?_
    obtain⟨rfl,rfl⟩:=G;exact⟨_,rfl,y _ _ (Fb _) (congrArg (Value.int d) HK.out)⟩
   ·have ai:W.eval (.tmp 15)=(C d (KK:Int)):=(j 15 (by decide)).trans (m 1 (by decide) (by kernel_rfl));exact E6 rfl rfl (AdF wc rfl ai ai (by omega)) (y _ _ (Qz _ _) (sliR.mk (Ac _) (by unfold maxLen;omega) (ArrAt.rdL (Am wc _))))
   ·have e2:=j 2 (by decide);obtain⟨c0,c1,c2,c3,c4⟩:=ag.out wc (i.trans (v.mono i.size));exact E6 rfl rfl (Lc (S:=S) wc rfl e2 c0 c1 c2 c3 c4) (y _ wc (Fb wc) rfl)
   ·obtain⟨ay,a3,b4,ch,ci,cd⟩:=m 2 (by decide) (by kernel_rfl);have a6:=(j 16 (by decide)).trans b4;have a7:W.eval (.tmp 17)=S.val:=(j 17 (by decide)).trans (m 3 (by decide) (by kernel_rfl));refine FM rfl rfl rfl (enters_of func191 (by kernel_rfl) rfl) (Oj a6 a7) (ad wc ay a3 (b0 wc (i.trans (v.mono i.size))) cd) fun e w' G=>?_
    obtain⟨cj,rfl,au,aa⟩:=G;exact⟨_,rfl,y _ w' (FX aa) (by obtain⟨az,a4,rfl,av,aw,ax, -⟩:=au.slice HL.out;exact sliR.mk av aw ax)⟩
   ·obtain⟨az,a4,b6,av,aw,ax⟩:=m 4 (by decide) (by kernel_rfl);have a8:=(j 18 (by decide)).trans b6
    exact E6 rfl rfl (Ahp wc rfl a8) (y _ wc (Fb wc) rfl))
  (fun σ wc v m=>by
   refine E6 rfl rfl (G5 wc rfl ((Fj (t:=tbS [14,15,16,17,18,19] 6 σ) 19 (show([14,15,16,17,18,19]:List Nat).Nodup by decide) (by kernel_rfl)).trans (m 5 (by decide)))) ⟨rfl,σ,G4 _ _ _,v⟩)) ?_
 rintro e a' w4 ⟨rfl,σ4,rfl,an⟩;have i:=i.trans (an.mono i.size);clear am;rw[show tbS [14,15,16,17,18,19] 6 σ4=[(14,σ4 0),(15,σ4 1),(16,σ4 2),(17,σ4 3),(18,σ4 4),(19,σ4 5)]from rfl];dsimp only[Ft,List.set,List.append_nil,List.cons_append,List.nil_append]
 go_wp2_with fail
 refine Bi (II (Q:=fun e a' w'=>e=.normal/\∃σ:Nat->Value,a'=({tmps:=((Ft _ (tbS [20,21,22,23,24,25,26,27,28,29,30,4] 12 σ)).set 5 (C d 0)).toArray,defers:=[]}:Act)/\earR N w.heap.size S B (σ 11) w'/\Below w4.heap.size w4 w') 13 12 [20,21,22,23,24,25,26,27,28,29,30,4]
  [[7],[20],[21],[21],[22,23],[24],[25],[2],[1],[26,27,28],[29],[30]] [1,2,4,4,5,6,9,9,9,10,11,12]
  [eqR (C d (N:Int)),bufT N w.heap.size,Ab5 N w.heap.size,eqR (C d 0),Ab5 N w.heap.size,Ab5 N w.heap.size,Am5 N w.heap.size,eqR S.val,eqR (C d (B:Int)),Am6 N w.heap.size S B,earR N w.heap.size S B,earR N w.heap.size S B] w4 X rfl (by decide) rfl (by decide) (by kernel_rfl) (by kernel_rfl) (by kernel_rfl) (by kernel_rfl) (by kernel_rfl) (by kernel_rfl)
  (by intro R hR;simp only[Ar,Bt,BF]at hR;rcases hR with rfl | rfl | rfl | rfl | rfl | rfl | rfl | rfl | rfl | rfl | rfl | rfl<;>(first | (exact Lp _) | (exact Afv _ _) | (exact Afu _ _) | (exact Afw _ _) | (exact Afx _ _ _ _) | (exact AfW _ _ _ _)))
  (fun D b1 σ W wc v m j Q K y=>by
   have ae:D=0\/D=1\/D=2\/D=3\/D=4\/D=5\/D=6\/D=7\/D=8\/D=9\/D=10\/D=11:=by omega
   rcases ae with rfl | rfl | rfl | rfl | rfl | rfl | rfl | rfl | rfl | rfl | rfl | rfl
   ·have e7:=j 7 (by decide);exact E6 rfl rfl (Fd wc rfl e7) (y _ wc (Fb wc) rfl)
   ·have a9:W.eval (.tmp 20)=(C d (N:Int)):=(j 20 (by decide)).trans (m 0 (by decide) (by kernel_rfl));refine FM rfl rfl rfl (enters_of func197 (by kernel_rfl) rfl) (AeS a9) (b2 wc) fun e w' G=>?_
    obtain⟨p4,F4,rfl,bt,bv,aa⟩:=G;exact⟨_,rfl,y _ w' (FX aa) (bufT.mk bt (fun x hx=>Ak (Ak (Db ar) (Ak i.size v.size)) (bv x hx)))⟩
   ·obtain⟨ah,aj,af,ak⟩:=m 1 (by decide) (by kernel_rfl);have Y:=(j 21 (by decide)).trans af;exact E6 rfl rfl (G6 wc rfl Y rfl) (y _ wc (Fb wc) (show Ab5 N w.heap.size _ _ from⟨ah,aj,rfl,ak⟩))
   ·obtain⟨ah,aj,af,ak⟩:=m 1 (by decide) (by kernel_rfl);have Y:=(j 21 (by decide)).trans af;exact E6 rfl rfl (G6 wc rfl Y rfl) (y _ wc (Fb wc) rfl)
   ·obtain⟨a0,bj,b7,bo⟩:=m 2 (by decide) (by kernel_rfl);have ba:=(j 22 (by decide)).trans b7;have bb:W.eval (.tmp 23)=(C d 0):=(j 23 (by decide)).trans (m 3 (by decide) (by kernel_rfl));refine FM rfl rfl rfl (enters_of func196 (by kernel_rfl) rfl) (Oj ba bb) (AoK _ wc) fun e w' G=>?_
    obtain⟨rfl,rfl⟩:=G;exact⟨_,rfl,y _ _ (Fb _) (show Ab5 N w.heap.size _ _ from⟨a0,bj,rfl,bo⟩)⟩
   ·obtain⟨a1,bk,b8,bp⟩:=m 4 (by decide) (by kernel_rfl);have bc:=(j 24 (by decide)).trans b8;exact E6 rfl rfl (Ie wc rfl bc) (y _ wc (Fb wc) (show Ab5 N w.heap.size _ _ from⟨a1,bk,rfl,bp⟩))
   ·obtain⟨ce,bl,b9,al⟩:=m 5 (by decide) (by kernel_rfl);have bd:=(j 25 (by decide)).trans b9;exact E6 rfl rfl (Abf wc rfl bd al.1.cell) (y _ wc (Fb wc) (show Am5 N w.heap.size _ _ from⟨bl,rfl,al.2⟩))
   ·have e2:=j 2 (by decide);obtain⟨c0,c1,c2,c3,c4⟩:=ag.out wc (i.trans (v.mono i.size));exact E6 rfl rfl (Lc (S:=S) wc rfl e2 c0 c1 c2 c3 c4) (y _ wc (Fb wc) rfl)
   ·have e1:=j 1 (by decide);exact E6 rfl rfl (Fd wc rfl e1) (y _ wc (Fb wc) rfl)
   ·obtain⟨bm,ca,bq⟩:=m 6 (by decide) (by kernel_rfl);have be:=(j 26 (by decide)).trans ca;have bf:W.eval (.tmp 27)=S.val:=(j 27 (by decide)).trans (m 7 (by decide) (by kernel_rfl));have bg:W.eval (.tmp 28)=(C d (B:Int)):=(j 28 (by decide)).trans (m 8 (by decide) (by kernel_rfl));exact E6 rfl rfl (Vl (S:=S) wc rfl be bf bg) (y _ wc (Fb wc) (show Am6 N w.heap.size S B _ _ from⟨bm,rfl,bq⟩))
   ·obtain⟨cf,cb,br⟩:=m 9 (by decide) (by kernel_rfl);have bh:=(j 29 (by decide)).trans cb;exact E6 rfl rfl (Aa4 wc rfl bh) (y _ _ (Qz _ _) (earR.mk (Ak (Db ar) (Ak i.size v.size)) br))
   ·obtain⟨a2,bn,cc,bs⟩:=m 10 (by decide) (by kernel_rfl);have bi:=(j 30 (by decide)).trans cc
    exact E6 rfl rfl (G5 wc rfl bi) (y _ wc (Fb wc) (show earR N w.heap.size S B _ _ from⟨a2,bn,rfl,bs⟩)))
  (fun σ wc v m=>by
   refine E6 rfl rfl (G5 wc rfl rfl) ⟨rfl,σ,G4 _ _ _,m 11 (by decide),v⟩)) ?_
 rintro e a' w5 ⟨rfl,M,rfl,⟨b5,g5,q5,T⟩,ao⟩;rw[show tbS [20,21,22,23,24,25,26,27,28,29,30,4] 12 M=[(20,M 0),(21,M 1),(22,M 2),(23,M 3),(24,M 4),(25,M 5),(26,M 6),(27,M 7),(28,M 8),(29,M 9),(30,M 10),(4,M 11)]from rfl,q5];dsimp only[Ft,List.set,List.append_nil,List.cons_append,List.nil_append];have bu:=ab.trans ((i.trans (ao.mono i.size)).mono ab.size);clear ao an i
 go_wp2_with fail
 go_ret2;exact⟨_,[b5,g5],rfl,⟨b5,g5,rfl,rfl,T.2.2.2.2,by rw[A7];exact T.1,T.2.1⟩,by simp;exact⟨T.2.2.2.1,T.2.2.1⟩,bu⟩
theorem Abz(W:Nat)(R:Nat)(zs:List Int)(n:Nat)(z:zs.length=n)(a:Option Addr)(c:Nat)(w:V)(m:Rd .u8 w a zs)(y:Bits zs)(D:n<=4096)(i:Div W (2 ^ W ||| R))(h:1<=W)(k:W<=24)(j:R<16777216):
 Calls prog 224 #[.agg #[C d W, C .u32 R], H a n c] w fun e w'=>∃v,e= U v/\Own w' w.heap.size v (RK W (2 ^ W ||| R) zs)/\Below w.heap.size w w':=by
 subst z;exact Yt W R zs a c w m y D i h k j
theorem N6{a:Option Addr}(h:Rd .u8 w a L)(c n:Nat)(e:L.length=n):(convert 103 9 (H a n c)).run prog w=.ok (.string (strOfNums L)) w:=by
 subst e;exact L6 h c
theorem Ajc(zs:List Int)(n:Nat)(a:n<=zs.length):Je (List.replicate n 0) 0 (zs.take n)=zs.take n:=by
 simp[Je];omega
theorem AlV(zs:List Int)(k:Int)(a:Option Addr)(c:Nat)(w:V)(ha:Rd .u8 w a zs)(al:zs.length<=c)(ai:c<=maxLen)(hy:Bytes zs)(h:Lq zs k=0)(n:Nat)(hl:zs.length=n+kW k)(hs:Ko (zs.take n) k=zs.drop n):
 Calls prog 239 #[H a zs.length c, C d k] w fun e w'=>∃v,e= U (.tuple #[v,.bool true, C d 0])/\Own w' w.heap.size v (zs.take n)/\Below w.heap.size w w':=by
 obtain⟨he,hk⟩:=MI h;obtain⟨hD,ag,hW,hR⟩:=Oi hk;have hb:Bits zs:=fun j=>⟨(hy.at j).1,(IA he).1 j⟩
 have ah:=VG hb n;have hz:=(IA he).2;have HE:Hid (F6 zs=0):=he;have HK:Hid (Jr k=true):=hk;have aj:n<zs.length:=by omega
 have am:(zs.length:Int)-(kW k:Int)=n:=by omega
 have K:(zs.take n).length=n:=by rw[Ay];omega
 have HT:Hid ((zs.take n).length=n):=K;have G:(zs.drop n).length=zs.length-n:=by rw[AJ]
 have HD:Hid ((zs.drop n).length=zs.length-n):=G;unfold Ko kP at hs;unfold kP at hD;have HS:Hid (RK (kW k) (2 ^ kW k ||| kR k) (zs.take n)=zs.drop n):=hs;unfold maxLen at ai;clear h hy he hk hl K G hs;obtain⟨b1,o1,rfl,aa⟩:=ha.at aj;go_enter func239,ntmps239
 go_wp2_with fail;refine(KE zs k _ c _ ha (by unfold maxLen;omega) HE.out HK.out).mono ?_;rintro e w1 ⟨rfl,Y⟩;have M:Below w.heap.size w (w1.alloc (O #[C d (kW k), C .u32 (kR k)] 368)):=Y.alloc Y.size _;obtain⟨p0,p1, -⟩:=Ais (w:=w1) (x:= C d (kW k)) (y:= C .u32 (kR k)) (T:=368) (w1:=w1.alloc (O #[C d (kW k), C .u32 (kR k)] 368)) (Ad _ _);have W:∀j,j<zs.length->(w1.alloc (O #[C d (kW k), C .u32 (kR k)] 368)).cell? ⟨b1,o1+j,E⟩=I (C .u8 (zs.getD j 0)):=fun j hj=>Pm M (aa j hj)
 have ad:=Rd.take W n;have ac:=Rd.drop W n;clear aa W;have ak:=ha.below M;have P0:=hid p0;have P1:=hid p1;clear p0 p1
 go_wp2_with fail;have ap:(n:Int)<=(c:Int):=by omega
 have aq:(n:Int)<=(zs.length:Int):=by omega
 have F:Rd .u8 (w1.alloc (O #[C d (kW k), C .u32 (kR k)] 368)).drew (I ⟨b1,o1+n,E⟩) (zs.drop n):=ac
 go_region_held (fun w'=>w'.cell? ⟨w1.heap.size,0,E⟩=I (C d (kW k))/\w'.cell? ⟨w1.heap.size,1,E⟩=I (C .u32 (kR k))/\(convert 103 9 (H (I ⟨b1,o1+n,E⟩) (zs.length-n) (c-n))).run prog w'=.ok (.string (strOfNums (zs.drop n))) w')
  (first | exact⟨P0.out,P1.out,N6 F _ _ HD.out⟩ | exact⟨Pm m P0.out,Pm m P1.out,N6 (F.below m) _ _ HD.out⟩)
  (first | (go_at_call 224;refine(Abz (kW k) (kR k) (zs.take n) n HT.out _ _ _ ?_ ah (by omega) hD ag hW hR).mono ?_;exact ad;rintro e w2 ⟨v2,rfl,i,m⟩;rw[HS.out]at i;obtain⟨a2,c2,rfl, -⟩:=i.FC;have ab:=N6 i.rd c2 _ HD.out))
 all_goals
  have R:Below w.heap.size w w2:=Fr M.drew m;have ae:Rd .u8 w2 (I ⟨b1,o1,E⟩) zs:=ha.below R;clear ab i m ac F ad ak
  go_wp2_with(at_make;refine FH w2.heap.size w2 n rfl _ _ rfl _ _ rfl rfl rfl rfl (by omega) (Ad _ _) (Ac _) ?_);intro w3 X z an;have af:=ae.below z
  go_wp2_with(refine M4 w2 X af rfl (.tmp 42) (.tmp 43) rfl (I ⟨w2.heap.size,0,E⟩) n n c 0 n (by omega) rfl rfl (fun _=>rfl) (by omega) z ?_);intro w4 D Q ao;rw[Ajc zs n (by omega)]at D;go_wp2
  go_ret3;exact⟨_,rfl,D.mono R.size,Fr R Q⟩
theorem Aiu{a b:Int}(e:0<=a/\a<=255)(i:0<=b/\b<=255)(h:UInt8.ofNat a.toNat=UInt8.ofNat b.toNat):a=b:=by
 have c:=congrArg UInt8.toNat h;simp at c;omega
theorem QG:∀{X Y:List Int},Bytes X->Bytes Y->X.map (fun n=>UInt8.ofNat n.toNat)=Y.map (fun n=>UInt8.ofNat n.toNat)->X=Y
 | [],[],_,_,_=>rfl
 | [],_::_,_,_,h=>by simp at h
 | _::_,[],_,_,h=>by simp at h
 | x::X,y::Y,hX,hY,h=>by
  simp only[Be,EH]at h;rw[Aiu (hX x (by simp)) (hY y (by simp)) h.1,QG (fun n a=>hX n (by simp[a])) (fun n a=>hY n (by simp[a])) h.2]
theorem AnW{X Y:List Int}(a:Bytes X)(c:Bytes Y)(h:X≠Y):((strOfNums X).toList==(strOfNums Y).toList)=false:=by
 rw[Cb];intro e;rw[Cc,Cc,D5,D5]at e;exact h (QG a c e)
theorem AhI(W P:Nat)(zs:List Int):Bytes (RK W P zs):=by
 intro m a;unfold RK MX at a;obtain⟨i,_,rfl⟩:=Bb.1 a;have:=AbZ ((crc W P zs).testBit (W-1-i));omega
theorem AgO(zs:List Int)(k:Int)(a:Option Addr)(c:Nat)(w:V)(ha:Rd .u8 w a zs)(ag:zs.length<=c)(ad:c<=maxLen)(hy:Bytes zs)(h:Lq zs k=0)(n:Nat)(hl:zs.length=n+kW k)(hs:Ko (zs.take n) k≠zs.drop n):
 Calls prog 239 #[H a zs.length c, C d k] w fun e w'=>e= U (.tuple #[H E 0 0,.bool false, C d 0])/\Below w.heap.size w w':=by
 obtain⟨Y,hk⟩:=MI h;obtain⟨hD,aa,hW,hR⟩:=Oi hk;have hb:Bits zs:=fun j=>⟨(hy.at j).1,(IA Y).1 j⟩
 have ab:=VG hb n;have hz:=(IA Y).2;have HE:Hid (F6 zs=0):=Y;have HK:Hid (Jr k=true):=hk;have ae:n<zs.length:=by omega
 have ai:(zs.length:Int)-(kW k:Int)=n:=by omega
 have F:(zs.take n).length=n:=by rw[Ay];omega
 have HT:Hid ((zs.take n).length=n):=F;have D:(zs.drop n).length=zs.length-n:=by rw[AJ]
 have HD:Hid ((zs.drop n).length=zs.length-n):=D;unfold Ko kP at hs;unfold kP at hD;have ah:((strOfNums (RK (kW k) (2 ^ kW k ||| kR k) (zs.take n))).toList==(strOfNums (zs.drop n)).toList)=false:=AnW (AhI _ _ _) (fun m hm=>hy m (BQ hm)) hs;unfold maxLen at ad;clear h hy Y hk hl F D hs;obtain⟨b1,o1,rfl,Q⟩:=ha.at ae;go_enter func239,ntmps239
 go_wp2_with fail;refine(KE zs k _ c _ ha (by unfold maxLen;omega) HE.out HK.out).mono ?_;rintro e w1 ⟨rfl,M⟩;have G:Below w.heap.size w (w1.alloc (O #[C d (kW k), C .u32 (kR k)] 368)):=M.alloc M.size _;obtain⟨p0,p1, -⟩:=Ais (w:=w1) (x:= C d (kW k)) (y:= C .u32 (kR k)) (T:=368) (w1:=w1.alloc (O #[C d (kW k), C .u32 (kR k)] 368)) (Ad _ _);have K:∀j,j<zs.length->(w1.alloc (O #[C d (kW k), C .u32 (kR k)] 368)).cell? ⟨b1,o1+j,E⟩=I (C .u8 (zs.getD j 0)):=fun j hj=>Pm G (Q j hj)
 have X:=Rd.take K n;have W:=Rd.drop K n;clear Q K;have af:=ha.below G;have P0:=hid p0;have P1:=hid p1;clear p0 p1
 go_wp2_with fail;have aj:(n:Int)<=(c:Int):=by omega
 have ak:(n:Int)<=(zs.length:Int):=by omega
 have z:Rd .u8 (w1.alloc (O #[C d (kW k), C .u32 (kR k)] 368)).drew (I ⟨b1,o1+n,E⟩) (zs.drop n):=W
 go_region_held (fun w'=>w'.cell? ⟨w1.heap.size,0,E⟩=I (C d (kW k))/\w'.cell? ⟨w1.heap.size,1,E⟩=I (C .u32 (kR k))/\(convert 103 9 (H (I ⟨b1,o1+n,E⟩) (zs.length-n) (c-n))).run prog w'=.ok (.string (strOfNums (zs.drop n))) w')
  (first | exact⟨P0.out,P1.out,N6 z _ _ HD.out⟩ | exact⟨Pm v P0.out,Pm v P1.out,N6 (z.below v) _ _ HD.out⟩)
  (first | (go_at_call 224;refine(Abz (kW k) (kR k) (zs.take n) n HT.out _ _ _ ?_ ab (by omega) hD aa hW hR).mono ?_;exact X;rintro e w2 ⟨v2,rfl,i,v⟩;obtain⟨a2,c2,rfl, -⟩:=i.FC;have R:=L6 i.rd c2))
 all_goals
  have ac:Below w.heap.size w w2:=Fr G.drew v;clear R i v W z X af;go_wp2
  go_ret3;exact⟨rfl,ac⟩
theorem Ya(zs:List Int)(a:Option Addr)(c:Nat)(w:V)(W:Rd .u8 w a zs)(X:Bits zs)(hz:zs.length<=4096)(he:F6 zs=0):
 Calls prog 241 #[H a zs.length c] w fun e w'=>e= U (.tuple #[.string (strOfNums (JH zs)), C d 0])/\Below w.heap.size w w':=by
 have HE:Hid (F6 zs=0):=he;clear he;go_enter func241,ntmps241
 go_wp2_with(first | (go_at_call 225;refine(IP zs a c _ W (by unfold maxLen;omega)).mono ?_;rintro e w' ⟨rfl,rfl⟩;rw[HE.out]) | (at_make;refine FH w.heap.size w ((zs.length+7) / 8) rfl _ _ rfl _ _ rfl rfl ?_ ?_ (by omega) (Ad _ _) (Ac _) ?_))
 ·omega
 ·omega
 intro w1 j v aa;rw[<-Aau zs]at j;obtain⟨M, K⟩ := E7 ((zs.length+7) / 8);rw[<-K]at j ⊢;have ab:M<=513:=by omega
 have ac:zs.length<=8*M:=by omega
 have HM:Hid (M=(zs.length+7) / 8):=K;clear K;go_wp2
 go_loopw [20] (fun i wr=>∃k:Nat,k<=zs.length/\i= C d k/\Own wr w.heap.size (H (I ⟨w.heap.size,0,E⟩) M M) (Kp zs k)/\Below w.heap.size w wr) (fun i _=>zs.length-(intOf i).toNat)
 case atStart=>grind
 case round=>
  clear j v;obtain⟨k,hk,rfl,h,m⟩:=hrel
  by_cases D:k<zs.length
  ·have T:(Kp zs k).length=M:=h.len;have R:k / 8<M:=by omega
   have Y:=h.cell (i:=k / 8) (by omega);rw[Aat zs k (k / 8) (by rw[<-HM.out];exact R)]at Y;have hf:=h.free (k / 8);obtain⟨b1,o1,rfl,z⟩:=(W.below m).at D;have g1:=z k D;clear z T;have y:=AlW zs k X _ _ rfl rfl;obtain⟨p, hp⟩ := E7 (Ix zs k (k / 8));obtain⟨x, hx⟩ := E7 (zs.getD k 0);have F:=X k;rw[<-hp]at Y y;rw[<-hx]at g1 y F;obtain⟨ad,ae,af,ag,n⟩:=y;have G:Hid (bits .or .u8 p (x*2 ^ (7-k % 8))=Ix zs (k+1) (k / 8)):=n;clear hp hx n;go_wp2
   go_region;go_wp2
   go_roundw
   case rel=>exact⟨k+1,by omega,by go_num,(Adk zs k _ G.out▸h.set (k / 8) _).drew,(m.setCell (Ac _) _).drew⟩
   case measure=>simp[intOf];omega
  ·obtain rfl:k=zs.length:=by omega
   rw[Adj]at h;have Q:=L6 h.rd M;rw[h.len]at Q;go_wp2
   go_ret2;exact⟨rfl,m⟩
end Go.Proofs.YtbjgfoiikhbonahGreatDoor
