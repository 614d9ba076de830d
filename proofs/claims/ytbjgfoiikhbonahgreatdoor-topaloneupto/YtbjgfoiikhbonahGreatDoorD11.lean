import Derived.Test.YtbjgfoiikhbonahGreatDoorD10
set_option linter.unusedVariables false
set_option linter.unusedSimpArgs false
set_option maxRecDepth 100000
set_option maxHeartbeats 4000000
namespace Go.Proofs.YtbjgfoiikhbonahGreatDoor
open Go.ChangeShapes Go.WideShapes Go.ChangeAt Go.RowKit Go.Shelf Go.Proofs.Tryz
open Value (int slice pointer)
open IntKind (i64)
variable {B B0 N b g k n:Nat}{F:List Nat}{L s sm:List Int}{S:Setg}{T t:TypeId}{a:Option Addr}{o:Oper}{p:Addr}{v:Value}{w w':World}{x:Operand}{ρ:Operand->Value}
attribute [local go_sem] Da
theorem Afs{u:Value}(h:Boxed w B t u)(c:Below w.heap.size w w'):Boxed w' B t u:=(c.block B h.lt).trans h
theorem Ajb{S:List Nat}{W:World}(h:Kept S w W){D:Nat}(d:w.heap.size<=D)(o:Obj):Kept S w (W.putObj D o):=
 ⟨h.os,h.tape,h.output,by have:=h.size;simp only[World.putObj,DU];omega,fun i hi c=>(World.putObj_heap_other (by omega)).trans (h.block i hi c)⟩
theorem Aid{r:List Value}(a:Option Addr)(m n c v:Nat)(xs:List Int)(hC:Col w)(bb:b≠g)(ar:BoxR w b t r (slice (some ⟨g,0,none⟩) n n))(hg:ArrAt i64 3 w g s)
 (ag:s.length=n) (h1:1<=n) (hn:n<=4096) (J:Fy s=true) (ha:Rd i64 w a xs) (ax:Fy xs=true) (aw:xs.length=m) (hm:m<=4096) (hv:v<=3) (G:List Int) (HG:Hid (JW n v xs s (List.range m)=G)):
 Calls prog 199 #[pointer (some ⟨b,0,none⟩),slice a m c,int i64 v] w fun e w'=>
  (Fy G=true->e=.returned (int i64 0)/\(∃d,w.heap.size<=d/\BoxR w' b t r (slice (some ⟨d,0,none⟩) n n)/\ArrAt i64 3 w' d G)/\Kept [b] w w')/\
  (Fy G=false->e=.returned (int i64 2)/\Below w.heap.size w w'):=by
 have O:Below w.heap.size w (w.alloc (.cells #[slice a m c] 74)):=(Ad _ w).alloc (Ac _) _;have bS:=Boxed.new w 74 (slice a m c);have au:=MH xs a c (w.alloc (.cells #[slice a m c] 74)) (ha.below O) (by unfold maxLen;omega);rw[aw,show Gv xs=0 by unfold Gv;rw[ax];rfl]at au;have av:=Kh (v:Int) (w.alloc (.cells #[slice a m c] 74));rw[show Ku (v:Int)=0 by grind [Ku,LO]]at av;have C:=Abu (t:=t) (r:=r) (w:=w.alloc (.cells #[slice a m c] 74)) (p:=⟨b,0,none⟩) (S:=[b,g]) (s:=s) ⟨b,g,rfl,rfl,bb,by rw[ag];exact ar.old O,hg.below O hg.lt⟩ (by omega) (by omega);rw[ag]at C;have d2:decide ((4096:Int)<(m:Int))=false:=Ae (by omega);have az:=hid aw;have ay:=hid ag;have cS:=bS.cell;clear aw ag;refine(Bw (n:=3)).1 ?_;refine callsIn_of_wp_marks func199 rfl trivial ?_ rfl;simp only[ntmps199,A8,AE,Bs,Nat.reduceAdd,Nat.reduceSub,Cz,CA,CB,CC,AK,AT]
 gi_wp2_with (first
  | (refine⟨trivial,?_⟩;gi_at_call 236;refine(Bw.2 au).mono ?_;rintro e w' ⟨rfl,rfl⟩)
  | (refine⟨trivial,?_⟩;gi_at_call 227;refine(Bw.2 av).mono ?_;rintro e w' ⟨rfl,rfl⟩)
  | (refine⟨trivial,?_⟩;gi_at_call 237;refine(Bw.2 C).mono ?_;rintro e w2 ⟨d,rfl,P,a9,ad⟩;have an:=Afs bS ad;have a8:=(an.alloc (.cells #[slice (some ⟨d,0,none⟩) n n] 74)).cell)
  | (refine⟨trivial,?_⟩;gi_at_call 228;refine(AaZ 2 n v m _).mono ?_;rintro e w' ⟨rfl,rfl⟩))
 have bm:w.heap.size+1<=w2.heap.size:=by have:=ad.size;rwa [Ax]at this
 have bi:w.heap.size+1<=d:=by rwa [Ax]at a9
 have bj:=P.lt;have aj:Below w.heap.size w w2:=O.trans (ad.mono (by simp));have bP:=Boxed.new w2 74 (slice (some ⟨d,0,none⟩) n n);obtain⟨q,I⟩:=E7 (w2.alloc (.cells #[slice (some ⟨d,0,none⟩) n n] 74));have a7:q.heap.size=w2.heap.size+1:=by rw[I];simp
 have a0:Boxed q w.heap.size 74 (slice a m c):=by rw[I];exact an.alloc _
 have ai:ArrAt i64 3 q d s:=by rw[I];exact P.alloc _
 have U:Below w.heap.size w q:=by rw[I];exact aj.alloc (by omega) _
 rw[<-I]at bP;rw[<-I,<-a7];obtain⟨w4,u⟩:=E7 (((q.alloc (.cells #[int i64 n] 3)).alloc (.cells #[int i64 v] 3)).alloc (.cells #[int i64 m] 3));have b1:Boxed w4 q.heap.size 3 (int i64 n):=by rw[u];exact((Boxed.new q _ _).alloc _).alloc _
 have b2:Boxed w4 (q.heap.size+1) 3 (int i64 v):=by rw[u];have:=(Boxed.new (q.alloc (.cells #[int i64 n] 3)) 3 (int i64 v)).alloc (.cells #[int i64 m] 3);rwa [Ax]at this
 have b3:Boxed w4 (q.heap.size+2) 3 (int i64 m):=by rw[u];have:=Boxed.new ((q.alloc (.cells #[int i64 n] 3)).alloc (.cells #[int i64 v] 3)) 3 (int i64 m);rwa [Ax,Ax]at this
 have ao:Boxed w4 w.heap.size 74 (slice a m c):=by rw[u];exact((a0.alloc _).alloc _).alloc _
 have am:Boxed w4 w2.heap.size 74 (slice (some ⟨d,0,none⟩) n n):=by rw[u];exact((bP.alloc _).alloc _).alloc _
 have R:ArrAt i64 3 w4 d s:=by rw[u];exact((ai.alloc _).alloc _).alloc _
 have ae:Below w.heap.size w w4:=by rw[u];exact((U.alloc U.size _).alloc (by simp;have:=U.size;omega) _).alloc (by simp;have:=U.size;omega) _
 have bc:w4.heap.size=q.heap.size+3:=by rw[u];simp
 rw[<-u];have bk:w2.heap.size<q.heap.size:=by omega
 have bl:q.heap.size<w4.heap.size:=by omega
 clear a7 bc I u an bP P ad a0 ai U O a8 cS bS au av C d2 aj;refine wpIn_rangeFunc_ownG rfl (by decide) (gf:=256) (lb:=#[pointer (some ⟨q.heap.size,0,none⟩),pointer (some ⟨q.heap.size+1,0,none⟩),pointer (some ⟨q.heap.size+2,0,none⟩)]) rfl trivial (enters_of func256 (by kernel_rfl) rfl)
  (Sz n v m h1 hn hv hm q.heap.size (q.heap.size+1) (q.heap.size+2) [d] w4 (hC.later ae) b1.cell b2.cell b3.cell (by simp;omega) (by simp;omega)) KeptC.trans XK (Ad _ _) (fun _=>rfl)
  (fun pre W=>Boxed W w.heap.size 74 (slice a m c)/\Boxed W w2.heap.size 74 (slice (some ⟨d,0,none⟩) n n)/\ArrAt i64 3 W d (JW n v xs s (pre.map Fin.val))/\Below w.heap.size w W)
  (fun _ _ _=>False)
  (fun pre X Y row J hg f=>⟨Zaa J.1 hg f,Zaa J.2.1 hg f,Zaa J.2.2.1 hg f,J.2.2.2.grown hg J.2.2.2.size (fun j e=>by have:=(f j e).1;omega)⟩)
  (fun _ _ _ _ _ J _ _=>J)
  ⟨ao,am,R,ae⟩
  (fun x=>{tmps:=#[pointer (some ⟨b,0,none⟩),slice a m c,int i64 v,undef,pointer (some ⟨w.heap.size,0,none⟩),undef,int i64 0,int i64 0,int i64 0,pointer (some ⟨w2.heap.size,0,none⟩),int i64 (x.val:Int),int i64 ((Gi n v x.val:Nat):Int),slice a m c,int i64 0,int i64 0,.bool false,undef,slice a m c,int i64 m,.bool false,int i64 v,int i64 0,int i64 0,.bool false,undef,pointer (some ⟨b,0,none⟩),slice (some ⟨d,0,none⟩) n n,slice (some ⟨d,0,none⟩) n n,int i64 n,int i64 v,slice a m c,int i64 m,.func (.func 256) #[] #[pointer (some ⟨q.heap.size,0,none⟩),pointer (some ⟨q.heap.size+1,0,none⟩),pointer (some ⟨q.heap.size+2,0,none⟩)],int i64 (x.val:Int),int i64 ((Gi n v x.val:Nat):Int),undef,undef,undef,undef,undef,undef,undef,undef,undef,undef,undef,undef,undef,undef,undef,undef,undef],defers:=[]}) ?assign ?body ?done ?stop
 case assign=>
  intro l x W K H;unfold AiK
  gi_wp2
  exact H
 case body=>
  rintro l pre ⟨x,hx⟩ W ⟨bS,bP,E,hB⟩ ba;dsimp only;have af:=Aay (n:=n) (v:=v) (i:=x) h1;obtain⟨bx,ox,rfl,a3⟩:=(ha.below hB).at (i:=x) (by rw[az.out];exact hx);have g1:=a3 x (by rw[az.out];exact hx);have cC:=bS.cell;have cP:=bP.cell;have HF:=hid ((Qx n v xs (pre.map Fin.val) s).trans ay.out);have g2:=E.cell (j:=Gi n v x) (by rw[HF.out];exact af);have a4:=E.free (Gi n v x);have HS:=hid (TI n v xs s (pre.map Fin.val) x);have ah:=AiU n v J ax (pre.map Fin.val) (Gi n v x);rw[Bo]at ah;have bf:=O8 ax x;obtain⟨pk,ap⟩:=E7 (Gi n v x);rw[<-ap]at af g2 HS a4 ah;obtain⟨z,ez⟩:=E7 (xs.getD x 0);rw[<-ez]at g1 HS bf;obtain⟨y,ey⟩:=E7 ((JW n v xs s (pre.map Fin.val)).getD pk 0);rw[<-ey]at g2 HS ah;have bg: -409700000<=y/\y<=409700000:=by omega
  rw[<-ap];have aa:=E.set pk (y+z);rw[<-HS.out]at aa;have ab:ArrAt i64 3 (W.setCell ⟨d,pk,none⟩ (int i64 (y+z))).drew d (JW n v xs s ((pre++[(⟨x,hx⟩:Fin m)]).map Fin.val)):=by rw[AR];exact aa
  have ak:KeepsFrom w4.heap.size W (W.setCell ⟨d,pk,none⟩ (int i64 (y+z))).drew/\KeptC [d] W (W.setCell ⟨d,pk,none⟩ (int i64 (y+z))).drew/\Boxed (W.setCell ⟨d,pk,none⟩ (int i64 (y+z))).drew w.heap.size 74 (slice (some ⟨bx,ox,none⟩) m c)/\Boxed (W.setCell ⟨d,pk,none⟩ (int i64 (y+z))).drew w2.heap.size 74 (slice (some ⟨d,0,none⟩) n n)/\ArrAt i64 3 (W.setCell ⟨d,pk,none⟩ (int i64 (y+z))).drew d (JW n v xs s ((pre++[(⟨x,hx⟩:Fin m)]).map Fin.val))/\Below w.heap.size w (W.setCell ⟨d,pk,none⟩ (int i64 (y+z))).drew:=
   ⟨((KeepsOthers.setCell _ _ _).trans (TO _)).from _,(KeptC.setCell _ (by simp) _).drew,LW bS (by simp;omega) _,LW bP (by simp;omega) _,ab,(hB.setCell (p:=⟨d,pk,none⟩) (by simp;omega) _).drew⟩
  have a6:prog.follows .mixedOrders=true:=by kernel_rfl
  clear a3 ap ez ey aa ab HS E HF ah bS bP hB ba ao am R ae ha
  gi_wp2
  refine wpIn_mono (Q:=fun e _ w'=>e=.normal/\w'=(W.setCell ⟨d,pk,none⟩ (int i64 (y+z))).drew) ?_ ?_
  ·clear ak;have bd:IntKind.i64.wrap (y+z)=y+z:=by rw[AO];omega
   refine QT 10 35 [slice (some ⟨d,0,none⟩) n n,int i64 (pk:Int),pointer (some ⟨d,0+pk,none⟩),int i64 y,slice (some ⟨bx,ox,none⟩) m c,int i64 (x:Int),pointer (some ⟨bx,ox+x,none⟩),int i64 z,int i64 (y+z),pointer (some ⟨d,0+pk,none⟩)]
    [[],[],[0,1],[2],[],[],[4,5],[6],[3,7],[0,1]] _ W a6 rfl (by simp) (by kernel_rfl) (by kernel_rfl) (by kernel_rfl) ?_ ?_
   ·intro i hi ac M J K H;have a5:i=0\/i=1\/i=2\/i=3\/i=4\/i=5\/i=6\/i=7\/i=8\/i=9:=by omega
    rcases a5 with rfl | rfl | rfl | rfl | rfl | rfl | rfl | rfl | rfl | rfl
    ·exact FP rfl rfl (fun c h=>by cases h) rfl (UE _ rfl (J 9 (by omega)) cP) H
    ·exact FP rfl rfl (fun c h=>by cases h) rfl (Fd _ rfl (J 11 (by omega))) H
    ·exact FP rfl rfl (fun c h=>by cases h) rfl (OB _ rfl (M 0 (by decide)) (M 1 (by decide)) af) H
    ·exact FP rfl rfl (fun c h=>by cases h) rfl (F5 _ rfl (M 2 (by decide)) (by rw[Ao];exact g2)) H
    ·exact FP rfl rfl (fun c h=>by cases h) rfl (UE _ rfl (J 4 (by omega)) cC) H
    ·exact FP rfl rfl (fun c h=>by cases h) rfl (Fd _ rfl (J 10 (by omega))) H
    ·exact FP rfl rfl (fun c h=>by cases h) rfl (OB _ rfl (M 4 (by decide)) (M 5 (by decide)) hx) H
    ·exact FP rfl rfl (fun c h=>by cases h) rfl (F5 _ rfl (M 6 (by decide)) g1) H
    ·exact FP rfl rfl (fun c h=>by cases h) rfl (Aj0 _ rfl (M 3 (by decide)) (M 7 (by decide)) bd) H
    ·exact FP rfl rfl (fun c h=>by cases h) rfl (OB _ rfl (M 0 (by decide)) (M 1 (by decide)) af) H
   ·intro ac M J;exact Wj rfl rfl (fun c h=>by cases h) rfl (UG _ rfl (M 9 (by decide)) (M 8 (by decide)) (by rw[Ao];exact g2) (by rw[Ao];exact a4)) ⟨rfl,by rw[Ao];rfl⟩
  ·rintro e a' w' ⟨rfl,rfl⟩;exact ak
 case done=>
  rintro D ys W hD be ⟨bS,bP,E,hB⟩ H;rw[be,HG.out]at E;have cP:=bP.cell;have a1:=hid ((congrArg List.length HG.out).symm.trans ((Qx n v xs (List.range m) s).trans ay.out));have V:=MH G (some ⟨d,0,none⟩) n W (ArrAt.rd (A:=[]) (Z:=[]) (by simpa using E) rfl) (by rw[a1.out];unfold maxLen;omega);rw[a1.out]at V;have aq:=ar.old hB;have cB:=aq.cell;have fB:=aq.frozen;have bh:=ar.lt;clear ao am R ae b1 b2 b3
  cases C:Fy G with
  | true=>
   rw[show Gv G=0 by unfold Gv;rw[C];rfl]at V;have al:=hid C;clear C
   gi_wp2_with (first | (refine⟨trivial,?_⟩;gi_at_call 236;refine(Bw.2 V).mono ?_;rintro e w' ⟨rfl,rfl⟩))
   have a2:(W.setCell ⟨b,0,none⟩ (slice (some ⟨d,0,none⟩) n n)).heap[D]?=some (.deferred (some [])):=(KeepsOthers.setCell W _ _).same D _ H rfl;have f:∀r,some D=some r->0<=r/\∃o:Obj,(W.setCell ⟨b,0,none⟩ (slice (some ⟨d,0,none⟩) n n)).heap[r]?=some o/\o.isCells=false:=fun r e=>by cases e;exact⟨Af _,_,a2,rfl⟩
   refine⟨by simp,.inl ⟨_,_,rfl,run_takeDeferred a2,?_⟩⟩;exact⟨_,D2 rfl _ _ _,fun _=>⟨rfl,⟨d,by omega,Zaa (aq.set _) (grownBy_putObj' _ D (.deferred none)) f,Zaa (E.other ⟨b,0,none⟩ _ (by simp;omega)) (grownBy_putObj' _ D (.deferred none)) f⟩,Ajb ((Kept.E5 hB).setCell (p:=⟨b,0,none⟩) (by simp) _) (by omega) _⟩,fun h=>by rw[al.out]at h;cases h⟩
  | false=>
   rw[show Gv G=1 by unfold Gv;rw[C];rfl]at V;have al:=hid C;clear C
   gi_wp2_with (first | (refine⟨trivial,?_⟩;gi_at_call 236;refine(Bw.2 V).mono ?_;rintro e w' ⟨rfl,rfl⟩))
   refine⟨by simp,.inl ⟨_,_,rfl,run_takeDeferred H,?_⟩⟩;exact⟨_,D2 rfl _ _ _,fun h=>(by rw[al.out]at h;cases h),fun _=>⟨rfl,hB.trans (belowK_b (w:=w) (Ac _) W D _ _ (by omega) H rfl rfl)⟩⟩
 grind
theorem Ak4{r:List Value}{S:List Nat}(a:Option Addr)(c:Nat)(xs:List Int)(v:Int)(K:Col w)(q:BufR t r w p S s)(J:1<=s.length)(Q:s.length<=4096)(R:Fy s=true)(H:Rd i64 w a xs)(V:xs.length<=maxLen):
 Calls prog 199 #[pointer (some p),slice a xs.length c,int i64 v] w fun e w'=>∃S',e=.returned (int i64 (Iw s xs v))/\BufR t r w' p S' (Qk s xs v)/\(∀x∈S',x∈S\/w.heap.size<=x)/\Kept [p.block] w w':=by
 cases ht:OD xs v with
 | false=>
  refine(Ak5 a c xs v H V ht).mono fun e w' h=>?_
  obtain⟨rfl,I⟩:=h;refine⟨S,by unfold Iw;rw[ht];rfl,?_,fun x C=> .inl C,Kept.E5 I⟩;have j:Qk s xs v=s:=by unfold Qk;rw[ht];rfl
  rw[j];exact q.kept (Kept.E5 (S:=[]) I) (fun x _=>by simp)
 | true=>
  obtain⟨b,g,rfl,rfl,y,l,hg⟩:=id q;obtain⟨E,D,m⟩:Fy xs=true/\xs.length<=4096/\LO v=true:=by
   grind [OD]
  obtain⟨f,rfl,A⟩:∃f:Nat,v=(f:Int)/\f<=3:=by
   unfold LO at m;simp at m;exact⟨v.toNat,by omega,by omega⟩
  have M:JW s.length f xs s (List.range xs.length)=GV s xs (f:Int):=Se s.length f xs s xs.length xs.length (Ac _);refine(Aid a xs.length s.length c f xs K y l hg rfl J Q R H E rfl D A (GV s xs (f:Int)) M).mono fun e w' h=>?_
  obtain⟨U,z⟩:=h
  cases d:Fy (GV s xs (f:Int))with
  | true=>
   obtain⟨rfl,⟨G,O,i,u⟩,P⟩:=U d;have j:Qk s xs (f:Int)=GV s xs (f:Int):=by unfold Qk;rw[ht,d];rfl
   refine⟨[b,G],by unfold Iw;rw[ht,d];rfl,?_,?_,P⟩
   ·rw[j];exact⟨b,G,rfl,rfl,by have:=l.lt;omega,by rw[QK];exact i,u⟩
   grind
  | false=>
   obtain⟨rfl,i⟩:=z d;have j:Qk s xs (f:Int)=s:=by unfold Qk;rw[ht,d];rfl
   refine⟨[b,g],by unfold Iw;rw[ht,d];rfl,?_,fun x C=> .inl C,Kept.E5 i⟩;rw[j];exact q.kept (Kept.E5 (S:=[]) i) (fun x _=>by simp)
def L8 (S:Setg)(B:Nat):List Value:=[int i64 S.code,int i64 S.size,int i64 S.order,int i64 S.seed,int i64 S.count,int i64 (B:Int)]
def EarP (w:World)(p:Addr)(F:List Nat)(S:Setg)(B:Nat)(s:List Int):Prop:=BufR 343 (L8 S B) w p F s
def Ald (N B0 b g:Nat)(w:World):Prop:=BoxR w b 337 [] (slice (some ⟨g,0,none⟩) N N)/\ArrAt i64 3 w g (List.replicate N 0)/\B0<=g
def bufT (N B0:Nat):Value->World->Prop:=fun x w=>∃b g,x=.tuple #[pointer (some ⟨b,0,none⟩),int i64 0]/\Ald N B0 b g w
def Ab5 (N B0:Nat):Value->World->Prop:=fun x w=>∃b g,x=pointer (some ⟨b,0,none⟩)/\Ald N B0 b g w
def Am5 (N B0:Nat):Value->World->Prop:=fun x w=>∃g,x=.agg #[slice (some ⟨g,0,none⟩) N N]/\ArrAt i64 3 w g (List.replicate N 0)/\B0<=g
def Tw (S:Setg)(B N g:Nat):Value:=.agg #[slice (some ⟨g,0,none⟩) N N,int i64 S.code,int i64 S.size,int i64 S.order,int i64 S.seed,int i64 S.count,int i64 (B:Int)]
def Am6 (N B0:Nat)(S:Setg)(B:Nat):Value->World->Prop:=fun x w=>∃g,x=Tw S B N g/\ArrAt i64 3 w g (List.replicate N 0)/\B0<=g
def earR (N B0:Nat)(S:Setg)(B:Nat):Value->World->Prop:=fun x w=>∃b g,x=pointer (some ⟨b,0,none⟩)/\(BoxR w b 343 (L8 S B) (slice (some ⟨g,0,none⟩) N N)/\ArrAt i64 3 w g (List.replicate N 0)/\B0<=g/\B0<=b/\b≠g)
theorem ME{k:IntKind}(h:ArrAt k T w g L)(hg:w.grownBy w' none):ArrAt k T w' g L:=h.below (GJ hg) h.lt
theorem Tc(h:Ald N B0 b g w)(hg:w.grownBy w' none):Ald N B0 b g w':=⟨h.1.old (GJ hg),ME h.2.1 hg,h.2.2⟩
theorem Afv(N B0:Nat):MB (bufT N B0):=fun _ _ _ ⟨b,g,c,d⟩ hg=>⟨b,g,c,Tc d hg⟩
theorem Afu(N B0:Nat):MB (Ab5 N B0):=fun _ _ _ ⟨b,g,c,d⟩ hg=>⟨b,g,c,Tc d hg⟩
theorem Afw(N B0:Nat):MB (Am5 N B0):=fun _ _ _ ⟨g,c,d,e⟩ hg=>⟨g,c,ME d hg,e⟩
theorem Afx(N B0:Nat)(S:Setg)(B:Nat):MB (Am6 N B0 S B):=fun _ _ _ ⟨g,c,d,e⟩ hg=>⟨g,c,ME d hg,e⟩
theorem AfW(N B0:Nat)(S:Setg)(B:Nat):MB (earR N B0 S B):=fun _ _ _ ⟨b,g,c,d,e,f⟩ hg=>⟨b,g,c,d.old (GJ hg),ME e hg,f⟩
theorem bufT.mk(h:Aoa w p F (List.replicate N 0))(hF:∀x∈F,B0<=x):bufT N B0 (.tuple #[pointer (some p),int i64 0]) w:=by
 obtain⟨b,g,rfl,rfl,_,c,hg⟩:=h;rw[A7]at c;exact⟨b,g,rfl,c,hg,hF g (by simp)⟩
theorem earR.mk(c:B0<=w.heap.size)(h:ArrAt i64 3 w g (List.replicate N 0)/\B0<=g):earR N B0 S B (pointer (some ⟨w.heap.size,0,none⟩)) (w.alloc (.cells #[slice (some ⟨g,0,none⟩) N N,int i64 S.code,int i64 S.size,int i64 S.order,int i64 S.seed,int i64 S.count,int i64 (B:Int)] 343)):=
 ⟨w.heap.size,g,rfl,Am w _,h.1.alloc _,h.2,c,by have:=h.1.lt;omega⟩
theorem Abf(w:World)(d:o.op=.load 337 x)(h:ρ x=pointer (some ⟨g,0,none⟩))(c:w.cell? ⟨g,0,none⟩=some v):(execOp ρ o).run prog w=.ok (.value (.agg #[v])) w:=by
 unfold execOp;simp only[d,h];simp[go_sem,c]
theorem Vl(w:World){y z:Operand}(c:o.op=.build 343 #[(0,x),(1,y),(2,z)])(d:ρ x=.agg #[slice (some ⟨g,0,none⟩) N N])(e:ρ y=S.val)(f:ρ z=int i64 (B:Int)):(execOp ρ o).run prog w=.ok (.value (Tw S B N g)) w:=by
 unfold execOp;simp only[c];simp[d,e,f,go_sem,Setg.val,Tw]
theorem Aa4(w:World)(c:o.op=.box 343 x)(h:ρ x=Tw S B N g):(execOp ρ o).run prog w=.ok (.value (pointer (some ⟨w.heap.size,0,none⟩))) (w.alloc (.cells #[slice (some ⟨g,0,none⟩) N N,int i64 S.code,int i64 S.size,int i64 S.order,int i64 S.seed,int i64 S.count,int i64 (B:Int)] 343)):=by
 unfold Tw at h;unfold execOp;simp only[c,h];simp[go_sem]
theorem To(c:SetOk S B):∃N:Nat,Ij S B=N/\1<=N/\N<=4096:=by
 refine⟨(Ij S B).toNat,?_⟩;have e:=c.few;unfold Ij
 rcases c.code with h | h
 ·rw[Ab h];omega
 ·rw[Aa (by omega)];have d:=(c.size1 h).1;unfold Np at d;have:=AQ d;omega
theorem Sn(v:Int)(w:World)(h:LO v=true):Calls prog 186 #[int i64 v] w fun e w'=>e=.returned (int i64 0)/\w=w':=by
 have h:=AQ h;have c:decide (v<0)=false:=Ae (by omega);have d:decide (4<=v)=false:=Ae (by omega);clear h;go_enter func186,ntmps186;go_wp2;go_ret;exact⟨rfl,rfl⟩
theorem Ah8(n:Nat):AllBits (List.replicate n (0:Int)):=fun x c=>by
 rw[List.eq_of_mem_replicate c];omega
theorem Ajl(S:Setg)(B:Nat)(w:World)(hR:ReadyL w)(hE:RE S B=0)(ae:∀i,Calls prog 185 #[S.val,int i64 (B:Int)] i fun e w'=>e=.returned (int i64 0)/\Below i.heap.size i w'):Calls prog 163 #[S.val,int i64 B] w fun e w'=>∃p F,e=.returned (.tuple #[pointer (some p),int i64 0])/\EarP w' p F S B (List.replicate (Ij S B).toNat 0)/\(∀x∈F,w.heap.size<=x)/\Below w.heap.size w w':=by
 have P:=MT hE;have hB:B<=40:=by have:=P.few;omega
 obtain⟨N,eN,bl,bm⟩:=To P;rw[eN,AN];have br:=fun i=>LE (B:Int) i ⟨by omega,by omega⟩
 have H:=fun(i:World) (a:Option Addr) (c:Nat) (f:ReadyL i) (h:Rd .u8 i a (List.replicate (8*B+24) 0))=>Sm S B (List.replicate (8*B+24) 0) a (8*B+24) c i P f h (Ah8 _) (by simp) rfl
 have af:=Qt (S:=S) (z:=List.replicate (8*B+24) 0) (n:=B) (by simp) P.code fun e=>(P.size1 e).1
 obtain⟨L,eL⟩:=E7 (JR S (List.replicate (8*B+24) 0));rw[<-eL]at H af;have HL:Hid (L.length=N):=by show L.length=N;omega
 obtain⟨O,eK⟩:=E7 (8*B+24);have HK:Hid ((8*(B:Int)+24)=(O:Int)):=by show _=_;omega
 rw[<-eK]at H;have b4:O<=400:=by omega
 have bq:=fun i=>AlP N i bl bm
 have C:prog.follows .mixedOrders=true:=by kernel_rfl
 have U:Hid (∀i,Below (w.alloc (.cells #[int i64 S.code,int i64 S.size,int i64 S.order,int i64 S.seed,int i64 S.count] 286)).heap.size (w.alloc (.cells #[int i64 S.code,int i64 S.size,int i64 S.order,int i64 S.seed,int i64 S.count] 286)) i->i.cell? ⟨w.heap.size,0,none⟩=some (int i64 S.code)/\i.cell? ⟨w.heap.size,1,none⟩=some (int i64 S.size)/\i.cell? ⟨w.heap.size,2,none⟩=some (int i64 S.order)/\i.cell? ⟨w.heap.size,3,none⟩=some (int i64 S.seed)/\i.cell? ⟨w.heap.size,4,none⟩=some (int i64 S.count)):=fun i h=>Wx h
 have G:Below w.heap.size w (w.alloc (.cells #[int i64 S.code,int i64 S.size,int i64 S.order,int i64 S.seed,int i64 S.count] 286)):=(Ad _ w).alloc (Ac _) _;have ag:w.heap.size<(w.alloc (.cells #[int i64 S.code,int i64 S.size,int i64 S.order,int i64 S.seed,int i64 S.count] 286)).heap.size:=by simp
 have bn:=hR.below G;clear P hE eL af eN eK;unfold Setg.val;go_enter func163,ntmps163
 go_wp2_with fail;generalize w.alloc (.cells #[int i64 S.code,int i64 S.size,int i64 S.order,int i64 S.seed,int i64 S.count] 286)=w0 at*;refine(ae _).mono ?_;rintro e w1 ⟨rfl,aa⟩;have d:=aa;have bo:∀i,Below w0.heap.size w0 i->ReadyL i:=fun i h=>bn.below h
 go_wp2_with fail
 refine Bi (II (Q:=fun e a' w'=>e=.normal/\∃σ:Nat->Value,a'=({tmps:=((Ft _ (tbS [14,15,16,17,18,19] 6 σ)).set 7 (int i64 (N:Int))).toArray,defers:=[]}:Act)/\Below w1.heap.size w1 w') 7 6 [14,15,16,17,18,19]
  [[1],[14],[15],[2],[16,17],[18]] [1,2,4,4,5,6]
  [eqR (int i64 (B:Int)),eqR (int i64 (O:Int)),sliR .u8 O (List.replicate O 0),eqR S.val,sliR .u8 N L,eqR (int i64 (N:Int))] w1 C rfl (by decide) rfl (by decide) (by kernel_rfl) (by kernel_rfl) (by kernel_rfl) (by kernel_rfl) (by kernel_rfl) (by kernel_rfl)
  (by grind [Lp,O7])
  (fun q bp σ A wc l j f Q K m=>by
   have I:q=0\/q=1\/q=2\/q=3\/q=4\/q=5:=by omega
   rcases I with rfl | rfl | rfl | rfl | rfl | rfl
   ·have e1:=f 1 (by decide);exact E6 rfl rfl (Fd wc rfl e1) (m _ wc (Fb wc) rfl)
   ·have au:A.eval (.tmp 14)=(int i64 (B:Int)):=(f 14 (by decide)).trans (j 0 (by decide) (by kernel_rfl));refine FM rfl rfl rfl (enters_of func195 (by kernel_rfl) rfl) (AeS au) (br wc) fun e w' r=>?_
    obtain⟨rfl,rfl⟩:=r;exact⟨_,rfl,m _ _ (Fb _) (congrArg (Value.int i64) HK.out)⟩
   ·have W:A.eval (.tmp 15)=(int i64 (O:Int)):=(f 15 (by decide)).trans (j 1 (by decide) (by kernel_rfl));exact E6 rfl rfl (AdF wc rfl W W (by omega)) (m _ _ (Qz _ _) (sliR.mk (Ac _) (by unfold maxLen;omega) (ArrAt.rdL (Am wc _))))
   ·have e2:=f 2 (by decide);obtain⟨c0,c1,c2,c3,c4⟩:=U.out wc (d.trans (l.mono d.size));exact E6 rfl rfl (Lc (S:=S) wc rfl e2 c0 c1 c2 c3 c4) (m _ wc (Fb wc) rfl)
   ·obtain⟨al,aq,bs,b6,b7,b1⟩:=j 2 (by decide) (by kernel_rfl);have av:=(f 16 (by decide)).trans bs;have aw:A.eval (.tmp 17)=S.val:=(f 17 (by decide)).trans (j 3 (by decide) (by kernel_rfl));refine FM rfl rfl rfl (enters_of func191 (by kernel_rfl) rfl) (Oj av aw) (H wc al aq (bo wc (d.trans (l.mono d.size))) b1) fun e w' r=>?_
    obtain⟨b8,rfl,ah,E⟩:=r;exact⟨_,rfl,m _ w' (FX E) (by obtain⟨am,ar,rfl,ai,aj,ak, -⟩:=ah.slice HL.out;exact sliR.mk ai aj ak)⟩
   ·obtain⟨am,ar,bt,ai,aj,ak⟩:=j 4 (by decide) (by kernel_rfl);have ax:=(f 18 (by decide)).trans bt
    exact E6 rfl rfl (Ahp wc rfl ax) (m _ wc (Fb wc) rfl))
  (fun σ wc l j=>by
   refine E6 rfl rfl (G5 wc rfl ((Fj (t:=tbS [14,15,16,17,18,19] 6 σ) 19 (show([14,15,16,17,18,19]:List Nat).Nodup by decide) (by kernel_rfl)).trans (j 5 (by decide)))) ⟨rfl,σ,G4 _ _ _,l⟩)) ?_
 rintro e a' w4 ⟨rfl,M,rfl,ab⟩;have d:=d.trans (ab.mono d.size);clear aa;rw[show tbS [14,15,16,17,18,19] 6 M=[(14,M 0),(15,M 1),(16,M 2),(17,M 3),(18,M 4),(19,M 5)]from rfl];dsimp only[Ft,List.set,List.append_nil,List.cons_append,List.nil_append]
 go_wp2_with fail
 refine Bi (II (Q:=fun e a' w'=>e=.normal/\∃σ:Nat->Value,a'=({tmps:=((Ft _ (tbS [20,21,22,23,24,25,26,27,28,29,30,4] 12 σ)).set 5 (int i64 0)).toArray,defers:=[]}:Act)/\earR N w.heap.size S B (σ 11) w'/\Below w4.heap.size w4 w') 13 12 [20,21,22,23,24,25,26,27,28,29,30,4]
  [[7],[20],[21],[21],[22,23],[24],[25],[2],[1],[26,27,28],[29],[30]] [1,2,4,4,5,6,9,9,9,10,11,12]
  [eqR (int i64 (N:Int)),bufT N w.heap.size,Ab5 N w.heap.size,eqR (int i64 0),Ab5 N w.heap.size,Ab5 N w.heap.size,Am5 N w.heap.size,eqR S.val,eqR (int i64 (B:Int)),Am6 N w.heap.size S B,earR N w.heap.size S B,earR N w.heap.size S B] w4 C rfl (by decide) rfl (by decide) (by kernel_rfl) (by kernel_rfl) (by kernel_rfl) (by kernel_rfl) (by kernel_rfl) (by kernel_rfl)
  (by intro R hR;simp only[Ar,Bt,BF]at hR;rcases hR with rfl | rfl | rfl | rfl | rfl | rfl | rfl | rfl | rfl | rfl | rfl | rfl<;>(first | (exact Lp _) | (exact Afv _ _) | (exact Afu _ _) | (exact Afw _ _) | (exact Afx _ _ _ _) | (exact AfW _ _ _ _)))
  (fun q bp σ A wc l j f Q K m=>by
   have I:q=0\/q=1\/q=2\/q=3\/q=4\/q=5\/q=6\/q=7\/q=8\/q=9\/q=10\/q=11:=by omega
   rcases I with rfl | rfl | rfl | rfl | rfl | rfl | rfl | rfl | rfl | rfl | rfl | rfl
   ·have e7:=f 7 (by decide);exact E6 rfl rfl (Fd wc rfl e7) (m _ wc (Fb wc) rfl)
   ·have ay:A.eval (.tmp 20)=(int i64 (N:Int)):=(f 20 (by decide)).trans (j 0 (by decide) (by kernel_rfl));refine FM rfl rfl rfl (enters_of func197 (by kernel_rfl) rfl) (AeS ay) (bq wc) fun e w' r=>?_
    obtain⟨p4,F4,rfl,bi,bk,E⟩:=r;exact⟨_,rfl,m _ w' (FX E) (bufT.mk bi (fun x hx=>Ak (Ak (Db ag) (Ak d.size l.size)) (bk x hx)))⟩
   ·obtain⟨V,X,J,Y⟩:=j 1 (by decide) (by kernel_rfl);have D:=(f 21 (by decide)).trans J;exact E6 rfl rfl (G6 wc rfl D rfl) (m _ wc (Fb wc) (show Ab5 N w.heap.size _ _ from⟨V,X,rfl,Y⟩))
   ·obtain⟨V,X,J,Y⟩:=j 1 (by decide) (by kernel_rfl);have D:=(f 21 (by decide)).trans J;exact E6 rfl rfl (G6 wc rfl D rfl) (m _ wc (Fb wc) rfl)
   ·obtain⟨an,a8,bu,bd⟩:=j 2 (by decide) (by kernel_rfl);have az:=(f 22 (by decide)).trans bu;have a0:A.eval (.tmp 23)=(int i64 0):=(f 23 (by decide)).trans (j 3 (by decide) (by kernel_rfl));refine FM rfl rfl rfl (enters_of func196 (by kernel_rfl) rfl) (Oj az a0) (AoK _ wc) fun e w' r=>?_
    obtain⟨rfl,rfl⟩:=r;exact⟨_,rfl,m _ _ (Fb _) (show Ab5 N w.heap.size _ _ from⟨an,a8,rfl,bd⟩)⟩
   ·obtain⟨ao,a9,bv,be⟩:=j 4 (by decide) (by kernel_rfl);have a1:=(f 24 (by decide)).trans bv;exact E6 rfl rfl (Ie wc rfl a1) (m _ wc (Fb wc) (show Ab5 N w.heap.size _ _ from⟨ao,a9,rfl,be⟩))
   ·obtain⟨b2,ba,bw,Z⟩:=j 5 (by decide) (by kernel_rfl);have a2:=(f 25 (by decide)).trans bw;exact E6 rfl rfl (Abf wc rfl a2 Z.1.cell) (m _ wc (Fb wc) (show Am5 N w.heap.size _ _ from⟨ba,rfl,Z.2⟩))
   ·have e2:=f 2 (by decide);obtain⟨c0,c1,c2,c3,c4⟩:=U.out wc (d.trans (l.mono d.size));exact E6 rfl rfl (Lc (S:=S) wc rfl e2 c0 c1 c2 c3 c4) (m _ wc (Fb wc) rfl)
   ·have e1:=f 1 (by decide);exact E6 rfl rfl (Fd wc rfl e1) (m _ wc (Fb wc) rfl)
   ·obtain⟨bb,bx,bf⟩:=j 6 (by decide) (by kernel_rfl);have a3:=(f 26 (by decide)).trans bx;have a4:A.eval (.tmp 27)=S.val:=(f 27 (by decide)).trans (j 7 (by decide) (by kernel_rfl));have a5:A.eval (.tmp 28)=(int i64 (B:Int)):=(f 28 (by decide)).trans (j 8 (by decide) (by kernel_rfl));exact E6 rfl rfl (Vl (S:=S) wc rfl a3 a4 a5) (m _ wc (Fb wc) (show Am6 N w.heap.size S B _ _ from⟨bb,rfl,bf⟩))
   ·obtain⟨b3,bz,bg⟩:=j 9 (by decide) (by kernel_rfl);have a6:=(f 29 (by decide)).trans bz;exact E6 rfl rfl (Aa4 wc rfl a6) (m _ _ (Qz _ _) (earR.mk (Ak (Db ag) (Ak d.size l.size)) bg))
   ·obtain⟨ap,bc,b0,bh⟩:=j 10 (by decide) (by kernel_rfl);have a7:=(f 30 (by decide)).trans b0
    exact E6 rfl rfl (G5 wc rfl a7) (m _ wc (Fb wc) (show earR N w.heap.size S B _ _ from⟨ap,bc,rfl,bh⟩)))
  (fun σ wc l j=>by
   refine E6 rfl rfl (G5 wc rfl rfl) ⟨rfl,σ,G4 _ _ _,j 11 (by decide),l⟩)) ?_
 rintro e a' w5 ⟨rfl,u,rfl,⟨b5,g5,q5,y⟩,ad⟩;rw[show tbS [20,21,22,23,24,25,26,27,28,29,30,4] 12 u=[(20,u 0),(21,u 1),(22,u 2),(23,u 3),(24,u 4),(25,u 5),(26,u 6),(27,u 7),(28,u 8),(29,u 9),(30,u 10),(4,u 11)]from rfl,q5];dsimp only[Ft,List.set,List.append_nil,List.cons_append,List.nil_append];have bj:=G.trans ((d.trans (ad.mono d.size)).mono G.size);clear ad ab d
 go_wp2_with fail
 go_ret2;exact⟨_,[b5,g5],rfl,⟨b5,g5,rfl,rfl,y.2.2.2.2,by rw[A7];exact y.1,y.2.1⟩,by simp;exact⟨y.2.2.2.1,y.2.2.1⟩,bj⟩
theorem Abz(W:Nat)(R:Nat)(zs:List Int)(n:Nat)(m:zs.length=n)(a:Option Addr)(c:Nat)(w:World)(j:Rd .u8 w a zs)(l:Bits zs)(q:n<=4096)(f:Div W (2 ^ W ||| R))(d:1<=W)(i:W<=24)(h:R<16777216):
 Calls prog 224 #[.agg #[int i64 W,int .u32 R],slice a n c] w fun e w'=>∃v,e=.returned v/\Own w' w.heap.size v (RK W (2 ^ W ||| R) zs)/\Below w.heap.size w w':=by
 subst m;exact Yt W R zs a c w j l q f d i h
theorem N6(h:Rd .u8 w a L)(c n:Nat)(d:L.length=n):(convert 103 9 (slice a n c)).run prog w=.ok (.string (strOfNums L)) w:=by
 subst d;exact L6 h c
theorem Ajc(zs:List Int)(n:Nat)(c:n<=zs.length):Je (List.replicate n 0) 0 (zs.take n)=zs.take n:=by
 simp[Je];omega
theorem AlV(zs:List Int)(k:Int)(a:Option Addr)(c:Nat)(w:World)(O:Rd .u8 w a zs)(aa:zs.length<=c)(W:c<=maxLen)(hy:Bytes zs)(h:Lq zs k=0)(n:Nat)(hl:zs.length=n+kW k)(hs:Ko (zs.take n) k=zs.drop n):
 Calls prog 239 #[slice a zs.length c,int i64 k] w fun e w'=>∃v,e=.returned (.tuple #[v,.bool true,int i64 0])/\Own w' w.heap.size v (zs.take n)/\Below w.heap.size w w':=by
 obtain⟨P,X⟩:=MI h;obtain⟨hD,U,hW,hR⟩:=Oi X;have hb:Bits zs:=fun j=>⟨(hy.at j).1,(IA P).1 j⟩
 have V:=VG hb n;have hz:=(IA P).2;have HE:Hid (F6 zs=0):=P;have HK:Hid (Jr k=true):=X;have Y:n<zs.length:=by omega
 have ab:(zs.length:Int)-(kW k:Int)=n:=by omega
 have r:(zs.take n).length=n:=by rw[Ay];omega
 have HT:Hid ((zs.take n).length=n):=r;have q:(zs.drop n).length=zs.length-n:=by rw[AJ]
 have R:Hid ((zs.drop n).length=zs.length-n):=q;unfold Ko kP at hs;unfold kP at hD;have HS:Hid (RK (kW k) (2 ^ kW k ||| kR k) (zs.take n)=zs.drop n):=hs;unfold maxLen at W;clear h hy P X hl r q hs;obtain⟨b1,Q,rfl,G⟩:=O.at Y;go_enter func239,ntmps239
 go_wp2_with fail;refine(KE zs k _ c _ O (by unfold maxLen;omega) HE.out HK.out).mono ?_;rintro e w1 ⟨rfl,E⟩;have u:Below w.heap.size w (w1.alloc (.cells #[int i64 (kW k),int .u32 (kR k)] 368)):=E.alloc E.size _;obtain⟨p0,p1, -⟩:=Ais (w:=w1) (x:=int i64 (kW k)) (y:=int .u32 (kR k)) (T:=368) (w1:=w1.alloc (.cells #[int i64 (kW k),int .u32 (kR k)] 368)) (Ad _ _);have C:∀j,j<zs.length->(w1.alloc (.cells #[int i64 (kW k),int .u32 (kR k)] 368)).cell? ⟨b1,Q+j,none⟩=some (int .u8 (zs.getD j 0)):=fun j hj=>Pm u (G j hj)
 have J:=Rd.take C n;have I:=Rd.drop C n;clear G C;have Z:=O.below u;have P0:=hid p0;have P1:=hid p1;clear p0 p1
 go_wp2_with fail;have ae:(n:Int)<=(c:Int):=by omega
 have af:(n:Int)<=(zs.length:Int):=by omega
 have m:Rd .u8 (w1.alloc (.cells #[int i64 (kW k),int .u32 (kR k)] 368)).drew (some ⟨b1,Q+n,none⟩) (zs.drop n):=I
 go_region_held (fun w'=>w'.cell? ⟨w1.heap.size,0,none⟩=some (int i64 (kW k))/\w'.cell? ⟨w1.heap.size,1,none⟩=some (int .u32 (kR k))/\(convert 103 9 (slice (some ⟨b1,Q+n,none⟩) (zs.length-n) (c-n))).run prog w'=.ok (.string (strOfNums (zs.drop n))) w')
  (first | exact⟨P0.out,P1.out,N6 m _ _ R.out⟩ | exact⟨Pm f P0.out,Pm f P1.out,N6 (m.below f) _ _ R.out⟩)
  (first | (go_at_call 224;refine(Abz (kW k) (kR k) (zs.take n) n HT.out _ _ _ ?_ V (by omega) hD U hW hR).mono ?_;exact J;rintro e w2 ⟨v2,rfl,d,f⟩;rw[HS.out]at d;obtain⟨a2,c2,rfl, -⟩:=d.FC;have H:=N6 d.rd c2 _ R.out))
 all_goals
  have A:Below w.heap.size w w2:=Fr u.drew f;have K:Rd .u8 w2 (some ⟨b1,Q,none⟩) zs:=O.below A;clear H d f I m J Z
  go_wp2_with(at_make;refine FH w2.heap.size w2 n rfl _ _ rfl _ _ rfl rfl rfl rfl (by omega) (Ad _ _) (Ac _) ?_);intro w3 D i ac;have M:=K.below i
  go_wp2_with(refine M4 w2 D M rfl (.tmp 42) (.tmp 43) rfl (some ⟨w2.heap.size,0,none⟩) n n c 0 n (by omega) rfl rfl (fun _=>rfl) (by omega) i ?_);intro w4 l z ad;rw[Ajc zs n (by omega)]at l;go_wp2
  go_ret3;exact⟨_,rfl,l.mono A.size,Fr A z⟩
theorem Aiu{a b:Int}(d:0<=a/\a<=255)(e:0<=b/\b<=255)(h:UInt8.ofNat a.toNat=UInt8.ofNat b.toNat):a=b:=by
 have c:=congrArg UInt8.toNat h;simp at c;omega
theorem QG:∀{X Y:List Int},Bytes X->Bytes Y->X.map (fun n=>UInt8.ofNat n.toNat)=Y.map (fun n=>UInt8.ofNat n.toNat)->X=Y
 | [],[],_,_,_=>rfl
 | [],_::_,_,_,h=>by simp at h
 | _::_,[],_,_,h=>by simp at h
 | x::X,y::Y,hX,hY,h=>by
  simp only[Be,EH]at h;rw[Aiu (hX x (by simp)) (hY y (by simp)) h.1,QG (fun n c=>hX n (by simp[c])) (fun n c=>hY n (by simp[c])) h.2]
theorem AnW{X Y:List Int}(c:Bytes X)(d:Bytes Y)(h:X≠Y):((strOfNums X).toList==(strOfNums Y).toList)=false:=by
 rw[Cb];intro e;rw[Cc,Cc,D5,D5]at e;exact h (QG c d e)
theorem AhI(W P:Nat)(zs:List Int):Bytes (RK W P zs):=by
 intro m c;unfold RK MX at c;obtain⟨i,_,rfl⟩:=Bb.1 c;have:=AbZ ((crc W P zs).testBit (W-1-i));omega
theorem AgO(zs:List Int)(k:Int)(a:Option Addr)(c:Nat)(w:World)(I:Rd .u8 w a zs)(aa:zs.length<=c)(M:c<=maxLen)(U:Bytes zs)(h:Lq zs k=0)(n:Nat)(hl:zs.length=n+kW k)(R:Ko (zs.take n) k≠zs.drop n):
 Calls prog 239 #[slice a zs.length c,int i64 k] w fun e w'=>e=.returned (.tuple #[slice none 0 0,.bool false,int i64 0])/\Below w.heap.size w w':=by
 obtain⟨G,O⟩:=MI h;obtain⟨Z,H,hW,hR⟩:=Oi O;have hb:Bits zs:=fun j=>⟨(U.at j).1,(IA G).1 j⟩
 have J:=VG hb n;have hz:=(IA G).2;have HE:Hid (F6 zs=0):=G;have HK:Hid (Jr k=true):=O;have P:n<zs.length:=by omega
 have ac:(zs.length:Int)-(kW k:Int)=n:=by omega
 have q:(zs.take n).length=n:=by rw[Ay];omega
 have HT:Hid ((zs.take n).length=n):=q;have l:(zs.drop n).length=zs.length-n:=by rw[AJ]
 have W:Hid ((zs.drop n).length=zs.length-n):=l;unfold Ko kP at R;unfold kP at Z;have ab:((strOfNums (RK (kW k) (2 ^ kW k ||| kR k) (zs.take n))).toList==(strOfNums (zs.drop n)).toList)=false:=AnW (AhI _ _ _) (fun m hm=>U m (BQ hm)) R;unfold maxLen at M;clear h U G O hl q l R;obtain⟨b1,V,rfl,A⟩:=I.at P;go_enter func239,ntmps239
 go_wp2_with fail;refine(KE zs k _ c _ I (by unfold maxLen;omega) HE.out HK.out).mono ?_;rintro e w1 ⟨rfl,z⟩;have r:Below w.heap.size w (w1.alloc (.cells #[int i64 (kW k),int .u32 (kR k)] 368)):=z.alloc z.size _;obtain⟨p0,p1, -⟩:=Ais (w:=w1) (x:=int i64 (kW k)) (y:=int .u32 (kR k)) (T:=368) (w1:=w1.alloc (.cells #[int i64 (kW k),int .u32 (kR k)] 368)) (Ad _ _);have u:∀j,j<zs.length->(w1.alloc (.cells #[int i64 (kW k),int .u32 (kR k)] 368)).cell? ⟨b1,V+j,none⟩=some (int .u8 (zs.getD j 0)):=fun j hj=>Pm r (A j hj)
 have E:=Rd.take u n;have D:=Rd.drop u n;clear A u;have Q:=I.below r;have X:=hid p0;have Y:=hid p1;clear p0 p1
 go_wp2_with fail;have ad:(n:Int)<=(c:Int):=by omega
 have ae:(n:Int)<=(zs.length:Int):=by omega
 have i:Rd .u8 (w1.alloc (.cells #[int i64 (kW k),int .u32 (kR k)] 368)).drew (some ⟨b1,V+n,none⟩) (zs.drop n):=D
 go_region_held (fun w'=>w'.cell? ⟨w1.heap.size,0,none⟩=some (int i64 (kW k))/\w'.cell? ⟨w1.heap.size,1,none⟩=some (int .u32 (kR k))/\(convert 103 9 (slice (some ⟨b1,V+n,none⟩) (zs.length-n) (c-n))).run prog w'=.ok (.string (strOfNums (zs.drop n))) w')
  (first | exact⟨X.out,Y.out,N6 i _ _ W.out⟩ | exact⟨Pm f X.out,Pm f Y.out,N6 (i.below f) _ _ W.out⟩)
  (first | (go_at_call 224;refine(Abz (kW k) (kR k) (zs.take n) n HT.out _ _ _ ?_ J (by omega) Z H hW hR).mono ?_;exact E;rintro e w2 ⟨v2,rfl,d,f⟩;obtain⟨a2,c2,rfl, -⟩:=d.FC;have C:=L6 d.rd c2))
 all_goals
  have K:Below w.heap.size w w2:=Fr r.drew f;clear C d f D i E Q;go_wp2
  go_ret3;exact⟨rfl,K⟩
theorem Ya(zs:List Int)(a:Option Addr)(c:Nat)(w:World)(E:Rd .u8 w a zs)(G:Bits zs)(hz:zs.length<=4096)(I:F6 zs=0):
 Calls prog 241 #[slice a zs.length c] w fun e w'=>e=.returned (.tuple #[.string (strOfNums (JH zs)),int i64 0])/\Below w.heap.size w w':=by
 have P:Hid (F6 zs=0):=I;clear I;go_enter func241,ntmps241
 go_wp2_with(first | (go_at_call 225;refine(IP zs a c _ E (by unfold maxLen;omega)).mono ?_;rintro e w' ⟨rfl,rfl⟩;rw[P.out]) | (at_make;refine FH w.heap.size w ((zs.length+7) / 8) rfl _ _ rfl _ _ rfl rfl ?_ ?_ (by omega) (Ad _ _) (Ac _) ?_))
 ·omega
 ·omega
 intro w1 f l K;rw[<-Aau zs]at f;obtain⟨M,z⟩:=E7 ((zs.length+7) / 8);rw[<-z]at f |-;have R:M<=513:=by omega
 have U:zs.length<=8*M:=by omega
 have Q:Hid (M=(zs.length+7) / 8):=z;clear z;go_wp2
 go_loopw [20] (fun i wr=>∃k:Nat,k<=zs.length/\i=int i64 k/\Own wr w.heap.size (slice (some ⟨w.heap.size,0,none⟩) M M) (Kp zs k)/\Below w.heap.size w wr) (fun i _=>zs.length-(intOf i).toNat)
 case atStart=>grind
 case round=>
  clear f l;obtain⟨k,hk,rfl,d,h⟩:=hrel
  by_cases r:k<zs.length
  ·have D:(Kp zs k).length=M:=d.len;have C:k / 8<M:=by omega
   have H:=d.cell (i:=k / 8) (by omega);rw[Aat zs k (k / 8) (by rw[<-Q.out];exact C)]at H;have Z:=d.free (k / 8);obtain⟨b1,o1,rfl,q⟩:=(E.below h).at r;have g1:=q k r;clear q D;have m:=AlW zs k G _ _ rfl rfl;obtain⟨p,J⟩:=E7 (Ix zs k (k / 8));obtain⟨x,O⟩:=E7 (zs.getD k 0);have u:=G k;rw[<-J]at H m;rw[<-O]at g1 m u;obtain⟨V,W,X,Y,j⟩:=m;have y:Hid (bits .or .u8 p (x*2 ^ (7-k % 8))=Ix zs (k+1) (k / 8)):=j;clear J O j;go_wp2
   go_region;go_wp2
   go_roundw
   case rel=>exact⟨k+1,by omega,by go_num,(Adk zs k _ y.out▸d.set (k / 8) _).drew,(h.setCell (Ac _) _).drew⟩
   case measure=>simp[intOf];omega
  ·obtain rfl:k=zs.length:=by omega
   rw[Adj]at d;have A:=L6 d.rd M;rw[d.len]at A;go_wp2
   go_ret2;exact⟨rfl,h⟩
def AdW (N:Nat)(sm:List Int):Value->World->Prop:=fun x w=>∃g,x=slice (some ⟨g,0,none⟩) N N/\ArrAt i64 3 w g sm
theorem RL(N:Nat)(sm:List Int):MB (AdW N sm):=fun _ _ _ ⟨g,c,d⟩ hg=>⟨g,c,ME d hg⟩
theorem VV(h:BoxR w b T (L8 S B) v):
 w.cell? ⟨b,1,none⟩=some (int i64 S.code)/\w.cell? ⟨b,2,none⟩=some (int i64 S.size)/\w.cell? ⟨b,3,none⟩=some (int i64 S.order)/\w.cell? ⟨b,4,none⟩=some (int i64 S.seed)/\w.cell? ⟨b,5,none⟩=some (int i64 S.count)/\w.cell? ⟨b,6,none⟩=some (int i64 (B:Int)):=by
 unfold BoxR at h;refine⟨?_,?_,?_,?_,?_,?_⟩<;>(rw[Al _ _ _ _ _ _ h];rfl)
theorem EarP.block(h:EarP w p F S B s):∃b g,p=⟨b,0,none⟩/\F=[b,g]/\b≠g/\BoxR w b 343 (L8 S B) (slice (some ⟨g,0,none⟩) s.length s.length)/\ArrAt i64 3 w g s:=h
theorem EarP.old(h:EarP w p F S B s)(c:Below w.heap.size w w'):EarP w' p F S B s:=BufR.kept h (Kept.E5 (S:=[]) c) (fun _ _=>by simp)
theorem Amo:strOfNums (JH [])=ByteArray.empty:=rfl
theorem AgP(D:List Int)(n:Nat)(a:Option Addr)(k c:Nat)(w:World)(y:Rd .u8 w a D)(m:AllBits D)(A:D.length=k)(l:k<=c)(i:c<=maxLen)(z:k=8*n+24)(G:n<=40):
 Calls prog 239 #[slice a k c,int i64 3] w fun e w'=>∃a' k' c',∃Z:List Int,e=.returned (.tuple #[slice a' k' c',.bool (decide (Ko (D.take (8*n)) 3=D.drop (8*n))),int i64 0])/\Z.length=k'/\k'<=4096/\AllBits Z/\Rd .u8 w' a' Z/\Below w.heap.size w w'/\Z=(if Ko (D.take (8*n)) 3=D.drop (8*n) then D.take (8*n) else []):=by
 subst A;have u:Lq D 3=0:=by unfold Lq;rw[Ab (PM m (by omega))];rfl
 have j:D.length=8*n+kW 3:=z
 by_cases h:Ko (D.take (8*n)) 3=D.drop (8*n)
 ·refine(AlV D 3 a c w y l i m.bytes u (8*n) j h).mono fun e w' q=>?_
  obtain⟨v,rfl,C,f⟩:=q;have d:(D.take (8*n)).length=8*n:=by rw[Ay];omega
  obtain⟨a',c',rfl, -, -,E, -⟩:=C.slice d;exact⟨a',8*n,c',D.take (8*n),by rw[Ag h],d,by omega,fun x r=>m x (Cr r),E,f,by rw[Ab h]⟩
 ·refine(AgO D 3 a c w y l i m.bytes u (8*n) j h).mono fun e w' q=>?_
  obtain⟨rfl,f⟩:=q;exact⟨none,0,0,[],by rw[Ae h],rfl,by omega,(fun x r=>by cases r),Rd.nil _ _ _,f,by rw[Aa h]⟩
theorem AkF(hE:EarP w ⟨b,0,none⟩ F S B sm)(hR:ReadyL w)(H:SetOk S B)(ae:(sm.length:Int)=Ij S B)(af:Fy sm=true):
 Calls prog 201 #[pointer (some ⟨b,0,none⟩)] w fun e w'=>e=.returned (.tuple #[.string (Mk S B sm).data,.bool (Mk S B sm).ok])/\Below w.heap.size w w':=by
 have aa:prog.follows .mixedOrders=true:=by kernel_rfl
 have hB:B<=40:=by have:=H.few;omega
 obtain⟨N,eN,bb,bc⟩:=To H;have hN:sm.length=N:=by omega
 obtain⟨f,eK⟩:=E7 (8*B+24);have HK:Hid ((8*(B:Int)+24)=(f:Int)):=by show _=_;omega
 have a4:=fun d=>LE (B:Int) d ⟨by omega,by omega⟩
 have a3:∀d,Below w.heap.size w d->Calls prog 237 #[pointer (some ⟨b,0,none⟩)] d fun e w'=>∃g',e=.returned (slice (some ⟨g',0,none⟩) N N)/\ArrAt i64 3 w' g' sm/\Below d.heap.size d w':=fun d hz=>by
  have h:=Abu (hE.old hz) (by omega) (by omega);rw[hN]at h;exact h.mono fun e w' ⟨g',O,G,_,h4⟩=>⟨g',O,G,h4⟩
 have Y:∀(d:World) (g:Nat),ReadyL d->ArrAt i64 3 d g sm->Calls prog 238 #[slice (some ⟨g,0,none⟩) N N,S.val,int i64 (f:Int)] d fun e w'=>∃v,e=.returned v/\Own w' d.heap.size v (Hu S f sm)/\Below d.heap.size d w':=fun d g i ha=>ZV S B sm g 0 N f N d H i (ArrAt.rdL ha) ae af hN (Ac _) eK
 have A:(Hu S f sm).length=f:=Vf (fun h=>by have G:=(H.size1 h).2;omega) H.code;have C:AllBits (Hu S f sm):=ZA S f sm;have hT:Mk S B sm=if Ko ((Hu S f sm).take (8*B)) 3=(Hu S f sm).drop (8*B) then ⟨strOfNums (JH ((Hu S f sm).take (8*B))),true,0⟩ else ⟨ByteArray.empty,false,0⟩:=by unfold Mk;rw[eK]
 obtain⟨D,eD⟩:=E7 (Hu S f sm);rw[<-eD]at Y A C hT;have HD:=hid A;have I:Hid (∀d,Below w.heap.size w d->d.cell? ⟨b,1,none⟩=some (int i64 S.code)/\d.cell? ⟨b,2,none⟩=some (int i64 S.size)/\d.cell? ⟨b,3,none⟩=some (int i64 S.order)/\d.cell? ⟨b,4,none⟩=some (int i64 S.seed)/\d.cell? ⟨b,5,none⟩=some (int i64 S.count)/\d.cell? ⟨b,6,none⟩=some (int i64 (B:Int))):=fun d hz=>by
  obtain⟨b',g,e, -, -,aw, -⟩:=(hE.old hz).block
  cases e;exact VV aw
 have ad:=fun(d:World) (a:Option Addr) (c:Nat) (h:Rd .u8 d a D) (O:f<=c) (G:c<=maxLen)=>AgP D B a f c d h C A O G eK hB
 obtain⟨t,et⟩:=E7 (Mk S B sm);rw[<-et]at hT |-;obtain⟨u,eu⟩:=E7 (decide (Ko (D.take (8*B)) 3=D.drop (8*B)));rw[<-eu]at ad;have HT:Hid (∀Z:List Int,Z=(if Ko (D.take (8*B)) 3=D.drop (8*B) then D.take (8*B) else [])->t.data=strOfNums (JH Z)/\t.ok=u):=fun Z hZ=>by
  rw[hZ,hT,eu]
  by_cases h:Ko (D.take (8*B)) 3=D.drop (8*B)
  ·grind
  ·rw[Aa h,Aa h,Ae h];exact⟨Amo.symm,rfl⟩
 clear hT et eu eD A C ae af H eN eK;go_enter func201,ntmps201
 go_wp2_with fail
 refine Bi (II (Q:=fun e a' w'=>e=.normal/\∃σ:Nat->Value,a'=({tmps:=((Ft _ (tbS [8,9,10,11,12,13,14,15,16,17,18,19,20,21] 14 σ)).set 4 (σ 13)).toArray,defers:=[]}:Act)/\sliR .u8 f D (σ 13) w'/\Below w.heap.size w w') 15 14 [8,9,10,11,12,13,14,15,16,17,18,19,20,21]
  [[0],[8],[9],[10],[0],[12],[13],[14],[0],[16],[17],[18],[19],[11,15,20]] [1,2,3,12,5,6,7,13,9,10,11,12,13,14]
  [eqR (pointer (some ⟨b,0,none⟩)),eqR (pointer (some ⟨b,0,none⟩)),eqR (pointer (some ⟨b,0,none⟩)),AdW N sm,eqR (pointer (some ⟨b,0,none⟩)),eqR (pointer (some ⟨b,0,none⟩)),eqR (pointer (some ⟨b,0+1,none⟩)),eqR S.val,eqR (pointer (some ⟨b,0,none⟩)),eqR (pointer (some ⟨b,0,none⟩)),eqR (pointer (some ⟨b,0+6,none⟩)),eqR (int i64 (B:Int)),eqR (int i64 (f:Int)),sliR .u8 f D] w aa rfl (by decide) rfl (by decide) (by kernel_rfl) (by kernel_rfl) (by kernel_rfl) (by kernel_rfl) (by kernel_rfl) (by kernel_rfl)
  (by intro R hR;simp only[Ar,Bt,BF]at hR;rcases hR with rfl | rfl | rfl | rfl | rfl | rfl | rfl | rfl | rfl | rfl | rfl | rfl | rfl | rfl<;>(first | (exact Lp _) | (exact RL _ _) | (exact O7 _ _ _)))
  (fun q bd σ y wc r j i Q K m=>by
   have ax:q=0\/q=1\/q=2\/q=3\/q=4\/q=5\/q=6\/q=7\/q=8\/q=9\/q=10\/q=11\/q=12\/q=13:=by omega
   rcases ax with rfl | rfl | rfl | rfl | rfl | rfl | rfl | rfl | rfl | rfl | rfl | rfl | rfl | rfl
   ·have J:=i 0 (by decide);exact E6 rfl rfl (Fd wc rfl J) (m _ wc (Fb wc) rfl)
   ·have e8:y.eval (.tmp 8)=(pointer (some ⟨b,0,none⟩)):=(i 8 (by decide)).trans (j 0 (by decide) (by kernel_rfl));exact E6 rfl rfl (Ie wc rfl e8) (m _ wc (Fb wc) rfl)
   ·have e9:y.eval (.tmp 9)=(pointer (some ⟨b,0,none⟩)):=(i 9 (by decide)).trans (j 1 (by decide) (by kernel_rfl));exact E6 rfl rfl (Nu wc rfl e9) (m _ wc (Fb wc) rfl)
   ·have ag:y.eval (.tmp 10)=(pointer (some ⟨b,0,none⟩)):=(i 10 (by decide)).trans (j 2 (by decide) (by kernel_rfl));refine FM rfl rfl rfl (enters_of func237 (by kernel_rfl) rfl) (AeS ag) (a3 wc r) fun e w' z=>?_
    obtain⟨M,rfl,V,E⟩:=z;exact⟨_,rfl,m _ w' (FX E) (show AdW N sm _ _ from⟨M,rfl,V⟩)⟩
   ·have J:=i 0 (by decide);exact E6 rfl rfl (Fd wc rfl J) (m _ wc (Fb wc) rfl)
   ·have ai:y.eval (.tmp 12)=(pointer (some ⟨b,0,none⟩)):=(i 12 (by decide)).trans (j 4 (by decide) (by kernel_rfl));exact E6 rfl rfl (Ie wc rfl ai) (m _ wc (Fb wc) rfl)
   ·have aj:y.eval (.tmp 13)=(pointer (some ⟨b,0,none⟩)):=(i 13 (by decide)).trans (j 5 (by decide) (by kernel_rfl));exact E6 rfl rfl (Nv wc rfl aj) (m _ wc (Fb wc) rfl)
   ·have ak:y.eval (.tmp 14)=(pointer (some ⟨b,0+1,none⟩)):=(i 14 (by decide)).trans (j 6 (by decide) (by kernel_rfl));obtain⟨c1,c2,c3,c4,c5, -⟩:=I.out wc r;exact E6 rfl rfl (Lc (S:=S) wc rfl ak c1 c2 c3 c4 c5) (m _ wc (Fb wc) rfl)
   ·have J:=i 0 (by decide);exact E6 rfl rfl (Fd wc rfl J) (m _ wc (Fb wc) rfl)
   ·have am:y.eval (.tmp 16)=(pointer (some ⟨b,0,none⟩)):=(i 16 (by decide)).trans (j 8 (by decide) (by kernel_rfl));exact E6 rfl rfl (Ie wc rfl am) (m _ wc (Fb wc) rfl)
   ·have an:y.eval (.tmp 17)=(pointer (some ⟨b,0,none⟩)):=(i 17 (by decide)).trans (j 9 (by decide) (by kernel_rfl));exact E6 rfl rfl (Yl wc rfl an) (m _ wc (Fb wc) rfl)
   ·have ao:y.eval (.tmp 18)=(pointer (some ⟨b,0+6,none⟩)):=(i 18 (by decide)).trans (j 10 (by decide) (by kernel_rfl));obtain⟨-, -, -, -, -,c6⟩:=I.out wc r;exact E6 rfl rfl (F5 wc rfl ao c6) (m _ wc (Fb wc) rfl)
   ·have ap:y.eval (.tmp 19)=(int i64 (B:Int)):=(i 19 (by decide)).trans (j 11 (by decide) (by kernel_rfl));refine FM rfl rfl rfl (enters_of func195 (by kernel_rfl) rfl) (AeS ap) (a4 wc) fun e w' z=>?_
    obtain⟨rfl,rfl⟩:=z;exact⟨_,rfl,m _ _ (Fb _) (congrArg (Value.int i64) HK.out)⟩
   ·obtain⟨M,a7,ar⟩:=j 3 (by decide) (by kernel_rfl);have ah:=(i 11 (by decide)).trans a7;have al:y.eval (.tmp 15)=S.val:=(i 15 (by decide)).trans (j 7 (by decide) (by kernel_rfl));have aq:y.eval (.tmp 20)=(int i64 (f:Int)):=(i 20 (by decide)).trans (j 12 (by decide) (by kernel_rfl));refine FM rfl rfl rfl (enters_of func238 (by kernel_rfl) rfl) (Z5 ah al aq) (Y wc _ (hR.below r) ar) fun e w' z=>?_
    obtain⟨be,rfl,ab,E⟩:=z
    exact⟨_,rfl,m _ w' (FX E) (by obtain⟨a9,ba,rfl,a5,a6,a8, -⟩:=ab.slice HD.out;exact sliR.mk a5 a6 a8)⟩)
  (fun σ wc r j=>by
   refine E6 rfl rfl (G5 wc rfl (Fj (t:=tbS [8,9,10,11,12,13,14,15,16,17,18,19,20,21] 14 σ) 21 (show([8,9,10,11,12,13,14,15,16,17,18,19,20,21]:List Nat).Nodup by decide) (by kernel_rfl))) ⟨rfl,σ,G4 _ _ _,j 13 (by decide),r⟩)) ?_
 rintro e a' w1 ⟨rfl,l,rfl,⟨a1,c1,q1,k1,m1,az⟩,W⟩;rw[show tbS [8,9,10,11,12,13,14,15,16,17,18,19,20,21] 14 l=[(8,l 0),(9,l 1),(10,l 2),(11,l 3),(12,l 4),(13,l 5),(14,l 6),(15,l 7),(16,l 8),(17,l 9),(18,l 10),(19,l 11),(20,l 12),(21,l 13)]from rfl,q1];dsimp only[Ft,List.set,List.append_nil,List.cons_append,List.nil_append]
 go_wp2_with(first
  | (go_at_call 239;refine(ad _ _ _ az k1 m1).mono ?_;rintro e w2 ⟨a2,n2,c2,Z,rfl,au,P,U,a0,X,hZ⟩;have HZ:=hid hZ;clear hZ;subst au;have ay:=fun d h=>Ya Z a2 c2 d h U.bits P (PM U P))
  | (go_at_call 187;refine(QJ _ _).mono ?_;rintro e w9 ⟨rfl,rfl⟩)
  | (go_at_call 241;refine(ay _ a0).mono ?_;rintro e w3 ⟨rfl,av⟩)
  | (go_at_call 240;refine(AoM _ _).mono ?_;rintro e w9 ⟨rfl,rfl⟩)
  | fail)
 obtain⟨O,G⟩:=HT.out Z HZ.out
 go_ret2;rw[O,G];exact⟨rfl,W.trans ((X.trans (av.mono X.size)).mono W.size)⟩
def NL (hs ns:List Int)(n k:Nat):List Int:=((List.range k).map fun i=>Pz (Jd (hs.getD i 0)) (ns.getD i 0))++List.replicate (n-k) 0
theorem Yy(c d:List Int)(h:k<=n):(NL c d n k).length=n:=by simp[NL];omega
theorem AhY(c d:List Int)(h:k<n):(NL c d n k).set k (Pz (Jd (c.getD k 0)) (d.getD k 0))=NL c d n (k+1):=by
 unfold NL;rw[show n-k=(n-(k+1))+1 from by omega,KI _ _ _ _ (by simp),Az,AR];rfl
theorem Xi(x:Int):min (max x (-1000)) 1000=Jd x:=by unfold Jd;(repeat' split)<;>omega
theorem Zh(x:Int):(if 1000<(if x < -1000 then -1000 else x) then 1000 else (if x < -1000 then -1000 else x))=Jd x:=by unfold Jd;(repeat' split)<;>omega
theorem AbF(l:List Int)(n U:Nat)(a:Option Addr)(c:Nat)(w:World)(ha:Rd i64 w a l)(hl:l.length=n)(h1:1<=n)(hn:n<=4096)(hU:U<2147483648):
 Calls prog 200 #[slice a n c,int i64 U] w fun e w'=>∃g,e=.returned (slice (some ⟨g,0,none⟩) n n)/\OwnI w' w.heap.size (slice (some ⟨g,0,none⟩) n n) ((List.range n).map fun i=>Pz (Jd (l.getD i 0)) ((FG U n).getD i 0))/\Below w.heap.size w w':=by
 have W:=hid hl;have R:=fun wz=>Ub U n wz hU hn
 have D:=hid (Lv U n);clear hl;generalize V:FG U n=u at*;clear V;go_enter func200,ntmps200
 go_wp2_with(first
  | (refine FZ w.heap.size w n rfl _ _ rfl _ _ rfl rfl rfl rfl (by omega) (Ad _ _) (Ac _) ?_;intro w1 j C ab E;clear E)
  | (go_at_call 222;refine(R _).mono ?_;rintro e w2 ⟨v2,rfl,f,H⟩;obtain⟨g2,c2,rfl,ac,aa⟩:=f.AnS D.out h1)
  | (go_at_call 187;refine(QJ _ _).mono ?_;rintro e w9 ⟨rfl,rfl⟩))
 rw[show List.replicate n (0:Int)=NL l u n 0 by simp[NL]]at j;have ad:w1.heap.size<=g2:=f.block.1;have O:Below w.heap.size w w2:=C.trans (H.mono (by omega));have d:OwnI w2 w.heap.size (slice (some ⟨w.heap.size,0,none⟩) n n) (NL l u n 0):=j.below H
 go_loopw [19] (fun i wr=>∃k:Nat,k<=n/\i=int i64 k/\OwnI wr w.heap.size (slice (some ⟨w.heap.size,0,none⟩) n n) (NL l u n k)/\Own wr w1.heap.size (slice (some ⟨g2,0,none⟩) n c2) u/\Below w.heap.size w wr) (fun i _=>n-(intOf i).toNat)
 case atStart=>grind
 case round=>
  clear j d f;obtain⟨k,hk,rfl,d,f,m⟩:=hrel
  by_cases q:k<n
  ·have K:=Yy l u hk;have gn:=f.cell (i:=k) (by rw[D.out];exact q);obtain⟨b3,o3,rfl,I⟩:=(ha.below m).at (i:=k) (by rw[W.out];exact q);have gh:=I k (by rw[W.out];exact q);have gs:=d.AmG (i:=k) (by rw[K];exact q);have gf:=d.free k;have h:=AhY l u q;have P:=Alj (l.getD k 0);have Q:=Zh (l.getD k 0);have J:=Xi (l.getD k 0);obtain⟨x,X⟩:=E7 (l.getD k 0);obtain⟨y,Y⟩:=E7 (u.getD k 0);rw[<-X]at gh h P Q J;rw[<-Y]at gn h;obtain⟨z,Z⟩:=E7 ((NL l u n k).getD k 0);rw[<-Z]at gs;clear X Y Z I K
   by_cases M:y=1
   ·subst M;have r:Pz (Jd x) 1= -(Jd x):=rfl;rw[r]at h;clear r;go_wp2;refine⟨⟨k+1,by omega,by go_num,?_,?_,?_⟩,by simp[intOf];omega⟩
    ·have G:=(d.set k (Jd x)).set k (-(Jd x));rw[B9,h]at G;exact G
    ·exact(f.other _ _ _ (by omega)).other _ _ _ (by omega)
    ·exact(m.setCell (Ac _) _).setCell (Ac _) _
   ·have qy:(y==1)=false:=by simpa using M
    have r:Pz (Jd x) y=Jd x:=by unfold Pz;rw[Aa M]
    rw[r]at h;clear r M;go_wp2;refine⟨⟨k+1,by omega,by go_num,?_,?_,?_⟩,by simp[intOf];omega⟩
    ·have G:=d.set k (Jd x);rw[h]at G;exact G
    ·exact f.other _ _ _ (by omega)
    ·exact m.setCell (Ac _) _
  ·have e:k=n:=by omega
   subst e;have A:NL l u k k=(List.range k).map fun i=>Pz (Jd (l.getD i 0)) (u.getD i 0):=by simp[NL]
   rw[A]at d;clear A;go_wp2;go_ret;exact⟨_,rfl,d,m⟩
theorem AcK{o:Obj}(h:w.heap[g]?=some o):g<w.heap.size:=(Array.getElem?_eq_some_iff.1 h).1
theorem ReadyL.kept{L:List Nat}(h:ReadyL w)(c:Kept L w w')(l:9∉L)(m:11∉L)(q:10∉L):ReadyL w':=by
 obtain⟨⟨d,i,e1⟩,⟨e,j,e2⟩,⟨f,f3,e3⟩⟩:=h;exact⟨⟨d,i,(c.block _ (AcK e1) l).trans e1⟩,⟨e,j,(c.block _ (AcK e2) m).trans e2⟩,⟨f,f3,(c.block _ (AcK e3) q).trans e3⟩⟩
theorem Ua{d:TypeId}{fr:Nat×Nat}{r:List Value}{k:IntKind}{x:Int}{l:List Value}{c:Nat}(h:w.heap[g]?=some (.cells (Value.int k x::l).toArray T fr))(e:BoxR w b d r (slice a n c)):g∉[b]:=by grind [BoxR]
theorem AnV{l:List Int}(h:∀k, -1000<=l.getD k 0/\l.getD k 0<=1000):Fy l=true:=by
 unfold Fy;refine AM.2 fun x c=>?_
 obtain⟨i,hi,rfl⟩:=A5 c;have e:l.getD i 0=l[i]:=by simp[List.getD,hi]
 grind
theorem Ai3(ps:List (Int×Int))(O n N:Nat)(a:Option Addr)(c:Nat)(w:World)(l:Pts w a ps)(q:ps.length=n)(z:O=2\/O=4\/O=6)(j:N=n*O)(f:IR ps (O:Int)=true):
 Calls prog 198 #[slice a n c,int i64 O] w fun e w'=>∃g,e=.returned (.tuple #[slice (some ⟨g,0,none⟩) N N,int i64 0])/\ArrAt i64 3 w' g (Jq (O / 2) O ps ps.length)/\Below w.heap.size w w':=by
 have d:=f;unfold IR at d;rw[BD,BD,Bq]at d;obtain⟨⟨-,y⟩,u⟩:=d;have i:N<=4096:=by
  grind
 refine(Age ps (O / 2) O n N a c w l (by omega) (by omega) (by omega) q j i f).mono fun e w' h=>?_
 obtain⟨g,rfl,r,m⟩:=h;refine⟨g,rfl,?_,m⟩;have e1:Jg (IE (O / 2)) (O / 2) ps n=Jq (O / 2) O ps ps.length:=by
  grind [Aav]
 rw[<-e1];exact r.arr.1
theorem Ac5(ps:List (Int×Int))(a:Option Addr)(n c:Nat)(v:Int)(hR:ReadyL w)(hE:EarP w ⟨b,0,none⟩ F S B sm)(hS:SetOk S B)(br:(sm.length:Int)=Ij S B)(bs:Fy sm=true)(hP:Pts w a ps)(hn:ps.length=n)(bt:n<=8796093022208)(D:Lo S ps v=true):
 Calls prog 164 #[pointer (some ⟨b,0,none⟩),slice a n c,int i64 v] w fun e w'=>e=.returned (Kw S B sm ps v).val/\∃F',EarP w' ⟨b,0,none⟩ F' S B (Jj S sm ps v)/\(∀x∈F',x∈F\/w.heap.size<=x)/\Kept [b] w w':=by
 have aj:prog.follows .mixedOrders=true:=by kernel_rfl
 have J:Hid (∀m,Below w.heap.size w m->m.cell? ⟨b,1,none⟩=some (int i64 S.code)/\m.cell? ⟨b,2,none⟩=some (int i64 S.size)/\m.cell? ⟨b,3,none⟩=some (int i64 S.order)/\m.cell? ⟨b,4,none⟩=some (int i64 S.seed)/\m.cell? ⟨b,5,none⟩=some (int i64 S.count)/\m.cell? ⟨b,6,none⟩=some (int i64 (B:Int))):=fun m hz=>by
  obtain⟨b',g,e, -, -,Z, -⟩:=(hE.old hz).block
  cases e;exact VV Z
 obtain⟨c1,c2,c3,c4,c5,c6⟩:=J.out w (Ad _ _);have bh:Hid (∀w1,Kept [b] w w1->ReadyL w1):=fun w1 hk=>by
  obtain⟨⟨T1,f1,e1⟩,⟨T2,f2,e2⟩,⟨T3,f3,e3⟩⟩:=id hR;obtain⟨b',g,e, -, -,Z, -⟩:=hE.block
  cases e;exact hR.kept hk (Ua e1 Z) (Ua e2 Z) (Ua e3 Z)
 have bn:LO v=true/\IR ps S.order=true:=by unfold Lo at D;rwa [BD]at D
 obtain⟨hv,hh⟩:=bn;have ad:=fun m=>Sn v m hv
 have be:=hS.order;have bu:=hS.count;have bf:=hS.seed;obtain⟨O,eO⟩:∃O:Nat,S.order=O:=⟨S.order.toNat,by omega⟩;obtain⟨C,eC⟩:∃C:Nat,S.count=C:=⟨S.count.toNat,by omega⟩;obtain⟨U,eU⟩:∃U:Nat,S.seed=U:=⟨S.seed.toNat,by omega⟩;rw[eO]at hh c3;rw[eC]at c5;obtain⟨N,eN⟩:=E7 (n*O);have a3:=Ai3 ps O n N a c w hP hn (by omega) eN hh;have bk:N<=4096:=by
  have h5:=(Agf hh).1
  grind
 have I:Kw S B sm ps v=if (N:Int)≠(C:Int) then ⟨ByteArray.empty,false,3⟩ else if Fy (GV sm (I6 S ps) v)=false then ⟨ByteArray.empty,false,2⟩ else Mk S B (GV sm (I6 S ps) v):=by
  grind [Kw]
 have H:Jj S sm ps v=if (N:Int)≠(C:Int)\/Fy (GV sm (I6 S ps) v)=false then sm else GV sm (I6 S ps) v:=by
  unfold Jj
  grind
 by_cases ba:N=C
 ·have qN:((N:Int) !=(C:Int))=false:=by simp[ba]
  subst ba;have y:Kw S B sm ps v=if Fy (GV sm (I6 S ps) v)=false then ⟨ByteArray.empty,false,2⟩ else Mk S B (GV sm (I6 S ps) v):=by rw[I,Aa (by simp)]
  have u:Jj S sm ps v=if Fy (GV sm (I6 S ps) v)=false then sm else GV sm (I6 S ps) v:=by rw[H];simp
  have W:I6 S ps=(List.range N).map fun i=>Pz (Jd ((Jq (O / 2) O ps ps.length).getD i 0)) ((FG U N).getD i 0):=by
   unfold I6;rw[eO,eC,eU,AN,AN,AN]
  have az:=Ams S ps;have a0:(I6 S ps).length=N:=by rw[Yv,eC,AN]
  obtain⟨T,eT⟩:=E7 (I6 S ps);rw[<-eT]at W az a0 y u;have bm:=AnV az;have A:OD T v=true:=by unfold OD;grind
  obtain⟨M,eM,bi,bj⟩:=To hS;have bb:∀(m:World),Below w.heap.size w m->∀g,ArrAt i64 3 m g T->Calls prog 199 #[pointer (some ⟨b,0,none⟩),slice (some ⟨g,0,none⟩) N N,int i64 v] m fun e w'=>∃S',e=.returned (int i64 (Iw sm T v))/\BufR 343 (L8 S B) w' ⟨b,0,none⟩ S' (Qk sm T v)/\(∀x∈S',x∈F\/m.heap.size<=x)/\Kept [b] m w':=fun m hz g ha=>by
   have h:=Ak4 (some ⟨g,0,none⟩) N T v (hR.below hz).col (hE.old hz) (by omega) (by omega) bs (ArrAt.rdL ha) (by rw[a0];unfold maxLen;omega);rw[a0]at h;exact h
  have bg:∀(m:World) (g:Nat),Rd i64 m (some ⟨g,0,none⟩) (Jq (O / 2) O ps ps.length)->Calls prog 200 #[slice (some ⟨g,0,none⟩) N N,int i64 (U:Int)] m fun e w'=>∃g',e=.returned (slice (some ⟨g',0,none⟩) N N)/\OwnI w' m.heap.size (slice (some ⟨g',0,none⟩) N N) T/\Below m.heap.size m w':=fun m g j=>by
   have bp:(Jq (O / 2) O ps ps.length).length=N:=by
    rw[Vg _ _ _ _ (Ac _),hn,eN]
   have h:=AbF (Jq (O / 2) O ps ps.length) N U (some ⟨g,0,none⟩) N m j bp (by omega) bk (by omega);rw[<-W]at h;exact h
  have HU:=hid eU;have ae:Hid (S.count=(N:Int)):=eC;clear W az eM bi bj I H D hh hv eO eC eU be bf bm eT eN;have ab:∀{w1:World} {F':List Nat} {X:List Int},BufR 343 (L8 S B) w1 ⟨b,0,none⟩ F' X->EarP w1 ⟨b,0,none⟩ F' S B X:=fun h=>h
  cases hq:Fy (GV sm T v)with
  | false=>
   have a1:Iw sm T v=2:=by unfold Iw;rw[A,hq];rfl
   have af:Qk sm T v=sm:=by unfold Qk;rw[A,hq];rfl
   rw[y,u,Ab hq,Ab hq];unfold Told.val;clear hq A y u;go_enter func164,ntmps164
   go_wp2_with(first | (go_at_call 186;refine(ad _).mono ?_;rintro e w2 ⟨rfl,rfl⟩) | (go_at_call 198;refine a3.mono ?_;rintro e wh ⟨gh,rfl,Y,d⟩;have ah:=ArrAt.rdL Y;obtain⟨d1,d2,d3,d4,d5,d6⟩:=J.out wh d;rw[ae.out]at d5) | fail)
   refine Bi (II (Q:=fun e a' w'=>e=.normal/\∃σ:Nat->Value,a'=({tmps:=(((Ft _ (tbS [38,39,40,41,42,43,44,45,46,47,48] 11 σ)).set 49 (int i64 (Iw sm T v))).set 11 (int i64 (Iw sm T v))).toArray,defers:=[]}:Act)/\∃F',BufR 343 (L8 S B) w' ⟨b,0,none⟩ F' (Qk sm T v)/\(∀x∈F',x∈F\/w.heap.size<=x)/\Kept [b] w w') 13 11 [38,39,40,41,42,43,44,45,46,47,48]
    [[0],[38],[39],[10],[0],[42],[43],[44],[45],[41,46],[2]] [1,2,11,9,5,6,7,8,9,11,11]
    [eqR (pointer (some ⟨b,0,none⟩)),eqR (pointer (some ⟨b,0,none⟩)),eqR (pointer (some ⟨b,0,none⟩)),eqR (slice (some ⟨gh,0,none⟩) N N),eqR (pointer (some ⟨b,0,none⟩)),eqR (pointer (some ⟨b,0,none⟩)),eqR (pointer (some ⟨b,0+1,none⟩)),eqR (pointer (some ⟨b,0+1+3,none⟩)),eqR (int i64 (U:Int)),AdW N T,eqR (int i64 v)] wh aj rfl (by decide) rfl (by decide) (by kernel_rfl) (by kernel_rfl) (by kernel_rfl) (by kernel_rfl) (by kernel_rfl) (by kernel_rfl)
    (by intro R hR;simp only[Ar,Bt,BF]at hR;rcases hR with rfl | rfl | rfl | rfl | rfl | rfl | rfl | rfl | rfl | rfl | rfl<;>(first | (exact Lp _) | (exact RL _ _)))
    (fun z bq σ E wc f l j Q K r=>by
     have a6:z=0\/z=1\/z=2\/z=3\/z=4\/z=5\/z=6\/z=7\/z=8\/z=9\/z=10:=by omega
     rcases a6 with rfl | rfl | rfl | rfl | rfl | rfl | rfl | rfl | rfl | rfl | rfl
     ·have e0:=j 0 (by decide);exact E6 rfl rfl (Fd wc rfl e0) (r _ wc (Fb wc) rfl)
     ·have al:E.eval (.tmp 38)=(pointer (some ⟨b,0,none⟩)):=(j 38 (by decide)).trans (l 0 (by decide) (by kernel_rfl));exact E6 rfl rfl (Ie wc rfl al) (r _ wc (Fb wc) rfl)
     ·have am:E.eval (.tmp 39)=(pointer (some ⟨b,0,none⟩)):=(j 39 (by decide)).trans (l 1 (by decide) (by kernel_rfl));exact E6 rfl rfl (Nu wc rfl am) (r _ wc (Fb wc) rfl)
     ·have ak:=j 10 (by decide);exact E6 rfl rfl (Fd wc rfl ak) (r _ wc (Fb wc) rfl)
     ·have e0:=j 0 (by decide);exact E6 rfl rfl (Fd wc rfl e0) (r _ wc (Fb wc) rfl)
     ·have ao:E.eval (.tmp 42)=(pointer (some ⟨b,0,none⟩)):=(j 42 (by decide)).trans (l 4 (by decide) (by kernel_rfl));exact E6 rfl rfl (Ie wc rfl ao) (r _ wc (Fb wc) rfl)
     ·have ap:E.eval (.tmp 43)=(pointer (some ⟨b,0,none⟩)):=(j 43 (by decide)).trans (l 5 (by decide) (by kernel_rfl));exact E6 rfl rfl (Nv wc rfl ap) (r _ wc (Fb wc) rfl)
     ·have aq:E.eval (.tmp 44)=(pointer (some ⟨b,0+1,none⟩)):=(j 44 (by decide)).trans (l 6 (by decide) (by kernel_rfl));exact E6 rfl rfl (OA wc rfl aq) (r _ wc (Fb wc) rfl)
     ·have ar:E.eval (.tmp 45)=(pointer (some ⟨b,0+1+3,none⟩)):=(j 45 (by decide)).trans (l 7 (by decide) (by kernel_rfl));obtain⟨-, -, -,c4, -, -⟩:=J.out wc (d.trans (f.mono d.size));exact E6 rfl rfl (F5 wc rfl ar (HU.out▸c4)) (r _ wc (Fb wc) rfl)
     ·have an:E.eval (.tmp 41)=(slice (some ⟨gh,0,none⟩) N N):=(j 41 (by decide)).trans (l 3 (by decide) (by kernel_rfl));have au:E.eval (.tmp 46)=(int i64 (U:Int)):=(j 46 (by decide)).trans (l 8 (by decide) (by kernel_rfl));refine FM rfl rfl rfl (enters_of func200 (by kernel_rfl) rfl) (Oj an au) (bg wc _ (ah.below f)) fun e w' G=>?_
      obtain⟨V,rfl,aa,a2⟩:=G;exact⟨_,rfl,r _ w' (FX a2) (show AdW N T _ _ from⟨V,rfl,aa.arr.1⟩)⟩
     ·have e2:=j 2 (by decide)
      exact E6 rfl rfl (Fd wc rfl e2) (r _ wc (Fb wc) rfl))
    (fun σ wc f l=>by
     obtain⟨V,a8,av⟩:=l 9 (by decide);refine FM rfl rfl rfl (enters_of func199 (by kernel_rfl) rfl) (Z5 ((Fj (t:=tbS [38,39,40,41,42,43,44,45,46,47,48] 11 σ) 40 (show([38,39,40,41,42,43,44,45,46,47,48]:List Nat).Nodup by decide) (by kernel_rfl)).trans (l 2 (by decide))) ((Fj (t:=tbS [38,39,40,41,42,43,44,45,46,47,48] 11 σ) 47 (show([38,39,40,41,42,43,44,45,46,47,48]:List Nat).Nodup by decide) (by kernel_rfl)).trans a8) ((Fj (t:=tbS [38,39,40,41,42,43,44,45,46,47,48] 11 σ) 48 (show([38,39,40,41,42,43,44,45,46,47,48]:List Nat).Nodup by decide) (by kernel_rfl)).trans (l 10 (by decide)))) (bb wc (d.trans (f.mono d.size)) _ av) fun e w' G=>?_
     obtain⟨F',rfl,aw,ax,a4⟩:=G;refine⟨_,rfl,?_⟩;refine E6 rfl rfl (G5 w' rfl (v:=int i64 (Iw sm T v)) (Act.eval_put_same _ _ _ (by simp[Jh]))) ?_;refine⟨rfl,σ,?_,F',aw,fun x hx=>?_,?_⟩
     ·exact(congrArg (fun a=>Act.put a (some 11) (int i64 (Iw sm T v))) (G4 _ 49 _)).trans (G4 _ 11 _)
     ·rcases ax x hx with h | h
      ·exact .inl h
      ·exact .inr (Ak (Ak d.size f.size) h)
     ·exact(Kept.E5 (d.trans (f.mono d.size))).trans a4)) ?_
   rintro e a' w1 ⟨rfl,q,rfl,F',P,ay,ag⟩;rw[show tbS [38,39,40,41,42,43,44,45,46,47,48] 11 q=[(38,q 0),(39,q 1),(40,q 2),(41,q 3),(42,q 4),(43,q 5),(44,q 6),(45,q 7),(46,q 8),(47,q 9),(48,q 10)]from rfl];dsimp only[Ft,List.set,List.append_nil,List.cons_append,List.nil_append];rw[a1]at*;rw[af]at P
   go_wp2_with fail
   go_ret3;exact⟨rfl,F',ab P,ay,ag⟩
  | true=>
   have a1:Iw sm T v=0:=by unfold Iw;rw[A,hq];rfl
   have af:Qk sm T v=GV sm T v:=by unfold Qk;rw[A,hq];rfl
   rw[y,u,Aa (by rw[hq];simp),Aa (by rw[hq];simp)];have bd:((GV sm T v).length:Int)=Ij S B:=by rw[QK];exact br
   have ai:∀{w1:World} {F':List Nat},EarP w1 ⟨b,0,none⟩ F' S B (GV sm T v)->ReadyL w1->Calls prog 201 #[pointer (some ⟨b,0,none⟩)] w1 fun e w'=>e=.returned (.tuple #[.string (Mk S B (GV sm T v)).data,.bool (Mk S B (GV sm T v)).ok])/\Below w1.heap.size w1 w':=fun h1 h2=>AkF h1 h2 hS bd hq
   have a7:(Mk S B (GV sm T v)).err=0:=by unfold Mk;split<;>rfl
   obtain⟨X,eX⟩:=E7 (GV sm T v);rw[<-eX]at ai a7 af |-;obtain⟨tt,a9⟩:=E7 (Mk S B X);rw[<-a9]at ai a7 |-;clear a9;obtain⟨da,bo,er⟩:=tt;obtain rfl:er=0:=a7;unfold Told.val;dsimp only at ai |-;clear hq A y u bd eX;go_enter func164,ntmps164
   go_wp2_with(first | (go_at_call 186;refine(ad _).mono ?_;rintro e w2 ⟨rfl,rfl⟩) | (go_at_call 198;refine a3.mono ?_;rintro e wh ⟨gh,rfl,Y,d⟩;have ah:=ArrAt.rdL Y;obtain⟨d1,d2,d3,d4,d5,d6⟩:=J.out wh d;rw[ae.out]at d5) | fail)
   refine Bi (II (Q:=fun e a' w'=>e=.normal/\∃σ:Nat->Value,a'=({tmps:=(((Ft _ (tbS [38,39,40,41,42,43,44,45,46,47,48] 11 σ)).set 49 (int i64 (Iw sm T v))).set 11 (int i64 (Iw sm T v))).toArray,defers:=[]}:Act)/\∃F',BufR 343 (L8 S B) w' ⟨b,0,none⟩ F' (Qk sm T v)/\(∀x∈F',x∈F\/w.heap.size<=x)/\Kept [b] w w') 13 11 [38,39,40,41,42,43,44,45,46,47,48]
    [[0],[38],[39],[10],[0],[42],[43],[44],[45],[41,46],[2]] [1,2,11,9,5,6,7,8,9,11,11]
    [eqR (pointer (some ⟨b,0,none⟩)),eqR (pointer (some ⟨b,0,none⟩)),eqR (pointer (some ⟨b,0,none⟩)),eqR (slice (some ⟨gh,0,none⟩) N N),eqR (pointer (some ⟨b,0,none⟩)),eqR (pointer (some ⟨b,0,none⟩)),eqR (pointer (some ⟨b,0+1,none⟩)),eqR (pointer (some ⟨b,0+1+3,none⟩)),eqR (int i64 (U:Int)),AdW N T,eqR (int i64 v)] wh aj rfl (by decide) rfl (by decide) (by kernel_rfl) (by kernel_rfl) (by kernel_rfl) (by kernel_rfl) (by kernel_rfl) (by kernel_rfl)
    (by intro R hR;simp only[Ar,Bt,BF]at hR;rcases hR with rfl | rfl | rfl | rfl | rfl | rfl | rfl | rfl | rfl | rfl | rfl<;>(first | (exact Lp _) | (exact RL _ _)))
    (fun z bq σ E wc f l j Q K r=>by
     have a6:z=0\/z=1\/z=2\/z=3\/z=4\/z=5\/z=6\/z=7\/z=8\/z=9\/z=10:=by omega
     rcases a6 with rfl | rfl | rfl | rfl | rfl | rfl | rfl | rfl | rfl | rfl | rfl
     ·have e0:=j 0 (by decide);exact E6 rfl rfl (Fd wc rfl e0) (r _ wc (Fb wc) rfl)
     ·have al:E.eval (.tmp 38)=(pointer (some ⟨b,0,none⟩)):=(j 38 (by decide)).trans (l 0 (by decide) (by kernel_rfl));exact E6 rfl rfl (Ie wc rfl al) (r _ wc (Fb wc) rfl)
     ·have am:E.eval (.tmp 39)=(pointer (some ⟨b,0,none⟩)):=(j 39 (by decide)).trans (l 1 (by decide) (by kernel_rfl));exact E6 rfl rfl (Nu wc rfl am) (r _ wc (Fb wc) rfl)
     ·have ak:=j 10 (by decide);exact E6 rfl rfl (Fd wc rfl ak) (r _ wc (Fb wc) rfl)
     ·have e0:=j 0 (by decide);exact E6 rfl rfl (Fd wc rfl e0) (r _ wc (Fb wc) rfl)
     ·have ao:E.eval (.tmp 42)=(pointer (some ⟨b,0,none⟩)):=(j 42 (by decide)).trans (l 4 (by decide) (by kernel_rfl));exact E6 rfl rfl (Ie wc rfl ao) (r _ wc (Fb wc) rfl)
     ·have ap:E.eval (.tmp 43)=(pointer (some ⟨b,0,none⟩)):=(j 43 (by decide)).trans (l 5 (by decide) (by kernel_rfl));exact E6 rfl rfl (Nv wc rfl ap) (r _ wc (Fb wc) rfl)
     ·have aq:E.eval (.tmp 44)=(pointer (some ⟨b,0+1,none⟩)):=(j 44 (by decide)).trans (l 6 (by decide) (by kernel_rfl));exact E6 rfl rfl (OA wc rfl aq) (r _ wc (Fb wc) rfl)
     ·have ar:E.eval (.tmp 45)=(pointer (some ⟨b,0+1+3,none⟩)):=(j 45 (by decide)).trans (l 7 (by decide) (by kernel_rfl));obtain⟨-, -, -,c4, -, -⟩:=J.out wc (d.trans (f.mono d.size));exact E6 rfl rfl (F5 wc rfl ar (HU.out▸c4)) (r _ wc (Fb wc) rfl)
     ·have an:E.eval (.tmp 41)=(slice (some ⟨gh,0,none⟩) N N):=(j 41 (by decide)).trans (l 3 (by decide) (by kernel_rfl));have au:E.eval (.tmp 46)=(int i64 (U:Int)):=(j 46 (by decide)).trans (l 8 (by decide) (by kernel_rfl));refine FM rfl rfl rfl (enters_of func200 (by kernel_rfl) rfl) (Oj an au) (bg wc _ (ah.below f)) fun e w' G=>?_
      obtain⟨V,rfl,aa,a2⟩:=G;exact⟨_,rfl,r _ w' (FX a2) (show AdW N T _ _ from⟨V,rfl,aa.arr.1⟩)⟩
     ·have e2:=j 2 (by decide)
      exact E6 rfl rfl (Fd wc rfl e2) (r _ wc (Fb wc) rfl))
    (fun σ wc f l=>by
     obtain⟨V,a8,av⟩:=l 9 (by decide);refine FM rfl rfl rfl (enters_of func199 (by kernel_rfl) rfl) (Z5 ((Fj (t:=tbS [38,39,40,41,42,43,44,45,46,47,48] 11 σ) 40 (show([38,39,40,41,42,43,44,45,46,47,48]:List Nat).Nodup by decide) (by kernel_rfl)).trans (l 2 (by decide))) ((Fj (t:=tbS [38,39,40,41,42,43,44,45,46,47,48] 11 σ) 47 (show([38,39,40,41,42,43,44,45,46,47,48]:List Nat).Nodup by decide) (by kernel_rfl)).trans a8) ((Fj (t:=tbS [38,39,40,41,42,43,44,45,46,47,48] 11 σ) 48 (show([38,39,40,41,42,43,44,45,46,47,48]:List Nat).Nodup by decide) (by kernel_rfl)).trans (l 10 (by decide)))) (bb wc (d.trans (f.mono d.size)) _ av) fun e w' G=>?_
     obtain⟨F',rfl,aw,ax,a4⟩:=G;refine⟨_,rfl,?_⟩;refine E6 rfl rfl (G5 w' rfl (v:=int i64 (Iw sm T v)) (Act.eval_put_same _ _ _ (by simp[Jh]))) ?_;refine⟨rfl,σ,?_,F',aw,fun x hx=>?_,?_⟩
     ·exact(congrArg (fun a=>Act.put a (some 11) (int i64 (Iw sm T v))) (G4 _ 49 _)).trans (G4 _ 11 _)
     ·rcases ax x hx with h | h
      ·exact .inl h
      ·exact .inr (Ak (Ak d.size f.size) h)
     ·exact(Kept.E5 (d.trans (f.mono d.size))).trans a4)) ?_
   rintro e a' w1 ⟨rfl,q,rfl,F',P,ay,ag⟩;rw[show tbS [38,39,40,41,42,43,44,45,46,47,48] 11 q=[(38,q 0),(39,q 1),(40,q 2),(41,q 3),(42,q 4),(43,q 5),(44,q 6),(45,q 7),(46,q 8),(47,q 9),(48,q 10)]from rfl];dsimp only[Ft,List.set,List.append_nil,List.cons_append,List.nil_append];rw[a1]at*;rw[af]at P;have bl:ReadyL w1:=bh.out w1 ag
   go_wp2_with(first | (go_at_call 201;refine(ai (ab P) bl).mono ?_;rintro e w4 ⟨rfl,bc⟩) | fail)
   go_ret3;exact⟨rfl,F',(ab P).old bc,ay,ag.trans (Kept.E5 bc)⟩
 ·have qN:((N:Int) !=(C:Int))=true:=by grind
  have a5:(N:Int)≠(C:Int):=by grind
  rw[I,H,Ab a5,Ab (Or.inl a5)];unfold Told.val;have ae:=hid eC;clear I H a5 D hh hv eO eC eU be bf eN;go_enter func164,ntmps164
  go_wp2_with(first | (go_at_call 186;refine(ad _).mono ?_;rintro e w2 ⟨rfl,rfl⟩) | (go_at_call 198;refine a3.mono ?_;rintro e wh ⟨gh,rfl,Y,d⟩;have ah:=ArrAt.rdL Y;obtain⟨d1,d2,d3,d4,d5,d6⟩:=J.out wh d;rw[ae.out]at d5) | fail)
  go_ret3;exact⟨rfl,F,hE.old d,fun x hx=> .inl hx,Kept.E5 d⟩
def P9 (v:Int):Bool:=decide (0<=v/\v<=3)
def Hd (p:Int):Int:=if 0<=p/\p<=7 then 0 else 1
theorem SU(c:Below w.heap.size w w')(h:w.cell? p=some v):w'.cell? p=some v:=(c.cell (Aj w _ h)).trans h
theorem IU{c:Func}{t u v x:Tmp}(h:c.results=#[.tmp t,.tmp u,.tmp v,.tmp x])(tmps:Array Value)(P:Program)(w:World):
 (results c tmps).run P w=.ok (.tuple #[tmps.getD t undef,tmps.getD u undef,tmps.getD v undef,tmps.getD x undef]) w:=by
 simp[results,h]
structure ShotM where
 process:Int
 version:Int
 flag:Bool
 data:ByteArray
def ShotM.val(x:ShotM):Value:=.agg #[int i64 x.process,int i64 x.version,.bool x.flag,.string x.data]
def RF (x:ShotM):Bool:=decide (0<=x.process/\x.process<=7/\0<=x.version/\x.version<=3)
structure RecvM where
 flag:List Bool
 heard:List Bool
def RecvM.new:RecvM:=⟨List.replicate 8 false,List.replicate 8 true⟩
def RecvM.ok(r:RecvM):Prop:=r.flag.length=8/\r.heard.length=8
def RecvM.turned(r:RecvM)(x:ShotM):RecvM:=if r.flag.getD x.process.toNat false=x.flag then r else ⟨r.flag.set x.process.toNat x.flag,r.heard.set x.process.toNat false⟩
structure TookM where
 data:ByteArray
 fresh:Bool
 yes:Bool
 err:Int
def TookM.val(t:TookM):Value:=.tuple #[.string t.data,.bool t.fresh,.bool t.yes,int i64 t.err]
def RecvM.J7(r:RecvM)(x:ShotM)(heard:Bool):TookM:=
 if RF x=false then ⟨ByteArray.empty,false,false,1⟩ else if 1500<x.data.size then ⟨ByteArray.empty,false,false,2⟩
 else if (r.turned x).heard.getD x.process.toNat false then ⟨ByteArray.empty,false,true,0⟩ else if heard then ⟨x.data,true,true,0⟩ else ⟨ByteArray.empty,false,false,0⟩
def RecvM.next(r:RecvM)(x:ShotM)(heard:Bool):RecvM:=
 if RF x=false\/1500<x.data.size then r else if heard then ⟨(r.turned x).flag,(r.turned x).heard.set x.process.toNat true⟩ else r.turned x
def RTakes(t:TypeId)(w:World)(g:Nat)(r:RecvM):Prop:=w.heap[g]?=some (.cells ((r.flag++r.heard).map Value.bool).toArray t (0,0))/\r.ok
theorem RTakes.lt{r:RecvM}(h:RTakes t w g r):g<w.heap.size:=(Array.getElem?_eq_some_iff.1 h.1).1
theorem RTakes.drew{r:RecvM}(h:RTakes t w g r):RTakes t w.drew g r:=⟨h.1,h.2⟩
theorem RTakes.kept{r:RecvM}{L:List Nat}(h:RTakes t w g r)(c:∀i,i<w.heap.size->i∉L->w'.heap[i]?=w.heap[i]?)(hg:g∉L):RTakes t w' g r:=⟨(c g h.lt hg).trans h.1,h.2⟩
theorem RTakes.flag{r:RecvM}(h:RTakes t w g r)(f:k<8):w.cell? ⟨g,k,none⟩=some (.bool (r.flag.getD k false)):=by
 obtain⟨c,d,e⟩:=h;rw[Al _ _ _ _ _ _ c]
 grind
theorem RTakes.heard{r:RecvM}(h:RTakes t w g r)(f:k<8):w.cell? ⟨g,8+k,none⟩=some (.bool (r.heard.getD k false)):=by
 obtain⟨c,d,e⟩:=h;rw[Al _ _ _ _ _ _ c]
 grind
theorem RTakes.Yn{r:RecvM}(h:RTakes t w g r)(f:k<8)(b:Bool):RTakes t (w.setCell ⟨g,k,none⟩ (.bool b)) g ⟨r.flag.set k b,r.heard⟩:=by
 obtain⟨e,c,d⟩:=h;refine⟨(BK w g k _ _ (.bool b) e).trans ?_,by simp[c],d⟩;simp[DL,c,f]
theorem RTakes.QZ{r:RecvM}(h:RTakes t w g r)(d:k<8)(b:Bool):RTakes t (w.setCell ⟨g,8+k,none⟩ (.bool b)) g ⟨r.flag,r.heard.set k b⟩:=by
 obtain⟨f,c,e⟩:=h;refine⟨(BK w g (8+k) _ _ (.bool b) f).trans ?_,c,by simp[e]⟩;simp[Cq,c]
def Me (k:Nat):List Bool:=List.replicate k true++List.replicate (8-k) false
theorem ZJ(h:k<8):(Me k).set k true=Me (k+1):=by
 unfold Me;rw[show 8-k=(8-(k+1))+1 by omega,Cq _ _ (by simp),Dy];simp[List.replicate_succ',Bg]
theorem RTakes.free{r:RecvM}(h:RTakes t w g r)(k:Nat):w.frozen? ⟨g,k,none⟩=false:=Bz w g k _ _ h.1
theorem Rz(w:World):Calls prog 129 #[] w fun e w'=>∃g,e=.returned (pointer (some ⟨g,0,none⟩))/\w.heap.size<=g/\RTakes 302 w' g RecvM.new/\Below w.heap.size w w':=by
 go_enter func129,ntmps129
 go_wp2_with fail;have l:RTakes 302 (w.alloc (.cells #[.bool false,.bool false,.bool false,.bool false,.bool false,.bool false,.bool false,.bool false,.bool false,.bool false,.bool false,.bool false,.bool false,.bool false,.bool false,.bool false] 302)) w.heap.size ⟨List.replicate 8 false,Me 0⟩:=⟨Am w _,by simp,by simp[Me]⟩;have f:Below w.heap.size w (w.alloc (.cells #[.bool false,.bool false,.bool false,.bool false,.bool false,.bool false,.bool false,.bool false,.bool false,.bool false,.bool false,.bool false,.bool false,.bool false,.bool false,.bool false] 302)):=(Ad _ w).alloc (Ac _) _
 go_loopw [2,5] (fun z i wr=>∃k:Nat,k<=8/\i=int i64 k/\RTakes 302 wr w.heap.size ⟨List.replicate 8 false,Me k⟩/\Below w.heap.size w wr) (fun z i _=>8-(intOf i).toNat)
 case atStart=>exact⟨0,by omega,rfl,l,f⟩
 case round=>
  clear l f;obtain⟨k,u,rfl,d,j⟩:=hrel
  by_cases c:k<8
  ·have q:=d.heard c;have r:=d.free (8+k);have h:=d.QZ c true;rw[show(RecvM.mk (List.replicate 8 false) (Me k)).heard.set k true=Me (k+1)from ZJ c]at h;have m:=j.setCell (p:=⟨w.heap.size,8+k,none⟩) (Ac _) (.bool true);clear d j
   go_wp2_with fail
   go_roundw
   case rel=>grind
   case measure=>simp[intOf];omega
  ·have e:k=8:=by omega
   subst e
   go_wp2_with fail;go_ret;exact⟨_,rfl,Ac _,d,j⟩
theorem Abl{l:List Bool}(h:l.getD k false=true):l.set k true=l:=by
 refine AW (by simp) fun i c d=>?_
 grind
theorem P5{c:Int}(e:Bool)(d:ByteArray)(f:k<8)(h:P9 c=true):RF ⟨(k:Int),c,e,d⟩=true:=by grind [P9,RF]
theorem AdJ(r:RecvM)(k:Nat)(d:Int)(e:Bool)(c:ByteArray)(hd:Bool)(f:k<8)(i:P9 d=true)(h:c.size<=1500):r.J7 ⟨(k:Int),d,e,c⟩ hd=if (r.turned ⟨(k:Int),d,e,c⟩).heard.getD k false then ⟨ByteArray.empty,false,true,0⟩ else if hd then ⟨c,true,true,0⟩ else ⟨ByteArray.empty,false,false,0⟩:=by grind [P9,RecvM.J7,P5]
theorem Ac8(r:RecvM)(k:Nat)(e:Int)(d:Bool)(c:ByteArray)(hd:Bool)(f:k<8)(h:P9 e=true)(i:c.size<=1500):r.next ⟨(k:Int),e,d,c⟩ hd=if hd then ⟨(r.turned ⟨(k:Int),e,d,c⟩).flag,(r.turned ⟨(k:Int),e,d,c⟩).heard.set k true⟩ else r.turned ⟨(k:Int),e,d,c⟩:=by
 unfold RecvM.next
 rw[P5 d c f h,Aa (by simp;omega)];rfl
theorem RTakes.old{r:RecvM}(h:RTakes t w g r)(c:Below w.heap.size w w'):RTakes t w' g r:=⟨(c.block g h.lt).trans h.1,h.2⟩
theorem JY(p:Int)(w:World):Calls prog 159 #[int i64 p] w fun e w'=>e=.returned (int i64 (Hd p))/\w=w':=by
 by_cases d:p<0
 ·have c:=hid (show(1:Int)=Hd p by unfold Hd;rw[Aa (by omega)]);have h:decide (p<0)=true:=Ag d;clear d;go_enter func159,ntmps159;go_wp2;go_ret;exact⟨by rw[<-c.out];rfl,rfl⟩
 ·have h:decide (p<0)=false:=Ae d
  by_cases f:8<=p
  ·have c:=hid (show(1:Int)=Hd p by unfold Hd;rw[Aa (by omega)]);have i:decide (8<=p)=true:=Ag f;clear d f;go_enter func159,ntmps159;go_wp2;go_ret;exact⟨by rw[<-c.out];rfl,rfl⟩
  ·have c:=hid (show(0:Int)=Hd p by unfold Hd;rw[Ab (by omega)]);have i:decide (8<=p)=false:=Ae f;clear d f;go_enter func159,ntmps159;go_wp2;go_ret;exact⟨by rw[<-c.out];rfl,rfl⟩
end Go.Proofs.YtbjgfoiikhbonahGreatDoor
