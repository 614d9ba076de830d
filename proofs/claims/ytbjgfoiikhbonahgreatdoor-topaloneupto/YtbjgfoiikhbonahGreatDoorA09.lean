import Derived.RangeFuncLeaves
import Derived.TacticsInMore
import Derived.LoopNIn
import Derived.LoopIn
import Derived.Test.YtbjgfoiikhbonahGreatDoorA05
import Derived.Shelf.RegionOpen
set_option linter.unusedVariables false
set_option linter.unusedSimpArgs false
set_option maxRecDepth 100000
set_option maxHeartbeats 4000000
namespace Go.Proofs.YtbjgfoiikhbonahGreatDoor
open Go.ChangeShapes Go.WideShapes Go.ChangeAt Go.RowKit Go.Shelf Go.Proofs.Tryz
open Value renaming int->E,pointer->I,slice->O
open Option renaming none->G,some->H
open Obj renaming cells->U
open Go renaming World->V
open Ending renaming returned->Z
open Bool renaming false->T
open IntKind renaming i64->C
variable {A W W' w:V}{B g h i j n nf:Nat}{F:Fence}{K:Act->V->Prop}{P:Program}{Q:Exit->Act->V->Prop}{S:List Nat}{a:Act}{o:Oper}{ops:Array Oper}{p q:Int}{rest:List Oper}{t:TypeId}{v:Value}{x y:Operand}{xs:List Int}{ρ:Operand->Value}
structure KeptC(S:List Nat)(W W':V):Prop where
 size:W.heap.size<=W'.heap.size
 same:∀k o,W.heap[k]?=H o->o.isCells=true->k∉S->W'.heap[k]?=H o
theorem KeptC.trans{B C:V}(h:KeptC S A B)(k:KeptC S B C):KeptC S A C:=⟨Ak h.size k.size,fun i o hi c b=>k.same i o (h.same i o hi c b) c b⟩
theorem KeptC.putObj{S:List Nat}(W:V)(l:Nat)(o c:Obj)(h:W.heap[l]?=H o)(d:o.isCells=T):KeptC S W (W.putObj l c):=
 ⟨by simp[World.putObj],fun k x b m _=>(World.putObj_heap_other (fun e=>by grind)).trans b⟩
theorem KeptC.setCell{S:List Nat}{p:Addr}(W:V)(d:p.block∈S)(u:Value):KeptC S W (W.setCell p u):=
 ⟨by simp[World.setCell],fun k o b _ c=>(BA W p u k (fun e=>c (by rw[e];exact d))).trans b⟩
theorem KeptC.alloc(W:V)(o:Obj):KeptC S W (W.alloc o):=
 ⟨by simp,fun k x b _ _=>(Bc _ _ _ (Array.getElem?_eq_some_iff.1 b).1).trans b⟩
theorem KeptC.drew(h:KeptC S A W):KeptC S A W.drew:=⟨h.size,h.same⟩
theorem KeptC.cell{S:List Nat}{W W':V}(h:KeptC S W W'){p:Addr}{v:Value}(b:W.cell? p=H v)(d:p.block∉S):W'.cell? p=H v:=by
 obtain⟨o,c,e⟩:=cells_of_cell b;have:=h.same _ _ c e d;rw[<-b];simp only[World.cell?,c,this]
theorem KeptC.rd{a b:V}(h:KeptC S a b){k:IntKind}{d:Option Addr}{zs:List Int}(m:Rd k a d zs)(r:∀g o,d=H ⟨g,o,G⟩->zs≠[]->g∉S):Rd k b d zs:=by
 intro c;obtain⟨g,o,rfl,e⟩:=m c;exact⟨g,o,rfl,fun j l=>h.cell (e j l) (r g o rfl c)⟩
theorem KeptC.Ud(h:W.grownBy W' (H g))(hg:g∈S):KeptC S W W':=
 ⟨h.size,fun k _ b _ c=>(h.block k (Array.getElem?_eq_some_iff.1 b).1 (fun e=>by cases e;exact c hg)).trans b⟩
theorem XK(W:V)(l:Nat)(o b:Obj)(_:w.heap.size<=l)(h:W.heap[l]?=H o)(c:o.isCells=T)(_:o.isWalk=T):KeptC S W (W.putObj l b):=KeptC.putObj W l o b h c
theorem Below.Aox(h:Below W.heap.size W W'):W.grownBy W' G:=⟨h.os,h.tape,h.output,h.size,fun k b _=>h.block k b⟩
def JW (n v:Nat)(xs s:List Int)(pre:List Nat):List Int:=pre.foldl (fun L i=>L.set (Gi n v i) (L.getD (Gi n v i) 0+xs.getD i 0)) s
theorem TI(n v:Nat)(xs s:List Int)(pre:List Nat)(i:Nat):JW n v xs s (pre++[i])=(JW n v xs s pre).set (Gi n v i) ((JW n v xs s pre).getD (Gi n v i) 0+xs.getD i 0):=by simp[JW,Cf]
theorem Qx(n v:Nat)(xs:List Int)(pre:List Nat):∀s:List Int,(JW n v xs s pre).length=s.length:=by
 induction pre with
 | nil=>intro s;rfl
 | cons i pre ih=>
  intro s;have:=ih (s.set (Gi n v i) (s.getD (Gi n v i) 0+xs.getD i 0));rw[An]at this;exact this
theorem Se(n v:Nat)(xs s:List Int)(c:Nat):∀k,k<=c->JW n v xs s (List.range k)=Od s (I9 n v c) xs k
 | 0,_=>rfl
 | k+1,hk=>by
  rw[Az,TI,Se n v xs s c k (by omega)];have:(I9 n v c).getD k 0=Gi n v k:=AgW (by omega)
  show _=(Od s (I9 n v c) xs k).set ((I9 n v c).getD k 0) ((Od s (I9 n v c) xs k).getD ((I9 n v c).getD k 0) 0+xs.getD k 0);rw[this]
theorem Alv(L:List Int)(i j:Nat)(x:Int):(L.set i x).getD j 0=x\/(L.set i x).getD j 0=L.getD j 0:=by grind
theorem Af6(n v:Nat)(b:Fy xs=true)(pre:List Nat):∀(s:List Int) (M:Int),(∀j, -M<=s.getD j 0/\s.getD j 0<=M)->∀j, -(M+100000*(pre.length:Int))<=(JW n v xs s pre).getD j 0/\(JW n v xs s pre).getD j 0<=M+100000*(pre.length:Int):=by
 induction pre with
 | nil=>intro s M h j;have:=h j;simpa [JW]using this
 | cons i pre ih=>
  intro s M h j;have c:=O8 b i
  have d:=ih (s.set (Gi n v i) (s.getD (Gi n v i) 0+xs.getD i 0)) (M+100000) (fun j=>by
   have k:=h (Gi n v i);have l:=h j
   grind) j
  have e:JW n v xs s (i::pre)=JW n v xs (s.set (Gi n v i) (s.getD (Gi n v i) 0+xs.getD i 0)) pre:=rfl;rw[e,AE];omega
theorem AiU(n v:Nat){s:List Int}(b:Fy s=true)(c:Fy xs=true)(pre:List Nat)(j:Nat): -(100000+100000*(pre.length:Int))<=(JW n v xs s pre).getD j 0/\(JW n v xs s pre).getD j 0<=100000+100000*(pre.length:Int):=
 Af6 n v c pre s 100000 (O8 b) j
def Ps (n v:Nat)(cs s:List Int)(pre:List Nat):List Int:=pre.foldl (fun L i=>L.set i (cs.getD (Gi n v i) 0)) s
theorem Um(n v:Nat)(cs s:List Int)(pre:List Nat)(i:Nat):Ps n v cs s (pre++[i])=(Ps n v cs s pre).set i (cs.getD (Gi n v i) 0):=by simp[Ps,Cf]
theorem Yb(n v:Nat)(cs:List Int)(pre:List Nat):∀s:List Int,(Ps n v cs s pre).length=s.length:=by
 induction pre with
 | nil=>intro s;rfl
 | cons i pre ih=>
  intro s;have:=ih (s.set i (cs.getD (Gi n v i) 0));rw[An]at this;exact this
theorem Sv(v:Nat)(cs:List Int)(K:Nat):∀k,k<=K->Ps cs.length v cs (List.replicate K 0) (List.range k)=JZ cs v k++List.replicate (K-k) 0
 | 0,_=>by simp[Ps,JZ]
 | k+1,hk=>by
  rw[Az,Um,Sv v cs K k (by omega)];have e:JZ cs v (k+1)=JZ cs v k++[cs.getD (Gi cs.length v k) 0]:=by simp[JZ,Az]
  have er:List.replicate (K-k) (0:Int)=0::List.replicate (K-(k+1)) 0:=by
   rw[show K-k=(K-(k+1))+1 by omega,Dy]
  rw[e,er,Cq _ _ (by rw[J0];omega),J0];simp
theorem AgV(v:Nat)(cs:List Int)(K:Nat):Ps cs.length v cs (List.replicate K 0) (List.range K)=JZ cs v K:=by
 rw[Sv v cs K K (Ac _)];simp
theorem U3(l:o.guard=G)(ty:TypeId)(x i:Operand)(m:o.op=.index ty x i)
 (e:TypeId) (cs:Array Value) (n k:Nat) (v:Value) (d:TypeDesc) (r:IntKind) (hx:a.eval x=.agg cs) (hi:a.eval i=.int r k) (L:P.underlying ty=H (.array n e)) (u:P.underlying e=H d)
 (hd:d.isRow=T) (J:(P.info? e).map (·.size)=H 1) (z:k<n) (N:cs[k]?=H v)
 (h:wpListIn F nf P ops Q rest (a.put o.dst v) w):wpListIn F nf P ops Q (o::rest) a w:=by
 refine D1 l fun K s=>?_
 unfold Oper.wpIn;refine⟨?_,?_⟩
 ·simp[Oper.about,m]
 ·rw[Oper.semAt_plain F _ _ (by rw[m];intro c b;cases b)];unfold execOp;simp only[m,hx,hi,BN,Mv w ty e cs n k v d L u hd J z N r,B7];exact s _ _ h
theorem Ri(e:o.guard=G)(ty:TypeId)(x:Operand)(k:o.op=.load ty x)
 (g:Nat) (r:a.eval x= I (H ⟨g,0,G⟩)) (t:TypeId) (cs:Array Value) (fr:Nat×Nat) (d:TypeDesc) (hg:w.heap[g]?=H (U cs t fr))
 (m:P.underlying ty=H d) (hd:(match d with | .struct _ | .array _ _=>true | _=>T)=true) (hi:(P.info? ty).map (·.size)=H cs.size)
 (h:wpListIn F nf P ops Q rest (a.put o.dst (.agg cs)) w):wpListIn F nf P ops Q (o::rest) a w:=by
 refine D1 e fun K l=>?_
 unfold Oper.wpIn;refine⟨?_,?_⟩
 ·simp[Oper.about,k]
 ·rw[Oper.semAt_plain F _ _ (by rw[k];intro c b;cases b)];unfold execOp;simp only[k,r,Instr.loadAt,Instr.sureAddr,BN,Cv,B7,run_loadVar_row w g t ty cs fr d hg m hd hi];exact l _ _ h
theorem Qb(N:Nat)(u:o.guard=G)(l c:Operand)
 (J:o.op=Op.makeSlice 103 l c) (x y:Int) (hl:a.eval l= E C x) (hc:a.eval c= E C y) (hx:x=(N:Int)) (hy:y=(N:Int)) (hN:N<=70368744177664)
 (h:∀w',Own w' w.heap.size (O (H ⟨w.heap.size,0,G⟩) N N) (List.replicate N 0)->Below w.heap.size w w'->w.heap.size<w'.heap.size->wpListIn F nf prog ops Q rest (a.put o.dst (O (H ⟨w.heap.size,0,G⟩) N N)) w'):
 wpListIn F nf prog ops Q (o::rest) a w:=by
 obtain⟨i0,hi,L,aa,ab⟩:=As Tryz.Of;refine D1 u fun K r=>?_
 obtain⟨w',d,m,h2⟩:=run_make_full (P:=prog) w w.heap.size 103 5 i0 (E .u8 0) 1 underlying103 hi L aa C C N (by rw[ab];omega) (by unfold maxLen;omega) (Ac _);subst hx;subst hy;have e:(madeCells (Value.cells (E .u8 0)) (N*1)).toList=List.replicate N (E .u8 0):=by
  rw[By];exact CL _ _
 rw[e]at m;have z:=(m.lt w.heap.size rfl).2;have b:Own w' w.heap.size (O (H ⟨w.heap.size,0,G⟩) N N) (List.replicate N 0):=by
  unfold Own;rw[A7,Dh];exact m
 unfold Oper.wpIn;refine⟨?_,?_⟩
 ·simp[Oper.about,J]
 ·rw[Oper.semAt_plain F _ _ (by rw[J];intro c s;cases s)];simp[execOp,J,hl,hc,d,Result.andThen];exact r _ _ (h w' b ((Ad _ _).grown h2 (Ac _) (by intro k hk;cases hk)) z)
attribute [local go_sem] Da
theorem AkI(F:Fence)(nf:Nat)(hf:F.fn 286)(an:F.round=G)(ar:1<=nf)(l Bn N:Nat)(S:List Nat)(hN:N<=4096)(J Jx:List Int->V->Prop)
 (hY:∀pre x W,J pre W->pre.length<N->YieldAt F (nf-1) prog l #[E C x] W fun e W'=>
  (e= Z (.bool true)/\J (pre++[x]) W'/\KeptC S W W')\/(e= Z (.bool false)/\Jx (pre++[x]) W'))
 (W:V) (hC:Col W) (ad:W.cell? ⟨Bn,0,G⟩=H (E C N)) (ak:Bn∉S) (h0:J [] W):
 CallsIn F nf prog 286 #[.func (.yield l) #[] #[], I (H ⟨Bn,0,G⟩)] W fun e W'=>(∃v,e= Z v)/\
  ((∃ys,ys=IF (Lx N)/\J ys W')\/(∃pre,pre <+:IF (Lx N)/\Jx pre W')):=by
 unfold Col AiC at hC;obtain⟨T,fr,hh⟩:=hC;refine Dz func286 rfl hf ?_ an;simp only[ntmps286,A8,AE,Bs,Nat.reduceAdd,Nat.reduceSub,Cz,CA,CB,CC,AK,AT]
 gi_wp2_with (first | (refine Ri rfl 421 (.global 10) rfl 10 rfl T _ fr _ hh underlying421 rfl (by kernel_rfl) ?_))
 gi_loopw [7] (fun q wr=>∃k:Nat,k<=8/\q= E C k/\J (IF (K1 N k)) wr/\wr.cell? ⟨Bn,0,G⟩=H (E C N)) (fun q _=>8-(intOf q).toNat)
 case atStart=>exact⟨0,Af _,rfl,h0,ad⟩
 case round=>
  obtain⟨k,hk,rfl,hJ,hc⟩:=hrel
  by_cases m:k<8
  ·obtain⟨b, d⟩ := E7 (L5.getD k 0);have ap:b<8:=by rw[d];exact All m
   have ai:Hid ((#[E C 0, E C 4, E C 2, E C 6, E C 1, E C 5, E C 3, E C 7]:Array Value)[k]?=H (E C (b:Int))):=by
    unfold Hid;rw[d];have:k=0\/k=1\/k=2\/k=3\/k=4\/k=5\/k=6\/k=7:=by omega
    rcases this with rfl | rfl | rfl | rfl | rfl | rfl | rfl | rfl<;>rfl
   have ac:=hid (Ue (n:=N) m);have aa:=hid (fun r hr=>Adg (n:=N) (r:=r) m hr);rw[<-d]at ac aa;have dk:decide ((k:Int)<8)=true:=Ag (by omega);clear d h0 ad hh
   gi_wp2_with (first | (refine U3 rfl 421 (.tmp 6) (.tmp 7) rfl 3 _ 8 k (E C (b:Int)) (.int C) C rfl rfl underlying421 underlying3 rfl (by kernel_rfl) m ai.out ?_))
   gi_loopw [5] (fun q ws=>∃r i:Nat,r<=Ux N/\Hid (i=8*r+b)/\i<=N+7/\q= E C i/\J (IF (K1 N k++Ho N b r)) ws/\ws.cell? ⟨Bn,0,G⟩=H (E C N)) (fun q _=>N+8-(intOf q).toNat)
   case atStart=>exact⟨0,b,Af _,by unfold Hid;omega,by omega,rfl,by simpa [Ho]using hJ,hc⟩
   case round=>
    obtain⟨r,i,hr,L,hi,rfl,ae,al⟩:=hrel
    by_cases aq:i<N
    ·have s:r+1<=Ux N:=by have:=L.out;unfold Ux;omega
     have z:=hid (AfQ (n:=N) (c:=b) (r:=r) (by have:=L.out;omega));have ag:(IF (K1 N k++Ho N b r)).length<N:=by
      have h1:=(aa.out (r+1) s).length_le;rw[z.out,Oq]at h1;rw[QA]
      grind
     obtain⟨fn,tmps,ah,ao,hy,hR⟩:=hY _ (i:Int) wr ae ag
     gi_wp2
     refine hR.mono ?_;rintro e W3 (⟨rfl,ab,am⟩ | ⟨rfl,u⟩)
     ·have af:W3.cell? ⟨Bn,0,G⟩=H (E C N):=am.cell al ak;have e3:IF (K1 N k++Ho N b r)++[(i:Int)]=IF (K1 N k++Ho N b (r+1)):=by rw[z.out,<-Bg,Nh _ [8*r+b],L.out];rfl
      rw[e3]at ab
      gi_wp2
      go_roundw
      case rel=>first | exact⟨r+1,i+8,s,by unfold Hid;have:=L.out;omega,by omega,by go_num,ab,af⟩ | ((repeat apply Exists.intro);exact⟨⟨r+1,i+8,s,by unfold Hid;have:=L.out;omega,by omega,by go_num,ab,af⟩,rfl⟩)
      case measure=>simp[intOf];omega
     ·gi_wp2
      refine Ah (Cd rfl _ _ _) rfl ?_;have e3:IF (K1 N k++Ho N b r)++[(i:Int)]=IF (K1 N k++Ho N b (r+1)):=by rw[z.out,<-Bg,Nh _ [8*r+b],L.out];rfl
      rw[e3]at u;refine⟨⟨_,rfl⟩,.inr ⟨_,?_,u⟩⟩;obtain⟨t,ht⟩:=aa.out (r+1) s;exact⟨IF t,by rw[<-Nh,ht]⟩
    ·have aj:=hid (Acl (n:=N) (c:=b) hr (by have:=L.out;omega));rw[<-aj.out,<-ac.out]at ae
     gi_wp2
     go_roundw
     case rel=>grind
     case measure=>simp[intOf];omega
  ·obtain rfl:k=8:=by omega
   gi_wp2
   go_end0;exact⟨⟨_,rfl⟩,.inl ⟨_,rfl,hJ⟩⟩
theorem AkJ(F:Fence)(nf:Nat)(c:F.fn 275)(b:F.round=G)(N:Nat)(w:V):
 CallsIn F nf prog 275 #[E C N] w fun e w'=>e= Z (.func (.func 286) #[] #[I (H ⟨w.heap.size,0,G⟩)])/\w'=w.alloc (U #[E C N] 3):=by
 refine Dz func275 rfl c ?_ b;simp only[ntmps275,A8,AE,Bs,Nat.reduceAdd,Nat.reduceSub,Cz,CA,CB,CC,AK,AT]
 gi_wp2
 go_ret;exact⟨rfl,rfl⟩
theorem Ad9(F:Fence)(nf:Nat)(hf:F.fn 286)(e:F.round=G)(d:1<=nf)(b N:Nat)(S:List Nat)(z:N<=4096)(w:V)(u:Col w)(c:b∉S)
 (m:w.cell? ⟨b,0,G⟩=H (E C N)):
 SeqStopsK F nf prog 286 #[I (H ⟨b,0,G⟩)] (fun x:Int=>#[E C x]) (KeptC S) (fun ys=>ys=IF (Lx N)) (fun pre=>pre <+:IF (Lx N)) N w:=fun l J r W k _ _ L s=>
 AkI F nf hf e d l b N S z J r L W (u.later k) ((k.cell (p:=⟨b,0,G⟩) (Aj w _ m)).trans m) c s
attribute [local go_sem] Da
theorem Aaq(n:Nat)(w:V)(hC:Col w)(hn:n<=4096):
 Calls prog 257 #[E C n] w fun e w'=>∃v,e= Z v/\OwnI w' w.heap.size v (IF (Lx n))/\Below w.heap.size w w':=by
 obtain⟨i0,hi,ae,aa,af⟩:=As Tryz.Wa;refine(Bw (n:=3)).1 ?_;refine callsIn_of_wp_marks func257 rfl trivial ?_ rfl;simp only[ntmps257,A8,AE,Bs,Nat.reduceAdd,Nat.reduceSub,Cz,CA,CB,CC,AK,AT]
 gi_wp2_with (first
  | (gi_at_make;refine wpListIn_make_own w rfl _ _ 74 rfl w.heap.size 3 i0 (E C 0) 1 underlying74 hi ae aa C C _ n rfl rfl rfl (by rw[af];omega) (by unfold maxLen;omega) (Ac _) ?_;intro w1 d J)
  | (refine⟨trivial,?_⟩;gi_at_call 275;refine(AkJ Fence.wide 2 trivial rfl n _).mono ?_;rintro e w' ⟨rfl,rfl⟩))
 have L:=J.size;have ag:=(d.lt w.heap.size rfl).2;have bO:=Boxed.new w1 74 (O (H ⟨w.heap.size,0,G⟩) 0 n);have bN:=Boxed.new (w1.alloc (U #[O (H ⟨w.heap.size,0,G⟩) 0 n] 74)) 3 (E C n);rw[Ax]at bN;have ab:Below w.heap.size w w1:=(Ad _ _).grown J (Ac _) (fun k e=>by cases e);have u:Below w.heap.size w ((w1.alloc (U #[O (H ⟨w.heap.size,0,G⟩) 0 n] 74)).alloc (U #[E C n] 3)):=(ab.alloc L _).alloc (by simp;omega) _;refine wpIn_rangeFunc_ownG rfl (by decide) (gf:=286) (lb:=#[I (H ⟨w1.heap.size+1,0,G⟩)]) rfl trivial (enters_of func286 (by kernel_rfl) rfl)
  (Ad9 Fence.wide 2 trivial rfl (by decide) (w1.heap.size+1) n [w.heap.size,w1.heap.size] hn _ (hC.later u) (by simp;omega) bN.cell) KeptC.trans XK (Ad _ _) (fun _=>rfl)
  (fun pre W=>Boxed W w1.heap.size 74 (O (H ⟨w.heap.size,0,G⟩) pre.length n)/\OwnI W w.heap.size (O (H ⟨w.heap.size,0,G⟩) pre.length n) pre/\Below w.heap.size w W)
  (fun _ _ _=>False)
  ?own
  (fun _ _ _ _ _ hs _ _=>hs)
  ⟨bO.alloc _,A6 (A6 d _) _,u⟩
  (fun x=>{tmps:=#[E C n,undef, O G 0 0, I (H ⟨w1.heap.size,0,G⟩), E C x, E C n, O (H ⟨w.heap.size,0,G⟩) 0 n, E C n,.func (.func 286) #[] #[I (H ⟨w1.heap.size+1,0,G⟩)], E C x,undef,undef,undef,undef,undef],defers:=[]}) ?assign ?body ?done ?stop
 case own=>
  rintro pre al am row ⟨r,hr,hb⟩ hg b;refine⟨r.kept hg (fun e'=>?_),ED hr hg (.inr fun e'=>?_),hb.grown hg hb.size (fun k e=>by have:=(b k e).1;simp at this;omega)⟩
  ·obtain⟨_,o,ho,hc⟩:=b _ e'.symm;rw[show al.heap[w1.heap.size]?=_ from r]at ho;cases ho;cases hc
  ·have:=(b _ (show row=H w.heap.size from e'.symm)).1;simp at this;omega
 case assign=>
  intro l x W K z
  gi_wp2
  exact z
 case body=>
  rintro l pre x W ⟨r,b,hB⟩ ak;have hc:=r.cell;have N:=hB.size
  gi_wp2_with (gi_at_builtin;refine wpListIn_append_fits _ rfl _ _ 74 rfl w.heap.size 3 i0 1 underlying74 hi aa w.heap.size pre.length n _ rfl (A6 b _) ⟨W.heap.size,0,G⟩ 1 1 [E C x] rfl rfl (DK _ _ _) (by simp[Value.oneCell']) (by omega) ?_;intro w2 m c;have s:=(r.alloc (U #[E C x] 3)).kept c (by simp;omega);have ai:=s.cell;have aj:=s.frozen)
  have ac:Below w.heap.size W (w2.setCell ⟨w1.heap.size,0,G⟩ (O (H ⟨w.heap.size,0,G⟩) (pre.length+1) n)):=(((Ad w.heap.size W).alloc N _).grown c (by simp;omega) (fun k e=>by cases e;exact Ac _)).setCell (p:=⟨w1.heap.size,0,G⟩) L _;refine⟨(((KeepsOthers.alloc W _).trans (KeepsOthers.of_grownBy c fun j o ej hj=>?_)).trans (KeepsOthers.setCell _ _ _)).from _,((KeptC.alloc W _).trans (KeptC.Ud c (by simp))).trans (KeptC.setCell _ (by simp) _),?_,?_,hB.trans ac⟩
  ·cases ej
   rcases (A6 b (U #[E C x] 3)).2 with⟨e,_⟩ | ⟨g,ah,cur,e,_,ad,_⟩
   ·cases e
   ·cases e;rw[ad]at hj
    cases hj;rfl
  ·rw[Ai];exact s.set _
  ·rw[Ai];refine OwnI.Amk (ED m (grownBy_setCell' w2 w1.heap.size _) (.inr (by simp[Value.ownBlock];omega)))
 case done=>
  rintro D ys W hD rfl ⟨r,b,hB⟩ z;have hc:=r.cell
  gi_wp2
  refine⟨by simp,.inl ⟨_,_,rfl,run_takeDeferred z,?_⟩⟩;exact⟨_,D2 rfl _ _ _, O (H ⟨w.heap.size,0,G⟩) (IF (Lx n)).length n,rfl,ownsRow_putObj b _ z rfl,hB.trans (belowK_b (w:=w) (Ac _) W D _ _ (by simp at hD;omega) z rfl rfl)⟩
 grind
attribute [local go_sem] Da
def AiK (n v c:Nat)(x:Fin c):Array Value:=#[E C (x.val:Int),E C ((Gi n v x.val:Nat):Int)]
theorem Ahj(n v c:Nat)(h1:1<=n)(hn:n<=4096)(hv:v<=3)(hc:c<=4096)(l B1 B2 B3:Nat)(S:List Nat)(J Jx:List (Fin c)->V->Prop)(W:V)(hC:Col W)(hJ:AbidesFrom W.heap.size J)
 (hY:∀pre x W1,J pre W1->pre.length<c->YieldAt Fence.wide 1 prog l (AiK n v c x) W1 fun e W'=>
  (e= Z (.bool true)/\J (pre++[x]) W'/\KeptC S W1 W')\/(e= Z (.bool T)/\Jx (pre++[x]) W'))
 (c1:W.cell? ⟨B1,0,G⟩=H (E C n)) (c2:W.cell? ⟨B2,0,G⟩=H (E C v)) (c3:W.cell? ⟨B3,0,G⟩=H (E C c)) (ai:B1∉S) (aj:∀x∈S,x<W.heap.size) (h0:J [] W):
 CallsIn Fence.wide 2 prog 256 #[.func (.yield l) #[] #[], I (H ⟨B1,0,G⟩), I (H ⟨B2,0,G⟩), I (H ⟨B3,0,G⟩)] W fun e W'=>(∃u,e= Z u)/\
  ((∃ys:List (Fin c),ys.map Fin.val=List.range c/\J ys W')\/(∃pre:List (Fin c),True/\Jx pre W')):=by
 have L:=hid ((QA (Lx n)).trans (Oq n));have ak:v*n / 4<n:=by
  have h3:v*n<=3*n:=BM n hv;omega
 have N:=hid (fun i:Nat=>show Gi n v i=(Lx n).getD ((v*n / 4+i) % n) 0 by unfold Gi;rw[Dp n v]);obtain⟨b, eb⟩ := E7 (v*n / 4);have aa:=YV n v;rw[<-eb]at N ak aa;clear eb;refine Dz func256 rfl trivial ?_ rfl;simp only[ntmps256,A8,AE,Bs,Nat.reduceAdd,Nat.reduceSub,Cz,CA,CB,CC,AK,AT]
 gi_wp2_with (first
  | (refine⟨trivial,?_⟩;gi_at_call 257;refine(Bw.2 (Aaq n W hC hn)).mono ?_;rintro e W1 ⟨u1,rfl,k,d⟩;obtain⟨g,cg,rfl, -, -⟩:=k.Ako L.out h1;have d1:=(d.cell (Aj W _ c1)).trans c1;have d2:=(d.cell (Aj W _ c2)).trans c2;have d3:=(d.cell (Aj W _ c3)).trans c3)
  | (refine⟨trivial,?_⟩;gi_at_call 258;refine(Bw.2 (aa W1 hn hv)).mono ?_;rintro e W2 ⟨rfl,rfl⟩))
 have m:J [] W1:=hJ [] W W1 G h0 (Below.Aox d) (fun r e=>by cases e);have z:=k.rd;have al:g∉S:=fun h=>absurd (aj g h) (by have:=k.block;omega)
 clear c1 c2 c3 d2 d3 k d aa h0 hJ
 gi_loopw [14] (fun q wr=>∃(i:Nat) (pre:List (Fin c)),i<=c/\q= E C i/\Hid (pre.map Fin.val=List.range i)/\J pre wr/\Rd C wr (H ⟨g,0,G⟩) (IF (Lx n))/\wr.cell? ⟨B1,0,G⟩=H (E C n)) (fun q _=>c-(intOf q).toNat)
 case atStart=>exact⟨0,[],Af _,rfl,by unfold Hid;rfl,m,z,d1⟩
 case round=>
  clear m z d1;obtain⟨i,pre,hi,rfl,HP,m,z,d1⟩:=hrel
  by_cases ae:i<c
  ·have aq:pre.length=i:=by have:=congrArg List.length HP.out;simpa using this
   have s:(b+i) % n<n:=AZ _ (by omega);have af:((b:Int)+(i:Int)).tmod (n:Int)=(((b+i) % n:Nat):Int):=by
    grind
   have ag:((b:Int)+(i:Int)) % (n:Int)=(((b+i) % n:Nat):Int):=by simp
   obtain⟨g',o',e',ac⟩:=z.at (i:=(b+i) % n) (by rw[L.out];exact s);simp at e';obtain⟨rfl,rfl⟩:=e';have g1:=ac ((b+i) % n) (by rw[L.out];exact s);rw[Ai8,<-N.out i,Ao]at g1;obtain⟨fn,tmps,ah,am,hy,hR⟩:=hY pre ⟨i,ae⟩ wr m (by omega);unfold AiK at hy;dsimp only at hy;obtain⟨pk, ab⟩ := E7 (Gi n v i);rw[<-ab]at g1 hy;obtain⟨q, eq⟩ := E7 ((b+i) % n);rw[<-eq]at s af ag g1;clear ac ab eq N
   gi_wp2
   refine hR.mono ?_;rintro e W3 (⟨rfl,ap,ad⟩ | ⟨rfl,an⟩)
   ·have d3:=ad.cell d1 ai;have r3:=ad.rd z (fun g' o' e' _=>by cases e';exact al);have ao:Hid ((pre++[(⟨i,ae⟩:Fin c)]).map Fin.val=List.range (i+1)):=by
     unfold Hid;rw[AR,HP.out,Az];rfl
    gi_wp2
    go_roundw
    case rel=>grind
    case measure=>simp[intOf];omega
   ·gi_wp2
    refine Ah (Cd rfl _ _ _) rfl ?_
    grind
  ·obtain rfl:i=c:=by omega
   gi_wp2
   go_end0;exact⟨⟨_,rfl⟩,.inl ⟨pre,HP.out,m⟩⟩
theorem AaZ(nf n v c:Nat)(w:V):
 CallsIn Fence.wide nf prog 228 #[E C n, E C v, E C c] w fun e w'=>e= Z (.func (.func 256) #[] #[I (H ⟨w.heap.size,0,G⟩), I (H ⟨w.heap.size+1,0,G⟩), I (H ⟨w.heap.size+2,0,G⟩)])/\
  w'=((w.alloc (U #[E C n] 3)).alloc (U #[E C v] 3)).alloc (U #[E C c] 3):=by
 refine Dz func228 rfl trivial ?_ rfl;simp only[ntmps228,A8,AE,Bs,Nat.reduceAdd,Nat.reduceSub,Cz,CA,CB,CC,AK,AT]
 gi_wp2
 go_ret;exact⟨rfl,rfl⟩
theorem Sz(n v c:Nat)(z:1<=n)(hn:n<=4096)(hv:v<=3)(hc:c<=4096)(d e k:Nat)(S:List Nat)(w:V)(L:Col w)
 (c1:w.cell? ⟨d,0,G⟩=H (E C n)) (c2:w.cell? ⟨e,0,G⟩=H (E C v)) (c3:w.cell? ⟨k,0,G⟩=H (E C c)) (m:d∉S) (r:∀x∈S,x<w.heap.size):
 SeqStopsK Fence.wide 2 prog 256 #[I (H ⟨d,0,G⟩), I (H ⟨e,0,G⟩), I (H ⟨k,0,G⟩)] (AiK n v c) (KeptC S) (fun ys=>ys.map Fin.val=List.range c) (fun _=>True) c w:=
 fun l J s W b N _ hY u=>Ahj n v c z hn hv hc l d e k S J s W (L.later b) N hY ((b.cell (Aj w _ c1)).trans c1) ((b.cell (Aj w _ c2)).trans c2) ((b.cell (Aj w _ c3)).trans c3) m (fun x hx=>AI (r x hx) b.size) u
attribute [local go_sem] Da
theorem Zaa{l m:V}{row:Option Nat}{k:Nat}{cs:Array Value}{fr:Nat×Nat}(h:l.heap[k]?=H (U cs t fr))(hg:l.grownBy m row)(b:∀r,row=H r->B<=r/\∃o:Obj,l.heap[r]?=H o/\o.isCells=T):m.heap[k]?=H (U cs t fr):=
 (hg.block k (Array.getElem?_eq_some_iff.1 h).1 (fun e=>by obtain⟨_,o,c,d⟩:=b k e.symm;rw[h]at c;cases c;cases d)).trans h
theorem TO(W:V):KeepsOthers W W.drew:=⟨Ac _,fun _ _ h _=>h⟩
theorem LW(h:Boxed W B t v){p:Addr}(b:B≠p.block)(u:Value):Boxed (W.setCell p u).drew B t v:=(BA W p u B b).trans h
theorem AgX(cs:List Int)(a:Option Addr)(n c v k:Nat)(w:V)(hC:Col w)(ha:Rd .u8 w a cs)(hl:cs.length=n)(h1:1<=n)(hn:n<=4096)(he:F6 cs=0)(hv:v<=3)(hk:k<=4096):
 Calls prog 190 #[O a n c, E C v, E C k] w fun e w'=>∃a' c',e= Z (.tuple #[O a' k c', E C 0])/\Below w.heap.size w w'/\Own w' w.heap.size (O a' k c') (JZ cs v k):=by
 have aj:Below w.heap.size w (w.alloc (U #[O a n c] 103)):=(Ad _ w).alloc (Ac _) _;have ak:=IP cs a c (w.alloc (U #[O a n c] 103)) (ha.below aj) (by unfold maxLen;omega);rw[hl,he]at ak;have aw:IJ (n:Int)=0:=by unfold IJ;rw[show RG (n:Int)=true from Ag (by omega)];rfl
 have au:Ku (v:Int)=0:=by unfold Ku;rw[show LO (v:Int)=true from Ag (by omega)];rfl
 have am:=Pg (n:Int) (w.alloc (U #[O a n c] 103));have an:=Kh (v:Int) (w.alloc (U #[O a n c] 103));rw[aw]at am;rw[au]at an;have HL:=hid hl;have a2:decide ((k:Int)<0)=T:=Ae (by omega);have a3:decide (4096<(k:Int))=T:=Ae (by omega);clear aw au he hl;refine(Bw (n:=3)).1 ?_;refine callsIn_of_wp_marks func190 rfl trivial ?_ rfl;simp only[ntmps190,A8,AE,Bs,Nat.reduceAdd,Nat.reduceSub,Cz,CA,CB,CC,AK,AT]
 gi_wp2_with (first
  | (refine⟨trivial,?_⟩;gi_at_call 225;refine(Bw.2 ak).mono ?_;rintro e w' ⟨rfl,rfl⟩)
  | (refine⟨trivial,?_⟩;gi_at_call 226;refine(Bw.2 am).mono ?_;rintro e w' ⟨rfl,rfl⟩)
  | (refine⟨trivial,?_⟩;gi_at_call 227;refine(Bw.2 an).mono ?_;rintro e w' ⟨rfl,rfl⟩)
  | (gi_at_make;refine Qb k rfl _ _ rfl _ _ rfl rfl rfl rfl (by omega) ?_;intro w2 s ab ax;have bC:Boxed w2 w.heap.size 103 (O a n c):=(ab.block w.heap.size (by simp)).trans (Boxed.new w 103 (O a n c));simp only[Ax]at s ab ax;have q2:=(bC.alloc (U #[O (H ⟨w.heap.size+1,0,G⟩) k k] 103)).cell)
  | (refine⟨trivial,?_⟩;gi_at_call 228;refine(AaZ 2 n v k _).mono ?_;rintro e w' ⟨rfl,rfl⟩))
 clear ak am an q2 a2 a3;obtain⟨ae, -, -⟩:=s.arr;have bP:=Boxed.new w2 103 (O (H ⟨w.heap.size+1,0,G⟩) k k);obtain⟨b, m⟩ := E7 (w2.alloc (U #[O (H ⟨w.heap.size+1,0,G⟩) k k] 103));have az:b.heap.size=w2.heap.size+1:=by rw[m];simp
 have ao:Boxed b w.heap.size 103 (O a n c):=by rw[m];exact bC.alloc _
 have af:ArrAt .u8 5 b (w.heap.size+1) (List.replicate k 0):=by rw[m];exact ae.alloc _
 have aa:Below w.heap.size w b:=by rw[m];exact(aj.trans (ab.mono (by omega))).alloc (by omega) _
 rw[<-m]at bP;rw[<-m,<-az];obtain⟨w4, d⟩ := E7 (((b.alloc (U #[E C n] 3)).alloc (U #[E C v] 3)).alloc (U #[E C k] 3));have b1:Boxed w4 b.heap.size 3 (E C n):=by rw[d];exact((Boxed.new b _ _).alloc _).alloc _
 have b2:Boxed w4 (b.heap.size+1) 3 (E C v):=by rw[d];have:=(Boxed.new (b.alloc (U #[E C n] 3)) 3 (E C v)).alloc (U #[E C k] 3);rwa [Ax]at this
 have b3:Boxed w4 (b.heap.size+2) 3 (E C k):=by rw[d];have:=Boxed.new ((b.alloc (U #[E C n] 3)).alloc (U #[E C v] 3)) 3 (E C k);rwa [Ax,Ax]at this
 have a0:Boxed w4 w.heap.size 103 (O a n c):=by rw[d];exact((ao.alloc _).alloc _).alloc _
 have a1:Boxed w4 w2.heap.size 103 (O (H ⟨w.heap.size+1,0,G⟩) k k):=by rw[d];exact((bP.alloc _).alloc _).alloc _
 have ap:ArrAt .u8 5 w4 (w.heap.size+1) (List.replicate k 0):=by rw[d];exact((af.alloc _).alloc _).alloc _
 have ar:Below w.heap.size w w4:=by rw[d];exact((aa.alloc aa.size _).alloc (by simp;have:=aa.size;omega) _).alloc (by simp;have:=aa.size;omega) _
 have a7:w4.heap.size=b.heap.size+3:=by rw[d];simp
 rw[<-d];clear m d bC bP ae s ab ao af aa aj;have ba:w2.heap.size<b.heap.size:=by omega
 have bb:b.heap.size<w4.heap.size:=by omega
 clear az a7;refine wpIn_rangeFunc_ownG rfl (by decide) (gf:=256) (lb:=#[I (H ⟨b.heap.size,0,G⟩), I (H ⟨b.heap.size+1,0,G⟩), I (H ⟨b.heap.size+2,0,G⟩)]) rfl trivial (enters_of func256 (by kernel_rfl) rfl)
  (Sz n v k h1 hn hv hk b.heap.size (b.heap.size+1) (b.heap.size+2) [w.heap.size+1] w4 (hC.later ar) b1.cell b2.cell b3.cell (by simp;omega) (by simp;omega)) KeptC.trans XK (Ad _ _) (fun _=>rfl)
  (fun pre W=>Boxed W w.heap.size 103 (O a n c)/\Boxed W w2.heap.size 103 (O (H ⟨w.heap.size+1,0,G⟩) k k)/\ArrAt .u8 5 W (w.heap.size+1) (Ps n v cs (List.replicate k 0) (pre.map Fin.val))/\Below w.heap.size w W)
  (fun _ _ _=>False)
  (fun pre bc bd row N hg u=>⟨Zaa N.1 hg u,Zaa N.2.1 hg u,Zaa N.2.2.1 hg u,N.2.2.2.grown hg N.2.2.2.size (fun j e=>by have:=(u j e).1;omega)⟩)
  (fun _ _ _ _ _ N _ _=>N)
  ⟨a0,a1,ap,ar⟩
  (fun x=>{tmps:=#[O a n c, E C v, E C k, I (H ⟨w.heap.size,0,G⟩),undef,undef, O G 0 0, E C 0, E C 0, E C 0, E C 0, I (H ⟨w2.heap.size,0,G⟩), E C (x.val:Int), E C ((Gi n v x.val:Nat):Int), O a n c, E C 0, E C 0,.bool T,undef, O a n c, E C n, E C 0, E C 0,.bool T,undef, E C v, E C 0, E C 0,.bool T,undef, E C k,.bool T,.bool T, E C k,.bool T,.bool T, E C k, O (H ⟨w.heap.size+1,0,G⟩) k k, O a n c, E C n, E C v, E C k,.func (.func 256) #[] #[I (H ⟨b.heap.size,0,G⟩), I (H ⟨b.heap.size+1,0,G⟩), I (H ⟨b.heap.size+2,0,G⟩)], E C (x.val:Int), E C ((Gi n v x.val:Nat):Int),undef,undef,undef,undef,undef,undef,undef,undef],defers:=[]}) ?assign ?body ?done ?stop
 case assign=>
  intro l x W K J;unfold AiK
  gi_wp2
  exact J
 case body=>
  rintro l pre ⟨x,hx⟩ W ⟨bC,bP,L,hB⟩ a9;dsimp only;have ad:=Aay (n:=n) (v:=v) (i:=x) h1;obtain⟨bx,ox,rfl,av⟩:=(ha.below hB).at (i:=Gi n v x) (by rw[HL.out];exact ad);have g1:=av (Gi n v x) (by rw[HL.out];exact ad);have cC:=bC.cell;have cP:=bP.cell;have HF:=hid ((Yb n v cs (pre.map Fin.val) (List.replicate k 0)).trans (A7 ..));have g2:=L.cell (j:=x) (by rw[HF.out];exact hx);have a4:=L.free x;have HS:=hid (Um n v cs (List.replicate k 0) (pre.map Fin.val) x);obtain⟨pk, ai⟩ := E7 (Gi n v x);rw[<-ai]at ad g1 HS;obtain⟨z, ez⟩ := E7 (cs.getD pk 0);rw[<-ez]at g1 HS;rw[<-ai];have ah:=L.set x z;rw[<-HS.out]at ah;have al:ArrAt .u8 5 (W.setCell ⟨w.heap.size+1,x,G⟩ (E .u8 z)).drew (w.heap.size+1) (Ps n v cs (List.replicate k 0) ((pre++[(⟨x,hx⟩:Fin k)]).map Fin.val)):=by rw[AR];exact ah
  have ag:KeepsFrom w4.heap.size W (W.setCell ⟨w.heap.size+1,x,G⟩ (E .u8 z)).drew/\KeptC [w.heap.size+1] W (W.setCell ⟨w.heap.size+1,x,G⟩ (E .u8 z)).drew/\Boxed (W.setCell ⟨w.heap.size+1,x,G⟩ (E .u8 z)).drew w.heap.size 103 (O (H ⟨bx,ox,G⟩) n c)/\Boxed (W.setCell ⟨w.heap.size+1,x,G⟩ (E .u8 z)).drew w2.heap.size 103 (O (H ⟨w.heap.size+1,0,G⟩) k k)/\ArrAt .u8 5 (W.setCell ⟨w.heap.size+1,x,G⟩ (E .u8 z)).drew (w.heap.size+1) (Ps n v cs (List.replicate k 0) ((pre++[(⟨x,hx⟩:Fin k)]).map Fin.val))/\Below w.heap.size w (W.setCell ⟨w.heap.size+1,x,G⟩ (E .u8 z)).drew:=
   ⟨((KeepsOthers.setCell _ _ _).trans (TO _)).from _,(KeptC.setCell _ (by simp) _).drew,LW bC (by simp) _,LW bP (by simp;omega) _,al,(hB.setCell (p:=⟨w.heap.size+1,x,G⟩) (by simp) _).drew⟩
  have ay:prog.follows .mixedOrders=true:=by kernel_rfl
  clear av ai ez
  gi_wp2
  refine wpIn_mono (Q:=fun e _ w'=>e=.normal/\w'=(W.setCell ⟨w.heap.size+1,x,G⟩ (E .u8 z)).drew) ?_ ?_
  ·clear ag;refine QT 7 45 [O (H ⟨w.heap.size+1,0,G⟩) k k, E C (x:Int), O (H ⟨bx,ox,G⟩) n c, E C (pk:Int), I (H ⟨bx,ox+pk,G⟩), E .u8 z, I (H ⟨w.heap.size+1,0+x,G⟩)]
    [[],[],[],[],[2,3],[4],[0,1]] _ W ay rfl (by simp) (by kernel_rfl) (by kernel_rfl) (by kernel_rfl) ?_ ?_
   ·intro i hi ac hu N K J;have a5:i=0\/i=1\/i=2\/i=3\/i=4\/i=5\/i=6:=by omega
    rcases a5 with rfl | rfl | rfl | rfl | rfl | rfl | rfl
    ·exact FP rfl rfl (fun c h=>by cases h) rfl (UD _ rfl (N 11 (by omega)) cP) J
    ·exact FP rfl rfl (fun c h=>by cases h) rfl (Fd _ rfl (N 12 (by omega))) J
    ·exact FP rfl rfl (fun c h=>by cases h) rfl (UD _ rfl (N 3 (by omega)) cC) J
    ·exact FP rfl rfl (fun c h=>by cases h) rfl (Fd _ rfl (N 13 (by omega))) J
    ·exact FP rfl rfl (fun c h=>by cases h) rfl (Abe _ rfl (hu 2 (by decide)) (hu 3 (by decide)) ad) J
    ·exact FP rfl rfl (fun c h=>by cases h) rfl (Ahq _ rfl (hu 4 (by decide)) g1) J
    ·exact FP rfl rfl (fun c h=>by cases h) rfl (Abe _ rfl (hu 0 (by decide)) (hu 1 (by decide)) hx) J
   ·intro ac hu N;exact Wj rfl rfl (fun c h=>by cases h) rfl (AdH _ rfl (hu 6 (by decide)) (hu 5 (by decide)) (by rw[Ao];exact g2) (by rw[Ao];exact a4)) ⟨rfl,by rw[Ao];rfl⟩
  ·rintro e a' w' ⟨rfl,rfl⟩;exact ag
 case done=>
  rintro D ys W hD a8 ⟨bC,bP,L,hB⟩ J;have cP:=bP.cell;have aq:ArrAt .u8 5 (W.putObj D (.deferred G)) (w.heap.size+1) (JZ cs v k):=by
   rw[a8,<-HL.out,AgV]at L;exact Zaa (B:=0) L (grownBy_putObj' W D (.deferred G)) (fun r e=>by cases e;exact⟨Af _,_,J,rfl⟩)
  have a6:=J0 cs v k
  gi_wp2
  refine⟨by simp,.inl ⟨_,_,rfl,run_takeDeferred J,?_⟩⟩;refine⟨_,results_tmp2 rfl _ _ _,H ⟨w.heap.size+1,0,G⟩,k,rfl,hB.trans (belowK_b (w:=w) (Ac _) W D _ _ (by omega) J rfl rfl),?_⟩;exact PX aq (by omega) a6 (by unfold maxLen;omega)
 grind
theorem Nf(w:V):w.grownBy w G:=⟨rfl,rfl,rfl,Ac _,fun _ _ _=>rfl⟩
theorem Aal{w':V}(hi:ops[i]?=H o)(hg:o.guard=G)
 (b:(execOp a.eval o).run P w=.ok .skip w') (c:K (a.put o.dst undef) w'):wpOp P ops Q i K a w:=by
 unfold wpOp;rw[hi];have d:Region.wanted o (yielded ops a.tmps)=true:=by simp[Region.wanted,hg]
 simp only[d,AP,Oper.wp]
 left;rw[b];exact c
theorem Oo{f:Nat}{xs:Array Operand}{us:Array Value}{m:Array TypeId}{R:Ending->V->Prop}(hi:ops[i]?=H o)(hg:o.guard=G)(d:o.op=.call {callee:=.value (.func f),args:=xs,argTypes:=m})
 (he:Enters prog f) (hx:xs.map a.eval=us) (hc:Calls prog f us w R) (hR:∀e w',R e w'->∃r,e= Z r/\K (a.put o.dst r) w'):wpOp prog ops Q i K a w:=by
 unfold wpOp;rw[hi];have l:Region.wanted o (yielded ops a.tmps)=true:=by simp[Region.wanted,hg]
 simp only[l,AP,Oper.wp]
 left;have b:(execOp a.eval o).run prog w=.ok (.enter f us) w:=by
  unfold execOp;simp only[d];have:=he us w;have c:a.eval (.func f)=.func (.func f) #[] #[]:=rfl;simp[resolve,invoke,hx,c,Deferred.ofValue,this]
 rw[b,DV];refine hc.mono fun e w' h=>?_
 obtain⟨r,rfl,k⟩:=hR e w' h;exact k
theorem Akd(w:V)(c:o.op=.binOp .sub 3 x y 3)(h:ρ x= E C p)(b:ρ y= E C q)(d:IntKind.i64.wrap (p-q)=p-q):(execOp ρ o).run prog w=.ok (.value (E C (p-q))) w:=by
 unfold execOp;simp only[c,h,b];simp[go_sem,d]
theorem Aa8(w:V)(b:o.op=.fieldAddr 335 x 0)(h:ρ x= I (H ⟨g,0,G⟩)):(execOp ρ o).run prog w=.ok (.value (I (H ⟨g,0,G⟩))) w:=by
 unfold execOp;simp only[b,h];simp[go_sem]
theorem Aa9(w:V)(b:o.op=.fieldAddr 335 x 1)(h:ρ x= I (H ⟨g,0,G⟩)):(execOp ρ o).run prog w=.ok (.value (I (H ⟨g,1,G⟩))) w:=by
 unfold execOp;simp only[b,h];simp[go_sem]
theorem Aa3(w:V)(b:o.op=.assign x)(h:ρ x=v):(execOp ρ o).run P w=.ok (.value v) w:=by
 unfold execOp;simp only[b,h];simp[go_sem]
theorem Abd(w:V)(c:o.op=.indexAddr 397 x y)(h:ρ x= I (H ⟨g,0,G⟩))(b:ρ y= E C j)(e:j<2):(execOp ρ o).run prog w=.ok (.value (I (H ⟨g,j,G⟩))) w:=by
 unfold execOp;simp only[c,h,b];simp[go_sem,underlying397];intro d;omega
theorem Aka(w:V)(b:o.op=.call {callee:=.builtin .min,args:=#[x,y],argTypes:=#[3,3]})(h:ρ x= E C p)(h':ρ y= E C q):(execOp ρ o).run prog w=.ok (.value (E C (min p q))) w:=by
 unfold execOp;simp only[b];simp[resolve,invoke,builtin,h,h',go_sem]
 all_goals (split<;>omega)
def TY (h n i:Nat):List Int:=(List.range i).map (fun m=>Gr m h)++List.replicate (n-i) 0
theorem Ajn(hi:i<n):(TY h n i).set i (Gr i h)=TY h n (i+1):=by
 unfold TY;rw[Cq _ _ (by simp),Bo,C1,Bm,Az,AR,Bg,show n-i=n-(i+1)+1 by omega,Dy];rfl
theorem Z4(hi:i<=n):(TY h n i).length=n:=by simp[TY];omega
theorem Ajm(h:Nat):TY h (2 ^ h) (2 ^ h)=Po h:=by simp[TY,Po]
theorem XQ(h:Nat):(Po h).length=2 ^ h:=by simp[Po]
theorem Aji(b:j<2 ^ h):(Po h).getD j 0=Gr j h:=by simp[Po,List.getD,b]
theorem TU(h n:Nat)(w:V)(h1:1<=h)(hh:h<=3)(N:n=2 ^ h):
 Calls prog 232 #[E C h] w fun e w'=>∃g,e= Z (O (H ⟨g,0,G⟩) n n)/\ArrAt C 3 w' g (Po h)/\w.heap.size<=g/\Below w.heap.size w w':=by
 have l:=hid (show TY h n n=Po h by rw[N];exact Ajm h);have h8:n<=8:=by
  rw[N];exact(show 2 ^ h<=2 ^ 3 from BC (by omega) hh)
 have J:wrap64 (2 ^ h)=(n:Int):=by
  have h3:h=1\/h=2\/h=3:=by omega
  rw[N]
  rcases h3 with rfl | rfl | rfl<;>simp[wrap64]
 clear N;go_enter func232,ntmps232
 go_wp2_with(first
  | (refine FZ w.heap.size w n rfl _ _ rfl _ _ rfl rfl J J (by omega) (Ad _ _) (Ac _) ?_;intro w1 d k ac ab;obtain⟨m, -, -⟩:=d.arr;clear d))
 go_loopw [10] (fun q wr=>∃i:Nat,i<=n/\q= E C i/\ArrAt C 3 wr w.heap.size (TY h n i)/\Kept [w.heap.size] w1 wr) (fun q _=>n-(intOf q).toNat)
 case atStart=>exact⟨0,Af _,rfl,by simpa [TY]using m,Kept.refl _ _⟩
 case round=>
  obtain⟨i,hi,rfl,c,b⟩:=hrel
  by_cases s:i<n
  ·have u:=c.set i (Gr i h);rw[Ajn s]at u;have hf:=c.free i;have ad:=c.cell (j:=i) (by rw[Z4 hi];exact s);have L:=b.setCell (p:=⟨w.heap.size,i,G⟩) (by simp) (E C (Gr i h));have aa:=Agr i h wr (by omega) hh;generalize (TY h n i).getD i 0=z at*;generalize Gr i h=y at*;clear c b
   go_wp2_with(first | (go_at_call 262;refine aa.mono ?_;rintro e w2 ⟨rfl,rfl⟩))
   go_roundw
   case rel=>grind
   case measure=>simp[intOf];omega
  ·obtain rfl:i=n:=by omega
   rw[l.out]at c;have r:=k.trans (b.below (B:=w.heap.size) (by omega) (by simp));clear b;go_wp2;go_ret;exact⟨w.heap.size,rfl,c,Ac _,r⟩
theorem Ac4(b:ArrAt C 3 w g (Po h))(c:j<2 ^ h):w.cell? ⟨g,j,G⟩=H (E C (Gr j h)):=by
 have:=b.cell (j:=j) (by rw[XQ];exact c);rw[Aji c]at this;exact this
end Go.Proofs.YtbjgfoiikhbonahGreatDoor
