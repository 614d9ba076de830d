import Derived.RangeFuncLeaves
import Derived.TacticsInMore
import Derived.LoopNIn
import Derived.LoopIn
import Derived.Test.YtbjgfoiikhbonahGreatDoorD04
import Derived.Shelf.RegionOpen
set_option linter.unusedVariables false
set_option linter.unusedSimpArgs false
set_option maxRecDepth 100000
set_option maxHeartbeats 4000000
namespace Go.Proofs.YtbjgfoiikhbonahGreatDoor
open Go.ChangeShapes Go.WideShapes Go.ChangeAt Go.RowKit Go.Shelf Go.Proofs.Tryz
open Value (int slice pointer)
open IntKind (i64)
variable {A W W' w:World}{B g h i j n nf:Nat}{F:Fence}{K:Act->World->Prop}{P:Program}{Q:Exit->Act->World->Prop}{S:List Nat}{a:Act}{o:Oper}{ops:Array Oper}{p q:Int}{rest:List Oper}{t:TypeId}{v:Value}{x y:Operand}{xs:List Int}{ρ:Operand->Value}
structure KeptC(S:List Nat)(W W':World):Prop where
 size:W.heap.size<=W'.heap.size
 same:∀k o,W.heap[k]?=some o->o.isCells=true->k∉S->W'.heap[k]?=some o
theorem KeptC.trans{B C:World}(h:KeptC S A B)(k:KeptC S B C):KeptC S A C:=⟨Ak h.size k.size,fun i o hi c b=>k.same i o (h.same i o hi c b) c b⟩
theorem KeptC.putObj{S:List Nat}(W:World)(l:Nat)(o c:Obj)(h:W.heap[l]?=some o)(d:o.isCells=false):KeptC S W (W.putObj l c):=
 ⟨by simp[World.putObj],fun k x b f _=>(World.putObj_heap_other (fun e=>by grind)).trans b⟩
theorem KeptC.setCell{S:List Nat}{p:Addr}(W:World)(d:p.block∈S)(u:Value):KeptC S W (W.setCell p u):=
 ⟨by simp[World.setCell],fun k o b _ c=>(BA W p u k (fun e=>c (by rw[e];exact d))).trans b⟩
theorem KeptC.alloc(W:World)(o:Obj):KeptC S W (W.alloc o):=
 ⟨by simp,fun k x b _ _=>(Bc _ _ _ (Array.getElem?_eq_some_iff.1 b).1).trans b⟩
theorem KeptC.drew(h:KeptC S A W):KeptC S A W.drew:=⟨h.size,h.same⟩
theorem KeptC.cell{S:List Nat}{W W':World}(h:KeptC S W W'){p:Addr}{v:Value}(b:W.cell? p=some v)(d:p.block∉S):W'.cell? p=some v:=by
 obtain⟨o,c,e⟩:=cells_of_cell b;have:=h.same _ _ c e d;rw[<-b];simp only[World.cell?,c,this]
theorem KeptC.rd{a b:World}(h:KeptC S a b){k:IntKind}{d:Option Addr}{zs:List Int}(l:Rd k a d zs)(m:∀g o,d=some ⟨g,o,none⟩->zs≠[]->g∉S):Rd k b d zs:=by
 intro c;obtain⟨g,o,rfl,e⟩:=l c;exact⟨g,o,rfl,fun j f=>h.cell (e j f) (m g o rfl c)⟩
theorem KeptC.Ud(h:W.grownBy W' (some g))(hg:g∈S):KeptC S W W':=
 ⟨h.size,fun k _ b _ c=>(h.block k (Array.getElem?_eq_some_iff.1 b).1 (fun e=>by cases e;exact c hg)).trans b⟩
theorem XK(W:World)(l:Nat)(o b:Obj)(_:w.heap.size<=l)(h:W.heap[l]?=some o)(c:o.isCells=false)(_:o.isWalk=false):KeptC S W (W.putObj l b):=KeptC.putObj W l o b h c
theorem Below.Aox(h:Below W.heap.size W W'):W.grownBy W' none:=⟨h.os,h.tape,h.output,h.size,fun k b _=>h.block k b⟩
def JW (n v:Nat)(xs s:List Int)(pre:List Nat):List Int:=pre.foldl (fun L i=>L.set (Gi n v i) (L.getD (Gi n v i) 0+xs.getD i 0)) s
theorem TI(n v:Nat)(xs s:List Int)(pre:List Nat)(i:Nat):JW n v xs s (pre++[i])=(JW n v xs s pre).set (Gi n v i) ((JW n v xs s pre).getD (Gi n v i) 0+xs.getD i 0):=by simp[JW,Cf]
theorem Qx(n v:Nat)(xs:List Int)(pre:List Nat):∀s:List Int,(JW n v xs s pre).length=s.length:=by
 induction pre with
 | nil=>intro s;rfl
 | cons i pre ih=>
  intro s;have:=ih (s.set (Gi n v i) (s.getD (Gi n v i) 0+xs.getD i 0));rw[An]at this;exact this
theorem Se(n v:Nat)(xs s:List Int)(c:Nat):∀k,k<=c->JW n v xs s (List.range k)=Od s (I9 n v c) xs k
 | 0,_=>rfl
 | k+1,hk=>by
  rw[Az,TI,Se n v xs s c k (by omega)];have:(I9 n v c).getD k 0=Gi n v k:=AgW (by omega)
  show _=(Od s (I9 n v c) xs k).set ((I9 n v c).getD k 0) ((Od s (I9 n v c) xs k).getD ((I9 n v c).getD k 0) 0+xs.getD k 0);rw[this]
theorem Alv(L:List Int)(i j:Nat)(x:Int):(L.set i x).getD j 0=x\/(L.set i x).getD j 0=L.getD j 0:=by grind
theorem Af6(n v:Nat)(b:Fy xs=true)(pre:List Nat):∀(s:List Int) (M:Int),(∀j, -M<=s.getD j 0/\s.getD j 0<=M)->∀j, -(M+100000*(pre.length:Int))<=(JW n v xs s pre).getD j 0/\(JW n v xs s pre).getD j 0<=M+100000*(pre.length:Int):=by
 induction pre with
 | nil=>intro s M h j;have:=h j;simpa [JW]using this
 | cons i pre ih=>
  intro s M h j;have c:=O8 b i
  have d:=ih (s.set (Gi n v i) (s.getD (Gi n v i) 0+xs.getD i 0)) (M+100000) (fun j=>by
   grind [Gi,Alv]) j
  grind [JW,Gi]
theorem AiU(n v:Nat){s:List Int}(b:Fy s=true)(c:Fy xs=true)(pre:List Nat)(j:Nat): -(100000+100000*(pre.length:Int))<=(JW n v xs s pre).getD j 0/\(JW n v xs s pre).getD j 0<=100000+100000*(pre.length:Int):=
 Af6 n v c pre s 100000 (O8 b) j
def Ps (n v:Nat)(cs s:List Int)(pre:List Nat):List Int:=pre.foldl (fun L i=>L.set i (cs.getD (Gi n v i) 0)) s
theorem Um(n v:Nat)(cs s:List Int)(pre:List Nat)(i:Nat):Ps n v cs s (pre++[i])=(Ps n v cs s pre).set i (cs.getD (Gi n v i) 0):=by simp[Ps,Cf]
theorem Yb(n v:Nat)(cs:List Int)(pre:List Nat):∀s:List Int,(Ps n v cs s pre).length=s.length:=by
 induction pre with
 | nil=>intro s;rfl
 | cons i pre ih=>
  intro s;have:=ih (s.set i (cs.getD (Gi n v i) 0));rw[An]at this;exact this
theorem Sv(v:Nat)(cs:List Int)(K:Nat):∀k,k<=K->Ps cs.length v cs (List.replicate K 0) (List.range k)=JZ cs v k++List.replicate (K-k) 0
 | 0,_=>by simp[Ps,JZ]
 | k+1,hk=>by
  rw[Az,Um,Sv v cs K k (by omega)];have e:JZ cs v (k+1)=JZ cs v k++[cs.getD (Gi cs.length v k) 0]:=by simp[JZ,Az]
  have er:List.replicate (K-k) (0:Int)=0::List.replicate (K-(k+1)) 0:=by
   rw[show K-k=(K-(k+1))+1 by omega,Dy]
  rw[e,er,Cq _ _ (by rw[J0];omega),J0];simp
theorem AgV(v:Nat)(cs:List Int)(K:Nat):Ps cs.length v cs (List.replicate K 0) (List.range K)=JZ cs v K:=by
 rw[Sv v cs K K (Ac _)];simp
theorem U3(f:o.guard=none)(ty:TypeId)(x i:Operand)(l:o.op=.index ty x i)
 (e:TypeId) (cs:Array Value) (n k:Nat) (v:Value) (d:TypeDesc) (m:IntKind) (E:a.eval x=.agg cs) (hi:a.eval i=.int m k) (C:P.underlying ty=some (.array n e)) (s:P.underlying e=some d)
 (hd:d.isRow=false) (z:(P.info? e).map (·.size)=some 1) (u:k<n) (D:cs[k]?=some v)
 (h:wpListIn F nf P ops Q rest (a.put o.dst v) w):wpListIn F nf P ops Q (o::rest) a w:=by
 refine D1 f fun K r=>?_
 unfold Oper.wpIn;refine⟨?_,?_⟩
 ·simp[Oper.about,l]
 ·rw[Oper.semAt_plain F _ _ (by rw[l];intro c b;cases b)];unfold execOp;simp only[l,E,hi,BN,Mv w ty e cs n k v d C s hd z u D m,B7];exact r _ _ h
theorem Ri(e:o.guard=none)(ty:TypeId)(x:Operand)(f:o.op=.load ty x)
 (g:Nat) (m:a.eval x=pointer (some ⟨g,0,none⟩)) (t:TypeId) (cs:Array Value) (fr:Nat×Nat) (d:TypeDesc) (hg:w.heap[g]?=some (.cells cs t fr))
 (l:P.underlying ty=some d) (hd:(match d with | .struct _ | .array _ _=>true | _=>false)=true) (hi:(P.info? ty).map (·.size)=some cs.size)
 (h:wpListIn F nf P ops Q rest (a.put o.dst (.agg cs)) w):wpListIn F nf P ops Q (o::rest) a w:=by
 refine D1 e fun K k=>?_
 unfold Oper.wpIn;refine⟨?_,?_⟩
 ·simp[Oper.about,f]
 ·rw[Oper.semAt_plain F _ _ (by rw[f];intro c b;cases b)];unfold execOp;simp only[f,m,Instr.loadAt,Instr.sureAddr,BN,Cv,B7,run_loadVar_row w g t ty cs fr d hg l hd hi];exact k _ _ h
theorem Qb(N:Nat)(s:o.guard=none)(l c:Operand)
 (z:o.op=Op.makeSlice 103 l c) (x y:Int) (J:a.eval l=int i64 x) (H:a.eval c=int i64 y) (L:x=(N:Int)) (M:y=(N:Int)) (R:N<=70368744177664)
 (h:∀w',Own w' w.heap.size (slice (some ⟨w.heap.size,0,none⟩) N N) (List.replicate N 0)->Below w.heap.size w w'->w.heap.size<w'.heap.size->wpListIn F nf prog ops Q rest (a.put o.dst (slice (some ⟨w.heap.size,0,none⟩) N N)) w'):
 wpListIn F nf prog ops Q (o::rest) a w:=by
 obtain⟨O,hi,C,D,E⟩:=As Tryz.Of;refine D1 s fun K m=>?_
 obtain⟨w',d,f,G⟩:=run_make_full (P:=prog) w w.heap.size 103 5 O (int .u8 0) 1 underlying103 hi C D i64 i64 N (by rw[E];omega) (by unfold maxLen;omega) (Ac _);subst L;subst M;have e:(madeCells (Value.cells (int .u8 0)) (N*1)).toList=List.replicate N (int .u8 0):=by
  rw[By];exact CL _ _
 rw[e]at f;have u:=(f.lt w.heap.size rfl).2;have b:Own w' w.heap.size (slice (some ⟨w.heap.size,0,none⟩) N N) (List.replicate N 0):=by
  unfold Own;rw[A7,Dh];exact f
 unfold Oper.wpIn;refine⟨?_,?_⟩
 ·simp[Oper.about,z]
 ·rw[Oper.semAt_plain F _ _ (by rw[z];intro c r;cases r)];simp[execOp,z,J,H,d,Result.andThen];exact m _ _ (h w' b ((Ad _ _).grown G (Ac _) (by intro k I;cases I)) u)
attribute [local go_sem] Da
theorem AkI(F:Fence)(nf:Nat)(hf:F.fn 286)(aa:F.round=none)(ae:1<=nf)(l E N:Nat)(S:List Nat)(hN:N<=4096)(J Jx:List Int->World->Prop)
 (hY:∀pre x W,J pre W->pre.length<N->YieldAt F (nf-1) prog l #[int i64 x] W fun e W'=>
  (e=.returned (.bool true)/\J (pre++[x]) W'/\KeptC S W W')\/(e=.returned (.bool false)/\Jx (pre++[x]) W'))
 (W:World) (hC:Col W) (H:W.cell? ⟨E,0,none⟩=some (int i64 N)) (V:E∉S) (h0:J [] W):
 CallsIn F nf prog 286 #[.func (.yield l) #[] #[],pointer (some ⟨E,0,none⟩)] W fun e W'=>(∃v,e=.returned v)/\
  ((∃ys,ys=IF (Lx N)/\J ys W')\/(∃pre,pre <+:IF (Lx N)/\Jx pre W')):=by
 unfold Col AiC at hC;obtain⟨T,fr,hh⟩:=hC;refine Dz func286 rfl hf ?_ aa;simp only[ntmps286,A8,AE,Bs,Nat.reduceAdd,Nat.reduceSub,Cz,CA,CB,CC,AK,AT]
 gi_wp2_with (first | (refine Ri rfl 421 (.global 10) rfl 10 rfl T _ fr _ hh underlying421 rfl (by kernel_rfl) ?_))
 gi_loopw [7] (fun q wr=>∃k:Nat,k<=8/\q=int i64 k/\J (IF (K1 N k)) wr/\wr.cell? ⟨E,0,none⟩=some (int i64 N)) (fun q _=>8-(intOf q).toNat)
 case atStart=>exact⟨0,Af _,rfl,h0,H⟩
 case round=>
  obtain⟨k,hk,rfl,hJ,hc⟩:=hrel
  by_cases f:k<8
  ·obtain⟨b,d⟩:=E7 (L5.getD k 0);have ac:b<8:=by rw[d];exact All f
   have R:Hid ((#[int i64 0,int i64 4,int i64 2,int i64 6,int i64 1,int i64 5,int i64 3,int i64 7]:Array Value)[k]?=some (int i64 (b:Int))):=by
    unfold Hid;rw[d];have:k=0\/k=1\/k=2\/k=3\/k=4\/k=5\/k=6\/k=7:=by omega
    rcases this with rfl | rfl | rfl | rfl | rfl | rfl | rfl | rfl<;>rfl
   have G:=hid (Ue (n:=N) f);have C:=hid (fun r Z=>Adg (n:=N) (r:=r) f Z);rw[<-d]at G C;have dk:decide ((k:Int)<8)=true:=Ag (by omega);clear d h0 H hh
   gi_wp2_with (first | (refine U3 rfl 421 (.tmp 6) (.tmp 7) rfl 3 _ 8 k (int i64 (b:Int)) (.int i64) i64 rfl rfl underlying421 underlying3 rfl (by kernel_rfl) f R.out ?_))
   gi_loopw [5] (fun q ws=>∃r i:Nat,r<=Ux N/\Hid (i=8*r+b)/\i<=N+7/\q=int i64 i/\J (IF (K1 N k++Ho N b r)) ws/\ws.cell? ⟨E,0,none⟩=some (int i64 N)) (fun q _=>N+8-(intOf q).toNat)
   case atStart=>exact⟨0,b,Af _,by unfold Hid;omega,by omega,rfl,by simpa [Ho]using hJ,hc⟩
   case round=>
    obtain⟨r,i,Z,z,hi,rfl,I,X⟩:=hrel
    by_cases ad:i<N
    ·have m:r+1<=Ux N:=by have:=z.out;unfold Ux;omega
     have u:=hid (AfQ (n:=N) (c:=b) (r:=r) (by have:=z.out;omega));have M:(IF (K1 N k++Ho N b r)).length<N:=by
      have h1:=(C.out (r+1) m).length_le;rw[u.out,Oq]at h1
      grind [QA]
     obtain⟨fn,tmps,O,ab,hy,hR⟩:=hY _ (i:Int) wr I M
     gi_wp2
     refine hR.mono ?_;rintro e W3 (⟨rfl,D,Y⟩ | ⟨rfl,s⟩)
     ·have L:W3.cell? ⟨E,0,none⟩=some (int i64 N):=Y.cell X V;have e3:IF (K1 N k++Ho N b r)++[(i:Int)]=IF (K1 N k++Ho N b (r+1)):=by rw[u.out,<-Bg,Nh _ [8*r+b],z.out];rfl
      rw[e3]at D
      gi_wp2
      go_roundw
      case rel=>first | exact⟨r+1,i+8,m,by unfold Hid;have:=z.out;omega,by omega,by go_num,D,L⟩ | ((repeat apply Exists.intro);exact⟨⟨r+1,i+8,m,by unfold Hid;have:=z.out;omega,by omega,by go_num,D,L⟩,rfl⟩)
      case measure=>simp[intOf];omega
     ·gi_wp2
      refine Ah (Cd rfl _ _ _) rfl ?_;have e3:IF (K1 N k++Ho N b r)++[(i:Int)]=IF (K1 N k++Ho N b (r+1)):=by rw[u.out,<-Bg,Nh _ [8*r+b],z.out];rfl
      rw[e3]at s;refine⟨⟨_,rfl⟩,.inr ⟨_,?_,s⟩⟩;obtain⟨t,ht⟩:=C.out (r+1) m;exact⟨IF t,by rw[<-Nh,ht]⟩
    ·have U:=hid (Acl (n:=N) (c:=b) Z (by have:=z.out;omega));rw[<-U.out,<-G.out]at I
     gi_wp2
     go_roundw
     case rel=>grind
     case measure=>simp[intOf];omega
  ·obtain rfl:k=8:=by omega
   gi_wp2
   go_end0;exact⟨⟨_,rfl⟩,.inl ⟨_,rfl,hJ⟩⟩
theorem AkJ(F:Fence)(nf:Nat)(c:F.fn 275)(b:F.round=none)(N:Nat)(w:World):
 CallsIn F nf prog 275 #[int i64 N] w fun e w'=>e=.returned (.func (.func 286) #[] #[pointer (some ⟨w.heap.size,0,none⟩)])/\w'=w.alloc (.cells #[int i64 N] 3):=by
 refine Dz func275 rfl c ?_ b;simp only[ntmps275,A8,AE,Bs,Nat.reduceAdd,Nat.reduceSub,Cz,CA,CB,CC,AK,AT]
 gi_wp2
 go_ret;exact⟨rfl,rfl⟩
theorem Ad9(F:Fence)(nf:Nat)(C:F.fn 286)(e:F.round=none)(d:1<=nf)(b N:Nat)(S:List Nat)(u:N<=4096)(w:World)(s:Col w)(c:b∉S)
 (k:w.cell? ⟨b,0,none⟩=some (int i64 N)):
 SeqStopsK F nf prog 286 #[pointer (some ⟨b,0,none⟩)] (fun x:Int=>#[int i64 x]) (KeptC S) (fun D=>D=IF (Lx N)) (fun pre=>pre <+:IF (Lx N)) N w:=fun l J m W f _ _ z r=>
 AkI F nf C e d l b N S u J m z W (s.later f) ((f.cell (p:=⟨b,0,none⟩) (Aj w _ k)).trans k) c r
attribute [local go_sem] Da
theorem Aaq(n:Nat)(w:World)(hC:Col w)(hn:n<=4096):
 Calls prog 257 #[int i64 n] w fun e w'=>∃v,e=.returned v/\OwnI w' w.heap.size v (IF (Lx n))/\Below w.heap.size w w':=by
 obtain⟨i0,hi,O,G,R⟩:=As Tryz.Wa;refine(Bw (n:=3)).1 ?_;refine callsIn_of_wp_marks func257 rfl trivial ?_ rfl;simp only[ntmps257,A8,AE,Bs,Nat.reduceAdd,Nat.reduceSub,Cz,CA,CB,CC,AK,AT]
 gi_wp2_with (first
  | (gi_at_make;refine wpListIn_make_own w rfl _ _ 74 rfl w.heap.size 3 i0 (int i64 0) 1 underlying74 hi O G i64 i64 _ n rfl rfl rfl (by rw[R];omega) (by unfold maxLen;omega) (Ac _) ?_;intro w1 d z)
  | (refine⟨trivial,?_⟩;gi_at_call 275;refine(AkJ Fence.wide 2 trivial rfl n _).mono ?_;rintro e w' ⟨rfl,rfl⟩))
 have C:=z.size;have Z:=(d.lt w.heap.size rfl).2;have bO:=Boxed.new w1 74 (slice (some ⟨w.heap.size,0,none⟩) 0 n);have T:=Boxed.new (w1.alloc (.cells #[slice (some ⟨w.heap.size,0,none⟩) 0 n] 74)) 3 (int i64 n);rw[Ax]at T;have J:Below w.heap.size w w1:=(Ad _ _).grown z (Ac _) (fun k e=>by cases e);have s:Below w.heap.size w ((w1.alloc (.cells #[slice (some ⟨w.heap.size,0,none⟩) 0 n] 74)).alloc (.cells #[int i64 n] 3)):=(J.alloc C _).alloc (by simp;omega) _;refine wpIn_rangeFunc_ownG rfl (by decide) (gf:=286) (lb:=#[pointer (some ⟨w1.heap.size+1,0,none⟩)]) rfl trivial (enters_of func286 (by kernel_rfl) rfl)
  (Ad9 Fence.wide 2 trivial rfl (by decide) (w1.heap.size+1) n [w.heap.size,w1.heap.size] hn _ (hC.later s) (by simp;omega) T.cell) KeptC.trans XK (Ad _ _) (fun _=>rfl)
  (fun pre W=>Boxed W w1.heap.size 74 (slice (some ⟨w.heap.size,0,none⟩) pre.length n)/\OwnI W w.heap.size (slice (some ⟨w.heap.size,0,none⟩) pre.length n) pre/\Below w.heap.size w W)
  (fun _ _ _=>False)
  ?own
  (fun _ _ _ _ _ hs _ _=>hs)
  ⟨bO.alloc _,A6 (A6 d _) _,s⟩
  (fun x=>{tmps:=#[int i64 n,undef,slice none 0 0,pointer (some ⟨w1.heap.size,0,none⟩),int i64 x,int i64 n,slice (some ⟨w.heap.size,0,none⟩) 0 n,int i64 n,.func (.func 286) #[] #[pointer (some ⟨w1.heap.size+1,0,none⟩)],int i64 x,undef,undef,undef,undef,undef],defers:=[]}) ?assign ?body ?done ?stop
 case own=>
  rintro pre X Y row ⟨m,hr,U⟩ hg b;refine⟨m.kept hg (fun I=>?_),ED hr hg (.inr fun I=>?_),U.grown hg U.size (fun k e=>by have:=(b k e).1;simp at this;omega)⟩
  ·obtain⟨_,o,ho,M⟩:=b _ I.symm;rw[show X.heap[w1.heap.size]?=_ from m]at ho;cases ho;cases M
  ·have:=(b _ (show row=some w.heap.size from I.symm)).1;simp at this;omega
 case assign=>
  intro l x W K u
  gi_wp2
  exact u
 case body=>
  rintro l pre x W ⟨m,b,H⟩ ad;have M:=m.cell;have E:=H.size
  gi_wp2_with (gi_at_builtin;refine wpListIn_append_fits _ rfl _ _ 74 rfl w.heap.size 3 i0 1 underlying74 hi G w.heap.size pre.length n _ rfl (A6 b _) ⟨W.heap.size,0,none⟩ 1 1 [int i64 x] rfl rfl (DK _ _ _) (by simp[Value.oneCell']) (by omega) ?_;intro w2 f c;have r:=(m.alloc (.cells #[int i64 x] 3)).kept c (by simp;omega);have ab:=r.cell;have ac:=r.frozen)
  have L:Below w.heap.size W (w2.setCell ⟨w1.heap.size,0,none⟩ (slice (some ⟨w.heap.size,0,none⟩) (pre.length+1) n)):=(((Ad w.heap.size W).alloc E _).grown c (by simp;omega) (fun k e=>by cases e;exact Ac _)).setCell (p:=⟨w1.heap.size,0,none⟩) C _;refine⟨(((KeepsOthers.alloc W _).trans (KeepsOthers.of_grownBy c fun j o ej V=>?_)).trans (KeepsOthers.setCell _ _ _)).from _,((KeptC.alloc W _).trans (KeptC.Ud c (by simp))).trans (KeptC.setCell _ (by simp) _),?_,?_,H.trans L⟩
  ·cases ej
   rcases (A6 b (.cells #[int i64 x] 3)).2 with⟨e,_⟩ | ⟨g,aa,cur,e,_,N,_⟩
   ·cases e
   ·cases e;rw[N]at V
    cases V;rfl
  ·rw[Ai];exact r.set _
  ·rw[Ai];refine OwnI.Amk (ED f (grownBy_setCell' w2 w1.heap.size _) (.inr (by simp[Value.ownBlock];omega)))
 case done=>
  rintro D ys W hD rfl ⟨m,b,H⟩ u;have M:=m.cell
  gi_wp2
  refine⟨by simp,.inl ⟨_,_,rfl,run_takeDeferred u,?_⟩⟩;exact⟨_,D2 rfl _ _ _,slice (some ⟨w.heap.size,0,none⟩) (IF (Lx n)).length n,rfl,ownsRow_putObj b _ u rfl,H.trans (belowK_b (w:=w) (Ac _) W D _ _ (by simp at hD;omega) u rfl rfl)⟩
 grind
attribute [local go_sem] Da
def AiK (n v c:Nat)(x:Fin c):Array Value:=#[int i64 (x.val:Int),int i64 ((Gi n v x.val:Nat):Int)]
theorem Ahj(n v c:Nat)(h1:1<=n)(hn:n<=4096)(hv:v<=3)(hc:c<=4096)(l O B2 B3:Nat)(S:List Nat)(J Jx:List (Fin c)->World->Prop)(W:World)(hC:Col W)(hJ:AbidesFrom W.heap.size J)
 (hY:∀pre x D,J pre D->pre.length<c->YieldAt Fence.wide 1 prog l (AiK n v c x) D fun e W'=>
  (e=.returned (.bool true)/\J (pre++[x]) W'/\KeptC S D W')\/(e=.returned (.bool false)/\Jx (pre++[x]) W'))
 (c1:W.cell? ⟨O,0,none⟩=some (int i64 n)) (c2:W.cell? ⟨B2,0,none⟩=some (int i64 v)) (c3:W.cell? ⟨B3,0,none⟩=some (int i64 c)) (X:O∉S) (Y:∀x∈S,x<W.heap.size) (h0:J [] W):
 CallsIn Fence.wide 2 prog 256 #[.func (.yield l) #[] #[],pointer (some ⟨O,0,none⟩),pointer (some ⟨B2,0,none⟩),pointer (some ⟨B3,0,none⟩)] W fun e W'=>(∃u,e=.returned u)/\
  ((∃ys:List (Fin c),ys.map Fin.val=List.range c/\J ys W')\/(∃pre:List (Fin c),True/\Jx pre W')):=by
 have z:=hid ((QA (Lx n)).trans (Oq n));have Z:v*n / 4<n:=by
  have h3:v*n<=3*n:=BM n hv;omega
 have C:=hid (fun i:Nat=>show Gi n v i=(Lx n).getD ((v*n / 4+i) % n) 0 by unfold Gi;rw[Dp n v]);obtain⟨b,eb⟩:=E7 (v*n / 4);have E:=YV n v;rw[<-eb]at C Z E;clear eb;refine Dz func256 rfl trivial ?_ rfl;simp only[ntmps256,A8,AE,Bs,Nat.reduceAdd,Nat.reduceSub,Cz,CA,CB,CC,AK,AT]
 gi_wp2_with (first
  | (refine⟨trivial,?_⟩;gi_at_call 257;refine(Bw.2 (Aaq n W hC hn)).mono ?_;rintro e D ⟨u1,rfl,f,d⟩;obtain⟨g,cg,rfl, -, -⟩:=f.Ako z.out h1;have T:=(d.cell (Aj W _ c1)).trans c1;have d2:=(d.cell (Aj W _ c2)).trans c2;have d3:=(d.cell (Aj W _ c3)).trans c3)
  | (refine⟨trivial,?_⟩;gi_at_call 258;refine(Bw.2 (E D hn hv)).mono ?_;rintro e W2 ⟨rfl,rfl⟩))
 have k:J [] D:=hJ [] W D none h0 (Below.Aox d) (fun r e=>by cases e);have s:=f.rd;have aa:g∉S:=fun h=>absurd (Y g h) (by have:=f.block;omega)
 clear c1 c2 c3 d2 d3 f d E h0 hJ
 gi_loopw [14] (fun q wr=>∃(i:Nat) (pre:List (Fin c)),i<=c/\q=int i64 i/\Hid (pre.map Fin.val=List.range i)/\J pre wr/\Rd i64 wr (some ⟨g,0,none⟩) (IF (Lx n))/\wr.cell? ⟨O,0,none⟩=some (int i64 n)) (fun q _=>c-(intOf q).toNat)
 case atStart=>exact⟨0,[],Af _,rfl,by unfold Hid;rfl,k,s,T⟩
 case round=>
  clear k s T;obtain⟨i,pre,hi,rfl,V,k,s,T⟩:=hrel
  by_cases L:i<c
  ·have af:pre.length=i:=by have:=congrArg List.length V.out;simpa using this
   have m:(b+i) % n<n:=AZ _ (by omega);have M:((b:Int)+(i:Int)).tmod (n:Int)=(((b+i) % n:Nat):Int):=by
    grind
   have N:((b:Int)+(i:Int)) % (n:Int)=(((b+i) % n:Nat):Int):=by simp
   obtain⟨g',o',U,H⟩:=s.at (i:=(b+i) % n) (by rw[z.out];exact m);simp at U;obtain⟨rfl,rfl⟩:=U;have g1:=H ((b+i) % n) (by rw[z.out];exact m);rw[Ai8,<-C.out i,Ao]at g1;obtain⟨fn,tmps,R,ab,hy,hR⟩:=hY pre ⟨i,L⟩ wr k (by omega);unfold AiK at hy;dsimp only at hy;obtain⟨pk,G⟩:=E7 (Gi n v i);rw[<-G]at g1 hy;obtain⟨q,eq⟩:=E7 ((b+i) % n);rw[<-eq]at m M N g1;clear H G eq C
   gi_wp2
   refine hR.mono ?_;rintro e W3 (⟨rfl,ae,I⟩ | ⟨rfl,ac⟩)
   ·have d3:=I.cell T X;have r3:=I.rd s (fun g' o' U _=>by cases U;exact aa);have ad:Hid ((pre++[(⟨i,L⟩:Fin c)]).map Fin.val=List.range (i+1)):=by
     unfold Hid;rw[AR,V.out,Az];rfl
    gi_wp2
    go_roundw
    case rel=>grind
    case measure=>simp[intOf];omega
   ·gi_wp2
    refine Ah (Cd rfl _ _ _) rfl ?_
    grind
  ·obtain rfl:i=c:=by omega
   gi_wp2
   go_end0;exact⟨⟨_,rfl⟩,.inl ⟨pre,V.out,k⟩⟩
theorem AaZ(nf n v c:Nat)(w:World):
 CallsIn Fence.wide nf prog 228 #[int i64 n,int i64 v,int i64 c] w fun e w'=>e=.returned (.func (.func 256) #[] #[pointer (some ⟨w.heap.size,0,none⟩),pointer (some ⟨w.heap.size+1,0,none⟩),pointer (some ⟨w.heap.size+2,0,none⟩)])/\
  w'=((w.alloc (.cells #[int i64 n] 3)).alloc (.cells #[int i64 v] 3)).alloc (.cells #[int i64 c] 3):=by
 refine Dz func228 rfl trivial ?_ rfl;simp only[ntmps228,A8,AE,Bs,Nat.reduceAdd,Nat.reduceSub,Cz,CA,CB,CC,AK,AT]
 gi_wp2
 go_ret;exact⟨rfl,rfl⟩
theorem Sz(n v c:Nat)(u:1<=n)(G:n<=4096)(H:v<=3)(E:c<=4096)(d e f:Nat)(S:List Nat)(w:World)(z:Col w)
 (c1:w.cell? ⟨d,0,none⟩=some (int i64 n)) (c2:w.cell? ⟨e,0,none⟩=some (int i64 v)) (c3:w.cell? ⟨f,0,none⟩=some (int i64 c)) (k:d∉S) (m:∀x∈S,x<w.heap.size):
 SeqStopsK Fence.wide 2 prog 256 #[pointer (some ⟨d,0,none⟩),pointer (some ⟨e,0,none⟩),pointer (some ⟨f,0,none⟩)] (AiK n v c) (KeptC S) (fun L=>L.map Fin.val=List.range c) (fun _=>True) c w:=
 fun l J r W b C _ D s=>Ahj n v c u G H E l d e f S J r W (z.later b) C D ((b.cell (Aj w _ c1)).trans c1) ((b.cell (Aj w _ c2)).trans c2) ((b.cell (Aj w _ c3)).trans c3) k (fun x I=>AI (m x I) b.size) s
attribute [local go_sem] Da
theorem Zaa{X Y:World}{row:Option Nat}{k:Nat}{cs:Array Value}{fr:Nat×Nat}(h:X.heap[k]?=some (.cells cs t fr))(hg:X.grownBy Y row)(b:∀r,row=some r->B<=r/\∃o:Obj,X.heap[r]?=some o/\o.isCells=false):Y.heap[k]?=some (.cells cs t fr):=
 (hg.block k (Array.getElem?_eq_some_iff.1 h).1 (fun e=>by obtain⟨_,o,c,d⟩:=b k e.symm;rw[h]at c;cases c;cases d)).trans h
theorem TO(W:World):KeepsOthers W W.drew:=⟨Ac _,fun _ _ h _=>h⟩
theorem LW(h:Boxed W B t v){p:Addr}(b:B≠p.block)(u:Value):Boxed (W.setCell p u).drew B t v:=(BA W p u B b).trans h
theorem AgX(cs:List Int)(a:Option Addr)(n c v k:Nat)(w:World)(hC:Col w)(ha:Rd .u8 w a cs)(hl:cs.length=n)(h1:1<=n)(hn:n<=4096)(he:F6 cs=0)(hv:v<=3)(hk:k<=4096):
 Calls prog 190 #[slice a n c,int i64 v,int i64 k] w fun e w'=>∃a' c',e=.returned (.tuple #[slice a' k c',int i64 0])/\Below w.heap.size w w'/\Own w' w.heap.size (slice a' k c') (JZ cs v k):=by
 have Z:Below w.heap.size w (w.alloc (.cells #[slice a n c] 103)):=(Ad _ w).alloc (Ac _) _;have aa:=IP cs a c (w.alloc (.cells #[slice a n c] 103)) (ha.below Z) (by unfold maxLen;omega);rw[hl,he]at aa;have al:IJ (n:Int)=0:=by grind [IJ,RG]
 have aj:Ku (v:Int)=0:=by grind [Ku,LO]
 have ad:=Pg (n:Int) (w.alloc (.cells #[slice a n c] 103));have ae:=Kh (v:Int) (w.alloc (.cells #[slice a n c] 103));rw[al]at ad;rw[aj]at ae;have HL:=hid hl;have ar:decide ((k:Int)<0)=false:=Ae (by omega);have au:decide (4096<(k:Int))=false:=Ae (by omega);clear al aj he hl;refine(Bw (n:=3)).1 ?_;refine callsIn_of_wp_marks func190 rfl trivial ?_ rfl;simp only[ntmps190,A8,AE,Bs,Nat.reduceAdd,Nat.reduceSub,Cz,CA,CB,CC,AK,AT]
 gi_wp2_with (first
  | (refine⟨trivial,?_⟩;gi_at_call 225;refine(Bw.2 aa).mono ?_;rintro e w' ⟨rfl,rfl⟩)
  | (refine⟨trivial,?_⟩;gi_at_call 226;refine(Bw.2 ad).mono ?_;rintro e w' ⟨rfl,rfl⟩)
  | (refine⟨trivial,?_⟩;gi_at_call 227;refine(Bw.2 ae).mono ?_;rintro e w' ⟨rfl,rfl⟩)
  | (gi_at_make;refine Qb k rfl _ _ rfl _ _ rfl rfl rfl rfl (by omega) ?_;intro w2 m I am;have U:Boxed w2 w.heap.size 103 (slice a n c):=(I.block w.heap.size (by simp)).trans (Boxed.new w 103 (slice a n c));simp only[Ax]at m I am;have q2:=(U.alloc (.cells #[slice (some ⟨w.heap.size+1,0,none⟩) k k] 103)).cell)
  | (refine⟨trivial,?_⟩;gi_at_call 228;refine(AaZ 2 n v k _).mono ?_;rintro e w' ⟨rfl,rfl⟩))
 clear aa ad ae q2 ar au;obtain⟨M, -, -⟩:=m.arr;have L:=Boxed.new w2 103 (slice (some ⟨w.heap.size+1,0,none⟩) k k);obtain⟨b,f⟩:=E7 (w2.alloc (.cells #[slice (some ⟨w.heap.size+1,0,none⟩) k k] 103));have ao:b.heap.size=w2.heap.size+1:=by rw[f];simp
 have af:Boxed b w.heap.size 103 (slice a n c):=by rw[f];exact U.alloc _
 have N:ArrAt .u8 5 b (w.heap.size+1) (List.replicate k 0):=by rw[f];exact M.alloc _
 have G:Below w.heap.size w b:=by rw[f];exact(Z.trans (I.mono (by omega))).alloc (by omega) _
 rw[<-f]at L;rw[<-f,<-ao];obtain⟨H,d⟩:=E7 (((b.alloc (.cells #[int i64 n] 3)).alloc (.cells #[int i64 v] 3)).alloc (.cells #[int i64 k] 3));have b1:Boxed H b.heap.size 3 (int i64 n):=by rw[d];exact((Boxed.new b _ _).alloc _).alloc _
 have b2:Boxed H (b.heap.size+1) 3 (int i64 v):=by rw[d];have:=(Boxed.new (b.alloc (.cells #[int i64 n] 3)) 3 (int i64 v)).alloc (.cells #[int i64 k] 3);rwa [Ax]at this
 have b3:Boxed H (b.heap.size+2) 3 (int i64 k):=by rw[d];have:=Boxed.new ((b.alloc (.cells #[int i64 n] 3)).alloc (.cells #[int i64 v] 3)) 3 (int i64 k);rwa [Ax,Ax]at this
 have ap:Boxed H w.heap.size 103 (slice a n c):=by rw[d];exact((af.alloc _).alloc _).alloc _
 have aq:Boxed H w2.heap.size 103 (slice (some ⟨w.heap.size+1,0,none⟩) k k):=by rw[d];exact((L.alloc _).alloc _).alloc _
 have ag:ArrAt .u8 5 H (w.heap.size+1) (List.replicate k 0):=by rw[d];exact((N.alloc _).alloc _).alloc _
 have ai:Below w.heap.size w H:=by rw[d];exact((G.alloc G.size _).alloc (by simp;have:=G.size;omega) _).alloc (by simp;have:=G.size;omega) _
 have ay:H.heap.size=b.heap.size+3:=by rw[d];simp
 rw[<-d];clear f d U L M m I af N G Z;have a1:w2.heap.size<b.heap.size:=by omega
 have a2:b.heap.size<H.heap.size:=by omega
 clear ao ay;refine wpIn_rangeFunc_ownG rfl (by decide) (gf:=256) (lb:=#[pointer (some ⟨b.heap.size,0,none⟩),pointer (some ⟨b.heap.size+1,0,none⟩),pointer (some ⟨b.heap.size+2,0,none⟩)]) rfl trivial (enters_of func256 (by kernel_rfl) rfl)
  (Sz n v k h1 hn hv hk b.heap.size (b.heap.size+1) (b.heap.size+2) [w.heap.size+1] H (hC.later ai) b1.cell b2.cell b3.cell (by simp;omega) (by simp;omega)) KeptC.trans XK (Ad _ _) (fun _=>rfl)
  (fun pre W=>Boxed W w.heap.size 103 (slice a n c)/\Boxed W w2.heap.size 103 (slice (some ⟨w.heap.size+1,0,none⟩) k k)/\ArrAt .u8 5 W (w.heap.size+1) (Ps n v cs (List.replicate k 0) (pre.map Fin.val))/\Below w.heap.size w W)
  (fun _ _ _=>False)
  (fun pre X Y row E hg s=>⟨Zaa E.1 hg s,Zaa E.2.1 hg s,Zaa E.2.2.1 hg s,E.2.2.2.grown hg E.2.2.2.size (fun j e=>by have:=(s j e).1;omega)⟩)
  (fun _ _ _ _ _ E _ _=>E)
  ⟨ap,aq,ag,ai⟩
  (fun x=>{tmps:=#[slice a n c,int i64 v,int i64 k,pointer (some ⟨w.heap.size,0,none⟩),undef,undef,slice none 0 0,int i64 0,int i64 0,int i64 0,int i64 0,pointer (some ⟨w2.heap.size,0,none⟩),int i64 (x.val:Int),int i64 ((Gi n v x.val:Nat):Int),slice a n c,int i64 0,int i64 0,.bool false,undef,slice a n c,int i64 n,int i64 0,int i64 0,.bool false,undef,int i64 v,int i64 0,int i64 0,.bool false,undef,int i64 k,.bool false,.bool false,int i64 k,.bool false,.bool false,int i64 k,slice (some ⟨w.heap.size+1,0,none⟩) k k,slice a n c,int i64 n,int i64 v,int i64 k,.func (.func 256) #[] #[pointer (some ⟨b.heap.size,0,none⟩),pointer (some ⟨b.heap.size+1,0,none⟩),pointer (some ⟨b.heap.size+2,0,none⟩)],int i64 (x.val:Int),int i64 ((Gi n v x.val:Nat):Int),undef,undef,undef,undef,undef,undef,undef,undef],defers:=[]}) ?assign ?body ?done ?stop
 case assign=>
  intro l x W K u;unfold AiK
  gi_wp2
  exact u
 case body=>
  rintro l pre ⟨x,hx⟩ W ⟨U,L,C,hB⟩ a0;dsimp only;have J:=Aay (n:=n) (v:=v) (i:=x) h1;obtain⟨bx,ox,rfl,ak⟩:=(ha.below hB).at (i:=Gi n v x) (by rw[HL.out];exact J);have g1:=ak (Gi n v x) (by rw[HL.out];exact J);have cC:=U.cell;have cP:=L.cell;have HF:=hid ((Yb n v cs (pre.map Fin.val) (List.replicate k 0)).trans (A7 ..));have g2:=C.cell (j:=x) (by rw[HF.out];exact hx);have av:=C.free x;have HS:=hid (Um n v cs (List.replicate k 0) (pre.map Fin.val) x);obtain⟨pk,V⟩:=E7 (Gi n v x);rw[<-V]at J g1 HS;obtain⟨z,ez⟩:=E7 (cs.getD pk 0);rw[<-ez]at g1 HS;rw[<-V];have R:=C.set x z;rw[<-HS.out]at R;have ab:ArrAt .u8 5 (W.setCell ⟨w.heap.size+1,x,none⟩ (int .u8 z)).drew (w.heap.size+1) (Ps n v cs (List.replicate k 0) ((pre++[(⟨x,hx⟩:Fin k)]).map Fin.val)):=by rw[AR];exact R
  have O:KeepsFrom H.heap.size W (W.setCell ⟨w.heap.size+1,x,none⟩ (int .u8 z)).drew/\KeptC [w.heap.size+1] W (W.setCell ⟨w.heap.size+1,x,none⟩ (int .u8 z)).drew/\Boxed (W.setCell ⟨w.heap.size+1,x,none⟩ (int .u8 z)).drew w.heap.size 103 (slice (some ⟨bx,ox,none⟩) n c)/\Boxed (W.setCell ⟨w.heap.size+1,x,none⟩ (int .u8 z)).drew w2.heap.size 103 (slice (some ⟨w.heap.size+1,0,none⟩) k k)/\ArrAt .u8 5 (W.setCell ⟨w.heap.size+1,x,none⟩ (int .u8 z)).drew (w.heap.size+1) (Ps n v cs (List.replicate k 0) ((pre++[(⟨x,hx⟩:Fin k)]).map Fin.val))/\Below w.heap.size w (W.setCell ⟨w.heap.size+1,x,none⟩ (int .u8 z)).drew:=
   ⟨((KeepsOthers.setCell _ _ _).trans (TO _)).from _,(KeptC.setCell _ (by simp) _).drew,LW U (by simp) _,LW L (by simp;omega) _,ab,(hB.setCell (p:=⟨w.heap.size+1,x,none⟩) (by simp) _).drew⟩
  have an:prog.follows .mixedOrders=true:=by kernel_rfl
  clear ak V ez
  gi_wp2
  refine wpIn_mono (Q:=fun e _ w'=>e=.normal/\w'=(W.setCell ⟨w.heap.size+1,x,none⟩ (int .u8 z)).drew) ?_ ?_
  ·clear O;refine QT 7 45 [slice (some ⟨w.heap.size+1,0,none⟩) k k,int i64 (x:Int),slice (some ⟨bx,ox,none⟩) n c,int i64 (pk:Int),pointer (some ⟨bx,ox+pk,none⟩),int .u8 z,pointer (some ⟨w.heap.size+1,0+x,none⟩)]
    [[],[],[],[],[2,3],[4],[0,1]] _ W an rfl (by simp) (by kernel_rfl) (by kernel_rfl) (by kernel_rfl) ?_ ?_
   ·intro i hi ac T E K u;have aw:i=0\/i=1\/i=2\/i=3\/i=4\/i=5\/i=6:=by omega
    rcases aw with rfl | rfl | rfl | rfl | rfl | rfl | rfl
    ·exact FP rfl rfl (fun c h=>by cases h) rfl (UD _ rfl (E 11 (by omega)) cP) u
    ·exact FP rfl rfl (fun c h=>by cases h) rfl (Fd _ rfl (E 12 (by omega))) u
    ·exact FP rfl rfl (fun c h=>by cases h) rfl (UD _ rfl (E 3 (by omega)) cC) u
    ·exact FP rfl rfl (fun c h=>by cases h) rfl (Fd _ rfl (E 13 (by omega))) u
    ·exact FP rfl rfl (fun c h=>by cases h) rfl (Abe _ rfl (T 2 (by decide)) (T 3 (by decide)) J) u
    ·exact FP rfl rfl (fun c h=>by cases h) rfl (Ahq _ rfl (T 4 (by decide)) g1) u
    ·exact FP rfl rfl (fun c h=>by cases h) rfl (Abe _ rfl (T 0 (by decide)) (T 1 (by decide)) hx) u
   ·intro ac T E;exact Wj rfl rfl (fun c h=>by cases h) rfl (AdH _ rfl (T 6 (by decide)) (T 5 (by decide)) (by rw[Ao];exact g2) (by rw[Ao];exact av)) ⟨rfl,by rw[Ao];rfl⟩
  ·rintro e a' w' ⟨rfl,rfl⟩;exact O
 case done=>
  rintro D ys W hD az ⟨U,L,C,hB⟩ u;have cP:=L.cell;have ah:ArrAt .u8 5 (W.putObj D (.deferred none)) (w.heap.size+1) (JZ cs v k):=by
   rw[az,<-HL.out,AgV]at C;exact Zaa (B:=0) C (grownBy_putObj' W D (.deferred none)) (fun r e=>by cases e;exact⟨Af _,_,u,rfl⟩)
  have ax:=J0 cs v k
  gi_wp2
  refine⟨by simp,.inl ⟨_,_,rfl,run_takeDeferred u,?_⟩⟩;refine⟨_,results_tmp2 rfl _ _ _,some ⟨w.heap.size+1,0,none⟩,k,rfl,hB.trans (belowK_b (w:=w) (Ac _) W D _ _ (by omega) u rfl rfl),?_⟩;exact PX ah (by omega) ax (by unfold maxLen;omega)
 grind
theorem Nf(w:World):w.grownBy w none:=⟨rfl,rfl,rfl,Ac _,fun _ _ _=>rfl⟩
theorem Aal{w':World}(hi:ops[i]?=some o)(hg:o.guard=none)
 (b:(execOp a.eval o).run P w=.ok .skip w') (c:K (a.put o.dst undef) w'):wpOp P ops Q i K a w:=by
 unfold wpOp;rw[hi];have d:Region.wanted o (yielded ops a.tmps)=true:=by simp[Region.wanted,hg]
 simp only[d,AP,Oper.wp]
 left;rw[b];exact c
theorem Oo{f:Nat}{xs:Array Operand}{us:Array Value}{m:Array TypeId}{R:Ending->World->Prop}(hi:ops[i]?=some o)(hg:o.guard=none)(d:o.op=.call {callee:=.value (.func f),args:=xs,argTypes:=m})
 (he:Enters prog f) (hx:xs.map a.eval=us) (hc:Calls prog f us w R) (hR:∀e w',R e w'->∃r,e=.returned r/\K (a.put o.dst r) w'):wpOp prog ops Q i K a w:=by
 unfold wpOp;rw[hi];have l:Region.wanted o (yielded ops a.tmps)=true:=by simp[Region.wanted,hg]
 simp only[l,AP,Oper.wp]
 left;have b:(execOp a.eval o).run prog w=.ok (.enter f us) w:=by
  unfold execOp;simp only[d];have:=he us w;have c:a.eval (.func f)=.func (.func f) #[] #[]:=rfl;simp[resolve,invoke,hx,c,Deferred.ofValue,this]
 rw[b,DV];refine hc.mono fun e w' h=>?_
 obtain⟨r,rfl,k⟩:=hR e w' h;exact k
theorem Akd(w:World)(c:o.op=.binOp .sub 3 x y 3)(h:ρ x=int i64 p)(b:ρ y=int i64 q)(d:IntKind.i64.wrap (p-q)=p-q):(execOp ρ o).run prog w=.ok (.value (int i64 (p-q))) w:=by
 unfold execOp;simp only[c,h,b];simp[go_sem,d]
theorem Aa8(w:World)(b:o.op=.fieldAddr 335 x 0)(h:ρ x=pointer (some ⟨g,0,none⟩)):(execOp ρ o).run prog w=.ok (.value (pointer (some ⟨g,0,none⟩))) w:=by
 unfold execOp;simp only[b,h];simp[go_sem]
theorem Aa9(w:World)(b:o.op=.fieldAddr 335 x 1)(h:ρ x=pointer (some ⟨g,0,none⟩)):(execOp ρ o).run prog w=.ok (.value (pointer (some ⟨g,1,none⟩))) w:=by
 unfold execOp;simp only[b,h];simp[go_sem]
theorem Aa3(w:World)(b:o.op=.assign x)(h:ρ x=v):(execOp ρ o).run P w=.ok (.value v) w:=by
 unfold execOp;simp only[b,h];simp[go_sem]
theorem Abd(w:World)(c:o.op=.indexAddr 397 x y)(h:ρ x=pointer (some ⟨g,0,none⟩))(b:ρ y=int i64 j)(e:j<2):(execOp ρ o).run prog w=.ok (.value (pointer (some ⟨g,j,none⟩))) w:=by
 unfold execOp;simp only[c,h,b];simp[go_sem,underlying397];intro d;omega
theorem Aka(w:World)(b:o.op=.call {callee:=.builtin .min,args:=#[x,y],argTypes:=#[3,3]})(h:ρ x=int i64 p)(h':ρ y=int i64 q):(execOp ρ o).run prog w=.ok (.value (int i64 (min p q))) w:=by
 unfold execOp;simp only[b];simp[resolve,invoke,builtin,h,h',go_sem]
 all_goals (split<;>omega)
def TY (h n i:Nat):List Int:=(List.range i).map (fun m=>Gr m h)++List.replicate (n-i) 0
theorem Ajn(hi:i<n):(TY h n i).set i (Gr i h)=TY h n (i+1):=by
 unfold TY;rw[Cq _ _ (by simp),Bo,C1,Bm,Az,AR,Bg,show n-i=n-(i+1)+1 by omega,Dy];rfl
theorem Z4(hi:i<=n):(TY h n i).length=n:=by simp[TY];omega
theorem Ajm(h:Nat):TY h (2 ^ h) (2 ^ h)=Po h:=by simp[TY,Po]
theorem XQ(h:Nat):(Po h).length=2 ^ h:=by simp[Po]
theorem Aji(b:j<2 ^ h):(Po h).getD j 0=Gr j h:=by simp[Po,List.getD,b]
theorem TU(h n:Nat)(w:World)(M:1<=h)(H:h<=3)(D:n=2 ^ h):
 Calls prog 232 #[int i64 h] w fun e w'=>∃g,e=.returned (slice (some ⟨g,0,none⟩) n n)/\ArrAt i64 3 w' g (Po h)/\w.heap.size<=g/\Below w.heap.size w w':=by
 have k:=hid (show TY h n n=Po h by rw[D];exact Ajm h);have N:n<=8:=by
  rw[D];exact(show 2 ^ h<=2 ^ 3 from BC (by omega) H)
 have u:wrap64 (2 ^ h)=(n:Int):=by
  have J:h=1\/h=2\/h=3:=by omega
  rw[D]
  rcases J with rfl | rfl | rfl<;>simp[wrap64]
 clear D;go_enter func232,ntmps232
 go_wp2_with(first
  | (refine FZ w.heap.size w n rfl _ _ rfl _ _ rfl rfl u u (by omega) (Ad _ _) (Ac _) ?_;intro w1 d f I G;obtain⟨l, -, -⟩:=d.arr;clear d))
 go_loopw [10] (fun q wr=>∃i:Nat,i<=n/\q=int i64 i/\ArrAt i64 3 wr w.heap.size (TY h n i)/\Kept [w.heap.size] w1 wr) (fun q _=>n-(intOf q).toNat)
 case atStart=>exact⟨0,Af _,rfl,by simpa [TY]using l,Kept.refl _ _⟩
 case round=>
  obtain⟨i,hi,rfl,c,b⟩:=hrel
  by_cases r:i<n
  ·have s:=c.set i (Gr i h);rw[Ajn r]at s;have O:=c.free i;have L:=c.cell (j:=i) (by rw[Z4 hi];exact r);have C:=b.setCell (p:=⟨w.heap.size,i,none⟩) (by simp) (int i64 (Gr i h));have E:=Agr i h wr (by omega) H;generalize (TY h n i).getD i 0=z at*;generalize Gr i h=y at*;clear c b
   go_wp2_with(first | (go_at_call 262;refine E.mono ?_;rintro e w2 ⟨rfl,rfl⟩))
   go_roundw
   case rel=>grind
   case measure=>simp[intOf];omega
  ·obtain rfl:i=n:=by omega
   rw[k.out]at c;have m:=f.trans (b.below (B:=w.heap.size) (by omega) (by simp));clear b;go_wp2;go_ret;exact⟨w.heap.size,rfl,c,Ac _,m⟩
theorem Ac4(b:ArrAt i64 3 w g (Po h))(c:j<2 ^ h):w.cell? ⟨g,j,none⟩=some (int i64 (Gr j h)):=by
 have:=b.cell (j:=j) (by rw[XQ];exact c);rw[Aji c]at this;exact this
end Go.Proofs.YtbjgfoiikhbonahGreatDoor
