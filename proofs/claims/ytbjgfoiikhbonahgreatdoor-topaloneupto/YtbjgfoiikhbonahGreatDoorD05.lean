import Derived.Test.YtbjgfoiikhbonahGreatDoorD04
import Derived.Deep.RegionHeld3
set_option linter.unusedVariables false
set_option linter.unusedSimpArgs false
set_option maxRecDepth 100000
set_option maxHeartbeats 4000000
namespace Go.Proofs.YtbjgfoiikhbonahGreatDoor
open Go.ChangeShapes Go.WideShapes Go.ChangeAt Go.RowKit Go.Proofs.Tryz
open Value (int)
open IntKind (i64)
variable {L l:List Int}{T:TypeId}{g:Nat}{k:IntKind}{w:World}
def IS (hs:List Int)(v:Nat):Nat->Int
 | 0=>0
 | j+1=>IS hs v j+sgn ((v / 2 ^ (2-j) % 2:Nat):Int) (hs.getD j 0)
theorem O4(b:List Int)(v:Nat)(h:∀k, -100000<=b.getD k 0/\b.getD k 0<=100000):∀j:Nat, -(100000*(j:Int))<=IS b v j/\IS b v j<=100000*(j:Int):=by intro a;induction a<;>grind [IS,sgn]
def Gm (hs:List Int)(v j:Nat):List Int:=(List.range 8).map fun u=>if u<v then IS hs u 3 else if u=v then IS hs v j else 0
theorem JU(a:List Int)(v j:Nat):(Gm a v j).length=8:=by simp[Gm]
theorem PO(a:List Int)(v j:Nat)(h:v<8):(Gm a v j).getD v 0=IS a v j:=by simp[Gm,List.getD,h]
theorem Oc(a:List Int)(v j:Nat):(Gm a v j).set v (IS a v (j+1))=Gm a v (j+1):=by
 refine AW (by simp[Gm]) fun u b c=>?_
 grind [Gm]
theorem XA(a:List Int)(v:Nat):Gm a v 3=Gm a (v+1) 0:=by grind [Gm,IS]
theorem XB(a:List Int):Gm a 0 0=List.replicate 8 0:=by
 simp only[Gm,IS];rfl
theorem Sc(a:List Int)(v:Nat)(h:v<8):(Gm a 8 0).getD v 0=IS a v 3:=by simp[Gm,List.getD,h]
theorem AeW(soft:List Int)(i v:Nat)(a:List Int)(b:a.getD 0 0=soft.getD (3*i) 0)(c:a.getD 1 0=soft.getD (3*i+1) 0)(d:a.getD 2 0=soft.getD (3*i+2) 0):IS a v 3=gw soft i (v:Int):=by grind [IS,gw,sgn]
theorem S3:∀x:Fin 8,bits .and i64 (x.val:Int) 1=((x.val % 2:Nat):Int):=by decide+kernel
theorem Af5(b:List Int)(a:Option Addr)(c:Nat)(w:World)(W:Rd i64 w a b)(hl:b.length=3)(V:∀k, -100000<=b.getD k 0/\b.getD k 0<=100000):
 Calls prog 297 #[.slice a 3 c] w fun e w'=>e=.returned (.agg ((Gm b 8 0).map (Value.int i64)).toArray)/\Below w.heap.size w w':=by
 obtain⟨b1,S,rfl,F⟩:=W.at (i:=0) (by omega);have U:=F 0 (by omega);have X:=F 1 (by omega);have Y:=F 2 (by omega);rw[Bh]at U;have P:b1<w.heap.size:=Aj w _ U;have E:=hid V;clear F V;obtain⟨B,R⟩:=E7 w.heap.size;go_enter func297,ntmps297;go_wp2;rw[<-R];have t:=hid R;rw[<-R]at P;clear R
 go_loopw [7] (fun q wr=>∃v:Nat,v<=8/\q=int i64 v/\ArrAt i64 421 wr B (List.replicate 8 0)/\ArrAt i64 421 wr (B+1) (Gm b v 0)/\Below B w wr) (fun q _=>8-(intOf q).toNat)
 case atStart=>
  refine⟨0,by omega,rfl,?_,?_,?_⟩
  ·rw[t.out];exact(Bc _ _ w.heap.size (by simp)).trans (Am w _)
  ·have:=Am (w.alloc (.cells ((List.replicate 8 (0:Int)).map (Value.int i64)).toArray 421)) (.cells ((List.replicate 8 (0:Int)).map (Value.int i64)).toArray 421);have e:(w.alloc (.cells ((List.replicate 8 (0:Int)).map (Value.int i64)).toArray 421)).heap.size=B+1:=by simp[t.out]
   rw[e]at this;rw[XB];exact this
  ·exact(((Ad _ _).alloc (by rw[t.out];exact Ac _) _).alloc (by rw[t.out];simp) _)
 case round=>
  obtain⟨v,hv,rfl,D,r,f⟩:=hrel
  by_cases s:v<8
  ·go_wp2
   go_loopw [12] (fun q wr=>∃j:Nat,j<=3/\q=int i64 j/\ArrAt i64 421 wr B (List.replicate 8 0)/\ArrAt i64 421 wr (B+1) (Gm b v j)/\Below B w wr) (fun q _=>3-(intOf q).toNat)
   case atStart=>grind
   case round=>
    clear D r f;obtain⟨j,Z,rfl,D,r,f⟩:=hrel
    rcases (show j=0\/j=1\/j=2\/j=3 by omega)with rfl | rfl | rfl | rfl
    ·have g1:=(f.cell (p:=⟨b1,S,none⟩) (by show b1<B;omega)).trans U;have I:=r.cell (j:=v) (by rw[JU];exact s);rw[PO b v 0 s]at I;have O:=r.free v;have Q:=E.out 0;have C:=O4 b v E.out 0;have o:=O4 b v E.out (0+1);have d:=hid (show IS b v (0+1)=IS b v 0+sgn ((v / 4 % 2:Nat):Int) (b.getD 0 0)from rfl);have h:=r.set v (IS b v (0+1));rw[Oc]at h;have z:=D.other ⟨B+1,v,none⟩ (int i64 (IS b v (0+1))) (by show B≠B+1;omega);have m:=f.setCell (p:=⟨B+1,v,none⟩) (by show B<=B+1;omega) (int i64 (IS b v (0+1)));have A:bits .and i64 ((v:Int) / 4) 1=((v / 4 % 2:Nat):Int):=by
      have:=S3 ⟨v / 4,by omega⟩;rw[<-this]
      congr 1
     clear D r f;obtain⟨J,G⟩:=E7 (IS b v 0);obtain⟨K,e1⟩:=E7 (IS b v (0+1));obtain⟨x,H⟩:=E7 (b.getD 0 0);obtain⟨y,u⟩:=E7 (v / 4 % 2);rw[<-G]at I C d;rw[<-e1]at h z m o d;rw[<-H]at g1 Q d;rw[<-u]at A d;have M:=hid u;clear G e1 H u
     by_cases N:y=1
     ·subst N;have n:=hid (show J+ -x=K by rw[d.out];unfold sgn;rw[Ab (by rfl)]);go_wp2
      go_roundw
      case rel=>rw[n.out];grind
      case measure=>simp[intOf]
     ·obtain rfl:y=0:=by have:=M.out;omega
      have n:=hid (show J+x=K by rw[d.out];unfold sgn;rw[Aa (by omega)]);go_wp2
      go_roundw
      case rel=>rw[n.out];grind
      case measure=>simp[intOf]
    ·have g1:=(f.cell (p:=⟨b1,S+1,none⟩) (by show b1<B;omega)).trans X;have I:=r.cell (j:=v) (by rw[JU];exact s);rw[PO b v 1 s]at I;have O:=r.free v;have Q:=E.out 1;have C:=O4 b v E.out 1;have o:=O4 b v E.out (1+1);have d:=hid (show IS b v (1+1)=IS b v 1+sgn ((v / 2 % 2:Nat):Int) (b.getD 1 0)from rfl);have h:=r.set v (IS b v (1+1));rw[Oc]at h;have z:=D.other ⟨B+1,v,none⟩ (int i64 (IS b v (1+1))) (by show B≠B+1;omega);have m:=f.setCell (p:=⟨B+1,v,none⟩) (by show B<=B+1;omega) (int i64 (IS b v (1+1)));have A:bits .and i64 ((v:Int) / 2) 1=((v / 2 % 2:Nat):Int):=by
      have:=S3 ⟨v / 2,by omega⟩;rw[<-this]
      congr 1
     clear D r f;obtain⟨J,G⟩:=E7 (IS b v 1);obtain⟨K,e1⟩:=E7 (IS b v (1+1));obtain⟨x,H⟩:=E7 (b.getD 1 0);obtain⟨y,u⟩:=E7 (v / 2 % 2);rw[<-G]at I C d;rw[<-e1]at h z m o d;rw[<-H]at g1 Q d;rw[<-u]at A d;have M:=hid u;clear G e1 H u
     by_cases N:y=1
     ·subst N;have n:=hid (show J+ -x=K by rw[d.out];unfold sgn;rw[Ab (by rfl)]);go_wp2
      go_roundw
      case rel=>rw[n.out];grind
      case measure=>simp[intOf]
     ·obtain rfl:y=0:=by have:=M.out;omega
      have n:=hid (show J+x=K by rw[d.out];unfold sgn;rw[Aa (by omega)]);go_wp2
      go_roundw
      case rel=>rw[n.out];grind
      case measure=>simp[intOf]
    ·have g1:=(f.cell (p:=⟨b1,S+2,none⟩) (by show b1<B;omega)).trans Y;have I:=r.cell (j:=v) (by rw[JU];exact s);rw[PO b v 2 s]at I;have O:=r.free v;have Q:=E.out 2;have C:=O4 b v E.out 2;have o:=O4 b v E.out (2+1);have d:=hid (show IS b v (2+1)=IS b v 2+sgn ((v / 1 % 2:Nat):Int) (b.getD 2 0)from rfl);have h:=r.set v (IS b v (2+1));rw[Oc]at h;have z:=D.other ⟨B+1,v,none⟩ (int i64 (IS b v (2+1))) (by show B≠B+1;omega);have m:=f.setCell (p:=⟨B+1,v,none⟩) (by show B<=B+1;omega) (int i64 (IS b v (2+1)));have A:bits .and i64 ((v:Int)) 1=((v / 1 % 2:Nat):Int):=by
      have:=S3 ⟨v / 1,by omega⟩
      grind
     clear D r f;obtain⟨J,G⟩:=E7 (IS b v 2);obtain⟨K,e1⟩:=E7 (IS b v (2+1));obtain⟨x,H⟩:=E7 (b.getD 2 0);obtain⟨y,u⟩:=E7 (v / 1 % 2);rw[<-G]at I C d;rw[<-e1]at h z m o d;rw[<-H]at g1 Q d;rw[<-u]at A d;have M:=hid u;clear G e1 H u
     by_cases N:y=1
     ·subst N;have n:=hid (show J+ -x=K by rw[d.out];unfold sgn;rw[Ab (by rfl)]);go_wp2
      go_roundw
      case rel=>rw[n.out];grind
      case measure=>simp[intOf]
     ·obtain rfl:y=0:=by have:=M.out;omega
      have n:=hid (show J+x=K by rw[d.out];unfold sgn;rw[Aa (by omega)]);go_wp2
      go_roundw
      case rel=>rw[n.out];grind
      case measure=>simp[intOf]
    ·rw[XA]at r;go_wp2
     go_roundw
     case rel=>grind
     case measure=>simp[intOf];omega
  ·obtain rfl:v=8:=by omega
   go_wp2_with(first | (refine CP rfl 421 (.tmp 3) rfl (B+1) rfl 421 _ (0,0) _ r underlying421 rfl (by kernel_rfl) ?_) | (refine Hm rfl 421 (.tmp 2) (.tmp 33) rfl B 421 _ _ rfl rfl D (by kernel_rfl) (by simp[Gm]) (by simp[Gm,List.range,List.range.loop,Value.oneCell']) ?_));refine Ah (BO (p:=2) (ty:=421) (by kernel_rfl) _ _ B 421 _ (0,0) _ rfl (Cn _ _ _ _ _ _ D) underlying421 rfl (by kernel_rfl)) rfl ?_;exact⟨rfl,by rw[<-t.out];exact M5 f (Ac _) _⟩
theorem T0{β:Type}(f g:Nat->β)(N S:Nat)(h:∀u,u≠S->f u=g u)(x:β)(c:x=g S):((List.range N).map f).set S x=(List.range N).map g:=by
 refine AW (by simp) fun j a b=>?_
 grind
def JB (l:List Int)(n k:Nat):List Int:=(List.range 64).map (val l n k)
theorem Hs(l:List Int)(n k:Nat):(JB l n k).length=64:=by simp[JB]
theorem S6(l:List Int)(n k S:Nat)(h:S<64):(JB l n k).getD S 0=val l n k S:=by simp[JB,List.getD,h]
theorem S7(l:List Int)(n:Nat):JB l n 0=List.replicate 64 0:=by rfl
def NG (l:List Int)(n k S:Nat):List Int:=(List.range 64).map fun u=>if u<S then val l n (k+1) u else 0
theorem Ng(l:List Int)(n k S:Nat):(NG l n k S).length=64:=by simp[NG]
theorem TM(l:List Int)(n k:Nat):NG l n k 0=List.replicate 64 0:=by rfl
theorem Agg(l:List Int)(n k:Nat):NG l n k 64=JB l n (k+1):=by rfl
theorem Rq(l:List Int)(n k S:Nat)(x:Int)(a:x=val l n (k+1) S):(NG l n k S).set S x=NG l n k (S+1):=by grind [val,NG,T0]
def K0 (l:List Int)(n m:Nat):List Int:=(List.range n).map fun j=>if m<=j then (GP l n (n+5-j) 64:Int) else 0
theorem JX(l:List Int)(n m:Nat):(K0 l n m).length=n:=by simp[K0]
theorem Aai(l:List Int)(n m:Nat)(h:n<=m):K0 l n m=List.replicate n 0:=by
 refine AW (by simp[K0]) fun j a b=>?_
 grind [K0]
theorem Ajy(l:List Int)(n j:Nat)(h:j<n):(K0 l n 0).getD j 0=(GP l n (n+5-j) 64:Int):=by simp[K0,List.getD,h]
def I4 (l:List Int)(n i S:Nat):List Int:=(K0 l n (i+1)).set i (GP l n (n+5-i) S:Int)
theorem X4(l:List Int)(n i S:Nat):(I4 l n i S).length=n:=by simp[I4,JX]
theorem Ade(l:List Int)(n i:Nat):I4 l n i 0=K0 l n (i+1):=by
 refine AW (by simp[I4]) fun j a b=>?_
 simp only[I4,B4,K0,BR,B6]
 split
 ·rename_i e;subst e;rw[Aa (by omega)];rfl
 ·rfl
theorem AgM(l:List Int)(n i:Nat):I4 l n i 64=K0 l n i:=by grind [I4,K0,T0]
theorem Adc(l:List Int)(n i S a:Nat)(h:n<=i):I4 l n i S=I4 l n i a:=by
 unfold I4;rw[Ey (by rw[JX];exact h),Ey (by rw[JX];exact h)]
theorem Ajz(l:List Int)(n i S:Nat)(h:i<n):(I4 l n i S).getD i 0=(GP l n (n+5-i) S:Int):=by
 simp[I4,List.getD,JX,h]
theorem AgN(l:List Int)(n i S:Nat)(x:Int)(a:x=(GP l n (n+5-i) (S+1):Int)):(I4 l n i S).set i x=I4 l n i (S+1):=by
 unfold I4;rw[B9,a]
theorem Add(l:List Int)(n i S:Nat)(h:one l n (n+5-i) S=false):I4 l n i (S+1)=I4 l n i S:=by
 unfold I4;rw[GP,h];simp
theorem AeJ(l:List Int)(h:∀k, -100000<=l.getD k 0/\l.getD k 0<=100000)(i:Nat)(w:Int): -300000<=gw l i w/\gw l i w<=300000:=by grind [gw,sgn]
theorem Yz(l:List Int)(n:Nat)(h:∀k, -100000<=l.getD k 0/\l.getD k 0<=100000):∀(k S:Nat), -(300000*(k:Int))<=val l n k S/\val l n k S<=300000*(k:Int)
 | 0,S=>by simp[val]
 | k+1,S=>by
  have a:=Yz l n h k (2*S % 64);have b:=Yz l n h k (2*S % 64+1);have c:=AeJ l h (n+6-(k+1)) (Fz (2*(S:Int)));have d:=AeJ l h (n+6-(k+1)) (7-Fz (2*(S:Int)));rw[val]
  split
  ·omega
  ·split<;>omega
theorem AkM(l:List Int)(n i k S:Nat)(hi:i+(k+1)=n+6):
 val l n (k+1) S=if k<6 then gw l i (Fz (2*(S:Int)))+val l n k (2*S % 64) else
  if gw l i (Fz (2*(S:Int)))+val l n k (2*S % 64)<gw l i (7-Fz (2*(S:Int)))+val l n k (2*S % 64+1) then gw l i (7-Fz (2*(S:Int)))+val l n k (2*S % 64+1) else gw l i (Fz (2*(S:Int)))+val l n k (2*S % 64):=by
 rw[val,show n+6-(k+1)=i by omega]
theorem Ajx(l:List Int)(n i k S:Nat)(hi:i+(k+1)=n+6):one l n k S=decide (gw l i (Fz (2*(S:Int)))+val l n k (2*S % 64)<gw l i (7-Fz (2*(S:Int)))+val l n k (2*S % 64+1)):=by
 unfold one;rw[show n+6-(k+1)=i by omega]
theorem Tryz.Alx:(prog.info? 195).map (fun i=>(i.zero,i.size,i.bytes))=some (some (int .u64 0),1,8):=by kernel_rfl
theorem U5{ops:Array Oper}{b:List Oper}{o:Oper}{a:Act}{Q:Exit->Act->World->Prop}(B:Nat)(f:World)(N:Nat)(j:o.guard=none)(l c:Operand)
 (D:o.op=Op.makeSlice 416 l c) (x y:Int) (C:a.eval l=int i64 x) (z:a.eval c=int i64 y) (E:x=(N:Int)) (F:y=(N:Int)) (I:N<=70368744177) (d:Below B f w) (u:B<=w.heap.size)
 (h:∀w',ArrAt .u64 195 w' w.heap.size (List.replicate N 0)->Below B f w'->Below w.heap.size w w'->wpList prog ops Q b (a.put o.dst (.slice (some ⟨w.heap.size,0,none⟩) N N)) w'):
 wpList prog ops Q (o::b) a w:=by
 obtain⟨G,hi,n,p,q⟩:=As Tryz.Alx;refine CK w j l c 416 D w.heap.size 195 G (int .u64 0) 1 underlying416 hi n p i64 i64 x y N C z E F (by rw[q];omega) (by unfold maxLen;omega) (Ac _) fun w' r s=>?_
 have e:(madeCells (Value.cells (int .u64 0)) (N*1)).toList=List.replicate N (int .u64 0):=by
  rw[By];exact CL _ _
 rw[e]at r;refine h w' ?_ (d.grown s u (by intro k m;cases m)) ((Ad _ _).grown s (Ac _) (by intro k m;cases m))
 rcases r.2 with⟨i,_⟩ | ⟨H,t,cur,i,v,hg,_,J,A,ht⟩
 ·simp at i
 ·simp only[Aq,Bl,BI,BJ]at i;obtain⟨rfl,_,rfl⟩:=i;unfold ArrAt;rw[hg,Dh,<-ht,Aw (by simp;omega)]
theorem AnX{b o:Nat}(h:∀j,j<l.length->w.cell? ⟨b,o+j,none⟩=some (int i64 (l.getD j 0)))(i:Nat)(hi:3*i+2<l.length):
 Rd i64 w (some ⟨b,o+3*i,none⟩) [l.getD (3*i) 0,l.getD (3*i+1) 0,l.getD (3*i+2) 0]:=by grind [Rd]
theorem W0(k:IntKind)(L:List Int):((L.map (Value.int k)).toArray).all (·.oneCell')=true:=by
 rw[Array.all_eq_true_iff_forall_mem];intro v a;simp at a;obtain⟨x,_,rfl⟩:=a;rfl
theorem Le(k:IntKind)(L:List Int)(n:Nat)(h:L.length=n):((L.map (Value.int k)).toArray).size=n:=by simp[h]
theorem Tryz.Ae4:(prog.info? 428).map (·.size)=some 64:=by kernel_rfl
theorem Tryz.Ae5:(prog.info? 430).map (·.size)=some 64:=by kernel_rfl
theorem Tryz.Amh:(prog.info? 421).map (·.size)=some 8:=by kernel_rfl
theorem Aoz{X:Obj}(h:w.heap[g]?=some X)(a:g<w.heap.size)(b c:Obj):((w.alloc b).alloc c).heap[g]?=some X:=
 (Bc _ c g (by simp;omega)).trans ((Bc w b g a).trans h)
theorem ArrAt.drewN{k:IntKind}{T:TypeId}{w:World}{g:Nat}{L:List Int}(h:ArrAt k T w g L)(n:Nat):ArrAt k T (w.drewN n) g L:=by
 unfold ArrAt;rw[show(w.drewN n).heap=w.heap by simp];exact h
theorem ArrAt.Aa0(h:ArrAt k T w g L)(a:Nat)(cs:Array Value)(b:g≠a):ArrAt k T (w.setRow a cs) g L:=(Cl w a g cs b).trans h
theorem ArrAt.Amb(h:ArrAt k T w g L)(a:List Int):ArrAt k T (w.setRow g (a.map (Value.int k)).toArray) g a:=Cn w g _ _ T (0,0) h
theorem Apz:∀x:Fin 8,bits .xor .u64 (x.val:Int) 7=((7-x.val:Nat):Int):=by decide+kernel
theorem Ah5(l:List Int)(n:Nat)(a:Option Addr)(c:Nat)(w:World)(ha:Rd i64 w a l)(hl:l.length=3*(n+6))(hn:n<=400)(ad:∀k, -100000<=l.getD k 0/\l.getD k 0<=100000)(bu:l.length<=c)(hT:Taps w):
 Calls prog 282 #[.slice a l.length c,int i64 n] w fun e w'=>∃g,e=.returned (.tuple #[.slice (some ⟨g,0,none⟩) n n,int i64 (val l n (n+6) 0)])/\ArrAt .u64 195 w' g (K0 l n 0)/\w.heap.size<=g/\Below w.heap.size w w':=by
 obtain⟨b1,o1,rfl,ba⟩:=ha.at (i:=0) (by omega);have cj:b1<w.heap.size:=Aj w _ (ba 0 (by omega));have HC:=hid ba;have HS:=hid ad;clear ba ad;obtain⟨L3,a2⟩:=E7 l.length;rw[<-a2]at hl bu |-;have cc:=hid a2;clear a2;obtain⟨U,a8⟩:=E7 (Jl 64);have bf:=hid a8;have ao:U.length=64:=by rw[a8,OH]
 have G:=hid ao;clear a8 ao;go_enter func282,ntmps282
 go_wp2_with(first
  | (go_at_call 296;refine(Ah7 _ hT).mono ?_;rintro e w1 ⟨rfl,s⟩;rw[<-bf.out])
  | (refine Hm rfl 428 (.tmp 6) (.tmp 15) rfl w1.heap.size 428 _ _ rfl rfl (Am w1 _) (by rw[Le _ _ _ G.out];exact Tryz.Ae4) (by rw[Le _ _ _ G.out];rfl) (W0 _ _) ?_;rw[World.setRow_alloc_new])
  | (at_make;refine U5 w.heap.size w n rfl _ _ rfl _ _ rfl rfl rfl rfl (by omega) (s.alloc s.size _) (by have:=s.size;simp;omega) ?_))
 intro w2 B C ac;have Y:=(Ql .u64 428 w1 U).below ac (by simp);obtain⟨V,bb⟩:=E7 w1.heap.size;obtain⟨t,bx⟩:=E7 (w1.heap.size+1);have cw:V<t:=by omega
 have cv:w.heap.size<=V:=by rw[bb];exact s.size
 rw[<-bx]at B |-;rw[<-bb]at Y |-;have ch:=B.lt;rw[<-Aai l n (n+6) (by omega)]at B;clear bx bb ac s;go_wp2;obtain⟨J,bv⟩:=E7 w2.heap.size;have v:=Ql i64 430 w2 (List.replicate 64 0);rw[<-S7 l n]at v;rw[<-bv]at ch v |-;have D:=C.alloc C.size (.cells ((JB l n 0).map (Value.int i64)).toArray 430);have a7:=Y.alloc (.cells ((JB l n 0).map (Value.int i64)).toArray 430);have a3:=B.alloc (.cells ((JB l n 0).map (Value.int i64)).toArray 430);have HZ:=hid (S7 l n);clear Y B C bv
 go_loopw [8] (fun q wr=>∃m:Nat,m<=n+6/\q=int i64 ((m:Int)-1)/\ArrAt .u64 428 wr V U/\ArrAt .u64 195 wr t (K0 l n m)/\ArrAt i64 430 wr J (JB l n (n+6-m))/\Below w.heap.size w wr) (fun q _=>(intOf q+1).toNat)
 case atStart=>
  refine⟨n+6,Ac _,?_,?_⟩
  ·go_num
  ·rw[Bm];rw[HZ.out]at v a7 a3 D |-;exact⟨a7,a3,v,D⟩
 case round=>
  clear v a7 a3 D HZ;obtain⟨m,hm,rfl,Y,B,v,h⟩:=hrel
  by_cases b2:m=0
  ·subst b2;have c0:=v.cell (j:=0) (by rw[Hs];omega);rw[S6 _ _ _ _ (by omega),Dn]at c0
   go_wp2_with fail
   go_quiet (fail);go_wp2
   go_ret2;exact⟨t,rfl,B,by omega,below_drewN h _⟩
  ·obtain⟨i,rfl⟩:∃i,m=i+1:=⟨m-1,by omega⟩;obtain⟨k,hk⟩:∃k,i+(k+1)=n+6:=⟨n+5-i,by omega⟩;rw[show n+6-(i+1)=k by omega]at v;rw[show(((i+1:Nat):Int)-1)=(i:Int)by omega];have aq:=AnX (w:=wr) (b:=b1) (o:=o1) (l:=l) (fun j hj=>(h.cell (p:=⟨b1,o1+j,none⟩) cj).trans (HC.out j hj)) i (by rw[<-cc.out];omega);have bs:=Y.lt;have bo:=B.lt;have aw:=v.lt;clear b2;obtain⟨O,a0⟩:=E7 (Gm [l.getD (3*i) 0,l.getD (3*i+1) 0,l.getD (3*i+2) 0] 8 0);have ar:=hid a0;have an:O.length=8:=by rw[a0,JU]
   have F:=hid an;clear a0 an;have cb:=hid (show 3*(i+1)-3*i=3 by omega)
   go_wp2_with(first
    | (go_at_call 297;rw[cb.out];refine(Af5 [l.getD (3*i) 0,l.getD (3*i+1) 0,l.getD (3*i+2) 0] _ _ _ aq rfl (fun j=>by
     rcases j with _ | _ | _ | j
     ·exact HS.out (3*i)
     ·exact HS.out (3*i+1)
     ·exact HS.out (3*i+2)
     ·simp)).mono ?_;rintro e w4 ⟨rfl,f⟩;rw[<-ar.out];have ah:=Y.below f bs;have ap:=ah.lt)
    | (refine Hm rfl 421 (.tmp 9) (.tmp 32) rfl w4.heap.size 421 _ _ rfl rfl (Am w4 _) (by rw[Le _ _ _ F.out];exact Tryz.Amh) (by rw[Le _ _ _ F.out];rfl) (W0 _ _) ?_;rw[World.setRow_alloc_new])
    | (refine CP rfl 428 (.tmp 6) rfl V rfl 428 ((U.map (Value.int .u64)).toArray) (0,0) _ (Aoz ah ap _ _) underlying428 rfl (by rw[Le _ _ _ G.out];exact Tryz.Ae4) ?_))
   have bp:=(ah.alloc (.cells ((O.map (Value.int i64)).toArray) 421)).alloc (.cells (((List.replicate 64 (0:Int)).map (Value.int i64)).toArray) 430);have a4:=((B.below f bo).alloc (.cells ((O.map (Value.int i64)).toArray) 421)).alloc (.cells (((List.replicate 64 (0:Int)).map (Value.int i64)).toArray) 430);have bi:=((v.below f aw).alloc (.cells ((O.map (Value.int i64)).toArray) 421)).alloc (.cells (((List.replicate 64 (0:Int)).map (Value.int i64)).toArray) 430);have az:=(Ql i64 421 w4 O).alloc (.cells (((List.replicate 64 (0:Int)).map (Value.int i64)).toArray) 430);have K:=Ql i64 430 (w4.alloc (.cells ((O.map (Value.int i64)).toArray) 421)) (List.replicate 64 0);have aj:=Fr h f;have Z:=(aj.alloc aj.size (.cells ((O.map (Value.int i64)).toArray) 421)).alloc (by have:=aj.size;simp;omega) (.cells (((List.replicate 64 (0:Int)).map (Value.int i64)).toArray) 430);have bh:(w4.alloc (.cells ((O.map (Value.int i64)).toArray) 421)).heap.size=w4.heap.size+1:=by simp
   rw[bh]at K;obtain⟨d,bw⟩:=E7 w4.heap.size;have cu:J<d:=by have:=(v.below f aw).lt;omega
   rw[<-bw]at az K |-;rw[<-Ade]at a4;rw[<-TM l n k]at K;have HZ:=hid (TM l n k);clear bw bh aj f ah ap Y B v h aq bs bo aw
   go_loopw [34] (fun q wr=>∃S:Nat,S<=64/\q=int i64 S/\ArrAt .u64 428 wr V U/\ArrAt .u64 195 wr t (I4 l n i S)/\ArrAt i64 430 wr J (JB l n k)/\ArrAt i64 421 wr d O/\ArrAt i64 430 wr (d+1) (NG l n k S)/\Below w.heap.size w wr) (fun q _=>64-(intOf q).toNat)
   case atStart=>exact⟨0,by omega,rfl,bp,a4,bi,az,by rw[HZ.out]at K |-;exact K,Z⟩
   case round=>
    clear bp a4 bi az K Z;obtain⟨S,hS,rfl,Y,B,v,hG,hH,h⟩:=hrel
    by_cases E:S<64
    ·obtain⟨H,am⟩:∃H:Nat,Fz (2*(S:Int))=(H:Int):=Cw (M3 _).1;have cq:=(M3 (2*(S:Int))).2;rw[am]at cq;have cm:((U.map (Value.int .u64)).toArray)[S]?=some (int .u64 (H:Int)):=by
      have h1:U.getD S 0=(H:Int):=by rw[bf.out,Aek S E,am]
      have h2:S<U.length:=by rw[G.out];exact E
      simp[List.getD,h2]at h1;simp[h2,h1]
     have bg:=hid am;clear am;have gc:=hG.cell (j:=H) (by rw[F.out];omega);rw[ar.out,Sc _ _ (by omega),AeW l i H _ rfl rfl rfl,<-bg.out]at gc;have bc:=v.cell (j:=2*S % 64) (by rw[Hs];omega);rw[S6 _ _ _ _ (by omega)]at bc;have hc:=hH.cell (j:=S) (by rw[Ng];exact E);have hf:=hH.free S;obtain⟨nx,al⟩:=E7 (2*S % 64);rw[<-al]at bc;have cp:nx<64:=by omega
     have cr:nx+1<64:=by omega
     have cs:((S:Int)*2).tmod 64=(nx:Int):=by rw[C8 (by omega)];omega
     have cl:=AeJ l HS.out i (Fz (2*(S:Int)));have b7:=Yz l n HS.out k (2*S % 64);rw[<-al]at b7;have I:=hid al;obtain⟨z,ax⟩:=E7 (gw l i (Fz (2*(S:Int))));obtain⟨A,a5⟩:=E7 (val l n k nx);rw[<-ax]at gc cl;rw[<-a5]at bc b7;have cn:k<=406:=by omega
     have Q:=hid ax;have R:=hid a5;clear al ax a5
     go_wp2_with(first | (refine I2 rfl 428 (.tmp 33) (.tmp 34) rfl 194 _ 64 S (int .u64 (H:Int)) _ i64 rfl rfl underlying428 underlying194 rfl (by kernel_rfl) E cm ?_))
     go_region;have ai:ArrAt .u64 428 (wr.setCell ⟨d+1,S,none⟩ (int i64 (z+A))).drew V U:=Y.other _ _ (by show V≠d+1;omega);have M:ArrAt .u64 195 (wr.setCell ⟨d+1,S,none⟩ (int i64 (z+A))).drew t (I4 l n i S):=B.other _ _ (by show t≠d+1;omega);have W:ArrAt i64 430 (wr.setCell ⟨d+1,S,none⟩ (int i64 (z+A))).drew J (JB l n k):=v.other _ _ (by show J≠d+1;omega);have X:ArrAt i64 421 (wr.setCell ⟨d+1,S,none⟩ (int i64 (z+A))).drew d O:=hG.other _ _ (by show d≠d+1;omega);have x:ArrAt i64 430 (wr.setCell ⟨d+1,S,none⟩ (int i64 (z+A))).drew (d+1) ((NG l n k S).set S (z+A)):=hH.set S _;have u:=(h.setCell (p:=⟨d+1,S,none⟩) (by show w.heap.size<=d+1;omega) (int i64 (z+A))).drew;clear Y B v hG hH h gc bc hc hf;generalize (wr.setCell ⟨d+1,S,none⟩ (int i64 (z+A))).drew=w6 at*;have au:=hid (AkM l n i k S hk);have be:=hid (Ajx l n i k S hk);have bd:=hid (show n+5-i=k by omega)
     by_cases b0:i<n
     ·have gc:=X.cell (j:=7-H) (by rw[F.out];omega);rw[ar.out,Sc _ _ (by omega),AeW l i (7-H) _ rfl rfl rfl,show((7-H:Nat):Int)=7-Fz (2*(S:Int))by rw[bg.out];omega]at gc;have bc:=W.cell (j:=2*S % 64+1) (by rw[Hs];omega);rw[S6 _ _ _ _ (by omega),<-I.out]at bc;have bz:=AeJ l HS.out i (7-Fz (2*(S:Int)));have b8:=Yz l n HS.out k (nx+1);have ca:bits .xor .u64 (H:Int) 7=((7-H:Nat):Int):=Apz ⟨H,by omega⟩;have bt:=x.cell (j:=S) (by rw[An,Ng];exact E);rw[show((NG l n k S).set S (z+A)).getD S 0=z+A by simp[List.getD,Ng,E]]at bt;obtain⟨x7,b9⟩:=E7 (7-H);have ct:x7<8:=by omega
      rw[<-b9]at gc ca;obtain⟨N,ay⟩:=E7 (gw l i (7-Fz (2*(S:Int))));obtain⟨P,a6⟩:=E7 (val l n k (nx+1));rw[<-ay]at gc bz;rw[<-a6]at bc b8;have ae:=hid ay;have af:=hid a6;clear b9 ay a6
      by_cases ak:z+A<N+P
      ·have av:decide (z+A<N+P)=true:=Ag ak;have ck:=x.free S
       go_wp2_with fail
       go_quiet (fail)
       go_wp2_with fail;have bq:ArrAt .u64 428 ((w6.drewN nq).setCell ⟨d+1,S,none⟩ (int i64 (N+P))) V U:=(ai.drewN nq).other _ _ (by show V≠d+1;omega);have ag:ArrAt .u64 195 ((w6.drewN nq).setCell ⟨d+1,S,none⟩ (int i64 (N+P))) t (I4 l n i S):=(M.drewN nq).other _ _ (by show t≠d+1;omega);have bj:ArrAt i64 430 ((w6.drewN nq).setCell ⟨d+1,S,none⟩ (int i64 (N+P))) J (JB l n k):=(W.drewN nq).other _ _ (by show J≠d+1;omega);have bl:ArrAt i64 421 ((w6.drewN nq).setCell ⟨d+1,S,none⟩ (int i64 (N+P))) d O:=(X.drewN nq).other _ _ (by show d≠d+1;omega);have a1:ArrAt i64 430 ((w6.drewN nq).setCell ⟨d+1,S,none⟩ (int i64 (N+P))) (d+1) (((NG l n k S).set S (z+A)).set S (N+P)):=(x.drewN nq).set S _;have aa:=(below_drewN u nq).setCell (p:=⟨d+1,S,none⟩) (by show w.heap.size<=d+1;omega) (int i64 (N+P));have r:N+P=val l n (k+1) S:=by
        rw[au.out,<-Q.out,<-I.out,<-R.out,<-ae.out,<-af.out,Aa (show ¬k<6 by omega),Ab ak]
       rw[B9,Rq l n k S _ r]at a1;have y:one l n (n+5-i) S=true:=by
        rw[bd.out,be.out,<-Q.out,<-I.out,<-R.out,<-ae.out,<-af.out];exact av
       have b3:GP l n (n+5-i) (S+1)=GP l n (n+5-i) S+2 ^ S:=by rw[GP,y];rfl
       have b4:=Ajo l n (n+5-i) S;have co:=Ol l n (n+5-i) (S+1);clear r y ai M W X x u bt ck gc bc;generalize (w6.drewN nq).setCell ⟨d+1,S,none⟩ (int i64 (N+P))=w7 at*;have oc:=ag.cell (j:=i) (by rw[X4];exact b0);rw[Ajz l n i S b0]at oc;have of:=ag.free i;have hp:(2:Nat) ^ S<18446744073709551616:=AI (Ez (by omega) E) (by decide);have b6:GP l n (n+5-i) S<18446744073709551616:=Nat.lt_trans (Ol l n (n+5-i) S) hp;have b5:bits .or .u64 ((GP l n (n+5-i) S:Nat):Int) (IntKind.u64.wrap (2 ^ S))=((GP l n (n+5-i) (S+1):Nat):Int):=by
        have e2:(2:Int) ^ S=((2 ^ S:Nat):Int):=by simp
        rw[e2,IntKind.wrap_u64,Int.emod_eq_of_lt (by omega) (by omega),u64_or_nat _ _ b6 hp,b4,b3]
       have cd:=hid b5;clear hp b6 b5 b3 b4 co
       go_region;rw[cd.out];have ci:ArrAt .u64 428 (w7.setCell ⟨t,i,none⟩ (int .u64 ((GP l n (n+5-i) (S+1):Nat):Int))).drew V U:=bq.other _ _ (by show V≠t;omega);have bm:ArrAt .u64 195 (w7.setCell ⟨t,i,none⟩ (int .u64 ((GP l n (n+5-i) (S+1):Nat):Int))).drew t ((I4 l n i S).set i ((GP l n (n+5-i) (S+1):Nat):Int)):=ag.set i _;rw[AgN l n i S _ rfl]at bm;have ce:ArrAt i64 430 (w7.setCell ⟨t,i,none⟩ (int .u64 ((GP l n (n+5-i) (S+1):Nat):Int))).drew J (JB l n k):=bj.other _ _ (by show J≠t;omega);have cf:ArrAt i64 421 (w7.setCell ⟨t,i,none⟩ (int .u64 ((GP l n (n+5-i) (S+1):Nat):Int))).drew d O:=bl.other _ _ (by show d≠t;omega);have cg:ArrAt i64 430 (w7.setCell ⟨t,i,none⟩ (int .u64 ((GP l n (n+5-i) (S+1):Nat):Int))).drew (d+1) (NG l n k (S+1)):=a1.other _ _ (by show d+1≠t;omega);have a9:=(aa.setCell (p:=⟨t,i,none⟩) (by show w.heap.size<=t;omega) (int .u64 ((GP l n (n+5-i) (S+1):Nat):Int))).drew;clear bq ag bj bl a1 aa oc of;generalize (w7.setCell ⟨t,i,none⟩ (int .u64 ((GP l n (n+5-i) (S+1):Nat):Int))).drew=w8 at*;go_wp2
       go_roundw
       case rel=>exact⟨S+1,by omega,by go_num,ci,bm,ce,cf,cg,a9⟩
       case measure=>simp[intOf];omega
      ·have av:decide (z+A<N+P)=false:=Ae ak;have r:z+A=val l n (k+1) S:=by
        rw[au.out,<-Q.out,<-I.out,<-R.out,<-ae.out,<-af.out,Aa (show ¬k<6 by omega),Aa ak]
       rw[Rq l n k S _ r]at x;have y:one l n (n+5-i) S=false:=by
        rw[bd.out,be.out,<-Q.out,<-I.out,<-R.out,<-ae.out,<-af.out];exact av
       rw[<-Add l n i S y]at M;clear r y
       go_wp2_with fail
       go_quiet (fail);go_wp2
       go_roundw
       case rel=>exact⟨S+1,by omega,by go_num,ai,M,W,X,x,below_drewN u _⟩
       case measure=>simp[intOf];omega
     ·have r:z+A=val l n (k+1) S:=by
       rw[au.out,<-Q.out,<-I.out,<-R.out,Ab (show k<6 by omega)]
      rw[Rq l n k S _ r]at x;rw[Adc l n i S (S+1) (by omega)]at M;clear r;go_wp2
      go_roundw
      case rel=>exact⟨S+1,by omega,by go_num,ai,M,W,X,x,u⟩
      case measure=>simp[intOf];omega
    ·obtain rfl:S=64:=by omega
     rw[Agg]at hH;rw[AgM]at B;have br:=Y.Aa0 J ((JB l n (k+1)).map (Value.int i64)).toArray (by omega);have bn:=B.Aa0 J ((JB l n (k+1)).map (Value.int i64)).toArray (by omega);have bk:=v.Amb (JB l n (k+1));have ab:=M5 h (g:=J) (by omega) ((JB l n (k+1)).map (Value.int i64)).toArray
     go_wp2_with(first
      | (refine CP rfl 430 (.tmp 10) rfl (d+1) rfl 430 ((JB l n (k+1)).map (Value.int i64)).toArray (0,0) _ hH underlying430 rfl (by rw[Le _ _ _ (Hs l n (k+1))];exact Tryz.Ae5) ?_)
      | (refine Hm rfl 430 (.tmp 7) (.tmp 79) rfl J 430 _ ((JB l n (k+1)).map (Value.int i64)).toArray rfl rfl v (by rw[Le _ _ _ (Hs l n (k+1))];exact Tryz.Ae5) (by rw[Le _ _ _ (Hs l n (k+1)),Le _ _ _ (Hs l n k)]) (W0 _ _) ?_))
     rw[show k+1=n+6-i by omega]at bk br bn ab |-
     go_roundw
     case rel=>exact⟨i,by omega,by go_num,br,bn,bk,ab⟩
     case measure=>simp[intOf]
def Gv (l:List Int):Int:=if Fy l then 0 else 1
theorem MH(l:List Int)(a:Option Addr)(c:Nat)(w:World)(q:Rd i64 w a l)(s:l.length<=maxLen):
 Calls prog 236 #[.slice a l.length c] w fun e w'=>e=.returned (int i64 (Gv l))/\w=w':=by
 unfold maxLen at s;go_enter func236,ntmps236;go_wp2
 go_loop [7] (fun i=>∃k:Nat,k<=l.length/\i=int i64 k/\Hid (AbU l k)) (fun i=>l.length-(intOf i).toNat)
 case atStart=>exact⟨0,Af _,rfl,fun j r=>by omega⟩
 case round=>
  obtain⟨k,v,rfl,f⟩:=hrel
  by_cases d:k<l.length
  ·obtain⟨b1,y,rfl,b⟩:=q.at d;have g1:=b k d;clear b;obtain⟨x,n⟩:=E7 (l.getD k 0);rw[<-n]at g1;have h:=hid n;clear n
   by_cases o:x < -100000
   ·go_wp2;go_ret;exact⟨Fs (by unfold Gv;rw[Abt (l:=l) (k:=k) (by rw[<-h.out];omega)];rfl),rfl⟩
   ·have t:decide (x < -100000)=false:=Ae o
    by_cases p:100000<x
    ·go_wp2;go_ret;exact⟨Fs (by unfold Gv;rw[Abt (l:=l) (k:=k) (by rw[<-h.out];omega)];rfl),rfl⟩
    ·have u:decide (100000<x)=false:=Ae p;have m:Hid (AbU l (k+1)):=fun j r=>by
      by_cases e:j=k
      ·subst e;rw[<-h.out];omega
      ·exact f.out j (by omega)
     go_wp2
     go_round
     case rel=>grind
     case measure=>simp[intOf];omega
  ·obtain rfl:k=l.length:=by omega
   go_wp2;go_ret;exact⟨Fs (by unfold Gv;rw[Aku f.out];rfl),rfl⟩
theorem AjJ:∀S:Fin 64,∀y:Fin 2,bits .or i64 ((S.val:Int)*2) (y.val:Int)=((2*S.val+y.val:Nat):Int):=by decide+kernel
theorem Qa(l:List Int)(r i:Nat)(s:Int):(way l r i s).length=r:=(Rg l r i s).len
theorem AkS(l:List Int)(n i S:Nat)(hi:i<n)(c:S<64)(h:(way l n 0 0).drop i=way l (n-i) i (KG (S:Int))):
 (way l n 0 0).getD i 0=(if one l n (n+5-i) S then 1 else 0)/\(way l n 0 0).drop (i+1)=way l (n-(i+1)) (i+1) (KG ((2*S % 64+(if one l n (n+5-i) S then 1 else 0):Nat):Int)):=by
 have b:=AlT l n (n-(i+1)) S (by omega) c;rw[show n-(i+1)+1=n-i by omega,show n-(n-i)=i by omega,show n-(i+1)+6=n+5-i by omega,show n-(n-(i+1))=i+1 by omega]at b;rw[b]at h;have a:=Qa l n 0 0;rw[CY (by omega)]at h
 grind
theorem Aml(h:Gv l=0):Fy l=true:=by
 unfold Gv at h
 split at h
 ·assumption
 ·cases h
theorem Zv(l:List Int)(n:Nat)(a:Option Addr)(c:Nat)(w:World)(ha:Rd i64 w a l)(P:l.length=3*(n+6))(hn:n<=400)(hs:Gv l=0)(u:l.length<=c)(hT:Taps w):
 Calls prog 266 #[.slice a l.length c] w fun e w'=>∃v,e=.returned (.tuple #[v,int i64 (top l n 0 0),int i64 0])/\Own w' w.heap.size v (way l n 0 0)/\Below w.heap.size w w':=by
 have HV:=hid (show val l n (n+6) 0=top l n 0 0 by
  have:=Re l n n (Ac _) 0 (by omega);rw[Bm]at this
  exact this)
 have HS:=hid hs;have HL:=hid P;have G:=hid u;have f:=hid (Qa l n 0 0);have hq:(((3*(n+6):Nat):Int)).tdiv 3=(n:Int)+6:=by grind
 have hr:(((3*(n+6):Nat):Int)).tmod 3=0:=by grind
 obtain⟨L3,D⟩:=E7 l.length;rw[<-D]at P u |-;rw[<-P]at hq hr;have o:=hid D;have ac:L3<=1218:=by omega
 have af:=hid P;clear D hs P u;go_enter func266,ntmps266
 go_wp2_with(first
  | (go_at_call 236;rw[o.out];refine(MH l a c _ ha (by rw[<-o.out];unfold maxLen;omega)).mono ?_;rintro e w1 ⟨rfl,rfl⟩;rw[HS.out,<-o.out])
  | (go_at_call 282;rw[o.out];refine(Ah5 l n a c _ ha HL.out hn (O8 (Aml HS.out)) G.out hT).mono ?_;rintro e w1 ⟨W,rfl,A,ai,h⟩;rw[HV.out,<-o.out])
  | (at_make;refine FH w1.heap.size w1 n rfl _ _ rfl _ _ rfl rfl rfl rfl (by omega) (Ad _ _) (Ac _) ?_))
 intro w2 b m Q;have K:=A.below m A.lt;have N:=Fr h m;have d:=b.mono h.size;obtain⟨g,hg⟩:=E7 w1.heap.size;have ad:W<g:=by have:=A.lt;omega
 have X:w.heap.size<=g:=by have:=h.size;omega
 rw[<-hg]at d |-;rw[show List.replicate n (0:Int)=JT (way l n 0 0) 0 by rw[TC,f.out]]at d;clear hg b m Q A;go_wp2
 go_loopw [10,43] (fun s q wr=>∃i S:Nat,i<=n/\S<64/\q=int i64 i/\s=int i64 S/\ArrAt .u64 195 wr W (K0 l n 0)/\Own wr w.heap.size (.slice (some ⟨g,0,none⟩) n n) (JT (way l n 0 0) i)/\Hid ((way l n 0 0).drop i=way l (n-i) i (KG (S:Int)))/\Below w.heap.size w wr) (fun _ q _=>n-(intOf q).toNat)
 case atStart=>exact⟨0,0,by omega,by omega,rfl,rfl,K,d,rfl,N⟩
 case round=>
  clear K d N;obtain⟨i,S,hi,hS,rfl,rfl,A,b,HD,r⟩:=hrel
  by_cases x:i<n
  ·have oc:=A.cell (j:=i) (by rw[JX];exact x);rw[Ajy l n i x]at oc;obtain⟨O,H⟩:=AkS l n i S x hS HD.out;have t:=Agt l n (n+5-i) S hS;have Y:=Ol l n (n+5-i) 64;obtain⟨M,J⟩:=E7 (GP l n (n+5-i) 64);rw[<-J]at oc t Y;obtain⟨y,R⟩:=E7 (if one l n (n+5-i) S then 1 else 0:Nat);rw[<-R]at H t;have aj:y<=1:=by rw[R];split<;>omega
   have B:(y:Int)=(way l n 0 0).getD i 0:=by rw[O,R];split<;>rfl
   have z:M<18446744073709551616:=Y;have I:M / 2 ^ S<18446744073709551616:=B5 (C3 _ _) z;have hand:bits .and .u64 ((M:Int) / 2 ^ S) 1=(y:Int):=by
    have e2:(M:Int) / 2 ^ S=((M / 2 ^ S:Nat):Int):=by simp
    have:=C7 (M / 2 ^ S) 1 I (by omega)
    grind
   have ab:bits .or i64 ((S:Int)*2) (y:Int)=((2*S+y:Nat):Int):=AjJ ⟨S,hS⟩ ⟨y,by omega⟩;have ah:=b.free i;have aa:=b.cell (i:=i) (by rw[Ht _ _ (by rw[f.out];omega),f.out];exact x);have C:=b.set i (y:Int);rw[Kj _ i (by rw[f.out];exact x) _ B]at C;have Z:=A.other ⟨g,i,none⟩ (int .u8 (y:Int)) (by show W≠g;omega);have F:=r.setCell (p:=⟨g,i,none⟩) X (int .u8 (y:Int));have U:=hid H;obtain⟨T,E⟩:=E7 (2*S+y);rw[<-E]at ab;have ag:T<128:=by omega
   have V:=hid E;have ae:(T:Int).tmod 64=((T % 64:Nat):Int):=by grind
   clear O H t Y J R B z I A b r E;go_wp2
   go_roundw
   case rel=>exact⟨i+1,T % 64,by omega,AZ _ (by omega),by go_num,by go_num,Z,C,(by rw[show T % 64=2*S % 64+y by rw[V.out];omega];exact U.out),F⟩
   case measure=>simp[intOf];omega
  ·obtain rfl:i=n:=by omega
   go_wp2
   go_ret3;refine⟨_,rfl,?_,r⟩;rw[show JT (way l i 0 0) i=way l i 0 0 by rw[show i=(way l i 0 0).length from f.out.symm,f.out];exact(by have:=VX (way l i 0 0);rw[f.out]at this;exact this)]at b;exact b
end Go.Proofs.YtbjgfoiikhbonahGreatDoor
