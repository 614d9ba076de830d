import Derived.Test.YtbjgfoiikhbonahGreatDoorA05
import Derived.Deep.RegionHeld3
set_option linter.unusedVariables false
set_option linter.unusedSimpArgs false
set_option maxRecDepth 100000
set_option maxHeartbeats 4000000
namespace Go.Proofs.YtbjgfoiikhbonahGreatDoor
open Go.ChangeShapes Go.WideShapes Go.ChangeAt Go.RowKit Go.Proofs.Tryz
open Value renaming int->A
open Option renaming none->C
open Obj renaming cells->D
open IntKind renaming i64->E
variable {L l:List Int}{T:TypeId}{g:Nat}{k:IntKind}{w:World}
def IS (hs:List Int)(v:Nat):Nat->Int
 | 0=>0
 | j+1=>IS hs v j+sgn ((v / 2 ^ (2-j) % 2:Nat):Int) (hs.getD j 0)
theorem O4(b:List Int)(v:Nat)(h:∀k, -100000<=b.getD k 0/\b.getD k 0<=100000):∀j:Nat, -(100000*(j:Int))<=IS b v j/\IS b v j<=100000*(j:Int):=by intro a;induction a<;>grind [IS,sgn]
def Gm (hs:List Int)(v j:Nat):List Int:=(List.range 8).map fun u=>if u<v then IS hs u 3 else if u=v then IS hs v j else 0
theorem JU(a:List Int)(v j:Nat):(Gm a v j).length=8:=by simp[Gm]
theorem PO(a:List Int)(v j:Nat)(h:v<8):(Gm a v j).getD v 0=IS a v j:=by simp[Gm,List.getD,h]
theorem Oc(a:List Int)(v j:Nat):(Gm a v j).set v (IS a v (j+1))=Gm a v (j+1):=by
 refine AW (by simp[Gm]) fun u b c=>?_
 rw[B4];simp only[Gm,BR,B6]
 grind
theorem XA(a:List Int)(v:Nat):Gm a v 3=Gm a (v+1) 0:=by grind [Gm,IS]
theorem XB(a:List Int):Gm a 0 0=List.replicate 8 0:=by
 simp only[Gm,IS];rfl
theorem Sc(a:List Int)(v:Nat)(h:v<8):(Gm a 8 0).getD v 0=IS a v 3:=by simp[Gm,List.getD,h]
theorem AeW(soft:List Int)(i v:Nat)(a:List Int)(b:a.getD 0 0=soft.getD (3*i) 0)(c:a.getD 1 0=soft.getD (3*i+1) 0)(d:a.getD 2 0=soft.getD (3*i+2) 0):IS a v 3=gw soft i (v:Int):=by grind [IS,gw,sgn]
theorem S3:∀x:Fin 8,bits .and E (x.val:Int) 1=((x.val % 2:Nat):Int):=by decide+kernel
theorem Af5(b:List Int)(a:Option Addr)(c:Nat)(w:World)(ha:Rd E w a b)(hl:b.length=3)(hb:∀k, -100000<=b.getD k 0/\b.getD k 0<=100000):
 Calls prog 297 #[.slice a 3 c] w fun e w'=>e=.returned (.agg ((Gm b 8 0).map (Value.int E)).toArray)/\Below w.heap.size w w':=by
 obtain⟨b1,o1,rfl,X⟩:=ha.at (i:=0) (by omega);have q0:=X 0 (by omega);have q1:=X 1 (by omega);have q2:=X 2 (by omega);rw[Bh]at q0;have ab:b1<w.heap.size:=Aj w _ q0;have S:=hid hb;clear X hb;obtain⟨B, hB⟩ := E7 w.heap.size;go_enter func297,ntmps297;go_wp2;rw[<-hB];have t:=hid hB;rw[<-hB]at ab;clear hB
 go_loopw [7] (fun q wr=>∃v:Nat,v<=8/\q= A E v/\ArrAt E 421 wr B (List.replicate 8 0)/\ArrAt E 421 wr (B+1) (Gm b v 0)/\Below B w wr) (fun q _=>8-(intOf q).toNat)
 case atStart=>
  refine⟨0,by omega,rfl,?_,?_,?_⟩
  ·rw[t.out];exact(Bc _ _ w.heap.size (by simp)).trans (Am w _)
  ·have:=Am (w.alloc (D ((List.replicate 8 (0:Int)).map (Value.int E)).toArray 421)) (D ((List.replicate 8 (0:Int)).map (Value.int E)).toArray 421);have e:(w.alloc (D ((List.replicate 8 (0:Int)).map (Value.int E)).toArray 421)).heap.size=B+1:=by simp[t.out]
   rw[e]at this;rw[XB];exact this
  ·exact(((Ad _ _).alloc (by rw[t.out];exact Ac _) _).alloc (by rw[t.out];simp) _)
 case round=>
  obtain⟨v,hv,rfl,Q,r,f⟩:=hrel
  by_cases s:v<8
  ·go_wp2
   go_loopw [12] (fun q wr=>∃j:Nat,j<=3/\q= A E j/\ArrAt E 421 wr B (List.replicate 8 0)/\ArrAt E 421 wr (B+1) (Gm b v j)/\Below B w wr) (fun q _=>3-(intOf q).toNat)
   case atStart=>grind
   case round=>
    clear Q r f;obtain⟨j,hj,rfl,Q,r,f⟩:=hrel
    rcases (show j=0\/j=1\/j=2\/j=3 by omega)with rfl | rfl | rfl | rfl
    ·have g1:=(f.cell (p:=⟨b1,o1,C⟩) (by show b1<B;omega)).trans q0;have hc:=r.cell (j:=v) (by rw[JU];exact s);rw[PO b v 0 s]at hc;have aa:=r.free v;have hx:=S.out 0;have N:=O4 b v S.out 0;have o:=O4 b v S.out (0+1);have d:=hid (show IS b v (0+1)=IS b v 0+sgn ((v / 4 % 2:Nat):Int) (b.getD 0 0)from rfl);have h:=r.set v (IS b v (0+1));rw[Oc]at h;have z:=Q.other ⟨B+1,v,C⟩ (A E (IS b v (0+1))) (by show B≠B+1;omega);have m:=f.setCell (p:=⟨B+1,v,C⟩) (by show B<=B+1;omega) (A E (IS b v (0+1)));have M:bits .and E ((v:Int) / 4) 1=((v / 4 % 2:Nat):Int):=by
      have:=S3 ⟨v / 4,by omega⟩;rw[<-this]
      congr 1
     clear Q r f;obtain⟨p0, Y⟩ := E7 (IS b v 0);obtain⟨p1, e1⟩ := E7 (IS b v (0+1));obtain⟨x, Z⟩ := E7 (b.getD 0 0);obtain⟨y, u⟩ := E7 (v / 4 % 2);rw[<-Y]at hc N d;rw[<-e1]at h z m o d;rw[<-Z]at g1 hx d;rw[<-u]at M d;have EE:=hid u;clear Y e1 Z u
     by_cases h1:y=1
     ·subst h1;have n:=hid (show p0+ -x=p1 by rw[d.out];unfold sgn;rw[Ab (by rfl)]);go_wp2
      go_roundw
      case rel=>rw[n.out];grind
      case measure=>simp[intOf]
     ·obtain rfl:y=0:=by have:=EE.out;omega
      have n:=hid (show p0+x=p1 by rw[d.out];unfold sgn;rw[Aa (by omega)]);go_wp2
      go_roundw
      case rel=>rw[n.out];grind
      case measure=>simp[intOf]
    ·have g1:=(f.cell (p:=⟨b1,o1+1,C⟩) (by show b1<B;omega)).trans q1;have hc:=r.cell (j:=v) (by rw[JU];exact s);rw[PO b v 1 s]at hc;have aa:=r.free v;have hx:=S.out 1;have N:=O4 b v S.out 1;have o:=O4 b v S.out (1+1);have d:=hid (show IS b v (1+1)=IS b v 1+sgn ((v / 2 % 2:Nat):Int) (b.getD 1 0)from rfl);have h:=r.set v (IS b v (1+1));rw[Oc]at h;have z:=Q.other ⟨B+1,v,C⟩ (A E (IS b v (1+1))) (by show B≠B+1;omega);have m:=f.setCell (p:=⟨B+1,v,C⟩) (by show B<=B+1;omega) (A E (IS b v (1+1)));have M:bits .and E ((v:Int) / 2) 1=((v / 2 % 2:Nat):Int):=by
      have:=S3 ⟨v / 2,by omega⟩;rw[<-this]
      congr 1
     clear Q r f;obtain⟨p0, Y⟩ := E7 (IS b v 1);obtain⟨p1, e1⟩ := E7 (IS b v (1+1));obtain⟨x, Z⟩ := E7 (b.getD 1 0);obtain⟨y, u⟩ := E7 (v / 2 % 2);rw[<-Y]at hc N d;rw[<-e1]at h z m o d;rw[<-Z]at g1 hx d;rw[<-u]at M d;have EE:=hid u;clear Y e1 Z u
     by_cases h1:y=1
     ·subst h1;have n:=hid (show p0+ -x=p1 by rw[d.out];unfold sgn;rw[Ab (by rfl)]);go_wp2
      go_roundw
      case rel=>rw[n.out];grind
      case measure=>simp[intOf]
     ·obtain rfl:y=0:=by have:=EE.out;omega
      have n:=hid (show p0+x=p1 by rw[d.out];unfold sgn;rw[Aa (by omega)]);go_wp2
      go_roundw
      case rel=>rw[n.out];grind
      case measure=>simp[intOf]
    ·have g1:=(f.cell (p:=⟨b1,o1+2,C⟩) (by show b1<B;omega)).trans q2;have hc:=r.cell (j:=v) (by rw[JU];exact s);rw[PO b v 2 s]at hc;have aa:=r.free v;have hx:=S.out 2;have N:=O4 b v S.out 2;have o:=O4 b v S.out (2+1);have d:=hid (show IS b v (2+1)=IS b v 2+sgn ((v / 1 % 2:Nat):Int) (b.getD 2 0)from rfl);have h:=r.set v (IS b v (2+1));rw[Oc]at h;have z:=Q.other ⟨B+1,v,C⟩ (A E (IS b v (2+1))) (by show B≠B+1;omega);have m:=f.setCell (p:=⟨B+1,v,C⟩) (by show B<=B+1;omega) (A E (IS b v (2+1)));have M:bits .and E ((v:Int)) 1=((v / 1 % 2:Nat):Int):=by
      have:=S3 ⟨v / 1,by omega⟩
      grind
     clear Q r f;obtain⟨p0, Y⟩ := E7 (IS b v 2);obtain⟨p1, e1⟩ := E7 (IS b v (2+1));obtain⟨x, Z⟩ := E7 (b.getD 2 0);obtain⟨y, u⟩ := E7 (v / 1 % 2);rw[<-Y]at hc N d;rw[<-e1]at h z m o d;rw[<-Z]at g1 hx d;rw[<-u]at M d;have EE:=hid u;clear Y e1 Z u
     by_cases h1:y=1
     ·subst h1;have n:=hid (show p0+ -x=p1 by rw[d.out];unfold sgn;rw[Ab (by rfl)]);go_wp2
      go_roundw
      case rel=>rw[n.out];grind
      case measure=>simp[intOf]
     ·obtain rfl:y=0:=by have:=EE.out;omega
      have n:=hid (show p0+x=p1 by rw[d.out];unfold sgn;rw[Aa (by omega)]);go_wp2
      go_roundw
      case rel=>rw[n.out];grind
      case measure=>simp[intOf]
    ·rw[XA]at r;go_wp2
     go_roundw
     case rel=>grind
     case measure=>simp[intOf];omega
  ·obtain rfl:v=8:=by omega
   go_wp2_with(first | (refine CP rfl 421 (.tmp 3) rfl (B+1) rfl 421 _ (0,0) _ r underlying421 rfl (by kernel_rfl) ?_) | (refine Hm rfl 421 (.tmp 2) (.tmp 33) rfl B 421 _ _ rfl rfl Q (by kernel_rfl) (by simp[Gm]) (by simp[Gm,List.range,List.range.loop,Value.oneCell']) ?_));refine Ah (BO (p:=2) (ty:=421) (by kernel_rfl) _ _ B 421 _ (0,0) _ rfl (Cn _ _ _ _ _ _ Q) underlying421 rfl (by kernel_rfl)) rfl ?_;exact⟨rfl,by rw[<-t.out];exact M5 f (Ac _) _⟩
theorem T0{β:Type}(f g:Nat->β)(N S:Nat)(h:∀u,u≠S->f u=g u)(x:β)(c:x=g S):((List.range N).map f).set S x=(List.range N).map g:=by
 refine AW (by simp) fun j a b=>?_
 grind
def JB (l:List Int)(n k:Nat):List Int:=(List.range 64).map (val l n k)
theorem Hs(l:List Int)(n k:Nat):(JB l n k).length=64:=by simp[JB]
theorem S6(l:List Int)(n k S:Nat)(h:S<64):(JB l n k).getD S 0=val l n k S:=by simp[JB,List.getD,h]
theorem S7(l:List Int)(n:Nat):JB l n 0=List.replicate 64 0:=by rfl
def NG (l:List Int)(n k S:Nat):List Int:=(List.range 64).map fun u=>if u<S then val l n (k+1) u else 0
theorem Ng(l:List Int)(n k S:Nat):(NG l n k S).length=64:=by simp[NG]
theorem TM(l:List Int)(n k:Nat):NG l n k 0=List.replicate 64 0:=by rfl
theorem Agg(l:List Int)(n k:Nat):NG l n k 64=JB l n (k+1):=by rfl
theorem Rq(l:List Int)(n k S:Nat)(x:Int)(a:x=val l n (k+1) S):(NG l n k S).set S x=NG l n k (S+1):=by grind [val,NG,T0]
def K0 (l:List Int)(n m:Nat):List Int:=(List.range n).map fun j=>if m<=j then (GP l n (n+5-j) 64:Int) else 0
theorem JX(l:List Int)(n m:Nat):(K0 l n m).length=n:=by simp[K0]
theorem Aai(l:List Int)(n m:Nat)(h:n<=m):K0 l n m=List.replicate n 0:=by
 refine AW (by simp[K0]) fun j a b=>?_
 have:j<n:=by simpa [K0]using a
 simp[K0,show ¬m<=j by omega]
theorem Ajy(l:List Int)(n j:Nat)(h:j<n):(K0 l n 0).getD j 0=(GP l n (n+5-j) 64:Int):=by simp[K0,List.getD,h]
def I4 (l:List Int)(n i S:Nat):List Int:=(K0 l n (i+1)).set i (GP l n (n+5-i) S:Int)
theorem X4(l:List Int)(n i S:Nat):(I4 l n i S).length=n:=by simp[I4,JX]
theorem Ade(l:List Int)(n i:Nat):I4 l n i 0=K0 l n (i+1):=by
 refine AW (by simp[I4]) fun j a b=>?_
 simp only[I4,B4,K0,BR,B6]
 split
 ·rename_i e;subst e;rw[Aa (by omega)];rfl
 ·rfl
theorem AgM(l:List Int)(n i:Nat):I4 l n i 64=K0 l n i:=by grind [I4,K0,T0]
theorem Adc(l:List Int)(n i S a:Nat)(h:n<=i):I4 l n i S=I4 l n i a:=by
 unfold I4;rw[Ey (by rw[JX];exact h),Ey (by rw[JX];exact h)]
theorem Ajz(l:List Int)(n i S:Nat)(h:i<n):(I4 l n i S).getD i 0=(GP l n (n+5-i) S:Int):=by
 simp[I4,List.getD,JX,h]
theorem AgN(l:List Int)(n i S:Nat)(x:Int)(a:x=(GP l n (n+5-i) (S+1):Int)):(I4 l n i S).set i x=I4 l n i (S+1):=by
 unfold I4;rw[B9,a]
theorem Add(l:List Int)(n i S:Nat)(h:one l n (n+5-i) S=false):I4 l n i (S+1)=I4 l n i S:=by
 unfold I4;rw[GP,h];simp
theorem AeJ(l:List Int)(h:∀k, -100000<=l.getD k 0/\l.getD k 0<=100000)(i:Nat)(w:Int): -300000<=gw l i w/\gw l i w<=300000:=by grind [gw,sgn]
theorem Yz(l:List Int)(n:Nat)(h:∀k, -100000<=l.getD k 0/\l.getD k 0<=100000):∀(k S:Nat), -(300000*(k:Int))<=val l n k S/\val l n k S<=300000*(k:Int)
 | 0,S=>by simp[val]
 | k+1,S=>by
  have a:=Yz l n h k (2*S % 64);have b:=Yz l n h k (2*S % 64+1);have c:=AeJ l h (n+6-(k+1)) (Fz (2*(S:Int)));have d:=AeJ l h (n+6-(k+1)) (7-Fz (2*(S:Int)));rw[val]
  split
  ·omega
  ·split<;>omega
theorem AkM(l:List Int)(n i k S:Nat)(hi:i+(k+1)=n+6):
 val l n (k+1) S=if k<6 then gw l i (Fz (2*(S:Int)))+val l n k (2*S % 64) else
  if gw l i (Fz (2*(S:Int)))+val l n k (2*S % 64)<gw l i (7-Fz (2*(S:Int)))+val l n k (2*S % 64+1) then gw l i (7-Fz (2*(S:Int)))+val l n k (2*S % 64+1) else gw l i (Fz (2*(S:Int)))+val l n k (2*S % 64):=by
 rw[val,show n+6-(k+1)=i by omega]
theorem Ajx(l:List Int)(n i k S:Nat)(hi:i+(k+1)=n+6):one l n k S=decide (gw l i (Fz (2*(S:Int)))+val l n k (2*S % 64)<gw l i (7-Fz (2*(S:Int)))+val l n k (2*S % 64+1)):=by
 unfold one;rw[show n+6-(k+1)=i by omega]
theorem Tryz.Alx:(prog.info? 195).map (fun i=>(i.zero,i.size,i.bytes))=some (some (A .u64 0),1,8):=by kernel_rfl
theorem U5{ops:Array Oper}{b:List Oper}{o:Oper}{a:Act}{Q:Exit->Act->World->Prop}(B:Nat)(f:World)(N:Nat)(j:o.guard=C)(l c:Operand)
 (X:o.op=Op.makeSlice 416 l c) (x y:Int) (S:a.eval l= A E x) (z:a.eval c= A E y) (Y:x=(N:Int)) (Z:y=(N:Int)) (hN:N<=70368744177) (d:Below B f w) (u:B<=w.heap.size)
 (h:∀w',ArrAt .u64 195 w' w.heap.size (List.replicate N 0)->Below B f w'->Below w.heap.size w w'->wpList prog ops Q b (a.put o.dst (.slice (some ⟨w.heap.size,0,C⟩) N N)) w'):
 wpList prog ops Q (o::b) a w:=by
 obtain⟨i0,hi,n,p,q⟩:=As Tryz.Alx;refine CK w j l c 416 X w.heap.size 195 i0 (A .u64 0) 1 underlying416 hi n p E E x y N S z Y Z (by rw[q];omega) (by unfold maxLen;omega) (Ac _) fun w' r s=>?_
 have e:(madeCells (Value.cells (A .u64 0)) (N*1)).toList=List.replicate N (A .u64 0):=by
  rw[By];exact CL _ _
 rw[e]at r;refine h w' ?_ (d.grown s u (by intro k m;cases m)) ((Ad _ _).grown s (Ac _) (by intro k m;cases m))
 rcases r.2 with⟨i,_⟩ | ⟨g',t,cur,i,v,hg,_,hm,M,ht⟩
 ·simp at i
 ·simp only[Aq,Bl,BI,BJ]at i;obtain⟨rfl,_,rfl⟩:=i;unfold ArrAt;rw[hg,Dh,<-ht,Aw (by simp;omega)]
theorem AnX{b o:Nat}(h:∀j,j<l.length->w.cell? ⟨b,o+j,C⟩=some (A E (l.getD j 0)))(i:Nat)(hi:3*i+2<l.length):
 Rd E w (some ⟨b,o+3*i,C⟩) [l.getD (3*i) 0,l.getD (3*i+1) 0,l.getD (3*i+2) 0]:=by grind [Rd]
theorem W0(k:IntKind)(L:List Int):((L.map (Value.int k)).toArray).all (·.oneCell')=true:=by
 rw[Array.all_eq_true_iff_forall_mem];intro v a;simp at a;obtain⟨x,_,rfl⟩:=a;rfl
theorem Le(k:IntKind)(L:List Int)(n:Nat)(h:L.length=n):((L.map (Value.int k)).toArray).size=n:=by simp[h]
theorem Tryz.Ae4:(prog.info? 428).map (·.size)=some 64:=by kernel_rfl
theorem Tryz.Ae5:(prog.info? 430).map (·.size)=some 64:=by kernel_rfl
theorem Tryz.Amh:(prog.info? 421).map (·.size)=some 8:=by kernel_rfl
theorem Aoz{X:Obj}(h:w.heap[g]?=some X)(a:g<w.heap.size)(b c:Obj):((w.alloc b).alloc c).heap[g]?=some X:=
 (Bc _ c g (by simp;omega)).trans ((Bc w b g a).trans h)
theorem ArrAt.drewN{k:IntKind}{T:TypeId}{w:World}{g:Nat}{L:List Int}(h:ArrAt k T w g L)(n:Nat):ArrAt k T (w.drewN n) g L:=by
 unfold ArrAt;rw[show(w.drewN n).heap=w.heap by simp];exact h
theorem ArrAt.Aa0(h:ArrAt k T w g L)(a:Nat)(cs:Array Value)(b:g≠a):ArrAt k T (w.setRow a cs) g L:=(Cl w a g cs b).trans h
theorem ArrAt.Amb(h:ArrAt k T w g L)(a:List Int):ArrAt k T (w.setRow g (a.map (Value.int k)).toArray) g a:=Cn w g _ _ T (0,0) h
theorem Apz:∀x:Fin 8,bits .xor .u64 (x.val:Int) 7=((7-x.val:Nat):Int):=by decide+kernel
theorem Ah5(l:List Int)(n:Nat)(a:Option Addr)(c:Nat)(w:World)(ha:Rd E w a l)(hl:l.length=3*(n+6))(hn:n<=400)(al:∀k, -100000<=l.getD k 0/\l.getD k 0<=100000)(b4:l.length<=c)(hT:Taps w):
 Calls prog 282 #[.slice a l.length c, A E n] w fun e w'=>∃g,e=.returned (.tuple #[.slice (some ⟨g,0,C⟩) n n, A E (val l n (n+6) 0)])/\ArrAt .u64 195 w' g (K0 l n 0)/\w.heap.size<=g/\Below w.heap.size w w':=by
 obtain⟨b1,o1,rfl,bj⟩:=ha.at (i:=0) (by omega);have cr:b1<w.heap.size:=Aj w _ (bj 0 (by omega));have HC:=hid bj;have HS:=hid al;clear bj al;obtain⟨L3, ba⟩ := E7 l.length;rw[<-ba]at hl b4 ⊢;have ck:=hid ba;clear ba;obtain⟨WL, bh⟩ := E7 (Jl 64);have bn:=hid bh;have ay:WL.length=64:=by rw[bh,OH]
 have Z:=hid ay;clear bh ay;go_enter func282,ntmps282
 go_wp2_with(first
  | (go_at_call 296;refine(Ah7 _ hT).mono ?_;rintro e w1 ⟨rfl,s⟩;rw[<-bn.out])
  | (refine Hm rfl 428 (.tmp 6) (.tmp 15) rfl w1.heap.size 428 _ _ rfl rfl (Am w1 _) (by rw[Le _ _ _ Z.out];exact Tryz.Ae4) (by rw[Le _ _ _ Z.out];rfl) (W0 _ _) ?_;rw[World.setRow_alloc_new])
  | (at_make;refine U5 w.heap.size w n rfl _ _ rfl _ _ rfl rfl rfl rfl (by omega) (s.alloc s.size _) (by have:=s.size;simp;omega) ?_))
 intro w2 M N ak;have hW:=(Ql .u64 428 w1 WL).below ak (by simp);obtain⟨gW, bk⟩ := E7 w1.heap.size;obtain⟨t, b7⟩ := E7 (w1.heap.size+1);have c5:gW<t:=by omega
 have c4:w.heap.size<=gW:=by rw[bk];exact s.size
 rw[<-b7]at M ⊢;rw[<-bk]at hW ⊢;have cp:=M.lt;rw[<-Aai l n (n+6) (by omega)]at M;clear b7 bk ak s;go_wp2;obtain⟨gB, b5⟩ := E7 w2.heap.size;have v:=Ql E 430 w2 (List.replicate 64 0);rw[<-S7 l n]at v;rw[<-b5]at cp v ⊢;have Q:=N.alloc N.size (D ((JB l n 0).map (Value.int E)).toArray 430);have bg:=hW.alloc (D ((JB l n 0).map (Value.int E)).toArray 430);have bb:=M.alloc (D ((JB l n 0).map (Value.int E)).toArray 430);have HZ:=hid (S7 l n);clear hW M N b5
 go_loopw [8] (fun q wr=>∃m:Nat,m<=n+6/\q= A E ((m:Int)-1)/\ArrAt .u64 428 wr gW WL/\ArrAt .u64 195 wr t (K0 l n m)/\ArrAt E 430 wr gB (JB l n (n+6-m))/\Below w.heap.size w wr) (fun q _=>(intOf q+1).toNat)
 case atStart=>
  refine⟨n+6,Ac _,?_,?_⟩
  ·go_num
  ·rw[Bm];rw[HZ.out]at v bg bb Q ⊢;exact⟨bg,bb,v,Q⟩
 case round=>
  clear v bg bb Q HZ;obtain⟨m,hm,rfl,hW,M,v,h⟩:=hrel
  by_cases ca:m=0
  ·subst ca;have c0:=v.cell (j:=0) (by rw[Hs];omega);rw[S6 _ _ _ _ (by omega),Dn]at c0
   go_wp2_with fail
   go_quiet (fail);go_wp2
   go_ret2;exact⟨t,rfl,M,by omega,below_drewN h _⟩
  ·obtain⟨i,rfl⟩:∃i,m=i+1:=⟨m-1,by omega⟩;obtain⟨k,hk⟩:∃k,i+(k+1)=n+6:=⟨n+5-i,by omega⟩;rw[show n+6-(i+1)=k by omega]at v;rw[show(((i+1:Nat):Int)-1)=(i:Int)by omega];have a0:=AnX (w:=wr) (b:=b1) (o:=o1) (l:=l) (fun j hj=>(h.cell (p:=⟨b1,o1+j,C⟩) cr).trans (HC.out j hj)) i (by rw[<-ck.out];omega);have b2:=hW.lt;have bw:=M.lt;have a4:=v.lt;clear ca;obtain⟨GL, a8⟩ := E7 (Gm [l.getD (3*i) 0,l.getD (3*i+1) 0,l.getD (3*i+2) 0] 8 0);have a1:=hid a8;have ax:GL.length=8:=by rw[a8,JU]
   have Y:=hid ax;clear a8 ax;have cj:=hid (show 3*(i+1)-3*i=3 by omega)
   go_wp2_with(first
    | (go_at_call 297;rw[cj.out];refine(Af5 [l.getD (3*i) 0,l.getD (3*i+1) 0,l.getD (3*i+2) 0] _ _ _ a0 rfl (fun j=>by
     rcases j with _ | _ | _ | j
     ·exact HS.out (3*i)
     ·exact HS.out (3*i+1)
     ·exact HS.out (3*i+2)
     ·simp)).mono ?_;rintro e w4 ⟨rfl,f⟩;rw[<-a1.out];have ap:=hW.below f b2;have az:=ap.lt)
    | (refine Hm rfl 421 (.tmp 9) (.tmp 32) rfl w4.heap.size 421 _ _ rfl rfl (Am w4 _) (by rw[Le _ _ _ Y.out];exact Tryz.Amh) (by rw[Le _ _ _ Y.out];rfl) (W0 _ _) ?_;rw[World.setRow_alloc_new])
    | (refine CP rfl 428 (.tmp 6) rfl gW rfl 428 ((WL.map (Value.int .u64)).toArray) (0,0) _ (Aoz ap az _ _) underlying428 rfl (by rw[Le _ _ _ Z.out];exact Tryz.Ae4) ?_))
   have bx:=(ap.alloc (D ((GL.map (Value.int E)).toArray) 421)).alloc (D (((List.replicate 64 (0:Int)).map (Value.int E)).toArray) 430);have bd:=((M.below f bw).alloc (D ((GL.map (Value.int E)).toArray) 421)).alloc (D (((List.replicate 64 (0:Int)).map (Value.int E)).toArray) 430);have bq:=((v.below f a4).alloc (D ((GL.map (Value.int E)).toArray) 421)).alloc (D (((List.replicate 64 (0:Int)).map (Value.int E)).toArray) 430);have a7:=(Ql E 421 w4 GL).alloc (D (((List.replicate 64 (0:Int)).map (Value.int E)).toArray) 430);have ab:=Ql E 430 (w4.alloc (D ((GL.map (Value.int E)).toArray) 421)) (List.replicate 64 0);have ar:=Fr h f;have ah:=(ar.alloc ar.size (D ((GL.map (Value.int E)).toArray) 421)).alloc (by have:=ar.size;simp;omega) (D (((List.replicate 64 (0:Int)).map (Value.int E)).toArray) 430);have bp:(w4.alloc (D ((GL.map (Value.int E)).toArray) 421)).heap.size=w4.heap.size+1:=by simp
   rw[bp]at ab;obtain⟨d, b6⟩ := E7 w4.heap.size;have c3:gB<d:=by have:=(v.below f a4).lt;omega
   rw[<-b6]at a7 ab ⊢;rw[<-Ade]at bd;rw[<-TM l n k]at ab;have HZ:=hid (TM l n k);clear b6 bp ar f ap az hW M v h a0 b2 bw a4
   go_loopw [34] (fun q wr=>∃S:Nat,S<=64/\q= A E S/\ArrAt .u64 428 wr gW WL/\ArrAt .u64 195 wr t (I4 l n i S)/\ArrAt E 430 wr gB (JB l n k)/\ArrAt E 421 wr d GL/\ArrAt E 430 wr (d+1) (NG l n k S)/\Below w.heap.size w wr) (fun q _=>64-(intOf q).toNat)
   case atStart=>exact⟨0,by omega,rfl,bx,bd,bq,a7,by rw[HZ.out]at ab ⊢;exact ab,ah⟩
   case round=>
    clear bx bd bq a7 ab ah;obtain⟨S,hS,rfl,hW,M,v,hG,hH,h⟩:=hrel
    by_cases X:S<64
    ·obtain⟨wv,aw⟩:∃wv:Nat,Fz (2*(S:Int))=(wv:Int):=Cw (M3 _).1;have cy:=(M3 (2*(S:Int))).2;rw[aw]at cy;have cu:((WL.map (Value.int .u64)).toArray)[S]?=some (A .u64 (wv:Int)):=by
      have h1:WL.getD S 0=(wv:Int):=by rw[bn.out,Aek S X,aw]
      have h2:S<WL.length:=by rw[Z.out];exact X
      simp[List.getD,h2]at h1;simp[h2,h1]
     have bo:=hid aw;clear aw;have gc:=hG.cell (j:=wv) (by rw[Y.out];omega);rw[a1.out,Sc _ _ (by omega),AeW l i wv _ rfl rfl rfl,<-bo.out]at gc;have bc:=v.cell (j:=2*S % 64) (by rw[Hs];omega);rw[S6 _ _ _ _ (by omega)]at bc;have hc:=hH.cell (j:=S) (by rw[Ng];exact X);have hf:=hH.free S;obtain⟨nx, av⟩ := E7 (2*S % 64);rw[<-av]at bc;have cx:nx<64:=by omega
     have cz:nx+1<64:=by omega
     have c1:((S:Int)*2).tmod 64=(nx:Int):=by rw[C8 (by omega)];omega
     have ct:=AeJ l HS.out i (Fz (2*(S:Int)));have cf:=Yz l n HS.out k (2*S % 64);rw[<-av]at cf;have aa:=hid av;obtain⟨z, a5⟩ := E7 (gw l i (Fz (2*(S:Int))));obtain⟨B, be⟩ := E7 (val l n k nx);rw[<-a5]at gc ct;rw[<-be]at bc cf;have cv:k<=406:=by omega
     have ad:=hid a5;have ae:=hid be;clear av a5 be
     go_wp2_with(first | (refine I2 rfl 428 (.tmp 33) (.tmp 34) rfl 194 _ 64 S (A .u64 (wv:Int)) _ E rfl rfl underlying428 underlying194 rfl (by kernel_rfl) X cu ?_))
     go_region;have aq:ArrAt .u64 428 (wr.setCell ⟨d+1,S,C⟩ (A E (z+B))).drew gW WL:=hW.other _ _ (by show gW≠d+1;omega);have ac:ArrAt .u64 195 (wr.setCell ⟨d+1,S,C⟩ (A E (z+B))).drew t (I4 l n i S):=M.other _ _ (by show t≠d+1;omega);have af:ArrAt E 430 (wr.setCell ⟨d+1,S,C⟩ (A E (z+B))).drew gB (JB l n k):=v.other _ _ (by show gB≠d+1;omega);have ag:ArrAt E 421 (wr.setCell ⟨d+1,S,C⟩ (A E (z+B))).drew d GL:=hG.other _ _ (by show d≠d+1;omega);have x:ArrAt E 430 (wr.setCell ⟨d+1,S,C⟩ (A E (z+B))).drew (d+1) ((NG l n k S).set S (z+B)):=hH.set S _;have u:=(h.setCell (p:=⟨d+1,S,C⟩) (by show w.heap.size<=d+1;omega) (A E (z+B))).drew;clear hW M v hG hH h gc bc hc hf;generalize (wr.setCell ⟨d+1,S,C⟩ (A E (z+B))).drew=w6 at*;have a2:=hid (AkM l n i k S hk);have bm:=hid (Ajx l n i k S hk);have bl:=hid (show n+5-i=k by omega)
     by_cases b9:i<n
     ·have gc:=ag.cell (j:=7-wv) (by rw[Y.out];omega);rw[a1.out,Sc _ _ (by omega),AeW l i (7-wv) _ rfl rfl rfl,show((7-wv:Nat):Int)=7-Fz (2*(S:Int))by rw[bo.out];omega]at gc;have bc:=af.cell (j:=2*S % 64+1) (by rw[Hs];omega);rw[S6 _ _ _ _ (by omega),<-aa.out]at bc;have b8:=AeJ l HS.out i (7-Fz (2*(S:Int)));have cg:=Yz l n HS.out k (nx+1);have ci:bits .xor .u64 (wv:Int) 7=((7-wv:Nat):Int):=Apz ⟨wv,by omega⟩;have b3:=x.cell (j:=S) (by rw[An,Ng];exact X);rw[show((NG l n k S).set S (z+B)).getD S 0=z+B by simp[List.getD,Ng,X]]at b3;obtain⟨x7, ch⟩ := E7 (7-wv);have c2:x7<8:=by omega
      rw[<-ch]at gc ci;obtain⟨G1, a6⟩ := E7 (gw l i (7-Fz (2*(S:Int))));obtain⟨V1, bf⟩ := E7 (val l n k (nx+1));rw[<-a6]at gc b8;rw[<-bf]at bc cg;have am:=hid a6;have an:=hid bf;clear ch a6 bf
      by_cases au:z+B<G1+V1
      ·have a3:decide (z+B<G1+V1)=true:=Ag au;have cs:=x.free S
       go_wp2_with fail
       go_quiet (fail)
       go_wp2_with fail;have bz:ArrAt .u64 428 ((w6.drewN nq).setCell ⟨d+1,S,C⟩ (A E (G1+V1))) gW WL:=(aq.drewN nq).other _ _ (by show gW≠d+1;omega);have ao:ArrAt .u64 195 ((w6.drewN nq).setCell ⟨d+1,S,C⟩ (A E (G1+V1))) t (I4 l n i S):=(ac.drewN nq).other _ _ (by show t≠d+1;omega);have br:ArrAt E 430 ((w6.drewN nq).setCell ⟨d+1,S,C⟩ (A E (G1+V1))) gB (JB l n k):=(af.drewN nq).other _ _ (by show gB≠d+1;omega);have bt:ArrAt E 421 ((w6.drewN nq).setCell ⟨d+1,S,C⟩ (A E (G1+V1))) d GL:=(ag.drewN nq).other _ _ (by show d≠d+1;omega);have a9:ArrAt E 430 ((w6.drewN nq).setCell ⟨d+1,S,C⟩ (A E (G1+V1))) (d+1) (((NG l n k S).set S (z+B)).set S (G1+V1)):=(x.drewN nq).set S _;have ai:=(below_drewN u nq).setCell (p:=⟨d+1,S,C⟩) (by show w.heap.size<=d+1;omega) (A E (G1+V1));have r:G1+V1=val l n (k+1) S:=by
        rw[a2.out,<-ad.out,<-aa.out,<-ae.out,<-am.out,<-an.out,Aa (show ¬k<6 by omega),Ab au]
       rw[B9,Rq l n k S _ r]at a9;have y:one l n (n+5-i) S=true:=by
        rw[bl.out,bm.out,<-ad.out,<-aa.out,<-ae.out,<-am.out,<-an.out];exact a3
       have cb:GP l n (n+5-i) (S+1)=GP l n (n+5-i) S+2 ^ S:=by rw[GP,y];rfl
       have cc:=Ajo l n (n+5-i) S;have cw:=Ol l n (n+5-i) (S+1);clear r y aq ac af ag x u b3 cs gc bc;generalize (w6.drewN nq).setCell ⟨d+1,S,C⟩ (A E (G1+V1))=w7 at*;have oc:=ao.cell (j:=i) (by rw[X4];exact b9);rw[Ajz l n i S b9]at oc;have of:=ao.free i;have hp:(2:Nat) ^ S<18446744073709551616:=AI (Ez (by omega) X) (by decide);have ce:GP l n (n+5-i) S<18446744073709551616:=Nat.lt_trans (Ol l n (n+5-i) S) hp;have cd:bits .or .u64 ((GP l n (n+5-i) S:Nat):Int) (IntKind.u64.wrap (2 ^ S))=((GP l n (n+5-i) (S+1):Nat):Int):=by
        have e2:(2:Int) ^ S=((2 ^ S:Nat):Int):=by simp
        rw[e2,IntKind.wrap_u64,Int.emod_eq_of_lt (by omega) (by omega),u64_or_nat _ _ ce hp,cc,cb]
       have cl:=hid cd;clear hp ce cd cb cc cw
       go_region;rw[cl.out];have cq:ArrAt .u64 428 (w7.setCell ⟨t,i,C⟩ (A .u64 ((GP l n (n+5-i) (S+1):Nat):Int))).drew gW WL:=bz.other _ _ (by show gW≠t;omega);have bu:ArrAt .u64 195 (w7.setCell ⟨t,i,C⟩ (A .u64 ((GP l n (n+5-i) (S+1):Nat):Int))).drew t ((I4 l n i S).set i ((GP l n (n+5-i) (S+1):Nat):Int)):=ao.set i _;rw[AgN l n i S _ rfl]at bu;have cm:ArrAt E 430 (w7.setCell ⟨t,i,C⟩ (A .u64 ((GP l n (n+5-i) (S+1):Nat):Int))).drew gB (JB l n k):=br.other _ _ (by show gB≠t;omega);have cn:ArrAt E 421 (w7.setCell ⟨t,i,C⟩ (A .u64 ((GP l n (n+5-i) (S+1):Nat):Int))).drew d GL:=bt.other _ _ (by show d≠t;omega);have co:ArrAt E 430 (w7.setCell ⟨t,i,C⟩ (A .u64 ((GP l n (n+5-i) (S+1):Nat):Int))).drew (d+1) (NG l n k (S+1)):=a9.other _ _ (by show d+1≠t;omega);have bi:=(ai.setCell (p:=⟨t,i,C⟩) (by show w.heap.size<=t;omega) (A .u64 ((GP l n (n+5-i) (S+1):Nat):Int))).drew;clear bz ao br bt a9 ai oc of;generalize (w7.setCell ⟨t,i,C⟩ (A .u64 ((GP l n (n+5-i) (S+1):Nat):Int))).drew=w8 at*;go_wp2
       go_roundw
       case rel=>exact⟨S+1,by omega,by go_num,cq,bu,cm,cn,co,bi⟩
       case measure=>simp[intOf];omega
      ·have a3:decide (z+B<G1+V1)=false:=Ae au;have r:z+B=val l n (k+1) S:=by
        rw[a2.out,<-ad.out,<-aa.out,<-ae.out,<-am.out,<-an.out,Aa (show ¬k<6 by omega),Aa au]
       rw[Rq l n k S _ r]at x;have y:one l n (n+5-i) S=false:=by
        rw[bl.out,bm.out,<-ad.out,<-aa.out,<-ae.out,<-am.out,<-an.out];exact a3
       rw[<-Add l n i S y]at ac;clear r y
       go_wp2_with fail
       go_quiet (fail);go_wp2
       go_roundw
       case rel=>exact⟨S+1,by omega,by go_num,aq,ac,af,ag,x,below_drewN u _⟩
       case measure=>simp[intOf];omega
     ·have r:z+B=val l n (k+1) S:=by
       rw[a2.out,<-ad.out,<-aa.out,<-ae.out,Ab (show k<6 by omega)]
      rw[Rq l n k S _ r]at x;rw[Adc l n i S (S+1) (by omega)]at ac;clear r;go_wp2
      go_roundw
      case rel=>exact⟨S+1,by omega,by go_num,aq,ac,af,ag,x,u⟩
      case measure=>simp[intOf];omega
    ·obtain rfl:S=64:=by omega
     rw[Agg]at hH;rw[AgM]at M;have b0:=hW.Aa0 gB ((JB l n (k+1)).map (Value.int E)).toArray (by omega);have bv:=M.Aa0 gB ((JB l n (k+1)).map (Value.int E)).toArray (by omega);have bs:=v.Amb (JB l n (k+1));have aj:=M5 h (g:=gB) (by omega) ((JB l n (k+1)).map (Value.int E)).toArray
     go_wp2_with(first
      | (refine CP rfl 430 (.tmp 10) rfl (d+1) rfl 430 ((JB l n (k+1)).map (Value.int E)).toArray (0,0) _ hH underlying430 rfl (by rw[Le _ _ _ (Hs l n (k+1))];exact Tryz.Ae5) ?_)
      | (refine Hm rfl 430 (.tmp 7) (.tmp 79) rfl gB 430 _ ((JB l n (k+1)).map (Value.int E)).toArray rfl rfl v (by rw[Le _ _ _ (Hs l n (k+1))];exact Tryz.Ae5) (by rw[Le _ _ _ (Hs l n (k+1)),Le _ _ _ (Hs l n k)]) (W0 _ _) ?_))
     rw[show k+1=n+6-i by omega]at bs b0 bv aj ⊢
     go_roundw
     case rel=>exact⟨i,by omega,by go_num,b0,bv,bs,aj⟩
     case measure=>simp[intOf]
def Gv (l:List Int):Int:=if Fy l then 0 else 1
theorem MH(l:List Int)(a:Option Addr)(c:Nat)(w:World)(q:Rd E w a l)(s:l.length<=maxLen):
 Calls prog 236 #[.slice a l.length c] w fun e w'=>e=.returned (A E (Gv l))/\w=w':=by
 unfold maxLen at s;go_enter func236,ntmps236;go_wp2
 go_loop [7] (fun i=>∃k:Nat,k<=l.length/\i= A E k/\Hid (AbU l k)) (fun i=>l.length-(intOf i).toNat)
 case atStart=>exact⟨0,Af _,rfl,fun j r=>by omega⟩
 case round=>
  obtain⟨k,v,rfl,f⟩:=hrel
  by_cases d:k<l.length
  ·obtain⟨b1,y,rfl,b⟩:=q.at d;have g1:=b k d;clear b;obtain⟨x, n⟩ := E7 (l.getD k 0);rw[<-n]at g1;have h:=hid n;clear n
   by_cases o:x < -100000
   ·go_wp2;go_ret;exact⟨Fs (by unfold Gv;rw[Abt (l:=l) (k:=k) (by rw[<-h.out];omega)];rfl),rfl⟩
   ·have t:decide (x < -100000)=false:=Ae o
    by_cases p:100000<x
    ·go_wp2;go_ret;exact⟨Fs (by unfold Gv;rw[Abt (l:=l) (k:=k) (by rw[<-h.out];omega)];rfl),rfl⟩
    ·have u:decide (100000<x)=false:=Ae p;have m:Hid (AbU l (k+1)):=fun j r=>by
      by_cases e:j=k
      ·subst e;rw[<-h.out];omega
      ·exact f.out j (by omega)
     go_wp2
     go_round
     case rel=>grind
     case measure=>simp[intOf];omega
  ·obtain rfl:k=l.length:=by omega
   go_wp2;go_ret;exact⟨Fs (by unfold Gv;rw[Aku f.out];rfl),rfl⟩
theorem AjJ:∀S:Fin 64,∀y:Fin 2,bits .or E ((S.val:Int)*2) (y.val:Int)=((2*S.val+y.val:Nat):Int):=by decide+kernel
theorem Qa(l:List Int)(r i:Nat)(s:Int):(way l r i s).length=r:=(Rg l r i s).len
theorem AkS(l:List Int)(n i S:Nat)(hi:i<n)(c:S<64)(h:(way l n 0 0).drop i=way l (n-i) i (KG (S:Int))):
 (way l n 0 0).getD i 0=(if one l n (n+5-i) S then 1 else 0)/\(way l n 0 0).drop (i+1)=way l (n-(i+1)) (i+1) (KG ((2*S % 64+(if one l n (n+5-i) S then 1 else 0):Nat):Int)):=by
 have b:=AlT l n (n-(i+1)) S (by omega) c;rw[show n-(i+1)+1=n-i by omega,show n-(n-i)=i by omega,show n-(i+1)+6=n+5-i by omega,show n-(n-(i+1))=i+1 by omega]at b;rw[b]at h;have a:=Qa l n 0 0;rw[CY (by omega)]at h
 grind
theorem Aml(h:Gv l=0):Fy l=true:=by
 unfold Gv at h
 split at h
 ·assumption
 ·cases h
theorem Zv(l:List Int)(n:Nat)(a:Option Addr)(c:Nat)(w:World)(ha:Rd E w a l)(hl:l.length=3*(n+6))(hn:n<=400)(hs:Gv l=0)(u:l.length<=c)(hT:Taps w):
 Calls prog 266 #[.slice a l.length c] w fun e w'=>∃v,e=.returned (.tuple #[v, A E (top l n 0 0), A E 0])/\Own w' w.heap.size v (way l n 0 0)/\Below w.heap.size w w':=by
 have HV:=hid (show val l n (n+6) 0=top l n 0 0 by
  have:=Re l n n (Ac _) 0 (by omega);rw[Bm]at this
  exact this)
 have HS:=hid hs;have HL:=hid hl;have aa:=hid u;have f:=hid (Qa l n 0 0);have hq:(((3*(n+6):Nat):Int)).tdiv 3=(n:Int)+6:=by grind
 have hr:(((3*(n+6):Nat):Int)).tmod 3=0:=by grind
 obtain⟨L3, X⟩ := E7 l.length;rw[<-X]at hl u ⊢;rw[<-hl]at hq hr;have o:=hid X;have ao:L3<=1218:=by omega
 have ar:=hid hl;clear X hs hl u;go_enter func266,ntmps266
 go_wp2_with(first
  | (go_at_call 236;rw[o.out];refine(MH l a c _ ha (by rw[<-o.out];unfold maxLen;omega)).mono ?_;rintro e w1 ⟨rfl,rfl⟩;rw[HS.out,<-o.out])
  | (go_at_call 282;rw[o.out];refine(Ah5 l n a c _ ha HL.out hn (O8 (Aml HS.out)) aa.out hT).mono ?_;rintro e w1 ⟨gO,rfl,B,aw,h⟩;rw[HV.out,<-o.out])
  | (at_make;refine FH w1.heap.size w1 n rfl _ _ rfl _ _ rfl rfl rfl rfl (by omega) (Ad _ _) (Ac _) ?_))
 intro w2 b m ah;have ae:=B.below m B.lt;have af:=Fr h m;have d:=b.mono h.size;obtain⟨g, hg⟩ := E7 w1.heap.size;have ap:gO<g:=by have:=B.lt;omega
 have ak:w.heap.size<=g:=by have:=h.size;omega
 rw[<-hg]at d ⊢;rw[show List.replicate n (0:Int)=JT (way l n 0 0) 0 by rw[TC,f.out]]at d;clear hg b m ah B;go_wp2
 go_loopw [10,43] (fun s q wr=>∃i S:Nat,i<=n/\S<64/\q= A E i/\s= A E S/\ArrAt .u64 195 wr gO (K0 l n 0)/\Own wr w.heap.size (.slice (some ⟨g,0,C⟩) n n) (JT (way l n 0 0) i)/\Hid ((way l n 0 0).drop i=way l (n-i) i (KG (S:Int)))/\Below w.heap.size w wr) (fun _ q _=>n-(intOf q).toNat)
 case atStart=>exact⟨0,0,by omega,by omega,rfl,rfl,ae,d,rfl,af⟩
 case round=>
  clear ae d af;obtain⟨i,S,hi,hS,rfl,rfl,B,b,HD,r⟩:=hrel
  by_cases x:i<n
  ·have oc:=B.cell (j:=i) (by rw[JX];exact x);rw[Ajy l n i x]at oc;obtain⟨ag,ab⟩:=AkS l n i S x hS HD.out;have t:=Agt l n (n+5-i) S hS;have hM:=Ol l n (n+5-i) 64;obtain⟨M, ad⟩ := E7 (GP l n (n+5-i) 64);rw[<-ad]at oc t hM;obtain⟨y, hy⟩ := E7 (if one l n (n+5-i) S then 1 else 0:Nat);rw[<-hy]at ab t;have ax:y<=1:=by rw[hy];split<;>omega
   have N:(y:Int)=(way l n 0 0).getD i 0:=by rw[ag,hy];split<;>rfl
   have z:M<18446744073709551616:=hM;have ac:M / 2 ^ S<18446744073709551616:=B5 (C3 _ _) z;have hand:bits .and .u64 ((M:Int) / 2 ^ S) 1=(y:Int):=by
    have e2:(M:Int) / 2 ^ S=((M / 2 ^ S:Nat):Int):=by simp
    have:=C7 (M / 2 ^ S) 1 ac (by omega)
    grind
   have an:bits .or E ((S:Int)*2) (y:Int)=((2*S+y:Nat):Int):=AjJ ⟨S,hS⟩ ⟨y,by omega⟩;have av:=b.free i;have am:=b.cell (i:=i) (by rw[Ht _ _ (by rw[f.out];omega),f.out];exact x);have Q:=b.set i (y:Int);rw[Kj _ i (by rw[f.out];exact x) _ N]at Q;have al:=B.other ⟨g,i,C⟩ (A .u8 (y:Int)) (by show gO≠g;omega);have Z:=r.setCell (p:=⟨g,i,C⟩) ak (A .u8 (y:Int));have ai:=hid ab;obtain⟨T, Y⟩ := E7 (2*S+y);rw[<-Y]at an;have au:T<128:=by omega
   have aj:=hid Y;have aq:(T:Int).tmod 64=((T % 64:Nat):Int):=by grind
   clear ag ab t hM ad hy N z ac B b r Y;go_wp2
   go_roundw
   case rel=>exact⟨i+1,T % 64,by omega,AZ _ (by omega),by go_num,by go_num,al,Q,(by rw[show T % 64=2*S % 64+y by rw[aj.out];omega];exact ai.out),Z⟩
   case measure=>simp[intOf];omega
  ·obtain rfl:i=n:=by omega
   go_wp2
   go_ret3;refine⟨_,rfl,?_,r⟩;rw[show JT (way l i 0 0) i=way l i 0 0 by rw[show i=(way l i 0 0).length from f.out.symm,f.out];exact(by have:=VX (way l i 0 0);rw[f.out]at this;exact this)]at b;exact b
end Go.Proofs.YtbjgfoiikhbonahGreatDoor
