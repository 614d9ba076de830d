import Derived.Test.YtbjgfoiikhbonahGreatDoorA10
import Derived.Deep.RegionWith
import Derived.BigRegion
import Derived.Test.YtbjgfoiikhbonahGreatDoorA08
set_option linter.unusedVariables false
set_option linter.unusedSimpArgs false
set_option maxRecDepth 100000
set_option maxHeartbeats 4000000
namespace Go.Proofs.YtbjgfoiikhbonahGreatDoor
open Go.ChangeShapes Go.WideShapes Go.ChangeAt Go.RowKit Go.Shelf Go.Proofs.Tryz
open Value renaming int->A,slice->E,pointer->V
open Go renaming World->H
open Option renaming some->I,none->J
open Ending renaming returned->X
open Obj renaming cells->Y
open IntKind renaming i64->d
variable {B c g h i j n place q s t:Nat}{L:List Int}{S:Setg}{W w w':H}{a:Option Addr}{k:IntKind}{o:Oper}{p:Int×Int}{ps:List (Int×Int)}{r:List Value}{v:Value}{x:Operand}{ρ:Operand->Value}
def Z7 (h i q:Nat):List Int:=(List.range h).flatMap fun t=>[(J6 i (h-1-t):Int),(J6 q (h-1-t):Int)]
def AcL (h i q:Nat):Nat:=(Z7 h i q).foldl (fun acc x=>2*acc+x.toNat) 0
def Aol (h:Nat):Bool:=(List.range (2 ^ h)).all fun i=>(List.range (2 ^ h)).all fun q=>decide (AcL h i q<2 ^ (2*h)) && (decide ((FI (2*h)).getD (AcL h i q) []=Z7 h i q) && decide (ptM h (Z7 h i q)=(Gr i h,Gr q h)))
def Aom (h:Nat):Bool:=(List.range (2 ^ (2*h))).all fun j=>decide (Jv ((FI (2*h)).getD j []) 0 h<2 ^ h) && (decide (Jv ((FI (2*h)).getD j []) 1 h<2 ^ h) && decide (AcL h (Jv ((FI (2*h)).getD j []) 0 h) (Jv ((FI (2*h)).getD j []) 1 h)=j))
theorem Am9:∀h,1<=h->h<=3->Aol h=true
 | 1,_,_=>by decide+kernel
 | 2,_,_=>by decide+kernel
 | 3,_,_=>by decide+kernel
 | h+4,_,_=>by omega
theorem Ana:∀h,1<=h->h<=3->Aom h=true
 | 1,_,_=>by decide+kernel
 | 2,_,_=>by decide+kernel
 | 3,_,_=>by decide+kernel
 | h+4,_,_=>by omega
theorem Rl{f:Nat->Bool}(h:(List.range n).all f=true)(hi:i<n):f i=true:=AM.1 h i (Bv.2 hi)
theorem SZ(b:1<=h)(e:h<=3)(hi:i<2 ^ h)(f:q<2 ^ h):AcL h i q<2 ^ (2*h)/\(FI (2*h)).getD (AcL h i q) []=Z7 h i q/\ptM h (Z7 h i q)=(Gr i h,Gr q h):=by
 have:=Rl (Rl (Am9 h b e) hi) f
 grind
theorem Afc(b:1<=h)(e:h<=3)(f:j<2 ^ (2*h)):Jv ((FI (2*h)).getD j []) 0 h<2 ^ h/\Jv ((FI (2*h)).getD j []) 1 h<2 ^ h/\AcL h (Jv ((FI (2*h)).getD j []) 0 h) (Jv ((FI (2*h)).getD j []) 1 h)=j:=by
 have:=Rl (Ana h b e) f
 grind
theorem Wq{c:List Int}(f:1<=h)(u:h<=3)(F:c.length=2*h)(C:∀x∈c,x=0\/x=1):Jv c 0 h<2 ^ h/\Jv c 1 h<2 ^ h/\ptM h c=(Gr (Jv c 0 h) h,Gr (Jv c 1 h) h):=by
 obtain⟨j,D,e⟩:=U1 F C;obtain⟨a,b,z⟩:=Afc f u D;rw[e]at a b z;obtain⟨_,e2,e3⟩:=SZ f u a b
 grind
theorem U0(e:1<=h)(f:h<=3)(u:j<2 ^ (2*h)):∃i q,i<2 ^ h/\q<2 ^ h/\j=AcL h i q/\(FI (2*h)).getD j []=Z7 h i q/\ptM h ((FI (2*h)).getD j [])=(Gr i h,Gr q h):=by
 obtain⟨a,b,z⟩:=Afc e f u;obtain⟨_,e2,e3⟩:=SZ e f a b
 grind
theorem AiQ(F G:Nat->Int):∀(n t:Nat),t<n->((List.range n).flatMap fun t=>[F t,G t]).getD (2*t) 0=F t/\((List.range n).flatMap fun t=>[F t,G t]).getD (2*t+1) 0=G t:=by
 have b:∀n,((List.range n).flatMap fun t=>[F t,G t]).length=2*n:=fun n=>by
  induction n with
  | zero=>rfl
  | succ n ih=>rw[Az,Bd,Ai,ih];simp;omega
 intro n
 induction n with
 | zero=>intro t ht;omega
 | succ n ih=>
  intro t ht;rw[Az,Bd]
  by_cases e:t=n
  ·subst e;have f:=b t
   constructor
   ·simp only[List.getD,BL (show((List.range t).flatMap fun t=>[F t,G t]).length<=2*t by omega),f];simp
   ·simp only[List.getD,BL (show((List.range t).flatMap fun t=>[F t,G t]).length<=2*t+1 by omega),f];simp
  grind
theorem QI(ht:t<h):(Z7 h i q).getD (2*t) 0=(J6 i (h-1-t):Int)/\(Z7 h i q).getD (2*t+1) 0=(J6 q (h-1-t):Int):=AiQ (fun t=>(J6 i (h-1-t):Int)) (fun t=>(J6 q (h-1-t):Int)) h t ht
theorem Aab(h:Nat)(x:Int):∀j k,k<j->sqM h x (Mh h x j)<=sqM h x k:=by intro a;induction a<;>grind [sqM,Mh]
theorem least_le(h:Nat)(x:Int)(place b:Nat):∀j i,i<j->J6 i place=b->FB h x place b j<=sqM h x i:=by intro a;induction a<;>grind [J6,FB,sqM]
theorem Aje(h:Nat)(x:Int)(place b:Nat):∀j,FB h x place b j=9223372036854775807\/∃i,i<j/\J6 i place=b/\FB h x place b j=sqM h x i:=by intro a;induction a<;>grind [FB,J6,sqM]
theorem Air(f:place<h)(b:Nat)(e:b=0\/b=1):∃n,n<2 ^ h/\J6 n place=b:=by
 rcases e with rfl | rfl
 ·exact⟨0,C6 h,by simp[J6]⟩
 ·refine⟨2 ^ place,Ez (by omega) f,?_⟩;unfold J6;rw[Nat.div_self (C6 place)]
theorem Wb{x:Int}(u:h<=3)(D: -1000<=x/\x<=1000)(C:place<h)(b:Nat)(f:b=0\/b=1):∃i,i<2 ^ h/\J6 i place=b/\FB h x place b (2 ^ h)=sqM h x i:=by
 rcases Aje h x place b (2 ^ h)with e | e
 ·obtain⟨n,z,e2⟩:=Air C b f;have F:=least_le h x place b (2 ^ h) n z e2;have G:=Akv u D n;omega
 ·exact e
theorem Ab3(M:1<=h)(f:h<=3)(hp:Kn p=true)(ht:t<h)(b:Nat)(hb:b=0\/b=1):Kc h (2*h) p (2*t) b (2 ^ (2*h))=FB h p.1 (h-1-t) b (2 ^ h)+sqM h p.2 (Mh h p.2 (2 ^ h)):=by
 have z:=AQ hp;obtain⟨i,hi,e,ei⟩:=Wb f z.1 (show h-1-t<h by omega) b hb;have hq:=Aaa h p.2 (Ac (2 ^ h));obtain⟨e1,e2,e3⟩:=SZ M f hi hq;obtain⟨j,hj,hx,G⟩:=YW (h:=h) (order:=2*h) p (show 2*t<2*h by omega) (b:Int) (by omega);obtain⟨D,F,u,C,_,T,O⟩:=U0 M f hj;have N:=((PE h (2*h) p (2*t) b (2 ^ (2*h))).1 _ e1 (by rw[e2,(QI ht).1,e])).2;rw[e2,e3]at N;rw[T,(QI ht).1]at hx;rw[O]at G;have l2:=least_le h p.1 (h-1-t) b (2 ^ h) D u (by omega);have l3:=Aab h p.2 (2 ^ h) F C;have U:Oa p (Gr D h,Gr F h)=sqM h p.1 D+sqM h p.2 F:=rfl;have Z:Oa p (Gr i h,Gr (Mh h p.2 (2 ^ h)) h)=sqM h p.1 i+sqM h p.2 (Mh h p.2 (2 ^ h)):=rfl;rw[Z]at N;rw[U]at G;omega
theorem Ab4(M:1<=h)(f:h<=3)(hp:Kn p=true)(ht:t<h)(b:Nat)(hb:b=0\/b=1):Kc h (2*h) p (2*t+1) b (2 ^ (2*h))=sqM h p.1 (Mh h p.1 (2 ^ h))+FB h p.2 (h-1-t) b (2 ^ h):=by
 have z:=AQ hp;obtain⟨i,hi,e,ei⟩:=Wb f z.2 (show h-1-t<h by omega) b hb;have hq:=Aaa h p.1 (Ac (2 ^ h));obtain⟨e1,e2,e3⟩:=SZ M f hq hi;obtain⟨j,hj,hx,G⟩:=YW (h:=h) (order:=2*h) p (show 2*t+1<2*h by omega) (b:Int) (by omega);obtain⟨D,F,u,C,_,T,O⟩:=U0 M f hj;have N:=((PE h (2*h) p (2*t+1) b (2 ^ (2*h))).1 _ e1 (by rw[e2,(QI ht).2,e])).2;rw[e2,e3]at N;rw[T,(QI ht).2]at hx;rw[O]at G;have l2:=least_le h p.2 (h-1-t) b (2 ^ h) F C (by omega);have l3:=Aab h p.1 (2 ^ h) D u;have U:Oa p (Gr D h,Gr F h)=sqM h p.1 D+sqM h p.2 F:=rfl;have Z:Oa p (Gr (Mh h p.1 (2 ^ h)) h,Gr i h)=sqM h p.1 (Mh h p.1 (2 ^ h))+sqM h p.2 i:=rfl;rw[Z]at N;rw[U]at G;omega
theorem ZK(b:1<=h)(e:h<=3)(f:Kn p=true)(ht:t<h):ML h (2*h) p (2*t)=IE h p.1 (h-1-t):=by grind [Kn,ML,IE,Ab3]
theorem ZL(b:1<=h)(e:h<=3)(f:Kn p=true)(ht:t<h):ML h (2*h) p (2*t+1)=IE h p.2 (h-1-t):=by grind [Kn,ML,IE,Ab4]
theorem XF(b:1<=h)(e:h<=3)(f:Kn p=true):∀t,t<=h->Md h (2*h) p (2*t)=KC (IE h p.1) (IE h p.2) h t:=by intro a;induction a<;>grind [Kn,Md,KC,IE,XG,ZK,ZL,QO]
theorem AcC{α β:Type}{f g:α->List β}:∀{l:List α},(∀x∈l,f x=g x)->l.flatMap f=l.flatMap g:=by intro a;induction a<;>grind
theorem Aav(e:1<=h)(f:h<=3)(b:∀k,k<ps.length->Kn (ps.getD k (0,0))=true):Jg (IE h) h ps ps.length=Jq h (2*h) ps ps.length:=by
 unfold Jg Jq;rw[Aw (Ac _)];refine AcC fun p u=>?_
 obtain⟨i,hi,rfl⟩:=A5 u;have:=b i hi;rw[ZC _ _ hi]at this;exact(XF e f this h (Ac _)).symm
theorem Ahu(f:1<=h)(z:h<=3){b:List Int}(D:b.length=n*(2*h))(u:∀x∈b,x=0\/x=1):Py h b (2*h) n n=NK h b (2*h) n:=by
 unfold Py NK;rw[Bm,C4,AA];refine Du fun j C=>?_
 have e:j<n:=Bv.1 C;exact(Wq f z (Mm D e) (fun x F=>u x (BQ (Cr F)))).2.2.symm
def sliR (k:IntKind)(n:Nat)(L:List Int):Value->H->Prop:=fun x w=>∃a c,x= E a n c/\n<=c/\c<=maxLen/\Rd k w a L
theorem O7(k:IntKind)(n:Nat)(L:List Int):MB (sliR k n L):=fun _ _ _ ⟨a,c,b,e,f,u⟩ hg=>⟨a,c,b,e,f,u.below (GJ hg)⟩
theorem sliR.mk(b:n<=c)(e:c<=maxLen)(h:Rd k w a L):sliR k n L (E a n c) w:=⟨a,c,rfl,b,e,h⟩
def tupR (k:IntKind)(n:Nat)(L:List Int):Value->H->Prop:=fun x w=>∃a c,x=.tuple #[E a n c, A d 0]/\n<=c/\c<=maxLen/\Rd k w a L
theorem WQ(k:IntKind)(n:Nat)(L:List Int):MB (tupR k n L):=fun _ _ _ ⟨a,c,b,e,f,u⟩ hg=>⟨a,c,b,e,f,u.below (GJ hg)⟩
theorem tupR.mk(b:n<=c)(e:c<=maxLen)(h:Rd k w a L):tupR k n L (.tuple #[E a n c, A d 0]) w:=⟨a,c,rfl,b,e,h⟩
theorem Nu(w:H)(b:o.op=.fieldAddr 343 x 0)(h:ρ x= V (I ⟨g,s,J⟩)):(execOp ρ o).run prog w=.ok (.value (V (I ⟨g,s,J⟩))) w:=by
 unfold execOp;simp only[b,h];simp[go_sem]
theorem Nv(w:H)(b:o.op=.fieldAddr 343 x 1)(h:ρ x= V (I ⟨g,s,J⟩)):(execOp ρ o).run prog w=.ok (.value (V (I ⟨g,s+1,J⟩))) w:=by
 unfold execOp;simp only[b,h];simp[go_sem]
theorem Yl(w:H)(b:o.op=.fieldAddr 343 x 2)(h:ρ x= V (I ⟨g,s,J⟩)):(execOp ρ o).run prog w=.ok (.value (V (I ⟨g,s+6,J⟩))) w:=by
 unfold execOp;simp only[b,h];simp[go_sem]
theorem Ahp(w:H)(b:o.op=.call {callee:=.builtin .len,args:=#[x],argTypes:=#[103]})(h:ρ x= E a n c):(execOp ρ o).run prog w=.ok (.value (A d n)) w:=by
 unfold execOp;simp only[b];simp[resolve,invoke,builtin,h,go_sem,underlying103]
theorem SR(n:Nat)(b:n<=4096)(w:H):(Instr.makeSlice 103 (A d (n:Int)) (A d (n:Int))).run prog w=.ok (E (I ⟨w.heap.size,0,J⟩) n n) (w.alloc (Y ((List.replicate n (0:Int)).map (Value.int .u8)).toArray 5)):=by
 have h:=run_make_row' (P:=prog) 103 5 (A .u8 0) 1 underlying103 Tryz.Of rfl d d n (by omega) (by omega) w;have e:madeCells #[A .u8 0] n=((List.replicate n (0:Int)).map (Value.int .u8)).toArray:=by
  apply Array.ext';have:=CL (A .u8 0) n;rw[this];simp
 rw[e]at h;exact h
theorem AdF(w:H){y:Operand}(f:o.op=.makeSlice 103 x y)(h:ρ x= A d (n:Int))(b:ρ y= A d (n:Int))(e:n<=4096):(execOp ρ o).run prog w=.ok (.value (E (I ⟨w.heap.size,0,J⟩) n n)) (w.alloc (Y ((List.replicate n (0:Int)).map (Value.int .u8)).toArray 5)):=by
 unfold execOp;simp only[f,h,b];simp[SR n e w,Result.andThen]
def taken(t:Bool)(q q':Int)(b b':List Int):Bool:=!t || decide (q<q') || (decide (q'=q) && ahead b' b)
def Nl:Code->List Code
 | .loop b=>[b]
 | .seq p q=>Nl p++Nl q
 | .cond _ p q=>Nl p++Nl q
 | .block _ b=>Nl b
 | .scope b=>Nl b
 | _=>[]
def Apm (c:Code):Code:=(Nl c).headD .skip
theorem wrap64{x:Int}(b: -9223372036854775808<=x)(e:x<=9223372036854775807):IntKind.i64.wrap x=x:=by simp[IntKind.wrap,IntKind.bits,IntKind.signed];omega
theorem Agf{order:Int}(h:IR ps order=true):(ps.length:Int)*order<=4096/\Aob 1000 ps:=by
 unfold IR at h;rw[BD,BD,Bq]at h;refine⟨h.1.2,fun i=>?_⟩
 by_cases hi:i<ps.length
 ·have e:ps.getD i (0,0)=ps[i]:=by simp[List.getD,hi]
  have:=AM.1 h.2 _ (A4 hi);rw[e];exact AQ this
 grind
theorem Vf{s:List Int}(h:S.code=1->n<=S.size.toNat)(b:S.code=0\/S.code=1):(Hu S n s).length=n:=by grind [Hu,NJ,Qa,KD]
theorem ZA(S:Setg)(n:Nat)(s:List Int):AllBits (Hu S n s):=by
 unfold Hu
 split
 ·exact(Rg _ _ _ _).bits
 ·intro x b;obtain⟨p, -,rfl⟩:=Bb.1 b;exact(OP _ _ _).at p
theorem Alj(x:Int): -1000<=Jd x/\Jd x<=1000:=by
 unfold Jd
 split
 ·omega
 ·split<;>omega
theorem Ams(S:Setg)(ps:List (Int×Int))(k:Nat): -1000<=(I6 S ps).getD k 0/\(I6 S ps).getD k 0<=1000:=by grind [I6,Pz,Jd,Jq,FG]
theorem Tx(S:Setg)(s:List Int)(ps:List (Int×Int))(v:Int):(Jj S s ps v).length=s.length:=by
 unfold Jj
 split
 ·rfl
 ·unfold GV;rw[Pj]
theorem Xt{s:List Int}{v:Int}(h:Fy s=true):Fy (Jj S s ps v)=true:=by grind [Fy,Jj,GV,I6]
theorem Wx{w1:H}{T:TypeId}(b:Below (w.alloc (Y #[A d S.code, A d S.size, A d S.order, A d S.seed, A d S.count] T)).heap.size (w.alloc (Y #[A d S.code, A d S.size, A d S.order, A d S.seed, A d S.count] T)) w1):
 w1.cell? ⟨w.heap.size,0,J⟩=I (A d S.code)/\w1.cell? ⟨w.heap.size,1,J⟩=I (A d S.size)/\w1.cell? ⟨w.heap.size,2,J⟩=I (A d S.order)/\w1.cell? ⟨w.heap.size,3,J⟩=I (A d S.seed)/\w1.cell? ⟨w.heap.size,4,J⟩=I (A d S.count):=by
 have e:=(b.block w.heap.size (by simp)).trans (Am w _);refine⟨?_,?_,?_,?_,?_⟩<;>(rw[Al _ _ _ _ _ _ e];rfl)
theorem UT(s:ByteArray)(n:Nat):AllBits (Fh s n):=fun x b=>by
 obtain⟨i, -,rfl⟩:=Bb.1 b;exact Aiq s i
theorem Aeb(s:ByteArray)(h:s.size<=40)(w:H):Calls prog 189 #[.string s, A d (8*(s.size:Int))] w fun e w'=>∃a c,e= X (.tuple #[E a (8*s.size) c, A d 0])/\Rd .u8 w' a (Fh s (8*s.size))/\Below w.heap.size w w':=by
 have z:Gw s (8*(s.size:Int))=0:=by unfold Gw;rw[Aa (by omega),Aa (by omega)]
 have f:IZ s (8*(s.size:Int))=Fh s (8*s.size):=by unfold IZ;grind
 refine(UU s (8*(s.size:Int)) w (by omega)).mono fun e w' h=>?_
 obtain⟨v,rfl,b,u⟩:=h;rw[f]at b;rw[z];obtain⟨a,c,rfl, -, -,C, -⟩:=b.slice (Gx s (8*s.size));exact⟨a,c,rfl,C,u⟩
theorem Akh(z:List Int)(k:Nat)(a:Option Addr)(c:Nat)(w:H)(f:Rd .u8 w a z)(b:AllBits z)(C:z.length=k)(G:k<=4000):
 Calls prog 188 #[E a k c, A d 3] w fun e w'=>∃a' c',e= X (.tuple #[E a' (k+24) c', A d 0])/\Rd .u8 w' a' (SA z)/\Below w.heap.size w w':=by
 subst C;refine(Amf z 3 a c w f b.bytes (by unfold Lq;rw[Ab (PM b (by omega))];rfl) (by show z.length+24<=4096;omega)).mono fun e w' h=>?_
 obtain⟨v,rfl,D,u⟩:=h;obtain⟨a',c',rfl, -, -,F, -⟩:=D.slice (k:=z.length+24) (QX z);exact⟨a',c',rfl,F,u⟩
theorem AjT(cs:List Int)(n:Nat)(a:Option Addr)(c v k:Nat)(w:H)(C:Col w)(D:Rd .u8 w a cs)(b:AllBits cs)(f:cs.length=n)(z:1<=n)(u:n<=4096)(M:v<=3)(F:k<=4096):
 Calls prog 190 #[E a n c, A d v, A d k] w fun e w'=>∃a' c',e= X (.tuple #[E a' k c', A d 0])/\k<=c'/\c'<=maxLen/\Rd .u8 w' a' (SG cs (I9 n v k))/\Below w.heap.size w w':=by
 refine(AgX cs a n c v k w C D f z u (PM b (f▸u)) M F).mono fun e w' h=>?_
 obtain⟨a',c',rfl,O,G⟩:=h;subst f;have e1:JZ cs v k=SG cs (I9 cs.length v k):=by unfold JZ SG I9;rw[CR];rfl
 obtain⟨N,c2,e2,T,U,Z, -⟩:=G.slice (J0 cs v k)
 grind
theorem AfR(zs:List Int)(k s:Nat)(a:Option Addr)(c:Nat)(w:H)(z:Rd .u8 w a zs)(u:AllBits zs)(F:zs.length=k)(D:k<=4096)(N:s<2147483648):
 Calls prog 194 #[E a k c, A d s] w fun e w'=>∃a' c',e= X (.tuple #[E a' k c', A d 0])/\k<=c'/\c'<=maxLen/\Rd .u8 w' a' (Lk zs (FG s k) k)/\Below w.heap.size w w':=by
 subst F;refine(Zo zs s a c w z u.bits (PM u D) N).mono fun e w' h=>?_
 obtain⟨v,rfl,G,C⟩:=h;obtain⟨a',c',rfl,b,f,M, -⟩:=G.slice (k:=zs.length) (GZ _ _ _);exact⟨a',c',rfl,b,f,M,C⟩
theorem Akl(b:List Int)(k h o n:Nat)(a:Option Addr)(c:Nat)(w:H)(hr:Rd .u8 w a b)(N:AllBits b)(hl:b.length=k)(F:k<=c)(D:c<=maxLen)(M:1<=h)(O:h<=3)(T:o=2*h)(u:k=n*o)(hk:k<=4096):
 Calls prog 193 #[E a k c, A d o] w fun e w'=>∃g,e= X (.tuple #[E (I ⟨g,0,J⟩) n n, A d 0])/\OwnP w' w.heap.size (E (I ⟨g,0,J⟩) n n) (NK h b o n)/\Below w.heap.size w w':=by
 subst hl;have f:∀x∈b,x=0\/x=1:=fun x hx=>by have:=N x hx;omega
 have G:n<=4096:=by
  have:n*1<=n*o:=DZ n (by omega);omega
 refine(Aht b h o n a c w hr F D (PM N hk) M O T u G f).mono fun e w' Z=>?_
 obtain⟨g,rfl,hP,hg,C⟩:=Z;refine⟨g,rfl,?_,C⟩;subst T;have z:=Ahu M O u f;have U:=hP.Apq hg (QY (Ac n)) (by unfold maxLen;omega);rw[z]at U;have e2:(NK h b (2*h) n).length=n:=by simp[NK]
 unfold OwnP;rw[e2];exact U
def AnI (n:Nat)(M:List (Int×Int))(B0:Nat):Value->H->Prop:=fun x w=>∃g,x=.tuple #[E (I ⟨g,0,J⟩) n n, A d 0]/\OwnP w B0 (E (I ⟨g,0,J⟩) n n) M
def AaK (n:Nat)(M:List (Int×Int))(B0:Nat):Value->H->Prop:=fun x w=>∃g,x= E (I ⟨g,0,J⟩) n n/\OwnP w B0 (E (I ⟨g,0,J⟩) n n) M
theorem Ug(h:OwnP w B v ps)(b:Below w.heap.size w w'):OwnP w' B v ps:=OwnT.below (T:=335) h b
theorem Ahc(n:Nat)(M:List (Int×Int))(b:Nat):MB (AnI n M b):=fun _ _ _ ⟨g,e,f⟩ hg=>⟨g,e,Ug f (GJ hg)⟩
theorem Ahb(n:Nat)(M:List (Int×Int))(b:Nat):MB (AaK n M b):=fun _ _ _ ⟨g,e,f⟩ hg=>⟨g,e,Ug f (GJ hg)⟩
theorem Abi{s:ByteArray}:AllBits (SA (Fh s (8*s.size))):=Ahs (UT s _)
theorem AcY(s:ByteArray)(S:Setg)(v:Nat)(w:H)(hR:ReadyL w)(hE:RE S s.size=0)(hv:v<=3)(bl:∀f,Calls prog 185 #[S.val, A d (s.size:Int)] f fun e w'=>e= X (A d 0)/\Below f.heap.size f w')(bw:∀f,Calls prog 186 #[A d (v:Int)] f fun e w'=>e= X (A d 0)/\f=w'):
 Calls prog 161 #[.string s,S.val, A d v] w fun e w'=>∃g n,e= X (.tuple #[E (I ⟨g,0,J⟩) n n, A d 0])/\Below w.heap.size w w'/\OwnP w' w.heap.size (E (I ⟨g,0,J⟩) n n) (Jo S s v):=by
 have hS:=MT hE;have bp:=hS.few;have bt:s.size<=40:=by omega
 have ai:=hS.count;have aj:=hS.order;have ay:=hS.seed;obtain⟨z, ez⟩ := E7 (SA (Fh s (8*s.size)));have a0:z.length=8*s.size+24:=by rw[ez,QX,Gx]
 have az:AllBits z:=by rw[ez];exact Abi
 have ae:((JR S z).length:Int)=Ij S s.size:=Qt a0 hS.code fun e=>(hS.size1 e).1
 have ah:AllBits (JR S z):=AfP az;have bm:1<=(JR S z).length/\(JR S z).length<=4096:=by
  unfold Ij at ae
  rcases hS.code with h | h
  ·rw[Ab h]at ae;omega
  ·rw[Aa (by omega)]at ae;have u:=(hS.size1 h).1;unfold Np at u;have:=AQ u;omega
 obtain⟨O,eO⟩:∃O:Nat,S.order=O:=⟨S.order.toNat,by omega⟩;obtain⟨C,eC⟩:∃C:Nat,S.count=C:=⟨S.count.toNat,by omega⟩;obtain⟨U,eU⟩:∃U:Nat,S.seed=U:=⟨S.seed.toNat,by omega⟩;obtain⟨h,hh⟩:∃h:Nat,O=2*h/\1<=h/\h<=3:=⟨O / 2,by omega⟩;obtain⟨q,hq⟩:∃q:Nat,C=q*O:=by
  refine⟨C / O,?_⟩
  grind
 have bd:Jo S s v=NK h (Lk (SG (JR S z) (I9 (JR S z).length v C)) (FG U C) C) O q:=by
  unfold Jo Xm;rw[<-ez];have e1:(QP S z v).length=C:=by rw[Uo,eC];rfl
  rw[e1];unfold QP;rw[eC,eO,eU,AN,AN,AN,hh.1,show 2*h / 2=h by omega,hq,hh.1,Nat.mul_div_cancel _ (by omega)]
 rw[bd];obtain⟨L, eL⟩ := E7 (JR S z);have c8:=fun f=>Aeb s bt f
 have bv:=fun(f:H) (a:Option Addr) (c:Nat) (h:Rd .u8 f a (Fh s (8*s.size)))=>Akh (Fh s (8*s.size)) (8*s.size) a c f h (UT s _) (Gx _ _) (by omega)
 rw[<-ez]at bv;have bo:=fun(f:H) (a:Option Addr) (c:Nat) (b:ReadyL f) (h:Rd .u8 f a z)=>Sm S s.size z a (8*s.size+24) c f hS b h az a0 rfl
 rw[<-eL]at bo ae ah bm ⊢;obtain⟨N, eN⟩ := E7 L.length;have bs:=fun(f:H) (a:Option Addr) (c:Nat) (b:Col f) (h:Rd .u8 f a L)=>AjT L N a c v C f b h ah eN.symm (by omega) (by omega) hv (by omega)
 rw[<-eN];obtain⟨Z, eZ⟩ := E7 (SG L (I9 N v C));have bi:Z.length=C:=by rw[eZ,Q9,Un]
 have bh:AllBits Z:=by rw[eZ];exact AdY ah _
 rw[<-eZ]at bs ⊢;have bn:=fun(f:H) (a:Option Addr) (c:Nat) (h:Rd .u8 f a Z)=>AfR Z C U a c f h bh bi (by omega) (by omega)
 obtain⟨D, eD⟩ := E7 (Lk Z (FG U C) C);have bf:D.length=C:=by rw[eD,GZ]
 have be:AllBits D:=by rw[eD];exact VD _ _ _
 rw[<-eD]at bn ⊢;have bu:=fun(f:H) (a:Option Addr) (c:Nat) (h':Rd .u8 f a D) (h1:C<=c) (h2:c<=maxLen)=>Akl D C h O q a c f h' be bf h1 h2 hh.2.1 hh.2.2 hh.1 hq (by omega)
 obtain⟨M, eM⟩ := E7 (NK h D O q);rw[<-eM]at bu ⊢;have HN:Hid (L.length=N):=eN.symm;have HC:=hid eC;have HU:=hid eU;have HO:=hid eO;have aq:prog.follows .mixedOrders=true:=by kernel_rfl
 have af:Hid (∀f,Below (w.alloc (Y #[A d S.code, A d S.size, A d S.order, A d S.seed, A d S.count] 286)).heap.size (w.alloc (Y #[A d S.code, A d S.size, A d S.order, A d S.seed, A d S.count] 286)) f->f.cell? ⟨w.heap.size,0,J⟩=I (A d S.code)/\f.cell? ⟨w.heap.size,1,J⟩=I (A d S.size)/\f.cell? ⟨w.heap.size,2,J⟩=I (A d S.order)/\f.cell? ⟨w.heap.size,3,J⟩=I (A d S.seed)/\f.cell? ⟨w.heap.size,4,J⟩=I (A d S.count)):=fun f h=>Wx h
 have aw:Below w.heap.size w (w.alloc (Y #[A d S.code, A d S.size, A d S.order, A d S.seed, A d S.count] 286)):=(Ad _ w).alloc (Ac _) _;have cx:w.heap.size<(w.alloc (Y #[A d S.code, A d S.size, A d S.order, A d S.seed, A d S.count] 286)).heap.size:=by simp
 have cs:=hR.below aw;clear bd eM eD eZ eN eL ez eC eU eO bf be bi bh ae ah bm a0 az hS hE ai aj ay hq hh hv bp;unfold Setg.val;go_enter func161,ntmps161
 go_wp2_with fail;generalize w.alloc (Y #[A d S.code, A d S.size, A d S.order, A d S.seed, A d S.count] 286)=w0 at*;refine(bl _).mono ?_;rintro e w1 ⟨rfl,bj⟩;have bg:∀f,Below w0.heap.size w0 f->ReadyL f:=fun f h=>cs.below h
 go_wp2_with(first
  | (go_at_call 186;refine(bw _).mono ?_;rintro e w2 ⟨rfl,rfl⟩)
  | (go_at_call 189;refine(c8 _).mono ?_;rintro e w3 ⟨a3,c3,rfl,cz,bk⟩)
  | (go_at_call 187;refine(QJ _ _).mono ?_;rintro e w9 ⟨rfl,rfl⟩)
  | (go_at_call 188;refine(bv _ _ _ cz).mono ?_;rintro e w4 ⟨a4,c4,rfl,c6,ct⟩;have aa:=bj.trans ((bk.trans (ct.mono bk.size)).mono bj.size))
  | fail)
 refine Bi (II (Q:=fun e a' w'=>e=.normal/\∃σ:Nat->Value,a'=({tmps:=((Ft _ (tbS [36,37,38,39,40,41,42,43,44,45] 10 σ)).set 11 (σ 9)).toArray,defers:=[]}:Act)/\sliR .u8 C Z (σ 9) w'/\Below w4.heap.size w4 w') 11 10 [36,37,38,39,40,41,42,43,44,45]
  [[10],[4],[36,37],[2],[4],[40],[38,39,41],[42],[42],[43,44]] [2,2,6,6,5,6,7,9,9,10]
  [eqR (E a4 (8*s.size+24) c4),eqR S.val,sliR .u8 N L,eqR (A d (v:Int)),eqR (V (I ⟨w.heap.size,0+4,J⟩)),eqR (A d (C:Int)),tupR .u8 C Z,sliR .u8 C Z,eqR (A d 0),sliR .u8 C Z] w4 aq rfl (by decide) rfl (by decide) (by kernel_rfl) (by kernel_rfl) (by kernel_rfl) (by kernel_rfl) (by kernel_rfl) (by kernel_rfl)
  (by intro R hR;simp only[Ar,Bt,BF]at hR;rcases hR with rfl | rfl | rfl | rfl | rfl | rfl | rfl | rfl | rfl | rfl<;>(first | (exact Lp _) | (exact O7 _ _ _) | (exact WQ _ _ _)))
  (fun i' cw σ ac wc F u b Q K T=>by
   have ax:i'=0\/i'=1\/i'=2\/i'=3\/i'=4\/i'=5\/i'=6\/i'=7\/i'=8\/i'=9:=by omega
   rcases ax with rfl | rfl | rfl | rfl | rfl | rfl | rfl | rfl | rfl | rfl
   ·have b2:=b 10 (by decide);exact E6 rfl rfl (Fd wc rfl b2) (T _ wc (Fb wc) rfl)
   ·have e4:=b 4 (by decide);obtain⟨c0,c1,c2,c3,c4⟩:=af.out wc (aa.trans (F.mono aa.size));exact E6 rfl rfl (Lc (S:=S) wc rfl e4 c0 c1 c2 c3 c4) (T _ wc (Fb wc) rfl)
   ·have b4:ac.eval (.tmp 36)=(E a4 (8*s.size+24) c4):=(b 36 (by decide)).trans (u 0 (by decide) (by kernel_rfl));have b5:ac.eval (.tmp 37)=S.val:=(b 37 (by decide)).trans (u 1 (by decide) (by kernel_rfl));refine FM rfl rfl rfl (enters_of func191 (by kernel_rfl) rfl) (Oj b4 b5) (bo wc _ _ (bg wc (aa.trans (F.mono aa.size))) (c6.below F)) fun e w' G=>?_
    obtain⟨dv,rfl,bq,ad⟩:=G;exact⟨_,rfl,T _ w' (FX ad) (by obtain⟨b0,b1,rfl,bx,bz,a7, -⟩:=bq.slice HN.out;exact sliR.mk bx bz a7)⟩
   ·have e2:=b 2 (by decide);exact E6 rfl rfl (Fd wc rfl e2) (T _ wc (Fb wc) rfl)
   ·have e4:=b 4 (by decide);exact E6 rfl rfl (Abc wc rfl e4) (T _ wc (Fb wc) rfl)
   ·have b8:ac.eval (.tmp 40)=(V (I ⟨w.heap.size,0+4,J⟩)):=(b 40 (by decide)).trans (u 4 (by decide) (by kernel_rfl));obtain⟨c0,c1,c2,c3,c4⟩:=af.out wc (aa.trans (F.mono aa.size));exact E6 rfl rfl (F5 wc rfl b8 (HC.out▸c4)) (T _ wc (Fb wc) rfl)
   ·obtain⟨b0,b1,df,bx,bz,a7⟩:=u 2 (by decide) (by kernel_rfl);have b6:=(b 38 (by decide)).trans df;have b7:ac.eval (.tmp 39)=(A d (v:Int)):=(b 39 (by decide)).trans (u 3 (by decide) (by kernel_rfl));have b9:ac.eval (.tmp 41)=(A d (C:Int)):=(b 41 (by decide)).trans (u 5 (by decide) (by kernel_rfl));refine FM rfl rfl rfl (enters_of func190 (by kernel_rfl) rfl) (Z5 b6 b7 b9) (bs wc _ _ (bg wc (aa.trans (F.mono aa.size))).col a7) fun e w' G=>?_
    obtain⟨a8,ba,rfl,ak,am,ao,ad⟩:=G;exact⟨_,rfl,T _ w' (FX ad) (tupR.mk ak am ao)⟩
   ·obtain⟨a8,ba,a1,ak,am,ao⟩:=u 6 (by decide) (by kernel_rfl);have ar:=(b 42 (by decide)).trans a1;exact E6 rfl rfl (G6 wc rfl ar rfl) (T _ wc (Fb wc) (sliR.mk ak am ao))
   ·obtain⟨a8,ba,a1,ak,am,ao⟩:=u 6 (by decide) (by kernel_rfl);have ar:=(b 42 (by decide)).trans a1;exact E6 rfl rfl (G6 wc rfl ar rfl) (T _ wc (Fb wc) rfl)
   ·obtain⟨dp,ds,dg,c9,dc,dl⟩:=u 7 (by decide) (by kernel_rfl);have ca:=(b 43 (by decide)).trans dg;have cb:ac.eval (.tmp 44)=(A d 0):=(b 44 (by decide)).trans (u 8 (by decide) (by kernel_rfl));refine FM rfl rfl rfl (enters_of func187 (by kernel_rfl) rfl) (Oj ca cb) (QJ _ wc) fun e w' G=>?_
    obtain⟨rfl,rfl⟩:=G
    exact⟨_,rfl,T _ _ (Fb _) (sliR.mk c9 dc dl)⟩)
  (fun σ wc F u=>by
   refine E6 rfl rfl (G5 wc rfl (Fj (t:=tbS [36,37,38,39,40,41,42,43,44,45] 10 σ) 45 (show([36,37,38,39,40,41,42,43,44,45]:List Nat).Nodup by decide) (by kernel_rfl))) ⟨rfl,σ,G4 _ _ _,u 9 (by decide),F⟩)) ?_
 rintro e a' w5 ⟨rfl,σ5,rfl,⟨a5,c5,q5,k5,m5,c7⟩,cu⟩;have ab:=aa.trans (cu.mono aa.size);rw[show tbS [36,37,38,39,40,41,42,43,44,45] 10 σ5=[(36,σ5 0),(37,σ5 1),(38,σ5 2),(39,σ5 3),(40,σ5 4),(41,σ5 5),(42,σ5 6),(43,σ5 7),(44,σ5 8),(45,σ5 9)]from rfl,q5];dsimp only[Ft,List.set,List.append_nil,List.cons_append,List.nil_append]
 go_wp2_with fail
 refine Bi (II (Q:=fun e a' w'=>e=.normal/\∃σ:Nat->Value,a'=({tmps:=((Ft _ (tbS [46,47,48,49,50,51,52,53,54,55,56,57,58,6] 14 σ)).set 7 (A d 0)).toArray,defers:=[]}:Act)/\AaK q M w.heap.size (σ 13) w'/\Below w5.heap.size w5 w') 15 14 [46,47,48,49,50,51,52,53,54,55,56,57,58,6]
  [[11],[4],[47],[46,48],[49],[49],[50,51],[4],[53],[52,54],[55],[55],[56,57],[58]] [3,2,3,4,6,6,9,8,9,10,12,12,13,14]
  [eqR (E a5 C c5),eqR (V (I ⟨w.heap.size,0+3,J⟩)),eqR (A d (U:Int)),tupR .u8 C D,sliR .u8 C D,eqR (A d 0),sliR .u8 C D,eqR (V (I ⟨w.heap.size,0+2,J⟩)),eqR (A d (O:Int)),AnI q M w.heap.size,AaK q M w.heap.size,eqR (A d 0),AaK q M w.heap.size,AaK q M w.heap.size] w5 aq rfl (by decide) rfl (by decide) (by kernel_rfl) (by kernel_rfl) (by kernel_rfl) (by kernel_rfl) (by kernel_rfl) (by kernel_rfl)
  (by intro R hR;simp only[Ar,Bt,BF]at hR;rcases hR with rfl | rfl | rfl | rfl | rfl | rfl | rfl | rfl | rfl | rfl | rfl | rfl | rfl | rfl<;>(first | (exact Lp _) | (exact WQ _ _ _) | (exact O7 _ _ _) | (exact Ahc _ _ _) | (exact Ahb _ _ _)))
  (fun i' cw σ ac wc F u b Q K T=>by
   have ax:i'=0\/i'=1\/i'=2\/i'=3\/i'=4\/i'=5\/i'=6\/i'=7\/i'=8\/i'=9\/i'=10\/i'=11\/i'=12\/i'=13:=by omega
   rcases ax with rfl | rfl | rfl | rfl | rfl | rfl | rfl | rfl | rfl | rfl | rfl | rfl | rfl | rfl
   ·have b3:=b 11 (by decide);exact E6 rfl rfl (Fd wc rfl b3) (T _ wc (Fb wc) rfl)
   ·have e4:=b 4 (by decide);exact E6 rfl rfl (OA wc rfl e4) (T _ wc (Fb wc) rfl)
   ·have cd:ac.eval (.tmp 47)=(V (I ⟨w.heap.size,0+3,J⟩)):=(b 47 (by decide)).trans (u 1 (by decide) (by kernel_rfl));obtain⟨c0,c1,c2,c3,c4⟩:=af.out wc (ab.trans (F.mono ab.size));exact E6 rfl rfl (F5 wc rfl cd (HU.out▸c3)) (T _ wc (Fb wc) rfl)
   ·have cc:ac.eval (.tmp 46)=(E a5 C c5):=(b 46 (by decide)).trans (u 0 (by decide) (by kernel_rfl));have ce:ac.eval (.tmp 48)=(A d (U:Int)):=(b 48 (by decide)).trans (u 2 (by decide) (by kernel_rfl));refine FM rfl rfl rfl (enters_of func194 (by kernel_rfl) rfl) (Oj cc ce) (bn wc _ _ (c7.below F)) fun e w' G=>?_
    obtain⟨a9,bb,rfl,al,an,ap,ad⟩:=G;exact⟨_,rfl,T _ w' (FX ad) (tupR.mk al an ap)⟩
   ·obtain⟨a9,bb,a2,al,an,ap⟩:=u 3 (by decide) (by kernel_rfl);have au:=(b 49 (by decide)).trans a2;exact E6 rfl rfl (G6 wc rfl au rfl) (T _ wc (Fb wc) (sliR.mk al an ap))
   ·obtain⟨a9,bb,a2,al,an,ap⟩:=u 3 (by decide) (by kernel_rfl);have au:=(b 49 (by decide)).trans a2;exact E6 rfl rfl (G6 wc rfl au rfl) (T _ wc (Fb wc) rfl)
   ·obtain⟨dq,dt,dh,da,dd,dm⟩:=u 4 (by decide) (by kernel_rfl);have cf:=(b 50 (by decide)).trans dh;have cg:ac.eval (.tmp 51)=(A d 0):=(b 51 (by decide)).trans (u 5 (by decide) (by kernel_rfl));refine FM rfl rfl rfl (enters_of func187 (by kernel_rfl) rfl) (Oj cf cg) (QJ _ wc) fun e w' G=>?_
    obtain⟨rfl,rfl⟩:=G;exact⟨_,rfl,T _ _ (Fb _) (sliR.mk da dd dm)⟩
   ·have e4:=b 4 (by decide);exact E6 rfl rfl (Abb wc rfl e4) (T _ wc (Fb wc) rfl)
   ·have ci:ac.eval (.tmp 53)=(V (I ⟨w.heap.size,0+2,J⟩)):=(b 53 (by decide)).trans (u 7 (by decide) (by kernel_rfl));obtain⟨c0,c1,c2,c3,c4⟩:=af.out wc (ab.trans (F.mono ab.size));exact E6 rfl rfl (F5 wc rfl ci (HO.out▸c2)) (T _ wc (Fb wc) rfl)
   ·obtain⟨dr,du,di,db,de,dn⟩:=u 6 (by decide) (by kernel_rfl);have ch:=(b 52 (by decide)).trans di;have cj:ac.eval (.tmp 54)=(A d (O:Int)):=(b 54 (by decide)).trans (u 8 (by decide) (by kernel_rfl));refine FM rfl rfl rfl (enters_of func193 (by kernel_rfl) rfl) (Oj ch cj) (bu wc _ _ dn db de) fun e w' G=>?_
    obtain⟨ag,rfl,br,ad⟩:=G;exact⟨_,rfl,T _ w' (FX ad) (show AnI q M w.heap.size _ _ from⟨ag,rfl,OwnP.AoI br (Ak (Db cx) (Ak ab.size F.size))⟩)⟩
   ·obtain⟨ag,a6,bc⟩:=u 9 (by decide) (by kernel_rfl);have av:=(b 55 (by decide)).trans a6;exact E6 rfl rfl (G6 wc rfl av rfl) (T _ wc (Fb wc) (show AaK q M w.heap.size _ _ from⟨ag,rfl,bc⟩))
   ·obtain⟨ag,a6,bc⟩:=u 9 (by decide) (by kernel_rfl);have av:=(b 55 (by decide)).trans a6;exact E6 rfl rfl (G6 wc rfl av rfl) (T _ wc (Fb wc) rfl)
   ·obtain⟨cn,dj,cp⟩:=u 10 (by decide) (by kernel_rfl);have ck:=(b 56 (by decide)).trans dj;have cl:ac.eval (.tmp 57)=(A d 0):=(b 57 (by decide)).trans (u 11 (by decide) (by kernel_rfl));refine FM rfl rfl rfl (enters_of func192 (by kernel_rfl) rfl) (Oj ck cl) (AoL _ wc) fun e w' G=>?_
    obtain⟨rfl,rfl⟩:=G;exact⟨_,rfl,T _ _ (Fb _) (show AaK q M w.heap.size _ _ from⟨cn,rfl,cp⟩)⟩
   ·obtain⟨co,dk,cq⟩:=u 12 (by decide) (by kernel_rfl);have cm:=(b 58 (by decide)).trans dk
    exact E6 rfl rfl (G5 wc rfl cm) (T _ wc (Fb wc) (show AaK q M w.heap.size _ _ from⟨co,rfl,cq⟩)))
  (fun σ wc F u=>by
   refine E6 rfl rfl (G5 wc rfl rfl) ⟨rfl,σ,G4 _ _ _,u 13 (by decide),F⟩)) ?_
 rintro e a' w6 ⟨rfl,σ6,rfl,⟨g6,q6,cy⟩,cv⟩;rw[show tbS [46,47,48,49,50,51,52,53,54,55,56,57,58,6] 14 σ6=[(46,σ6 0),(47,σ6 1),(48,σ6 2),(49,σ6 3),(50,σ6 4),(51,σ6 5),(52,σ6 6),(53,σ6 7),(54,σ6 8),(55,σ6 9),(56,σ6 10),(57,σ6 11),(58,σ6 12),(6,σ6 13)]from rfl,q6];dsimp only[Ft,List.set,List.append_nil,List.cons_append,List.nil_append];have cr:=aw.trans ((ab.trans (cv.mono ab.size)).mono aw.size)
 go_wp2_with fail
 go_ret2;exact⟨g6,q,rfl,cr,cy⟩
def BoxR (W:H)(B:Nat)(t:TypeId)(r:List Value)(u:Value):Prop:=W.heap[B]?=I (Y (u::r).toArray t (0,0))
theorem BoxR.lt{t:TypeId}(h:BoxR W B t r v):B<W.heap.size:=(Array.getElem?_eq_some_iff.1 h).1
theorem BoxR.cell{W:H}{B:Nat}{t:TypeId}{r:List Value}{v:Value}(h:BoxR W B t r v):W.cell? ⟨B,0,J⟩=I v:=by simp[World.cell?,show W.heap[B]?=_ from h]
theorem BoxR.frozen{W:H}{B:Nat}{t:TypeId}{r:List Value}{v:Value}(h:BoxR W B t r v):W.frozen? ⟨B,0,J⟩=false:=by simp[World.frozen?,show W.heap[B]?=_ from h]
theorem BoxR.set{t:TypeId}(v':Value)(h:BoxR W B t r v):BoxR (W.setCell ⟨B,0,J⟩ v') B t r v':=by
 obtain⟨b,e⟩:=Array.getElem?_eq_some_iff.1 h
 show(W.heap.modify B _)[B]?=_
 grind
theorem BoxR.of{t:TypeId}(h:Boxed W B t v):BoxR W B t [] v:=h
theorem BoxR.old{t:TypeId}{u:Value}(h:BoxR w B t r u)(b:Below w.heap.size w w'):BoxR w' B t r u:=(b.block B h.lt).trans h
def BufR (t:TypeId)(r:List Value)(w:H)(p:Addr)(S:List Nat)(s:List Int):Prop:=
 ∃b g,p=⟨b,0,J⟩/\S=[b,g]/\b≠g/\BoxR w b t r (E (I ⟨g,0,J⟩) s.length s.length)/\ArrAt d 3 w g s
def Aoa (w:H)(p:Addr)(S:List Nat)(s:List Int):Prop:=BufR 337 [] w p S s
theorem BufR.lt{t:TypeId}{r:List Value}{w:H}{p:Addr}{S:List Nat}{s:List Int}(h:BufR t r w p S s):∀x∈S,x<w.heap.size:=by
 obtain⟨b,g,rfl,rfl,_,f,hg⟩:=h;intro x e;simp at e
 rcases e with rfl | rfl
 ·exact f.lt
 ·exact hg.lt
theorem BufR.kept{t:TypeId}{r:List Value}{w w':H}{p:Addr}{S T:List Nat}{s:List Int}(h:BufR t r w p S s)(u:Kept T w w')(z:∀x∈S,x∉T):BufR t r w' p S s:=by
 obtain⟨b,g,rfl,rfl,e,f,hg⟩:=h;exact⟨b,g,rfl,rfl,e,(u.block b f.lt (z b (by simp))).trans f,hg.kept u (z g (by simp))⟩
theorem AlP(n:Nat)(w:H)(F:1<=n)(G:n<=4096):Calls prog 197 #[A d n] w fun e w'=>∃p S,e= X (.tuple #[V (I p), A d 0])/\Aoa w' p S (List.replicate n 0)/\(∀x∈S,w.heap.size<=x)/\Below w.heap.size w w':=by
 have C:=Pg (n:Int) w;rw[show IJ (n:Int)=0 by unfold IJ;rw[show RG (n:Int)=true from Ag (by omega)];rfl]at C;go_enter func197,ntmps197
 go_wp2_with(first | (go_at_call 226;refine C.mono ?_;rintro e w1 ⟨rfl,rfl⟩) | (refine FZ w.heap.size w n rfl _ _ rfl _ _ rfl rfl rfl rfl (by omega) (Ad _ _) (Ac _) ?_;intro w1 b f D u;obtain⟨z, -, -⟩:=b.arr;clear b u))
 go_ret2;exact⟨_,_,rfl,⟨w1.heap.size,w.heap.size,rfl,rfl,by omega,by rw[A7];exact BoxR.of (Boxed.new w1 _ _),z.alloc _⟩,by simp;omega,f.alloc (by omega) _⟩
theorem Abu{t:TypeId}{p:Addr}{S:List Nat}{s:List Int}(Z:BufR t r w p S s)(U:1<=s.length)(hn:s.length<=4096):
 Calls prog 237 #[V (I p)] w fun e w'=>∃g',e= X (E (I ⟨g',0,J⟩) s.length s.length)/\ArrAt d 3 w' g' s/\w.heap.size<=g'/\Below w.heap.size w w':=by
 obtain⟨b,g,rfl,rfl,ab,O,hg⟩:=Z;have M:=O.cell;obtain⟨n, F⟩ := E7 s.length;have G:=hid F;rw[<-F]at U hn M O;rw[<-F];clear F;go_enter func237,ntmps237
 go_wp2_with(first
  | (refine FZ w.heap.size w n rfl _ _ rfl _ _ rfl rfl rfl rfl (by omega) (Ad _ _) (Ac _) ?_;intro w1 u f T z;obtain⟨C, -, -⟩:=u.arr;clear u z;have aa:=(f.cell (Aj w _ M)).trans M)
  | (refine NP C (by simp) (WH (hg.below f hg.lt) G.out.symm) G.out.symm (Ac _) rfl _ _ rfl rfl rfl ?_;intro w2 D N))
 go_ret;refine⟨w.heap.size,rfl,?_,Ac _,f.trans (N.below f.size (by simp))⟩
 rwa [Aw (by rw[<-G.out];exact Ac _)]at D
theorem Ak5{p:Addr}(a:Option Addr)(c:Nat)(xs:List Int)(v:Int)(M:Rd d w a xs)(C:xs.length<=maxLen)(ht:OD xs v=false):
 Calls prog 199 #[V (I p), E a xs.length c, A d v] w fun e w'=>e= X (A d 1)/\Below w.heap.size w w':=by
 have f:Below w.heap.size w (w.alloc (Y #[E a xs.length c] 74)):=(Ad _ w).alloc (Ac _) _;have b:=MH xs a c (w.alloc (Y #[E a xs.length c] 74)) (M.below f) C;have u:=Kh v (w.alloc (Y #[E a xs.length c] 74));have N:xs.length<=9223372036854775807:=by unfold maxLen at C;omega
 cases z:Fy xs with
 | false=>
  rw[show Gv xs=1 by unfold Gv;rw[z];rfl]at b;clear u ht z C;go_enter func199,ntmps199
  go_wp2_with(first | (go_at_call 236;refine b.mono ?_;rintro e w1 ⟨rfl,rfl⟩));go_ret;exact⟨rfl,f⟩
 | true=>
  rw[show Gv xs=0 by unfold Gv;rw[z];rfl]at b
  by_cases D:4096<xs.length
  ·have G:decide ((4096:Int)<(xs.length:Int))=true:=Ag (by omega);clear u ht z D C;go_enter func199,ntmps199
   go_wp2_with(first | (go_at_call 236;refine b.mono ?_;rintro e w1 ⟨rfl,rfl⟩));go_ret;exact⟨rfl,f⟩
  ·have G:decide ((4096:Int)<(xs.length:Int))=false:=Ae (by omega);have F:LO v=false:=by
    cases h:LO v with
    | false=>rfl
    | true=>unfold OD at ht;grind
   rw[show Ku v=1 by unfold Ku;rw[F];rfl]at u;clear ht z D F C;go_enter func199,ntmps199
   go_wp2_with(first | (go_at_call 236;refine b.mono ?_;rintro e w1 ⟨rfl,rfl⟩) | (go_at_call 227;refine u.mono ?_;rintro e w1 ⟨rfl,rfl⟩));go_ret;exact⟨rfl,f⟩
end Go.Proofs.YtbjgfoiikhbonahGreatDoor
