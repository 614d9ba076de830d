import Derived.Test.YtbjgfoiikhbonahGreatDoorD09
import Derived.Deep.RegionWith
import Derived.BigRegion
import Derived.Test.YtbjgfoiikhbonahGreatDoorD07
set_option linter.unusedVariables false
set_option linter.unusedSimpArgs false
set_option maxRecDepth 100000
set_option maxHeartbeats 4000000
namespace Go.Proofs.YtbjgfoiikhbonahGreatDoor
open Go.ChangeShapes Go.WideShapes Go.ChangeAt Go.RowKit Go.Shelf Go.Proofs.Tryz
open Value (int slice)
open IntKind (i64)
variable {B c g h i j n place q s t:Nat}{L:List Int}{S:Setg}{W w w':World}{a:Option Addr}{k:IntKind}{o:Oper}{p:Int×Int}{ps:List (Int×Int)}{r:List Value}{v:Value}{x:Operand}{ρ:Operand->Value}
def Z7 (h i q:Nat):List Int:=(List.range h).flatMap fun t=>[(J6 i (h-1-t):Int),(J6 q (h-1-t):Int)]
def AcL (h i q:Nat):Nat:=(Z7 h i q).foldl (fun acc x=>2*acc+x.toNat) 0
def Aol (h:Nat):Bool:=(List.range (2 ^ h)).all fun i=>(List.range (2 ^ h)).all fun q=>decide (AcL h i q<2 ^ (2*h)) && (decide ((FI (2*h)).getD (AcL h i q) []=Z7 h i q) && decide (ptM h (Z7 h i q)=(Gr i h,Gr q h)))
def Aom (h:Nat):Bool:=(List.range (2 ^ (2*h))).all fun j=>decide (Jv ((FI (2*h)).getD j []) 0 h<2 ^ h) && (decide (Jv ((FI (2*h)).getD j []) 1 h<2 ^ h) && decide (AcL h (Jv ((FI (2*h)).getD j []) 0 h) (Jv ((FI (2*h)).getD j []) 1 h)=j))
theorem Am9:∀h,1<=h->h<=3->Aol h=true
 | 1,_,_=>by decide+kernel
 | 2,_,_=>by decide+kernel
 | 3,_,_=>by decide+kernel
 | h+4,_,_=>by omega
theorem Ana:∀h,1<=h->h<=3->Aom h=true
 | 1,_,_=>by decide+kernel
 | 2,_,_=>by decide+kernel
 | 3,_,_=>by decide+kernel
 | h+4,_,_=>by omega
theorem Rl{f:Nat->Bool}(h:(List.range n).all f=true)(hi:i<n):f i=true:=AM.1 h i (Bv.2 hi)
theorem SZ(b:1<=h)(d:h<=3)(hi:i<2 ^ h)(e:q<2 ^ h):AcL h i q<2 ^ (2*h)/\(FI (2*h)).getD (AcL h i q) []=Z7 h i q/\ptM h (Z7 h i q)=(Gr i h,Gr q h):=by
 have:=Rl (Rl (Am9 h b d) hi) e
 grind
theorem Afc(b:1<=h)(d:h<=3)(e:j<2 ^ (2*h)):Jv ((FI (2*h)).getD j []) 0 h<2 ^ h/\Jv ((FI (2*h)).getD j []) 1 h<2 ^ h/\AcL h (Jv ((FI (2*h)).getD j []) 0 h) (Jv ((FI (2*h)).getD j []) 1 h)=j:=by
 have:=Rl (Ana h b d) e
 grind
theorem Wq{c:List Int}(d:1<=h)(l:h<=3)(u:c.length=2*h)(f:∀x∈c,x=0\/x=1):Jv c 0 h<2 ^ h/\Jv c 1 h<2 ^ h/\ptM h c=(Gr (Jv c 0 h) h,Gr (Jv c 1 h) h):=by
 obtain⟨j,m,e⟩:=U1 u f;obtain⟨a,b,y⟩:=Afc d l m
 grind [SZ]
theorem U0(d:1<=h)(e:h<=3)(f:j<2 ^ (2*h)):∃i q,i<2 ^ h/\q<2 ^ h/\j=AcL h i q/\(FI (2*h)).getD j []=Z7 h i q/\ptM h ((FI (2*h)).getD j [])=(Gr i h,Gr q h):=by
 obtain⟨a,b,l⟩:=Afc d e f
 grind [SZ]
theorem AiQ(F G:Nat->Int):∀(n t:Nat),t<n->((List.range n).flatMap fun t=>[F t,G t]).getD (2*t) 0=F t/\((List.range n).flatMap fun t=>[F t,G t]).getD (2*t+1) 0=G t:=by
 have b:∀n,((List.range n).flatMap fun t=>[F t,G t]).length=2*n:=fun n=>by
  induction n with
  | zero=>rfl
  | succ n ih=>rw[Az,Bd,Ai,ih];simp;omega
 intro n
 induction n with
 | zero=>intro t ht;omega
 | succ n ih=>
  intro t ht;rw[Az,Bd]
  by_cases e:t=n
  ·subst e;have d:=b t
   constructor
   ·simp only[List.getD,BL (show((List.range t).flatMap fun t=>[F t,G t]).length<=2*t by omega),d];simp
   ·simp only[List.getD,BL (show((List.range t).flatMap fun t=>[F t,G t]).length<=2*t+1 by omega),d];simp
  grind
theorem QI(ht:t<h):(Z7 h i q).getD (2*t) 0=(J6 i (h-1-t):Int)/\(Z7 h i q).getD (2*t+1) 0=(J6 q (h-1-t):Int):=AiQ (fun t=>(J6 i (h-1-t):Int)) (fun t=>(J6 q (h-1-t):Int)) h t ht
theorem Aab(h:Nat)(x:Int):∀j k,k<j->sqM h x (Mh h x j)<=sqM h x k:=by intro a;induction a<;>grind [sqM,Mh]
theorem least_le(h:Nat)(x:Int)(place b:Nat):∀j i,i<j->J6 i place=b->FB h x place b j<=sqM h x i:=by intro a;induction a<;>grind [J6,FB,sqM]
theorem Aje(h:Nat)(x:Int)(place b:Nat):∀j,FB h x place b j=9223372036854775807\/∃i,i<j/\J6 i place=b/\FB h x place b j=sqM h x i:=by intro a;induction a<;>grind [FB,J6,sqM]
theorem Air(e:place<h)(b:Nat)(d:b=0\/b=1):∃n,n<2 ^ h/\J6 n place=b:=by
 rcases d with rfl | rfl
 ·exact⟨0,C6 h,by simp[J6]⟩
 ·refine⟨2 ^ place,Ez (by omega) e,?_⟩;unfold J6;rw[Nat.div_self (C6 place)]
theorem Wb{x:Int}(f:h<=3)(u: -1000<=x/\x<=1000)(m:place<h)(b:Nat)(d:b=0\/b=1):∃i,i<2 ^ h/\J6 i place=b/\FB h x place b (2 ^ h)=sqM h x i:=by
 rcases Aje h x place b (2 ^ h)with e | e
 ·obtain⟨n,l,e2⟩:=Air m b d;have y:=least_le h x place b (2 ^ h) n l e2;have z:=Akv f u n;omega
 ·exact e
theorem Ab3(u:1<=h)(e:h<=3)(E:Kn p=true)(ht:t<h)(b:Nat)(C:b=0\/b=1):Kc h (2*h) p (2*t) b (2 ^ (2*h))=FB h p.1 (h-1-t) b (2 ^ h)+sqM h p.2 (Mh h p.2 (2 ^ h)):=by
 have l:=AQ E;obtain⟨i,hi,d,K⟩:=Wb e l.1 (show h-1-t<h by omega) b C;have F:=Aaa h p.2 (Ac (2 ^ h));obtain⟨e1,e2,e3⟩:=SZ u e hi F;obtain⟨j,D,G,y⟩:=YW (h:=h) (order:=2*h) p (show 2*t<2*h by omega) (b:Int) (by omega);obtain⟨H,J,f,m,_,A,z⟩:=U0 u e D;have I:=((PE h (2*h) p (2*t) b (2 ^ (2*h))).1 _ e1 (by rw[e2,(QI ht).1,d])).2;rw[e2,e3]at I;rw[A,(QI ht).1]at G;rw[z]at y;have M:=least_le h p.1 (h-1-t) b (2 ^ h) H f (by omega);have N:=Aab h p.2 (2 ^ h) J m
 grind [Oa,Gr,sqM,Mh]
theorem Ab4(u:1<=h)(e:h<=3)(E:Kn p=true)(ht:t<h)(b:Nat)(C:b=0\/b=1):Kc h (2*h) p (2*t+1) b (2 ^ (2*h))=sqM h p.1 (Mh h p.1 (2 ^ h))+FB h p.2 (h-1-t) b (2 ^ h):=by
 have l:=AQ E;obtain⟨i,hi,d,K⟩:=Wb e l.2 (show h-1-t<h by omega) b C;have F:=Aaa h p.1 (Ac (2 ^ h));obtain⟨e1,e2,e3⟩:=SZ u e F hi;obtain⟨j,D,G,y⟩:=YW (h:=h) (order:=2*h) p (show 2*t+1<2*h by omega) (b:Int) (by omega);obtain⟨H,J,f,m,_,A,z⟩:=U0 u e D;have I:=((PE h (2*h) p (2*t+1) b (2 ^ (2*h))).1 _ e1 (by rw[e2,(QI ht).2,d])).2;rw[e2,e3]at I;rw[A,(QI ht).2]at G;rw[z]at y;have M:=least_le h p.2 (h-1-t) b (2 ^ h) J m (by omega);have N:=Aab h p.1 (2 ^ h) H f
 grind [Oa,Gr,sqM,Mh]
theorem ZK(b:1<=h)(d:h<=3)(e:Kn p=true)(ht:t<h):ML h (2*h) p (2*t)=IE h p.1 (h-1-t):=by grind [Kn,ML,IE,Ab3]
theorem ZL(b:1<=h)(d:h<=3)(e:Kn p=true)(ht:t<h):ML h (2*h) p (2*t+1)=IE h p.2 (h-1-t):=by grind [Kn,ML,IE,Ab4]
theorem XF(b:1<=h)(d:h<=3)(e:Kn p=true):∀t,t<=h->Md h (2*h) p (2*t)=KC (IE h p.1) (IE h p.2) h t:=by intro a;induction a<;>grind [Kn,Md,KC,IE,XG,ZK,ZL,QO]
theorem AcC{α β:Type}{f g:α->List β}:∀{l:List α},(∀x∈l,f x=g x)->l.flatMap f=l.flatMap g:=by intro a;induction a<;>grind
theorem Aav(e:1<=h)(f:h<=3)(b:∀k,k<ps.length->Kn (ps.getD k (0,0))=true):Jg (IE h) h ps ps.length=Jq h (2*h) ps ps.length:=by
 unfold Jg Jq;rw[Aw (Ac _)];refine AcC fun p d=>?_
 obtain⟨i,hi,rfl⟩:=A5 d
 grind [ZC,XF]
theorem Ahu(e:1<=h)(l:h<=3){b:List Int}(u:b.length=n*(2*h))(f:∀x∈b,x=0\/x=1):Py h b (2*h) n n=NK h b (2*h) n:=by
 unfold Py NK;rw[Bm,C4,AA];refine Du fun j m=>?_
 have d:j<n:=Bv.1 m;exact(Wq e l (Mm u d) (fun x y=>f x (BQ (Cr y)))).2.2.symm
def sliR (k:IntKind)(n:Nat)(L:List Int):Value->World->Prop:=fun x w=>∃a c,x=slice a n c/\n<=c/\c<=maxLen/\Rd k w a L
theorem O7(k:IntKind)(n:Nat)(L:List Int):MB (sliR k n L):=fun _ _ _ ⟨a,c,b,d,e,f⟩ hg=>⟨a,c,b,d,e,f.below (GJ hg)⟩
theorem sliR.mk(b:n<=c)(d:c<=maxLen)(h:Rd k w a L):sliR k n L (slice a n c) w:=⟨a,c,rfl,b,d,h⟩
def tupR (k:IntKind)(n:Nat)(L:List Int):Value->World->Prop:=fun x w=>∃a c,x=.tuple #[slice a n c,int i64 0]/\n<=c/\c<=maxLen/\Rd k w a L
theorem WQ(k:IntKind)(n:Nat)(L:List Int):MB (tupR k n L):=fun _ _ _ ⟨a,c,b,d,e,f⟩ hg=>⟨a,c,b,d,e,f.below (GJ hg)⟩
theorem tupR.mk(b:n<=c)(d:c<=maxLen)(h:Rd k w a L):tupR k n L (.tuple #[slice a n c,int i64 0]) w:=⟨a,c,rfl,b,d,h⟩
theorem Nu(w:World)(b:o.op=.fieldAddr 343 x 0)(h:ρ x=.pointer (some ⟨g,s,none⟩)):(execOp ρ o).run prog w=.ok (.value (.pointer (some ⟨g,s,none⟩))) w:=by
 unfold execOp;simp only[b,h];simp[go_sem]
theorem Nv(w:World)(b:o.op=.fieldAddr 343 x 1)(h:ρ x=.pointer (some ⟨g,s,none⟩)):(execOp ρ o).run prog w=.ok (.value (.pointer (some ⟨g,s+1,none⟩))) w:=by
 unfold execOp;simp only[b,h];simp[go_sem]
theorem Yl(w:World)(b:o.op=.fieldAddr 343 x 2)(h:ρ x=.pointer (some ⟨g,s,none⟩)):(execOp ρ o).run prog w=.ok (.value (.pointer (some ⟨g,s+6,none⟩))) w:=by
 unfold execOp;simp only[b,h];simp[go_sem]
theorem Ahp(w:World)(b:o.op=.call {callee:=.builtin .len,args:=#[x],argTypes:=#[103]})(h:ρ x=slice a n c):(execOp ρ o).run prog w=.ok (.value (int i64 n)) w:=by
 unfold execOp;simp only[b];simp[resolve,invoke,builtin,h,go_sem,underlying103]
theorem SR(n:Nat)(b:n<=4096)(w:World):(Instr.makeSlice 103 (int i64 (n:Int)) (int i64 (n:Int))).run prog w=.ok (slice (some ⟨w.heap.size,0,none⟩) n n) (w.alloc (.cells ((List.replicate n (0:Int)).map (Value.int .u8)).toArray 5)):=by
 have h:=run_make_row' (P:=prog) 103 5 (int .u8 0) 1 underlying103 Tryz.Of rfl i64 i64 n (by omega) (by omega) w;have e:madeCells #[int .u8 0] n=((List.replicate n (0:Int)).map (Value.int .u8)).toArray:=by
  apply Array.ext';have:=CL (int .u8 0) n;rw[this];simp
 rw[e]at h;exact h
theorem AdF(w:World){y:Operand}(e:o.op=.makeSlice 103 x y)(h:ρ x=int i64 (n:Int))(b:ρ y=int i64 (n:Int))(d:n<=4096):(execOp ρ o).run prog w=.ok (.value (slice (some ⟨w.heap.size,0,none⟩) n n)) (w.alloc (.cells ((List.replicate n (0:Int)).map (Value.int .u8)).toArray 5)):=by
 unfold execOp;simp only[e,h,b];simp[SR n d w,Result.andThen]
def taken(t:Bool)(q q':Int)(b b':List Int):Bool:=!t || decide (q<q') || (decide (q'=q) && ahead b' b)
def Nl:Code->List Code
 | .loop b=>[b]
 | .seq p q=>Nl p++Nl q
 | .cond _ p q=>Nl p++Nl q
 | .block _ b=>Nl b
 | .scope b=>Nl b
 | _=>[]
def Apm (c:Code):Code:=(Nl c).headD .skip
theorem wrap64{x:Int}(b: -9223372036854775808<=x)(d:x<=9223372036854775807):IntKind.i64.wrap x=x:=by simp[IntKind.wrap,IntKind.bits,IntKind.signed];omega
theorem Agf{order:Int}(h:IR ps order=true):(ps.length:Int)*order<=4096/\Aob 1000 ps:=by
 unfold IR at h;rw[BD,BD,Bq]at h;refine⟨h.1.2,fun i=>?_⟩
 by_cases hi:i<ps.length
 ·have e:ps.getD i (0,0)=ps[i]:=by simp[List.getD,hi]
  have:=AM.1 h.2 _ (A4 hi);rw[e];exact AQ this
 grind
theorem Vf{s:List Int}(h:S.code=1->n<=S.size.toNat)(b:S.code=0\/S.code=1):(Hu S n s).length=n:=by grind [Hu,NJ,Qa,KD]
theorem ZA(S:Setg)(n:Nat)(s:List Int):AllBits (Hu S n s):=by
 unfold Hu
 split
 ·exact(Rg _ _ _ _).bits
 ·intro x b;obtain⟨p, -,rfl⟩:=Bb.1 b;exact(OP _ _ _).at p
theorem Alj(x:Int): -1000<=Jd x/\Jd x<=1000:=by
 unfold Jd
 split
 ·omega
 ·split<;>omega
theorem Ams(S:Setg)(ps:List (Int×Int))(k:Nat): -1000<=(I6 S ps).getD k 0/\(I6 S ps).getD k 0<=1000:=by grind [I6,Pz,Jd,Jq,FG]
theorem Tx(S:Setg)(s:List Int)(ps:List (Int×Int))(v:Int):(Jj S s ps v).length=s.length:=by
 unfold Jj
 split
 ·rfl
 ·unfold GV;rw[Pj]
theorem Xt{s:List Int}{v:Int}(h:Fy s=true):Fy (Jj S s ps v)=true:=by grind [Fy,Jj,GV,I6]
theorem Wx{w1:World}{T:TypeId}(b:Below (w.alloc (.cells #[int i64 S.code,int i64 S.size,int i64 S.order,int i64 S.seed,int i64 S.count] T)).heap.size (w.alloc (.cells #[int i64 S.code,int i64 S.size,int i64 S.order,int i64 S.seed,int i64 S.count] T)) w1):
 w1.cell? ⟨w.heap.size,0,none⟩=some (int i64 S.code)/\w1.cell? ⟨w.heap.size,1,none⟩=some (int i64 S.size)/\w1.cell? ⟨w.heap.size,2,none⟩=some (int i64 S.order)/\w1.cell? ⟨w.heap.size,3,none⟩=some (int i64 S.seed)/\w1.cell? ⟨w.heap.size,4,none⟩=some (int i64 S.count):=by
 have d:=(b.block w.heap.size (by simp)).trans (Am w _);refine⟨?_,?_,?_,?_,?_⟩<;>(rw[Al _ _ _ _ _ _ d];rfl)
theorem UT(s:ByteArray)(n:Nat):AllBits (Fh s n):=fun x b=>by
 obtain⟨i, -,rfl⟩:=Bb.1 b;exact Aiq s i
theorem Aeb(s:ByteArray)(h:s.size<=40)(w:World):Calls prog 189 #[.string s,int i64 (8*(s.size:Int))] w fun e w'=>∃a c,e=.returned (.tuple #[slice a (8*s.size) c,int i64 0])/\Rd .u8 w' a (Fh s (8*s.size))/\Below w.heap.size w w':=by
 have l:Gw s (8*(s.size:Int))=0:=by unfold Gw;rw[Aa (by omega),Aa (by omega)]
 have d:IZ s (8*(s.size:Int))=Fh s (8*s.size):=by grind [IZ]
 refine(UU s (8*(s.size:Int)) w (by omega)).mono fun e w' h=>?_
 obtain⟨v,rfl,b,f⟩:=h;rw[d]at b;rw[l];obtain⟨a,c,rfl, -, -,m, -⟩:=b.slice (Gx s (8*s.size));exact⟨a,c,rfl,m,f⟩
theorem Akh(z:List Int)(k:Nat)(a:Option Addr)(c:Nat)(w:World)(d:Rd .u8 w a z)(b:AllBits z)(l:z.length=k)(y:k<=4000):
 Calls prog 188 #[slice a k c,int i64 3] w fun e w'=>∃a' c',e=.returned (.tuple #[slice a' (k+24) c',int i64 0])/\Rd .u8 w' a' (SA z)/\Below w.heap.size w w':=by
 subst l;refine(Amf z 3 a c w d b.bytes (by unfold Lq;rw[Ab (PM b (by omega))];rfl) (by show z.length+24<=4096;omega)).mono fun e w' h=>?_
 obtain⟨v,rfl,m,f⟩:=h;obtain⟨a',c',rfl, -, -,u, -⟩:=m.slice (k:=z.length+24) (QX z);exact⟨a',c',rfl,u,f⟩
theorem AjT(cs:List Int)(n:Nat)(a:Option Addr)(c v k:Nat)(w:World)(m:Col w)(u:Rd .u8 w a cs)(b:AllBits cs)(d:cs.length=n)(l:1<=n)(f:n<=4096)(A:v<=3)(y:k<=4096):
 Calls prog 190 #[slice a n c,int i64 v,int i64 k] w fun e w'=>∃a' c',e=.returned (.tuple #[slice a' k c',int i64 0])/\k<=c'/\c'<=maxLen/\Rd .u8 w' a' (SG cs (I9 n v k))/\Below w.heap.size w w':=by
 refine(AgX cs a n c v k w m u d l f (PM b (d▸f)) A y).mono fun e w' h=>?_
 obtain⟨a',c',rfl,D,z⟩:=h;subst d;have e1:JZ cs v k=SG cs (I9 cs.length v k):=by unfold JZ SG I9;rw[CR];rfl
 obtain⟨C,c2,e2,E,F,G, -⟩:=z.slice (J0 cs v k)
 grind
theorem AfR(zs:List Int)(k s:Nat)(a:Option Addr)(c:Nat)(w:World)(l:Rd .u8 w a zs)(f:AllBits zs)(y:zs.length=k)(u:k<=4096)(C:s<2147483648):
 Calls prog 194 #[slice a k c,int i64 s] w fun e w'=>∃a' c',e=.returned (.tuple #[slice a' k c',int i64 0])/\k<=c'/\c'<=maxLen/\Rd .u8 w' a' (Lk zs (FG s k) k)/\Below w.heap.size w w':=by
 subst y;refine(Zo zs s a c w l f.bits (PM f u) C).mono fun e w' h=>?_
 obtain⟨v,rfl,z,m⟩:=h;obtain⟨a',c',rfl,b,d,A, -⟩:=z.slice (k:=zs.length) (GZ _ _ _);exact⟨a',c',rfl,b,d,A,m⟩
theorem Akl(b:List Int)(k h o n:Nat)(a:Option Addr)(c:Nat)(w:World)(K:Rd .u8 w a b)(C:AllBits b)(J:b.length=k)(y:k<=c)(u:c<=maxLen)(A:1<=h)(D:h<=3)(E:o=2*h)(f:k=n*o)(I:k<=4096):
 Calls prog 193 #[slice a k c,int i64 o] w fun e w'=>∃g,e=.returned (.tuple #[slice (some ⟨g,0,none⟩) n n,int i64 0])/\OwnP w' w.heap.size (slice (some ⟨g,0,none⟩) n n) (NK h b o n)/\Below w.heap.size w w':=by
 subst J;have d:∀x∈b,x=0\/x=1:=fun x M=>by have:=C x M;omega
 have z:n<=4096:=by
  have:n*1<=n*o:=DZ n (by omega);omega
 refine(Aht b h o n a c w K y u (PM C I) A D E f z d).mono fun e w' G=>?_
 obtain⟨g,rfl,H,hg,m⟩:=G;refine⟨g,rfl,?_,m⟩;subst E;have l:=Ahu A D f d;have F:=H.Apq hg (QY (Ac n)) (by unfold maxLen;omega);rw[l]at F;have e2:(NK h b (2*h) n).length=n:=by simp[NK]
 unfold OwnP;rw[e2];exact F
def AnI (n:Nat)(M:List (Int×Int))(B0:Nat):Value->World->Prop:=fun x w=>∃g,x=.tuple #[slice (some ⟨g,0,none⟩) n n,int i64 0]/\OwnP w B0 (slice (some ⟨g,0,none⟩) n n) M
def AaK (n:Nat)(M:List (Int×Int))(B0:Nat):Value->World->Prop:=fun x w=>∃g,x=slice (some ⟨g,0,none⟩) n n/\OwnP w B0 (slice (some ⟨g,0,none⟩) n n) M
theorem Ug(h:OwnP w B v ps)(b:Below w.heap.size w w'):OwnP w' B v ps:=OwnT.below (T:=335) h b
theorem Ahc(n:Nat)(M:List (Int×Int))(b:Nat):MB (AnI n M b):=fun _ _ _ ⟨g,d,e⟩ hg=>⟨g,d,Ug e (GJ hg)⟩
theorem Ahb(n:Nat)(M:List (Int×Int))(b:Nat):MB (AaK n M b):=fun _ _ _ ⟨g,d,e⟩ hg=>⟨g,d,Ug e (GJ hg)⟩
theorem Abi{s:ByteArray}:AllBits (SA (Fh s (8*s.size))):=Ahs (UT s _)
theorem AcY(s:ByteArray)(S:Setg)(v:Nat)(w:World)(hR:ReadyL w)(hE:RE S s.size=0)(hv:v<=3)(bd:∀d,Calls prog 185 #[S.val,int i64 (s.size:Int)] d fun e w'=>e=.returned (int i64 0)/\Below d.heap.size d w')(bo:∀d,Calls prog 186 #[int i64 (v:Int)] d fun e w'=>e=.returned (int i64 0)/\d=w'):
 Calls prog 161 #[.string s,S.val,int i64 v] w fun e w'=>∃g n,e=.returned (.tuple #[slice (some ⟨g,0,none⟩) n n,int i64 0])/\Below w.heap.size w w'/\OwnP w' w.heap.size (slice (some ⟨g,0,none⟩) n n) (Jo S s v):=by
 have P:=MT hE;have bh:=P.few;have bl:s.size<=40:=by omega
 have Y:=P.count;have aa:=P.order;have ao:=P.seed;obtain⟨z,ez⟩:=E7 (SA (Fh s (8*s.size)));have aq:z.length=8*s.size+24:=by rw[ez,QX,Gx]
 have ap:AllBits z:=by rw[ez];exact Abi
 have I:((JR S z).length:Int)=Ij S s.size:=Qt aq P.code fun e=>(P.size1 e).1
 have X:AllBits (JR S z):=AfP ap;have be:1<=(JR S z).length/\(JR S z).length<=4096:=by
  unfold Ij at I
  rcases P.code with h | h
  ·rw[Ab h]at I;omega
  ·rw[Aa (by omega)]at I;have f:=(P.size1 h).1;unfold Np at f;have:=AQ f;omega
 obtain⟨O,eO⟩:∃O:Nat,S.order=O:=⟨S.order.toNat,by omega⟩;obtain⟨C,eC⟩:∃C:Nat,S.count=C:=⟨S.count.toNat,by omega⟩;obtain⟨U,eU⟩:∃U:Nat,S.seed=U:=⟨S.seed.toNat,by omega⟩;obtain⟨h,hh⟩:∃h:Nat,O=2*h/\1<=h/\h<=3:=⟨O / 2,by omega⟩;obtain⟨q,hq⟩:∃q:Nat,C=q*O:=by
  refine⟨C / O,?_⟩
  grind
 have a2:Jo S s v=NK h (Lk (SG (JR S z) (I9 (JR S z).length v C)) (FG U C) C) O q:=by
  unfold Jo Xm;rw[<-ez];have e1:(QP S z v).length=C:=by rw[Uo,eC];rfl
  rw[e1];unfold QP;rw[eC,eO,eU,AN,AN,AN,hh.1,show 2*h / 2=h by omega,hq,hh.1,Nat.mul_div_cancel _ (by omega)]
 rw[a2];obtain⟨L,eL⟩:=E7 (JR S z);have cu:=fun d=>Aeb s bl d
 have bn:=fun(d:World) (a:Option Addr) (c:Nat) (h:Rd .u8 d a (Fh s (8*s.size)))=>Akh (Fh s (8*s.size)) (8*s.size) a c d h (UT s _) (Gx _ _) (by omega)
 rw[<-ez]at bn;have bg:=fun(d:World) (a:Option Addr) (c:Nat) (b:ReadyL d) (h:Rd .u8 d a z)=>Sm S s.size z a (8*s.size+24) c d P b h ap aq rfl
 rw[<-eL]at bg I X be |-;obtain⟨N,eN⟩:=E7 L.length;have bk:=fun(d:World) (a:Option Addr) (c:Nat) (b:Col d) (h:Rd .u8 d a L)=>AjT L N a c v C d b h X eN.symm (by omega) (by omega) hv (by omega)
 rw[<-eN];obtain⟨Z,eZ⟩:=E7 (SG L (I9 N v C));have ba:Z.length=C:=by rw[eZ,Q9,Un]
 have a9:AllBits Z:=by rw[eZ];exact AdY X _
 rw[<-eZ]at bk |-;have bf:=fun(d:World) (a:Option Addr) (c:Nat) (h:Rd .u8 d a Z)=>AfR Z C U a c d h a9 ba (by omega) (by omega)
 obtain⟨D,eD⟩:=E7 (Lk Z (FG U C) C);have a7:D.length=C:=by rw[eD,GZ]
 have a6:AllBits D:=by rw[eD];exact VD _ _ _
 rw[<-eD]at bf |-;have bm:=fun(d:World) (a:Option Addr) (c:Nat) (h':Rd .u8 d a D) (h1:C<=c) (h2:c<=maxLen)=>Akl D C h O q a c d h' a6 a7 h1 h2 hh.2.1 hh.2.2 hh.1 hq (by omega)
 obtain⟨M,eM⟩:=E7 (NK h D O q);rw[<-eM]at bm |-;have HN:Hid (L.length=N):=eN.symm;have HC:=hid eC;have HU:=hid eU;have HO:=hid eO;have ai:prog.follows .mixedOrders=true:=by kernel_rfl
 have T:Hid (∀d,Below (w.alloc (.cells #[int i64 S.code,int i64 S.size,int i64 S.order,int i64 S.seed,int i64 S.count] 286)).heap.size (w.alloc (.cells #[int i64 S.code,int i64 S.size,int i64 S.order,int i64 S.seed,int i64 S.count] 286)) d->d.cell? ⟨w.heap.size,0,none⟩=some (int i64 S.code)/\d.cell? ⟨w.heap.size,1,none⟩=some (int i64 S.size)/\d.cell? ⟨w.heap.size,2,none⟩=some (int i64 S.order)/\d.cell? ⟨w.heap.size,3,none⟩=some (int i64 S.seed)/\d.cell? ⟨w.heap.size,4,none⟩=some (int i64 S.count)):=fun d h=>Wx h
 have am:Below w.heap.size w (w.alloc (.cells #[int i64 S.code,int i64 S.size,int i64 S.order,int i64 S.seed,int i64 S.count] 286)):=(Ad _ w).alloc (Ac _) _;have cp:w.heap.size<(w.alloc (.cells #[int i64 S.code,int i64 S.size,int i64 S.order,int i64 S.seed,int i64 S.count] 286)).heap.size:=by simp
 have ck:=hR.below am;clear a2 eM eD eZ eN eL ez eC eU eO a7 a6 ba a9 I X be aq ap P hE Y aa ao hq hh hv bh;unfold Setg.val;go_enter func161,ntmps161
 go_wp2_with fail;generalize w.alloc (.cells #[int i64 S.code,int i64 S.size,int i64 S.order,int i64 S.seed,int i64 S.count] 286)=w0 at*;refine(bd _).mono ?_;rintro e w1 ⟨rfl,bb⟩;have a8:∀d,Below w0.heap.size w0 d->ReadyL d:=fun d h=>ck.below h
 go_wp2_with(first
  | (go_at_call 186;refine(bo _).mono ?_;rintro e w2 ⟨rfl,rfl⟩)
  | (go_at_call 189;refine(cu _).mono ?_;rintro e w3 ⟨a3,c3,rfl,cr,bc⟩)
  | (go_at_call 187;refine(QJ _ _).mono ?_;rintro e w9 ⟨rfl,rfl⟩)
  | (go_at_call 188;refine(bn _ _ _ cr).mono ?_;rintro e w4 ⟨a4,c4,rfl,cs,cl⟩;have A:=bb.trans ((bc.trans (cl.mono bc.size)).mono bb.size))
  | fail)
 refine Bi (II (Q:=fun e a' w'=>e=.normal/\∃σ:Nat->Value,a'=({tmps:=((Ft _ (tbS [36,37,38,39,40,41,42,43,44,45] 10 σ)).set 11 (σ 9)).toArray,defers:=[]}:Act)/\sliR .u8 C Z (σ 9) w'/\Below w4.heap.size w4 w') 11 10 [36,37,38,39,40,41,42,43,44,45]
  [[10],[4],[36,37],[2],[4],[40],[38,39,41],[42],[42],[43,44]] [2,2,6,6,5,6,7,9,9,10]
  [eqR (slice a4 (8*s.size+24) c4),eqR S.val,sliR .u8 N L,eqR (int i64 (v:Int)),eqR (.pointer (some ⟨w.heap.size,0+4,none⟩)),eqR (int i64 (C:Int)),tupR .u8 C Z,sliR .u8 C Z,eqR (int i64 0),sliR .u8 C Z] w4 ai rfl (by decide) rfl (by decide) (by kernel_rfl) (by kernel_rfl) (by kernel_rfl) (by kernel_rfl) (by kernel_rfl) (by kernel_rfl)
  (by intro R hR;simp only[Ar,Bt,BF]at hR;grind [Lp,O7,WQ])
  (fun y co σ H wc l f b Q K u=>by
   have an:y=0\/y=1\/y=2\/y=3\/y=4\/y=5\/y=6\/y=7\/y=8\/y=9:=by omega
   rcases an with rfl | rfl | rfl | rfl | rfl | rfl | rfl | rfl | rfl | rfl
   ·have bt:=b 10 (by decide);exact E6 rfl rfl (Fd wc rfl bt) (u _ wc (Fb wc) rfl)
   ·have e4:=b 4 (by decide);obtain⟨c0,c1,c2,c3,c4⟩:=T.out wc (A.trans (l.mono A.size));exact E6 rfl rfl (Lc (S:=S) wc rfl e4 c0 c1 c2 c3 c4) (u _ wc (Fb wc) rfl)
   ·have bv:H.eval (.tmp 36)=(slice a4 (8*s.size+24) c4):=(b 36 (by decide)).trans (f 0 (by decide) (by kernel_rfl));have bw:H.eval (.tmp 37)=S.val:=(b 37 (by decide)).trans (f 1 (by decide) (by kernel_rfl));refine FM rfl rfl rfl (enters_of func191 (by kernel_rfl) rfl) (Oj bv bw) (bg wc _ _ (a8 wc (A.trans (l.mono A.size))) (cs.below l)) fun e w' m=>?_
    obtain⟨dm,rfl,bi,F⟩:=m;exact⟨_,rfl,u _ w' (FX F) (by obtain⟨br,bs,rfl,bp,bq,aw, -⟩:=bi.slice HN.out;exact sliR.mk bp bq aw)⟩
   ·have e2:=b 2 (by decide);exact E6 rfl rfl (Fd wc rfl e2) (u _ wc (Fb wc) rfl)
   ·have e4:=b 4 (by decide);exact E6 rfl rfl (Abc wc rfl e4) (u _ wc (Fb wc) rfl)
   ·have b0:H.eval (.tmp 40)=(.pointer (some ⟨w.heap.size,0+4,none⟩)):=(b 40 (by decide)).trans (f 4 (by decide) (by kernel_rfl));obtain⟨c0,c1,c2,c3,c4⟩:=T.out wc (A.trans (l.mono A.size));exact E6 rfl rfl (F5 wc rfl b0 (HC.out▸c4)) (u _ wc (Fb wc) rfl)
   ·obtain⟨br,bs,c7,bp,bq,aw⟩:=f 2 (by decide) (by kernel_rfl);have bx:=(b 38 (by decide)).trans c7;have bz:H.eval (.tmp 39)=(int i64 (v:Int)):=(b 39 (by decide)).trans (f 3 (by decide) (by kernel_rfl));have b1:H.eval (.tmp 41)=(int i64 (C:Int)):=(b 41 (by decide)).trans (f 5 (by decide) (by kernel_rfl));refine FM rfl rfl rfl (enters_of func190 (by kernel_rfl) rfl) (Z5 bx bz b1) (bk wc _ _ (a8 wc (A.trans (l.mono A.size))).col aw) fun e w' m=>?_
    obtain⟨ax,az,rfl,ab,ae,ag,F⟩:=m;exact⟨_,rfl,u _ w' (FX F) (tupR.mk ab ae ag)⟩
   ·obtain⟨ax,az,ar,ab,ae,ag⟩:=f 6 (by decide) (by kernel_rfl);have aj:=(b 42 (by decide)).trans ar;exact E6 rfl rfl (G6 wc rfl aj rfl) (u _ wc (Fb wc) (sliR.mk ab ae ag))
   ·obtain⟨ax,az,ar,ab,ae,ag⟩:=f 6 (by decide) (by kernel_rfl);have aj:=(b 42 (by decide)).trans ar;exact E6 rfl rfl (G6 wc rfl aj rfl) (u _ wc (Fb wc) rfl)
   ·obtain⟨dg,dj,c8,cv,cy,dd⟩:=f 7 (by decide) (by kernel_rfl);have b2:=(b 43 (by decide)).trans c8;have b3:H.eval (.tmp 44)=(int i64 0):=(b 44 (by decide)).trans (f 8 (by decide) (by kernel_rfl));refine FM rfl rfl rfl (enters_of func187 (by kernel_rfl) rfl) (Oj b2 b3) (QJ _ wc) fun e w' m=>?_
    obtain⟨rfl,rfl⟩:=m
    exact⟨_,rfl,u _ _ (Fb _) (sliR.mk cv cy dd)⟩)
  (fun σ wc l f=>by
   refine E6 rfl rfl (G5 wc rfl (Fj (t:=tbS [36,37,38,39,40,41,42,43,44,45] 10 σ) 45 (show([36,37,38,39,40,41,42,43,44,45]:List Nat).Nodup by decide) (by kernel_rfl))) ⟨rfl,σ,G4 _ _ _,f 9 (by decide),l⟩)) ?_
 rintro e a' w5 ⟨rfl,J,rfl,⟨a5,c5,q5,k5,m5,ct⟩,cm⟩;have E:=A.trans (cm.mono A.size);rw[show tbS [36,37,38,39,40,41,42,43,44,45] 10 J=[(36,J 0),(37,J 1),(38,J 2),(39,J 3),(40,J 4),(41,J 5),(42,J 6),(43,J 7),(44,J 8),(45,J 9)]from rfl,q5];dsimp only[Ft,List.set,List.append_nil,List.cons_append,List.nil_append]
 go_wp2_with fail
 refine Bi (II (Q:=fun e a' w'=>e=.normal/\∃σ:Nat->Value,a'=({tmps:=((Ft _ (tbS [46,47,48,49,50,51,52,53,54,55,56,57,58,6] 14 σ)).set 7 (int i64 0)).toArray,defers:=[]}:Act)/\AaK q M w.heap.size (σ 13) w'/\Below w5.heap.size w5 w') 15 14 [46,47,48,49,50,51,52,53,54,55,56,57,58,6]
  [[11],[4],[47],[46,48],[49],[49],[50,51],[4],[53],[52,54],[55],[55],[56,57],[58]] [3,2,3,4,6,6,9,8,9,10,12,12,13,14]
  [eqR (slice a5 C c5),eqR (.pointer (some ⟨w.heap.size,0+3,none⟩)),eqR (int i64 (U:Int)),tupR .u8 C D,sliR .u8 C D,eqR (int i64 0),sliR .u8 C D,eqR (.pointer (some ⟨w.heap.size,0+2,none⟩)),eqR (int i64 (O:Int)),AnI q M w.heap.size,AaK q M w.heap.size,eqR (int i64 0),AaK q M w.heap.size,AaK q M w.heap.size] w5 ai rfl (by decide) rfl (by decide) (by kernel_rfl) (by kernel_rfl) (by kernel_rfl) (by kernel_rfl) (by kernel_rfl) (by kernel_rfl)
  (by intro R hR;simp only[Ar,Bt,BF]at hR;rcases hR with rfl | rfl | rfl | rfl | rfl | rfl | rfl | rfl | rfl | rfl | rfl | rfl | rfl | rfl<;>(first | (exact Lp _) | (exact WQ _ _ _) | (exact O7 _ _ _) | (exact Ahc _ _ _) | (exact Ahb _ _ _)))
  (fun y co σ H wc l f b Q K u=>by
   have an:y=0\/y=1\/y=2\/y=3\/y=4\/y=5\/y=6\/y=7\/y=8\/y=9\/y=10\/y=11\/y=12\/y=13:=by omega
   rcases an with rfl | rfl | rfl | rfl | rfl | rfl | rfl | rfl | rfl | rfl | rfl | rfl | rfl | rfl
   ·have bu:=b 11 (by decide);exact E6 rfl rfl (Fd wc rfl bu) (u _ wc (Fb wc) rfl)
   ·have e4:=b 4 (by decide);exact E6 rfl rfl (OA wc rfl e4) (u _ wc (Fb wc) rfl)
   ·have b5:H.eval (.tmp 47)=(.pointer (some ⟨w.heap.size,0+3,none⟩)):=(b 47 (by decide)).trans (f 1 (by decide) (by kernel_rfl));obtain⟨c0,c1,c2,c3,c4⟩:=T.out wc (E.trans (l.mono E.size));exact E6 rfl rfl (F5 wc rfl b5 (HU.out▸c3)) (u _ wc (Fb wc) rfl)
   ·have b4:H.eval (.tmp 46)=(slice a5 C c5):=(b 46 (by decide)).trans (f 0 (by decide) (by kernel_rfl));have b6:H.eval (.tmp 48)=(int i64 (U:Int)):=(b 48 (by decide)).trans (f 2 (by decide) (by kernel_rfl));refine FM rfl rfl rfl (enters_of func194 (by kernel_rfl) rfl) (Oj b4 b6) (bf wc _ _ (ct.below l)) fun e w' m=>?_
    obtain⟨ay,a0,rfl,ad,af,ah,F⟩:=m;exact⟨_,rfl,u _ w' (FX F) (tupR.mk ad af ah)⟩
   ·obtain⟨ay,a0,au,ad,af,ah⟩:=f 3 (by decide) (by kernel_rfl);have ak:=(b 49 (by decide)).trans au;exact E6 rfl rfl (G6 wc rfl ak rfl) (u _ wc (Fb wc) (sliR.mk ad af ah))
   ·obtain⟨ay,a0,au,ad,af,ah⟩:=f 3 (by decide) (by kernel_rfl);have ak:=(b 49 (by decide)).trans au;exact E6 rfl rfl (G6 wc rfl ak rfl) (u _ wc (Fb wc) rfl)
   ·obtain⟨dh,dk,c9,cw,cz,de⟩:=f 4 (by decide) (by kernel_rfl);have b7:=(b 50 (by decide)).trans c9;have b8:H.eval (.tmp 51)=(int i64 0):=(b 51 (by decide)).trans (f 5 (by decide) (by kernel_rfl));refine FM rfl rfl rfl (enters_of func187 (by kernel_rfl) rfl) (Oj b7 b8) (QJ _ wc) fun e w' m=>?_
    obtain⟨rfl,rfl⟩:=m;exact⟨_,rfl,u _ _ (Fb _) (sliR.mk cw cz de)⟩
   ·have e4:=b 4 (by decide);exact E6 rfl rfl (Abb wc rfl e4) (u _ wc (Fb wc) rfl)
   ·have ca:H.eval (.tmp 53)=(.pointer (some ⟨w.heap.size,0+2,none⟩)):=(b 53 (by decide)).trans (f 7 (by decide) (by kernel_rfl));obtain⟨c0,c1,c2,c3,c4⟩:=T.out wc (E.trans (l.mono E.size));exact E6 rfl rfl (F5 wc rfl ca (HO.out▸c2)) (u _ wc (Fb wc) rfl)
   ·obtain⟨di,dl,da,cx,c6,df⟩:=f 6 (by decide) (by kernel_rfl);have b9:=(b 52 (by decide)).trans da;have cb:H.eval (.tmp 54)=(int i64 (O:Int)):=(b 54 (by decide)).trans (f 8 (by decide) (by kernel_rfl));refine FM rfl rfl rfl (enters_of func193 (by kernel_rfl) rfl) (Oj b9 cb) (bm wc _ _ df cx c6) fun e w' m=>?_
    obtain⟨V,rfl,bj,F⟩:=m;exact⟨_,rfl,u _ w' (FX F) (show AnI q M w.heap.size _ _ from⟨V,rfl,OwnP.AoI bj (Ak (Db cp) (Ak E.size l.size))⟩)⟩
   ·obtain⟨V,av,a1⟩:=f 9 (by decide) (by kernel_rfl);have al:=(b 55 (by decide)).trans av;exact E6 rfl rfl (G6 wc rfl al rfl) (u _ wc (Fb wc) (show AaK q M w.heap.size _ _ from⟨V,rfl,a1⟩))
   ·obtain⟨V,av,a1⟩:=f 9 (by decide) (by kernel_rfl);have al:=(b 55 (by decide)).trans av;exact E6 rfl rfl (G6 wc rfl al rfl) (u _ wc (Fb wc) rfl)
   ·obtain⟨cf,db,ch⟩:=f 10 (by decide) (by kernel_rfl);have cc:=(b 56 (by decide)).trans db;have cd:H.eval (.tmp 57)=(int i64 0):=(b 57 (by decide)).trans (f 11 (by decide) (by kernel_rfl));refine FM rfl rfl rfl (enters_of func192 (by kernel_rfl) rfl) (Oj cc cd) (AoL _ wc) fun e w' m=>?_
    obtain⟨rfl,rfl⟩:=m;exact⟨_,rfl,u _ _ (Fb _) (show AaK q M w.heap.size _ _ from⟨cf,rfl,ch⟩)⟩
   ·obtain⟨cg,dc,ci⟩:=f 12 (by decide) (by kernel_rfl);have ce:=(b 58 (by decide)).trans dc
    exact E6 rfl rfl (G5 wc rfl ce) (u _ wc (Fb wc) (show AaK q M w.heap.size _ _ from⟨cg,rfl,ci⟩)))
  (fun σ wc l f=>by
   refine E6 rfl rfl (G5 wc rfl rfl) ⟨rfl,σ,G4 _ _ _,f 13 (by decide),l⟩)) ?_
 rintro e a' w6 ⟨rfl,G,rfl,⟨g6,q6,cq⟩,cn⟩;rw[show tbS [46,47,48,49,50,51,52,53,54,55,56,57,58,6] 14 G=[(46,G 0),(47,G 1),(48,G 2),(49,G 3),(50,G 4),(51,G 5),(52,G 6),(53,G 7),(54,G 8),(55,G 9),(56,G 10),(57,G 11),(58,G 12),(6,G 13)]from rfl,q6];dsimp only[Ft,List.set,List.append_nil,List.cons_append,List.nil_append];have cj:=am.trans ((E.trans (cn.mono E.size)).mono am.size)
 go_wp2_with fail
 go_ret2;exact⟨g6,q,rfl,cj,cq⟩
def BoxR (W:World)(B:Nat)(t:TypeId)(r:List Value)(u:Value):Prop:=W.heap[B]?=some (.cells (u::r).toArray t (0,0))
theorem BoxR.lt{t:TypeId}(h:BoxR W B t r v):B<W.heap.size:=(Array.getElem?_eq_some_iff.1 h).1
theorem BoxR.cell{W:World}{B:Nat}{t:TypeId}{r:List Value}{v:Value}(h:BoxR W B t r v):W.cell? ⟨B,0,none⟩=some v:=by simp[World.cell?,show W.heap[B]?=_ from h]
theorem BoxR.frozen{W:World}{B:Nat}{t:TypeId}{r:List Value}{v:Value}(h:BoxR W B t r v):W.frozen? ⟨B,0,none⟩=false:=by simp[World.frozen?,show W.heap[B]?=_ from h]
theorem BoxR.set{t:TypeId}(v':Value)(h:BoxR W B t r v):BoxR (W.setCell ⟨B,0,none⟩ v') B t r v':=by
 obtain⟨b,d⟩:=Array.getElem?_eq_some_iff.1 h
 show(W.heap.modify B _)[B]?=_
 grind
theorem BoxR.of{t:TypeId}(h:Boxed W B t v):BoxR W B t [] v:=h
theorem BoxR.old{t:TypeId}{u:Value}(h:BoxR w B t r u)(b:Below w.heap.size w w'):BoxR w' B t r u:=(b.block B h.lt).trans h
def BufR (t:TypeId)(r:List Value)(w:World)(p:Addr)(S:List Nat)(s:List Int):Prop:=
 ∃b g,p=⟨b,0,none⟩/\S=[b,g]/\b≠g/\BoxR w b t r (slice (some ⟨g,0,none⟩) s.length s.length)/\ArrAt i64 3 w g s
def Aoa (w:World)(p:Addr)(S:List Nat)(s:List Int):Prop:=BufR 337 [] w p S s
theorem BufR.lt{t:TypeId}{r:List Value}{w:World}{p:Addr}{S:List Nat}{s:List Int}(h:BufR t r w p S s):∀x∈S,x<w.heap.size:=by
 obtain⟨b,g,rfl,rfl,_,e,hg⟩:=h;intro x d;simp at d
 rcases d with rfl | rfl
 ·exact e.lt
 ·exact hg.lt
theorem BufR.kept{t:TypeId}{r:List Value}{w w':World}{p:Addr}{S T:List Nat}{s:List Int}(h:BufR t r w p S s)(f:Kept T w w')(l:∀x∈S,x∉T):BufR t r w' p S s:=by
 obtain⟨b,g,rfl,rfl,d,e,hg⟩:=h;exact⟨b,g,rfl,rfl,d,(f.block b e.lt (l b (by simp))).trans e,hg.kept f (l g (by simp))⟩
theorem AlP(n:Nat)(w:World)(y:1<=n)(z:n<=4096):Calls prog 197 #[int i64 n] w fun e w'=>∃p S,e=.returned (.tuple #[.pointer (some p),int i64 0])/\Aoa w' p S (List.replicate n 0)/\(∀x∈S,w.heap.size<=x)/\Below w.heap.size w w':=by
 have m:=Pg (n:Int) w;rw[show IJ (n:Int)=0 by grind [IJ,RG]]at m;go_enter func197,ntmps197
 go_wp2_with(first | (go_at_call 226;refine m.mono ?_;rintro e w1 ⟨rfl,rfl⟩) | (refine FZ w.heap.size w n rfl _ _ rfl _ _ rfl rfl rfl rfl (by omega) (Ad _ _) (Ac _) ?_;intro w1 b d u f;obtain⟨l, -, -⟩:=b.arr;clear b f))
 go_ret2;exact⟨_,_,rfl,⟨w1.heap.size,w.heap.size,rfl,rfl,by omega,by rw[A7];exact BoxR.of (Boxed.new w1 _ _),l.alloc _⟩,by simp;omega,d.alloc (by omega) _⟩
theorem Abu{t:TypeId}{p:Addr}{S:List Nat}{s:List Int}(G:BufR t r w p S s)(F:1<=s.length)(I:s.length<=4096):
 Calls prog 237 #[.pointer (some p)] w fun e w'=>∃g',e=.returned (slice (some ⟨g',0,none⟩) s.length s.length)/\ArrAt i64 3 w' g' s/\w.heap.size<=g'/\Below w.heap.size w w':=by
 obtain⟨b,g,rfl,rfl,J,D,hg⟩:=G;have A:=D.cell;obtain⟨n,y⟩:=E7 s.length;have z:=hid y;rw[<-y]at F I A D;rw[<-y];clear y;go_enter func237,ntmps237
 go_wp2_with(first
  | (refine FZ w.heap.size w n rfl _ _ rfl _ _ rfl rfl rfl rfl (by omega) (Ad _ _) (Ac _) ?_;intro w1 f d E l;obtain⟨m, -, -⟩:=f.arr;clear f l;have H:=(d.cell (Aj w _ A)).trans A)
  | (refine NP m (by simp) (WH (hg.below d hg.lt) z.out.symm) z.out.symm (Ac _) rfl _ _ rfl rfl rfl ?_;intro w2 u C))
 go_ret;refine⟨w.heap.size,rfl,?_,Ac _,d.trans (C.below d.size (by simp))⟩
 rwa [Aw (by rw[<-z.out];exact Ac _)]at u
theorem Ak5{p:Addr}(a:Option Addr)(c:Nat)(xs:List Int)(v:Int)(A:Rd i64 w a xs)(m:xs.length<=maxLen)(ht:OD xs v=false):
 Calls prog 199 #[.pointer (some p),slice a xs.length c,int i64 v] w fun e w'=>e=.returned (int i64 1)/\Below w.heap.size w w':=by
 have d:Below w.heap.size w (w.alloc (.cells #[slice a xs.length c] 74)):=(Ad _ w).alloc (Ac _) _;have b:=MH xs a c (w.alloc (.cells #[slice a xs.length c] 74)) (A.below d) m;have f:=Kh v (w.alloc (.cells #[slice a xs.length c] 74));have C:xs.length<=9223372036854775807:=by unfold maxLen at m;omega
 cases l:Fy xs with
 | false=>
  rw[show Gv xs=1 by unfold Gv;rw[l];rfl]at b;clear f ht l m;go_enter func199,ntmps199
  go_wp2_with(first | (go_at_call 236;refine b.mono ?_;rintro e w1 ⟨rfl,rfl⟩));go_ret;exact⟨rfl,d⟩
 | true=>
  rw[show Gv xs=0 by unfold Gv;rw[l];rfl]at b
  by_cases u:4096<xs.length
  ·have z:decide ((4096:Int)<(xs.length:Int))=true:=Ag (by omega);clear f ht l u m;go_enter func199,ntmps199
   go_wp2_with(first | (go_at_call 236;refine b.mono ?_;rintro e w1 ⟨rfl,rfl⟩));go_ret;exact⟨rfl,d⟩
  ·have z:decide ((4096:Int)<(xs.length:Int))=false:=Ae (by omega);have y:LO v=false:=by
    grind [LO,OD]
   rw[show Ku v=1 by unfold Ku;rw[y];rfl]at f;clear ht l u y m;go_enter func199,ntmps199
   go_wp2_with(first | (go_at_call 236;refine b.mono ?_;rintro e w1 ⟨rfl,rfl⟩) | (go_at_call 227;refine f.mono ?_;rintro e w1 ⟨rfl,rfl⟩));go_ret;exact⟨rfl,d⟩
end Go.Proofs.YtbjgfoiikhbonahGreatDoor
