import Derived.Test.YtbjgfoiikhbonahGreatDoorD25
import Derived.Deep.RegionWith
set_option linter.unusedVariables false
set_option linter.unusedSimpArgs false
set_option maxRecDepth 100000
set_option maxHeartbeats 4000000
namespace Go.Proofs.YtbjgfoiikhbonahGreatDoor
open Go.ChangeShapes Go.WideShapes Go.ChangeAt Go.RowKit Go.Maps Go.Proofs.Tryz
open Value (int slice)
open IntKind (i64)
variable {F:List Nat}{H L0 L1 b g k t:Int}{M:Int->Option Value}{N:CoN}{c gb i mb n ub:Nat}{f:Bool}{ls:List LnM}{p:PrM}{v3 v4:Value}{w w':World}{x:LnM}
def AjX (m:CoM)(k:Int):Value:=.agg #[int i64 ((m.MR k).1:Nat),int i64 ((m.MR k).2.1:Nat),int i64 ((m.MR k).2.2:Nat)]
theorem AaS{m:CoM}(h:m.per k=none):m.MR k=(0,0,0)/\m.PZ k=12:=by
 unfold CoM.MR CoM.PZ;rw[h];exact⟨rfl,rfl⟩
theorem AaT{m:CoM}(h:m.per k=some p):m.MR k=(m.left k p,m.It k,m.KS k)/\m.PZ k=0:=by
 unfold CoM.MR CoM.PZ;rw[h];exact⟨rfl,rfl⟩
theorem Zq{m:CoM}(h:PCo w c F m n)(s:Gb k):Calls prog 84 #[Fa c,int i64 k] w fun e w'=>e=.returned (.tuple #[AjX m k,int i64 (m.PZ k)])/\Below w.heap.size w w':=by
 obtain⟨N,rfl,h⟩:=h;have q:Below w.heap.size w (w.alloc (.cells #[int i64 0,int i64 0,int i64 0] 157)):=(Ad _ w).alloc (Ac _) _;have j:=h.kept (Kept.E5 (S:=[]) q) (by simp);have a:=Fc w 157 [int i64 0,int i64 0,int i64 0];have l:w.heap.size∉coF c N m:=fun B=>Bp _ (h.lt _ B)
 cases d:m.per k with
 | none=>
  have r:=M7 j s d;unfold AjX;rw[(AaS d).1,(AaS d).2];have n0:(w.alloc (.cells #[int i64 0,int i64 0,int i64 0] 157)).cell? ⟨w.heap.size,0,none⟩=some (int i64 0):=a.cell 0;have n1:(w.alloc (.cells #[int i64 0,int i64 0,int i64 0] 157)).cell? ⟨w.heap.size,1,none⟩=some (int i64 0):=a.cell 1;have n2:(w.alloc (.cells #[int i64 0,int i64 0,int i64 0] 157)).cell? ⟨w.heap.size,2,none⟩=some (int i64 0):=a.cell 2;have A:=a.free 0;have g1:=a.free 1;have g2:=a.free 2;clear h j d l a;unfold Fa at*;go_enter func84,ntmps84
  go_wp2_with(go_at_call 122;refine r.mono ?_;rintro e w1 ⟨rfl,rfl⟩)
  (try simp only[Exit.inBlock,Exit.then])
  refine Ah (v:=.tuple #[.agg #[int i64 0,int i64 0,int i64 0],int i64 12]) ?_ rfl ⟨rfl,?_⟩
  ·rw[AD rfl]
   go_simp
  grind
 | some p=>
  have r:=M8 j s d;unfold AjX;rw[(AaT d).1,(AaT d).2];have o:=j.ur k p d;have c0:(w.alloc (.cells #[int i64 0,int i64 0,int i64 0] 157)).cell? ⟨N.ub k,0,none⟩=some (int i64 (m.left k p:Nat)):=o.cell 0;have c1:(w.alloc (.cells #[int i64 0,int i64 0,int i64 0] 157)).cell? ⟨N.ub k,1,none⟩=some (int i64 (m.It k:Nat)):=o.cell 1;have c2:(w.alloc (.cells #[int i64 0,int i64 0,int i64 0] 157)).cell? ⟨N.ub k,2,none⟩=some (int i64 (m.KS k:Nat)):=o.cell 2;have n0:(w.alloc (.cells #[int i64 0,int i64 0,int i64 0] 157)).cell? ⟨w.heap.size,0,none⟩=some (int i64 0):=a.cell 0;have n1:(w.alloc (.cells #[int i64 0,int i64 0,int i64 0] 157)).cell? ⟨w.heap.size,1,none⟩=some (int i64 0):=a.cell 1;have n2:(w.alloc (.cells #[int i64 0,int i64 0,int i64 0] 157)).cell? ⟨w.heap.size,2,none⟩=some (int i64 0):=a.cell 2;have A:=a.free 0;have g1:=a.free 1;have g2:=a.free 2;generalize m.left k p=u at*;generalize m.It k=y at*;generalize m.KS k=z at*;generalize N.ub k=ub at*;clear h j d l a o;unfold Fa at*;go_enter func84,ntmps84
  go_wp2_with(go_at_call 122;refine r.mono ?_;rintro e w1 ⟨rfl,rfl⟩)
  (try simp only[Exit.inBlock,Exit.then])
  refine Ah (v:=.tuple #[.agg #[int i64 (u:Int),int i64 (y:Int),int i64 (z:Int)],int i64 0]) ?_ rfl ⟨rfl,?_⟩
  ·rw[AD rfl]
   go_simp
  ·exact(Ad _ w).alloc (Ac _) _
def S5 (c:Nat):Nat:=c-(c-1) % 8
def Aes (c:Nat):Nat:=min 8 (101-S5 c)
def Pe (f k:Nat):List Int:=(List.range k).map fun i=>((f+i:Nat):Int)
theorem AbW(f k:Nat):Pe f (k+1)=Pe f k++[((f+k:Nat):Int)]:=by
 unfold Pe;rw[Az,AR];rfl
theorem OL(f k:Nat):(Pe f k).length=k:=by simp[Pe]
theorem Aim:((List.range 101).all fun c=>c==0 || RY c==Pe (S5 c) (Aes c))=true:=by kernel_rfl
theorem Ak9(a:1<=c)(d:c<=100):RY c=Pe (S5 c) (Aes c):=by grind [RY,Pe,S5,Aes,Aim]
theorem AfD(c:Nat)(w:World)(J:1<=c)(L:c<=100):Calls prog 178 #[int i64 (c:Int)] w fun e w'=>∃a cc,e=.returned (slice a (RY c).length cc)/\OwnI w' w.heap.size (slice a (RY c).length cc) (RY c)/\Below w.heap.size w w':=by
 rw[Ak9 J L,OL];obtain⟨f,j⟩:=E7 (S5 c);obtain⟨K,u⟩:=E7 (Aes c);have R:((c:Int)-(((c:Int)-1) % 8))=(f:Int):=by rw[j];unfold S5;omega
 have O:1<=f/\f<=100:=by rw[j];unfold S5;omega
 have E:K=min 8 (101-f):=by rw[u,j];rfl
 rw[<-j,<-u];clear j u;go_enter func178,ntmps178
 go_wp2_with fail
 go_loopw [4,5] (fun Q z wr=>∃(k cc:Nat) (a:Option Addr),k<=K/\z=int i64 ((f+k:Nat):Int)/\Q=slice a k cc/\Hid (OwnI wr w.heap.size (slice a k cc) (Pe f k))/\Hid (Below w.heap.size w wr)) (fun _ z _=>200-(intOf z).toNat)
 case atStart=>exact⟨0,0,none,by omega,by simp[*],rfl,hid (OwnI.nil _ _),hid (Ad _ _)⟩
 case round=>
  obtain⟨k,cc,a,S,rfl,rfl,r,m⟩:=hrel
  by_cases P:k<K
  ·have B:((f+k:Nat):Int)<(f:Int)+8:=by omega
   have C:((f+k:Nat):Int)<=100:=by omega
   have q:Hid ((Pe f k).length<8796093022208):=hid (by rw[OL];omega);obtain⟨y,d⟩:=E7 (((f+k:Nat):Int):Int);rw[<-d]at B C |-;have T:1<=y:=by omega
   have A:=hid d;clear d
   go_wp2_with(at_builtin;refine Rj w.heap.size w y r.out rfl _ _ rfl rfl rfl q.out m.out m.out.size ?_;intro v3 U h l;obtain⟨G,c3,v, -, -⟩:=OwnI.FC h;subst v;have s:=hid h;have o:=hid l;clear h l)
   go_roundw
   case rel=>
    have D:=s.out;rw[A.out,<-AbW,OL]at D;refine⟨k+1,c3,G,by omega,?_,?_,hid D,o⟩
    ·have:=A.out;simp;omega
    ·simp[OL]
   case measure=>simp[intOf];omega
  ·have I:k=K:=by omega
   subst I;obtain⟨y,d⟩:=E7 (((f+k:Nat):Int):Int)
   by_cases B:y<(f:Int)+8
   ·have C:¬y<=100:=by omega
    rw[<-d];clear d E
    go_wp2_with fail;go_ret;exact⟨a,cc,rfl,r.out,m.out⟩
   ·rw[<-d];clear d E
    go_wp2_with fail;go_ret;exact⟨a,cc,rfl,r.out,m.out⟩
theorem AjP{m:CoM}(a:m.per k=some p)(h:p.st=1):m.Uh k=[(p.cell:Int)]:=by unfold CoM.Uh;rw[a];simp[h]
theorem AgS{m:CoM}(a:m.per k=some p)(h:p.st=2):m.Uh k=RY p.cell:=by unfold CoM.Uh;rw[a];simp[h]
theorem AjO{m:CoM}(h:m.QN k≠0):m.Uh k=[]:=by grind [CoM.Uh,CoM.QN,CoM.Fi,RM]
def Iv (w:World)(m:CoM)(k:Int):Ending->World->Prop:=fun e w'=>∃a cc,e=.returned (.tuple #[slice a (m.Uh k).length cc,int i64 (m.QN k)])/\OwnI w' w.heap.size (slice a (m.Uh k).length cc) (m.Uh k)/\Below w.heap.size w w'
theorem AfS{m:CoM}(h:PCo w c F m n)(W:Gb k):Calls prog 136 #[Fa c,int i64 k] w (Iv w m k):=by
 obtain⟨N,rfl,h⟩:=h;have hi:=Ach 0 w;have u:Below w.heap.size w (w.alloc (.cells #[int i64 0] 158)):=(Ad _ w).alloc (Ac _) _;have L:Rd i64 (w.alloc (.cells #[int i64 0] 158)) none []:=Rd.nil _ _ _;have q:(w.alloc (.cells #[int i64 0] 158)).cell? ⟨w.heap.size,0,none⟩=some (int i64 ((0:Nat):Int)):=ON w _ 0;have J:=h.kept (Kept.E5 (S:=[]) u) (by simp);have C:=Ali (cc:=0) J W (AbX (s:=0) q) L (by simp)
 by_cases o:m.QN k=0
 ·obtain⟨p,B,D,ht⟩:=CoM.NV o;have l:m.Fi k (RM 0) []=0:=o;have A:Gd N m k (RM 0) []=Fa (N.ub k):=by unfold Gd;rw[Ab l]
  rw[A,l]at C;obtain⟨q1,q2,q3,q4,Z,O,q7⟩:=h.ok.pr k p B;have z:p.st≠0:=by simpa [RM]using ht
  have O:=O z;have G:Hid (∀j,Below (w.alloc (.cells #[int i64 0] 158)).heap.size (w.alloc (.cells #[int i64 0] 158)) j->j.cell? ⟨N.ub k,3,none⟩=some (int i64 (p.st:Nat))/\j.cell? ⟨N.ub k,4,none⟩=some (int i64 (p.cell:Nat))/\Below w.heap.size w j):=hid fun j d=>by
   have K:=Fr u d;have Q:=(h.kept (Kept.E5 (S:=[]) K) (by simp)).ur k p B;exact⟨Q.cell 3,Q.cell 4,K⟩
  by_cases I:p.st=1
  ·have U:Hid (∀j,Below w.heap.size w j->Iv w m k (.returned (.tuple #[slice (some ⟨j.heap.size,0,none⟩) 1 1,int i64 0])) (j.alloc (.cells #[int i64 (p.cell:Nat)] 3))):=hid fun j d=>by
    unfold Iv;rw[AjP B I,o];refine⟨_,1,rfl,?_,d.alloc d.size _⟩;exact⟨rfl,.inr ⟨j.heap.size,1,#[int i64 (p.cell:Nat)],rfl,d.size,Am j _,Ac _,by unfold maxLen;omega,rfl,rfl⟩⟩
   rw[I]at G;generalize Iv w m k=P at*;generalize N.ub k=ub at*;generalize p.cell=Y at*;clear h J L q o l B D ht A I z;unfold Fa Jn at*;go_enter func136,ntmps136
   go_wp2_with(first
    | (go_at_call 177;refine hi.mono ?_;rintro e w1 ⟨rfl,rfl⟩)
    | (go_at_call 72;refine C.mono ?_;rintro e j ⟨rfl,d⟩;obtain⟨u3,u4,y⟩:=G.out j d))
   exact U.out j y
  ·have r:p.st=2:=by omega
   have R:Hid (∀j,Below w.heap.size w j->Calls prog 178 #[int i64 (p.cell:Int)] j fun e w'=>∃v,e=.returned v/\Iv w m k (.returned (.tuple #[v,int i64 0])) w'):=hid fun j d=>by
    refine(AfD p.cell j O Z).mono ?_;rintro e w' ⟨a,cc,rfl,X,K⟩;refine⟨_,rfl,?_⟩;unfold Iv;rw[AgS B r,o];exact⟨a,cc,rfl,OwnI.mono X d.size,Fr d K⟩
   rw[r]at G;generalize Iv w m k=P at*;generalize N.ub k=ub at*;generalize p.cell=Y at*;clear h J L q o l B D ht A I z r;unfold Fa Jn at*;go_enter func136,ntmps136
   go_wp2_with(first
    | (go_at_call 177;refine hi.mono ?_;rintro e w1 ⟨rfl,rfl⟩)
    | (go_at_call 72;refine C.mono ?_;rintro e j ⟨rfl,d⟩;obtain⟨u3,u4,y⟩:=G.out j d)
    | (go_at_call 178;refine(R.out j y).mono ?_;rintro e w5 ⟨v5,rfl,V⟩))
   exact V
 ·have l:¬m.Fi k (RM 0) []=0:=o;have A:Gd N m k (RM 0) []=.pointer none:=by unfold Gd;rw[Aa l]
  rw[A]at C;have T:Hid (∀j,Below (w.alloc (.cells #[int i64 0] 158)).heap.size (w.alloc (.cells #[int i64 0] 158)) j->Iv w m k (.returned (.tuple #[slice none 0 0,int i64 (m.Fi k (RM 0) [])])) j):=hid fun j d=>by
   unfold Iv;rw[AjO o];exact⟨none,0,rfl,OwnI.nil _ _,Fr u d⟩
  generalize Iv w m k=P at*;generalize m.Fi k (RM 0) []=E at*;clear h J L q A o;unfold Fa Jn at*;go_enter func136,ntmps136
  go_wp2_with(first
   | (go_at_call 177;refine hi.mono ?_;rintro e w1 ⟨rfl,rfl⟩)
   | (go_at_call 72;refine C.mono ?_;rintro e j ⟨rfl,d⟩))
  exact T.out j d
theorem Tryz.Ann:(prog.info? 310).map (fun i=>(i.zero,i.size,i.bytes))=some (some (.agg #[.pointer none,int i64 0]),2,16):=by kernel_rfl
def gaF (N:CoN):List Nat:=(N.ga.map (·.block)).toList
structure NumPost(w:World)(c:Nat)(N:CoN)(m:CoM)(ub:Nat)(w':World)(ga:Option Addr)(gc:Nat):Prop where
 hd:At w' c 64 [int i64 (m.unit:Int),.map (some N.bu),slice ga (m.loans.length+1) gc]
 gr:w'.ownsRow 0 310 2 (slice ga (m.loans.length+1) gc) (m.loans.length+1) (Zab N.ub m.loans++[Fa ub,int i64 0])
 nw:∀y,ga=some y->N.ga=some y\/w.heap.size<=y.block
 kp:Kept (c::gaF N) w w'
theorem Zj{m:CoM}(h:PCore w c N m n)(hn:n<Jf):
 Calls prog 130 #[Fa c,Fa ub] w fun e w'=>e=.returned (int i64 ((m.loans.length+1:Nat):Int))/\∃ga gc,NumPost w c N m ub w' ga gc:=by
 have c2:=h.head.2.2;have z:=h.ok.len;unfold Jf at hn;obtain⟨i0,s,D,E,G⟩:=As Tryz.Ann;obtain⟨a1,a2,a3⟩:=h.RX;have aa:=h.hd.lt;have q:c∉gaF N:=by
  unfold gaF
  cases hg:N.ga with
  | none=>simp
  | some y=>simpa using fun e=>(a2 y hg).1 e.symm
 have hF:∀v' w',w'.ownsRow 0 310 2 v' (m.loans.length+1) (Zab N.ub m.loans++[Fa ub,int i64 0])->(w.alloc (.cells #[Fa ub,int i64 0] 310)).grownBy w' (slice N.ga m.loans.length N.gc).ownBlock->(v'.ownBlock=(slice N.ga m.loans.length N.gc).ownBlock\/v'.ownBlock=some (w.alloc (.cells #[Fa ub,int i64 0] 310)).heap.size)->
  ∃ga gc,v'=slice ga (m.loans.length+1) gc/\w'.cell? ⟨c,2,none⟩=some (slice N.ga m.loans.length N.gc)/\w'.frozen? ⟨c,2,none⟩=false/\NumPost w c N m ub (w'.setCell ⟨c,2,none⟩ (slice ga (m.loans.length+1) gc)) ga gc:=fun v' w' g1 g2 a=>by
  obtain⟨ga,gc,rfl, -, -,X⟩:=Fg g1;have W:(slice N.ga m.loans.length N.gc).ownBlock.toList=gaF N:=by
   unfold gaF
   cases N.ga<;>rfl
  have hk:Kept (gaF N) w w':=by
   rw[<-W];exact((Kept.refl _ w).alloc _).trans (Kept.PR g2)
  have d:=h.hd.kept hk q;have V:∀y,ga=some y->N.ga=some y\/w.heap.size<=y.block:=fun y hy=>by
   obtain⟨g,rfl,Y⟩:=X y hy
   rcases a with a | a
   ·rw[Y]at a
    cases C:N.ga with
    | none=>rw[C]at a;simp[Value.ownBlock]at a
    | some y'=>
     obtain⟨cur,Z, -⟩:=h.PQ C;rw[C,Z]at a;simp[Value.ownBlock]at a
     left;rw[Z,<-a]
   ·rw[Y]at a;simp at a
    grind
  have ab:∀y,ga=some y->y.block≠c:=by grind
  refine⟨ga,gc,rfl,d.cell 2,d.free 2,d.setCell (o:=2) _,?_,V,(hk.Fn (fun x X=>AU _ X)).setCell (by simp) _⟩;refine FY g1 (FT w' c 2 _) (fun g hg=>?_)
  cases C:ga with
  | none=>rw[C]at hg;simp[Value.ownBlock]at hg
  | some y=>
   grind
 have HF:=hid hF;have J:Hid (m.loans.length+1<=maxLen):=hid (by unfold maxLen;omega);have K:Hid ((m.loans.length+1)*16<=140737488355328):=hid (by omega);have HI:=hid s;have R:=hid D;have S:=hid E;have T:=hid G;have HO:Hid ((w.alloc (.cells #[Fa ub,int i64 0] 310)).ownsRow 0 310 2 (slice N.ga m.loans.length N.gc) m.loans.length (Zab N.ub m.loans)):=hid (A6 h.gr _);have l:=Fc w 310 [Fa ub,int i64 0];have HS:Hid (∀(j:Nat) u,([Fa ub,int i64 0]:List Value)[j]?=some u->(w.alloc (.cells #[Fa ub,int i64 0] 310)).cell? ⟨w.heap.size,j,none⟩=some u):=hid fun j u I=>(l.cell j).trans I
 have O:Hid (∀u∈([Fa ub,int i64 0]:List Value),u.oneCell'=true):=hid (by
  intro u I;simp at I
  rcases I with rfl | rfl<;>rfl)
 have HE:Hid (((m.loans.length+1:Nat):Int)=(m.loans.length:Int)+1):=hid (by omega);generalize hP:NumPost w c N m ub=P at*;generalize Zab N.ub m.loans=L at*;generalize U:m.loans.length=NN at*;clear h hF s D E G z hn hP l U q;unfold Fa at*;go_enter func130,ntmps130
 go_wp2_with(at_builtin;refine I3 0 w.heap.size underlying62 HI.out R.out S.out T.out rfl (by decide) HO.out rfl _ _ rfl rfl rfl rfl HS.out O.out J.out K.out (Af _) ?_;intro v7 w7 A r v;obtain⟨ga,gc,rfl,k2,kf,B⟩:=HF.out _ _ A r v;have Q:=hid B;clear A r v B);go_ret;exact⟨by rw[HE.out];rfl,ga,gc,Q.out⟩
theorem Anh(h:i<ls.length):(ls++[x]).getD i .zero=ls.getD i .zero:=by grind
theorem Ani:(ls++[x]).getD ls.length .zero=x:=by grind
theorem Aaj(k j:Int)(ls:List LnM)(x:Nat):opV j (ls++[⟨k,x,0,0,false⟩])=if j=k then J8 (opV j ls) ((ls.length:Int)+1) (some (int i64 (x:Int))) else opV j ls:=by grind [opV,J8]
def gaN (N:CoN)(ga:Option Addr)(gc:Nat):CoN:=⟨N.bu,ga,gc,N.ub,N.mb⟩
theorem CoM.Wc{m:CoM}(a:m.per k=some p):m.Pn k=min m.unit (m.left k p):=by unfold CoM.Pn;rw[a]
theorem PCore.AoH{D w1:World}{m:CoM}{gc x:Nat}{ga:Option Addr}(h:PCore w c N m n)(q:m.per k=some p)(Q:m.Gu k=0)(I:x=m.Pn k)(u:Kept [] w D)(l:NumPost D c N m (N.ub k) w1 ga gc)(A:Kept [N.ub k,N.mb k] w1 w')
 (O:At w' (N.ub k) 162 [int i64 ((m.left k p:Nat)-(x:Int)),int i64 ((m.It k:Nat)+(x:Int)),int i64 (m.KS k:Nat),int i64 (p.st:Nat),int i64 (p.cell:Nat),.map (some (N.mb k))])
 (P:IMap w' (N.mb k) (n+1) (J8 (opV k m.loans) ((m.loans.length:Int)+1) (some (int i64 (x:Int))))):
 PCore w' c (gaN N ga gc) (m.Mr k) (n+1)/\Ga w.heap.size (coF c N m) (coF c (gaN N ga gc) (m.Mr k))/\Kept (coF c N m) w w':=by
 have C:=h.ok.Mr Q;obtain⟨W,X,K⟩:=h.RX;obtain⟨b1,Y,Z,b4,b5,b6⟩:=K k p q;obtain⟨q1,q2,q3,q4,q5,q6,q7⟩:=h.ok.pr k p q;have a:(m.Mr k).loans=m.loans++[⟨k,x,0,0,false⟩]:=by unfold CoM.Mr;rw[I]
 have V:x<=m.left k p:=by rw[I,CoM.Wc q];omega
 have T:w.heap.size<=D.heap.size:=u.size;have S:=(h.ur k p q).lt;have R:=(h.op k p q).lt;have B:∀y,ga=some y->N.ga=some y\/w.heap.size<=y.block:=fun y d=>(l.nw y d).elim .inl (fun g=> .inr (by omega))
 have E:Kept (c::(gaF N++[N.ub k,N.mb k])) w w':=by
  refine((u.Fn (by simp)).trans (l.kp.Fn (fun y d=>?_))).trans (A.Fn (fun y d=>?_))
  ·grind
  grind
 have r:∀y∈c::(gaF N++[N.ub k,N.mb k]),y=c\/(∃z,N.ga=some z/\y=z.block)\/y=N.ub k\/y=N.mb k:=fun y d=>by
  rw[Ar,BH]at d
  rcases d with d | d | d
  ·exact .inl d
  ·unfold gaF at d
   cases hg:N.ga with
   | none=>rw[hg]at d;simp at d
   | some z=>grind
  ·exact .inr (.inr (by simpa using d))
 have o:∀j,(m.Mr k).per j=if j=k then some p else m.per j:=fun j=>by
  show m.per j=_
  grind
 have v:∀g,(slice ga (m.loans.length+1) gc).ownBlock=some g->g∉[N.ub k,N.mb k]:=fun g hg=>by
  cases G:ga with
  | none=>rw[G]at hg;simp[Value.ownBlock]at hg
  | some y=>
   rw[G]at hg;obtain⟨a',c',e,_,_,U⟩:=Fg l.gr
   grind
 refine⟨h.next (N':=gaN N ga gc) q E r rfl rfl (fun j s=>rfl) (.inl rfl) o (fun j s=>⟨?_,?_,?_⟩) ?_ ?_ ?_ ?_ C (by omega),Tn (N':=gaN N ga gc) h q rfl rfl (fun j s=>rfl) (.inl rfl) o B,E.Fn (fun y d=>?_)⟩
 ·show GU j (m.Mr k).loans=_;rw[a,Rt];simp[GU,LnM.lc,show ¬k=j from fun e=>s e.symm];rfl
 ·show Hc j (m.Mr k).loans=_;rw[a,RV];simp[Hc,LnM.uc];rfl
 ·rw[a,Aaj,Aa s]
 ·rw[a];have:=l.hd.kept A (by grind)
  show At w' c _ [int i64 (m.unit:Int),.map (some N.bu),slice ga (m.loans++[_]).length gc]
  grind
 ·have u1:(m.Mr k).It k=m.It k+x:=by
   show GU k (m.Mr k).loans=_;rw[a,Rt];simp[GU,LnM.lc];rfl
  have J:(m.Mr k).KS k=m.KS k:=by
   show Hc k (m.Mr k).loans=_;rw[a,RV];simp[Hc,LnM.uc];rfl
  have:Gp (gaN N ga gc) (m.Mr k) k p=[int i64 ((m.left k p:Nat)-(x:Int)),int i64 ((m.It k:Nat)+(x:Int)),int i64 (m.KS k:Nat),int i64 (p.st:Nat),int i64 (p.cell:Nat),.map (some (N.mb k))]:=by
   unfold Gp;have e1:(((m.Mr k).left k p:Nat):Int)=(m.left k p:Nat)-(x:Int):=by
    have L:(m.Mr k).left k p=p.quota-(m.Mr k).It k-(m.Mr k).KS k:=rfl;have f2:m.left k p=p.quota-m.It k-m.KS k:=rfl;rw[u1,J]at L;omega
   have e2:(((m.Mr k).It k:Nat):Int)=(m.It k:Nat)+(x:Int):=by rw[u1];omega
   rw[e1,e2,J];rfl
  rw[this];exact O
 ·rw[a,Aaj,Ab rfl];exact P
 ·rw[a]
  show w'.ownsRow 0 _ 2 (slice ga (m.loans++[_]).length gc) (m.loans++[_]).length (Zab N.ub (m.loans++[_]));rw[show(m.loans++[(⟨k,x,0,0,false⟩:LnM)]).length=m.loans.length+1 by simp,Y6];exact FY l.gr A v
 ·rcases r y d with e | ⟨z,u,e⟩ | e | e
  ·rw[e];exact AiB _ _ _
  ·rw[e];exact Aey u
  ·rw[e];exact(N5 h.ok q).1
  ·rw[e];exact(N5 h.ok q).2
def Kt (g t b:Int)(f:Bool):Value:=.agg #[int i64 g,int i64 t,int i64 b,.bool f]
theorem Y3{d:Int}(C:At w ub 162 [int i64 L0,int i64 L1,int i64 d,v3,v4,.map (some mb)])(D:IMap w mb n M)(hg:Gb g)(E:M g=some (int i64 H))(hb:0<=b/\b<=H)(hH:H<=L1)(Y:L1<=1000000000)(Z:0<=d/\d<=1000000000)(L:n<maxLen):
 Calls prog 174 #[Fa ub,Kt g t b f] w fun e w'=>e=.returned (.tuple #[])/\At w' ub 162 [int i64 L0,int i64 (L1-b),int i64 (d+b),v3,v4,.map (some mb)]/\IMap w' mb n (J8 M g (some (int i64 (H-b))))/\Kept [ub,mb] w w':=by
 obtain⟨W,u⟩:=E7 (w.alloc (.cells #[int i64 g,int i64 t,int i64 b,.bool f] 262));have m:Kept [] w W:=by rw[u];exact(Kept.refl _ w).alloc _
 have h:=C.kept m (by simp);have r:=D.kept m (by simp);have j:At W w.heap.size 262 [int i64 g,int i64 t,int i64 b,.bool f]:=by rw[u];exact Fc w _ [int i64 g,int i64 t,int i64 b,.bool f]
 have q:=r.kept (S:=[]) (Kept.refl _ W).drew (by simp);have A:=q.TX hg underlying89 (Tryz.YI W.drew) (x:=int i64 H) (by rw[E];rfl) rfl false;simp only[AV,Ct]at A;obtain⟨w2,B,v,l⟩:=q.put L hg underlying89 (int i64 (H-b)) n (by rw[E];simp);have J:W.cell? ⟨ub,5,none⟩=some (.map (some mb)):=h.cell 5;have T:W.cell? ⟨w.heap.size,0,none⟩=some (int i64 g):=j.cell 0;have U:W.cell? ⟨w.heap.size,2,none⟩=some (int i64 b):=j.cell 2;unfold Fa Kt at*;go_enter func174,ntmps174;go_upto_region 1 with fail
 rw[<-u];have I:=hid u;clear u
 go_region;have s:ub≠mb:=fun e=>r.cells (by rw[<-e];exact h)
 have K:=D.lt;have a:At w2 ub 162 _:=(h.kept (S:=[]) (Kept.refl _ W).drew (by simp)).kept l (by simpa using s);have z:=(j.kept (S:=[]) (Kept.refl _ W).drew (by simp)).kept l (by simp;omega);have y:Kept [ub,mb] w w2:=(m.Fn (by simp)).trans ((Kept.refl _ W).drew.trans (l.Fn (by simp)));have k1:w2.cell? ⟨ub,1,none⟩=some (int i64 L1):=a.cell 1;have k2:w2.cell? ⟨ub,2,none⟩=some (int i64 d):=a.cell 2;have y2:w2.cell? ⟨w.heap.size,2,none⟩=some (int i64 b):=z.cell 2;have V:=a.free 1;have X:=a.free 2;have O:=C.lt;have G:Hid (At ((w2.setCell ⟨ub,1,none⟩ (int i64 (L1-b))).setCell ⟨ub,2,none⟩ (int i64 (d+b))) ub 162 [int i64 L0,int i64 (L1-b),int i64 (d+b),v3,v4,.map (some mb)]/\IMap ((w2.setCell ⟨ub,1,none⟩ (int i64 (L1-b))).setCell ⟨ub,2,none⟩ (int i64 (d+b))) mb n (J8 M g (some (int i64 (H-b))))/\Kept [ub,mb] w ((w2.setCell ⟨ub,1,none⟩ (int i64 (L1-b))).setCell ⟨ub,2,none⟩ (int i64 (d+b)))):=
  hid ⟨(a.setCell (o:=1) (int i64 (L1-b))).setCell (o:=2) (int i64 (d+b)),v.kept (S:=[ub]) (((Kept.refl _ w2).setCell (by simp) _).setCell (by simp) _) (by simpa using fun e=>s e.symm),(y.setCell (by simp) _).setCell (by simp) _⟩
 clear C D h r j q A B a z y v l m J T U I s;go_upto_region 2 with fail
 go_region;go_upto_region 3 with fail
 go_region
 first | go_end0 | skip
 obtain⟨P,Q,R⟩:=G.out;exact⟨rfl,P.kept (S:=[]) (Kept.refl _ _).drew.drew (by simp),Q.kept (S:=[]) (Kept.refl _ _).drew.drew (by simp),R.drew.drew⟩
theorem Acb{v2:Value}(m:At w ub 162 [int i64 L0,int i64 L1,v2,v3,v4,.map (some mb)])(o:IMap w mb n M)(hg:Gb g)(B:M g=some (int i64 H))(A:0<=H/\H<=L1)(y:0<=L0/\L0<=1000000000)(z:L1<=1000000000):
 Calls prog 175 #[Fa ub,int i64 g] w fun e w'=>e=.returned (.tuple #[])/\At w' ub 162 [int i64 (L0+H),int i64 (L1-H),v2,v3,v4,.map (some mb)]/\IMap w' mb n (J8 M g none)/\Kept [ub,mb] w w':=by
 have s:=AfG m y (x:=H) ⟨by omega,z⟩ A;have u:=o.TX hg underlying89 (Tryz.YI w) (x:=int i64 H) (by rw[B];rfl) rfl false;simp only[AV,Ct]at u;have E:w.cell? ⟨ub,5,none⟩=some (.map (some mb)):=m.cell 5;have l:ub≠mb:=fun e=>o.cells (by rw[<-e];exact m)
 have v:Hid (∀w1,At w1 ub 162 [int i64 (L0+H),int i64 (L1-H),v2,v3,v4,.map (some mb)]->Kept [ub] w w1->w1.cell? ⟨ub,5,none⟩=some (.map (some mb))/\∃w2,(∀ty,(Builtin.delete_ #[89,3] ty #[.map (some mb),int i64 g]).run prog w1=.ok (.tuple #[]) w2)/\At w2 ub 162 [int i64 (L0+H),int i64 (L1-H),v2,v3,v4,.map (some mb)]/\IMap w2 mb n (J8 M g none)/\Kept [ub,mb] w w2):=hid fun w1 d h=>by
  have q:=o.kept h (by simpa using fun e=>l e.symm);obtain⟨w2,a,r,j⟩:=q.del hg underlying89 0;refine⟨d.cell 5,w2,fun ty=>?_,d.kept j (by simpa using l),r,(h.Fn (by simp)).trans (j.Fn (by simp))⟩;rw[<-a];rfl
 clear m o;unfold Fa at*;go_enter func175,ntmps175
 go_wp2_with(go_at_call 216;refine s.mono ?_;rintro e w1 ⟨rfl,d,h⟩;obtain⟨G,w2,a,C⟩:=v.out w1 d h;have D:=a 0)
 first | go_end0 | skip
 exact⟨rfl,C⟩
theorem PCore.AeI{m:CoM}(h:PCore w c N m n)(hi:i<m.loans.length):∃gb cur,N.ga=some ⟨gb,0,none⟩/\At w gb 310 cur/\cur.take (m.loans.length*2)=Zab N.ub m.loans/\cur.length=N.gc*2/\m.loans.length<=N.gc/\N.gc<=maxLen/\w.cell? ⟨gb,i*2,none⟩=some (Fa (N.ub (m.loans.getD i .zero).who))/\w.cell? ⟨gb,i*2+1,none⟩=some (int i64 ((m.loans.getD i .zero).turn:Nat)):=by
 obtain⟨gb,e⟩:=Oz h.gr (by omega);have hg:=h.gr;rw[e]at hg;obtain⟨cur,j, -,l,o,q,d,s⟩:=F9 hg;have a:∀k,k<2->w.cell? ⟨gb,i*2+k,none⟩=((m.loans.getD i .zero).cells N.ub)[k]?:=fun k r=>by
  rw[j.cell,<-Kf N.ub m.loans i k hi r,<-d,A3 (by omega)]
 exact⟨gb,cur,e,j,d,q,l,o,a 0 (by omega),a 1 (by omega)⟩
theorem AjA(hi:i<ls.length)(hg:g=(i:Int)+1):opV (ls.getD i .zero).who ls g=if (ls.getD i .zero).shut=true then none else some (int i64 (((ls.getD i .zero).bytes-(ls.getD i .zero).used:Nat):Int)):=by grind [opV]
theorem Tf{m:CoM}(h:PCore w c N m n)(hi:i<m.loans.length)(hg:g=(i:Int)+1)(G:N.ga=some ⟨gb,0,none⟩)(I:Gb g)(ht:Gb t)(Z:Gb b)(hn:n<=Jf):
 Calls prog 173 #[.pointer (some ⟨gb,i*2,none⟩),Kt g t b f] w fun e w'=>e=.returned (int i64 (m.repErr g t b))/\Below w.heap.size w w':=by
 obtain⟨L,z⟩:=E7 (m.at g);have j:L=m.loans.getD i .zero:=by rw[z,hg];unfold CoM.at;grind
 obtain⟨Q,cur,e1, -, -, -, -, -,c0,c1⟩:=h.AeI hi;rw[G]at e1;obtain rfl:gb=Q:=by injection e1 with e1;injection e1
 rw[<-j]at c0 c1;obtain⟨⟨p,E⟩,y,u,v⟩:=h.ok.ln L (by rw[j];exact V2 hi);have U:n<=8796093022208:=hn;have d:m.repErr g t b=if 1<=t/\t<=(L.turn:Int) then 10 else if t=(L.turn:Int)+1 then (if L.shut=true then 9 else if 0<=b/\b<=((L.bytes-L.used:Nat):Int) then 0 else 11) else 3:=by
  unfold CoM.repErr;rw[Ab (by omega),<-z]
 obtain⟨W,l⟩:=E7 (w.alloc (.cells #[int i64 g,int i64 t,int i64 b,.bool f] 262));have C:Kept [] w W:=by rw[l];exact(Kept.refl _ w).alloc _
 have o:At W w.heap.size 262 [int i64 g,int i64 t,int i64 b,.bool f]:=by rw[l];exact Fc w _ [int i64 g,int i64 t,int i64 b,.bool f]
 have q:Below w.heap.size w W:=by rw[l];exact(Ad _ w).alloc (Ac _) _
 have B:=h.kept C (by simp);have P:=E8 C c0 (by simp);have d1:=E8 C c1 (by simp);have u0:W.cell? ⟨w.heap.size,0,none⟩=some (int i64 g):=o.cell 0;have u1:W.cell? ⟨w.heap.size,1,none⟩=some (int i64 t):=o.cell 1;have u2:W.cell? ⟨w.heap.size,2,none⟩=some (int i64 b):=o.cell 2;have O:W.cell? ⟨N.ub L.who,5,none⟩=some (.map (some (N.mb L.who))):=(B.ur _ p E).cell 5;have A:=B.op _ p E;have a:=AjA (ls:=m.loans) hi hg;rw[<-j]at a;generalize m.repErr g t b=V at*;generalize N.ub L.who=ub at*;generalize N.mb L.who=mb at*;generalize s:(L.turn:Int)=T at*;have hT:0<=T/\T<=8796093022208:=by omega
 unfold Fa Kt at*;unfold Gb at ht Z;clear hg G e1 hi
 by_cases X:1<=t
 ·by_cases Y:t<=T
  ·have r:=hid (show V=10 by rw[d,Ab ⟨X,Y⟩]);clear h B A a E y u v d z j s o c0 c1 O P;go_enter func173,ntmps173;go_upto_region 1 with fail
   rw[<-l];clear l
   go_region
   go_wp2_with fail;go_ret;exact⟨by rw[r.out];rfl,q.drew⟩
  ·by_cases J:t=T+1
   ·subst J;rw[Aa (by omega),Ab rfl]at d
    cases K:L.shut with
    | true=>
     rw[K,Ab rfl]at d a;have r:=hid d;have D:=(A.kept (S:=[]) (Kept.refl _ W).drew.drew.drew (by simp)).TX I underlying89 (Tryz.YI W.drew.drew.drew) (x:=int i64 0) (b:=false) (by rw[a];rfl) (by rw[a];rfl) true;simp only[AP]at D;clear h B A a E y u v d z j s o c0 c1 K;go_enter func173,ntmps173;go_upto_region 1 with fail
     rw[<-l];clear l
     go_region;go_upto_region 3 with fail
     go_region;go_upto_region 5 with fail
     go_region
     go_wp2_with fail;go_ret;exact⟨by rw[r.out];rfl,q.drew.drew.drew⟩
    | false=>
     rw[K,Aa (by simp)]at d a;generalize R:((L.bytes-L.used:Nat):Int)=H at*;have D:=(A.kept (S:=[]) (Kept.refl _ W).drew.drew.drew (by simp)).TX I underlying89 (Tryz.YI W.drew.drew.drew) (x:=int i64 H) (b:=true) (by rw[a];rfl) (by rw[a];rfl) true;simp only[AP]at D;clear h B A a E y u v z j s o c0 c1 K R
     by_cases b1:b<0
     ·have r:=hid (show V=11 by rw[d,Aa (by omega)]);clear d;go_enter func173,ntmps173;go_upto_region 1 with fail
      rw[<-l];clear l
      go_region;go_upto_region 3 with fail
      go_region;go_upto_region 5 with fail
      go_region
      go_wp2_with fail;go_ret;exact⟨by rw[r.out];rfl,q.drew.drew.drew⟩
     ·by_cases b2:H<b
      ·have r:=hid (show V=11 by rw[d,Aa (by omega)]);clear d;go_enter func173,ntmps173;go_upto_region 1 with fail
       rw[<-l];clear l
       go_region;go_upto_region 3 with fail
       go_region;go_upto_region 5 with fail
       go_region
       go_wp2_with fail;go_ret;exact⟨by rw[r.out];rfl,q.drew.drew.drew⟩
      ·have r:=hid (show V=0 by rw[d,Ab (by omega)]);clear d;go_enter func173,ntmps173;go_upto_region 1 with fail
       rw[<-l];clear l
       go_region;go_upto_region 3 with fail
       go_region;go_upto_region 5 with fail
       go_region
       go_wp2_with fail;go_ret;exact⟨by rw[r.out];rfl,q.drew.drew.drew⟩
   ·have r:=hid (show V=3 by rw[d,Aa (by omega),Aa J]);clear h B A a E y u v d z j s o c0 c1 O P;go_enter func173,ntmps173;go_upto_region 1 with fail
    rw[<-l];clear l
    go_region;go_upto_region 3 with fail
    go_region
    go_wp2_with fail;go_ret;exact⟨by rw[r.out];rfl,q.drew.drew⟩
 ·have J:¬t=T+1:=by omega
  have r:=hid (show V=3 by rw[d,Aa (by omega),Aa J]);clear h B A a E y u v d z j s o c0 c1 O P;go_enter func173,ntmps173;go_upto_region 1 with fail
  rw[<-l];clear l
  go_region;go_upto_region 3 with fail
  go_region
  go_wp2_with fail;go_ret;exact⟨by rw[r.out];rfl,q.drew.drew⟩
theorem Ank(hi:i<ls.length):(ls.set i x).getD i .zero=x:=by grind
theorem Anj{j:Nat}(h:i≠j):(ls.set i x).getD j .zero=ls.getD j .zero:=by grind
theorem AlU(hi:i<ls.length)(hg:g=(i:Int)+1)(a:x.who=(ls.getD i .zero).who)(j:Int):opV j (ls.set i x)=if j=x.who then J8 (opV j ls) g (if x.shut=true then none else some (int i64 ((x.bytes-x.used:Nat):Int))) else opV j ls:=by grind [opV,J8]
structure RepN(m:CoM)(g b:Int)(fin:Bool)(p:PrM)(l0 l1 l2:Int):Prop where
 n0:((m.rep g b fin).left (m.at g).who p:Int)=l0
 n1:((m.rep g b fin).It (m.at g).who:Int)=l1
 n2:((m.rep g b fin).KS (m.at g).who:Int)=l2
theorem RepN.of{m:CoM}(h:m.Ok n)(j:m.repErr g t b=0)(l:m.per (m.at g).who=some p)(fin:Bool):
 RepN m g b fin p (if fin then (m.left (m.at g).who p:Int)+(((m.at g).bytes-(m.at g).used:Nat)-b) else (m.left (m.at g).who p:Int)) (if fin then (m.It (m.at g).who:Int)-b-(((m.at g).bytes-(m.at g).used:Nat)-b) else (m.It (m.at g).who:Int)-b) ((m.KS (m.at g).who:Int)+b)/\((m.at g).bytes-(m.at g).used:Nat)<=m.It (m.at g).who:=by
 have a:=CoM.Yh j;have hi:g.toNat-1<m.loans.length:=by have:=a.g1;have:=a.g2;omega
 obtain⟨_,_,_,_,_,_,v⟩:=h.pr _ p l;have e1:=OX (m.at g).who ⟨(m.at g).who,(m.at g).bytes,(m.at g).used+b.toNat,(m.at g).turn+1,fin⟩ m.loans _ hi;have e2:=Pb (m.at g).who ⟨(m.at g).who,(m.at g).bytes,(m.at g).used+b.toNat,(m.at g).turn+1,fin⟩ m.loans _ hi;have e3:=AoF (m.at g).who m.loans _ hi;have e:m.loans.getD (g.toNat-1) .zero=m.at g:=rfl;rw[e]at e1 e2 e3;have o:(m.rep g b fin).It (m.at g).who=GU (m.at g).who (m.loans.set (g.toNat-1) ⟨(m.at g).who,(m.at g).bytes,(m.at g).used+b.toNat,(m.at g).turn+1,fin⟩):=rfl;have q:(m.rep g b fin).KS (m.at g).who=Hc (m.at g).who (m.loans.set (g.toNat-1) ⟨(m.at g).who,(m.at g).bytes,(m.at g).used+b.toNat,(m.at g).turn+1,fin⟩):=rfl;have r:(m.rep g b fin).left (m.at g).who p=p.quota-(m.rep g b fin).It (m.at g).who-(m.rep g b fin).KS (m.at g).who:=rfl;have y:m.left (m.at g).who p=p.quota-m.It (m.at g).who-m.KS (m.at g).who:=rfl;have z:m.It (m.at g).who=GU (m.at g).who m.loans:=rfl;have A:m.KS (m.at g).who=Hc (m.at g).who m.loans:=rfl;have b0:=a.b0;have b1:=a.b1;have d:=a.op;generalize GU (m.at g).who (m.loans.set (g.toNat-1) ⟨(m.at g).who,(m.at g).bytes,(m.at g).used+b.toNat,(m.at g).turn+1,fin⟩)=s at*;generalize Hc (m.at g).who (m.loans.set (g.toNat-1) ⟨(m.at g).who,(m.at g).bytes,(m.at g).used+b.toNat,(m.at g).turn+1,fin⟩)=u at*;rw[o,q]at r;simp only[LnM.lc,LnM.uc,d,and_self,AP]at e1 e2 e3;generalize (m.at g).bytes=B at*;generalize (m.at g).used=U at*;refine⟨⟨?_,?_,?_⟩,by omega⟩
 ·cases fin<;>simp at e1 |-<;>omega
 ·cases fin<;>simp at e1 |-<;>omega
 ·omega
theorem PCore.AeZ{m:CoM}{fin:Bool}{cur:List Value}{P Q R:Int}(h:PCore w c N m n)(O:m.repErr g t b=0)(B:m.per (m.at g).who=some p)(hi:i<m.loans.length)(hg:g=(i:Int)+1)(o:N.ga=some ⟨gb,0,none⟩)(s:At w gb 310 cur)(J:Kept [gb,N.ub (m.at g).who,N.mb (m.at g).who] w w')
 (Y:At w' gb 310 (cur.set (i*2+1) (int i64 t))) (G:RepN m g b fin p P Q R)
 (X:At w' (N.ub (m.at g).who) 162 [int i64 P,int i64 Q,int i64 R,int i64 (p.st:Nat),int i64 (p.cell:Nat),.map (some (N.mb (m.at g).who))])
 (Z:IMap w' (N.mb (m.at g).who) n (J8 (opV (m.at g).who m.loans) g (if fin=true then none else some (int i64 (((m.at g).bytes-(m.at g).used:Nat)-b))))):
 PCore w' c N (m.rep g b fin) (n+1)/\Ga w.heap.size (coF c N m) (coF c N (m.rep g b fin))/\Kept (coF c N m) w w':=by
 have K:=h.ok.rep (fin:=fin) O;have I:=CoM.Yh O;have aa:=I.b0;have ab:=I.b1;obtain⟨a1,a2,S⟩:=h.RX;obtain⟨b1,b2,b3,b4,b5,b6⟩:=S _ p B;have L:g.toNat-1=i:=by omega
 have l:m.loans.getD i .zero=m.at g:=by unfold CoM.at;rw[L]
 have a:(m.rep g b fin).loans=m.loans.set i ⟨(m.at g).who,(m.at g).bytes,(m.at g).used+b.toNat,(m.at g).turn+1,fin⟩:=by unfold CoM.rep;rw[L]
 have v:(m.rep g b fin).loans.length=m.loans.length:=by rw[a,An]
 have hS:∀y∈[gb,N.ub (m.at g).who,N.mb (m.at g).who],y=c\/(∃z,N.ga=some z/\y=z.block)\/y=N.ub (m.at g).who\/y=N.mb (m.at g).who:=by grind
 have d:∀j,(m.rep g b fin).per j=if j=(m.at g).who then some p else m.per j:=fun j=>by
  show m.per j=_
  grind
 have A:=fun j=>AlU (x:=⟨(m.at g).who,(m.at g).bytes,(m.at g).used+b.toNat,(m.at g).turn+1,fin⟩) hi hg (by rw[l]) j
 refine⟨h.next B J hS rfl rfl (fun j u=>rfl) (.inl rfl) d (fun j u=>⟨?_,?_,?_⟩) ?_ ?_ ?_ ?_ K (by omega),Tn h B rfl rfl (fun j u=>rfl) (.inl rfl) d (fun y C=> .inl C),J.Fn (fun y C=>?_)⟩
 ·have:=OX j ⟨(m.at g).who,(m.at g).bytes,(m.at g).used+b.toNat,(m.at g).turn+1,fin⟩ m.loans i hi;rw[l]at this;simp only[LnM.lc,show ¬(m.at g).who=j from fun e=>u e.symm,false_and,AV]at this
  show GU j (m.rep g b fin).loans=GU j m.loans;rw[a];omega
 ·have:=Pb j ⟨(m.at g).who,(m.at g).bytes,(m.at g).used+b.toNat,(m.at g).turn+1,fin⟩ m.loans i hi;rw[l]at this;simp only[LnM.uc,show ¬(m.at g).who=j from fun e=>u e.symm,AV]at this
  show Hc j (m.rep g b fin).loans=Hc j m.loans;rw[a];omega
 ·rw[a,A j,Aa u]
 ·rw[v];refine h.hd.kept J ?_
  grind
 ·unfold Gp;rw[G.n0,G.n1,G.n2];exact X
 ·rw[a,A _,Ab rfl];refine(Z.mono (by omega)).congr fun j=>?_
  grind
 ·rw[v,a];obtain⟨D,q,e1,E,W,V,T,U, -, -⟩:=h.AeI hi;rw[o]at e1;obtain rfl:gb=D:=by injection e1 with e1;injection e1
  have r:cur=q:=by
   unfold At at s E
   grind
  subst r;rw[o];refine Y.row (by rw[JC,An]) T U (by rw[An];exact V) ?_;rw[CW,W];have ht:t=(((m.at g).turn+1:Nat):Int):=by rw[I.t1];omega
  rw[ht];exact Y7 (x:=⟨(m.at g).who,(m.at g).bytes,(m.at g).used+b.toNat,(m.at g).turn+1,fin⟩) hi (by rw[l])
 ·simp at C
  rcases C with e | e | e
  ·rw[e];exact Aey o
  ·rw[e];exact(N5 h.ok B).1
  ·rw[e];exact(N5 h.ok B).2
theorem Ts{m:CoM}(h:PCo w c F m n)(hg:Gb g)(j:¬(1<=g/\g<=(m.loans.length:Int))):Calls prog 134 #[Fa c,Kt g t b f] w (StepC w c F (m.Fx g t b f) n):=by
 obtain⟨N,rfl,h⟩:=h;have o:m.repErr g t b=6:=by unfold CoM.repErr;rw[Aa j]
 have q:m.Fx g t b f=⟨m,6⟩:=by unfold CoM.Fx;rw[o];rfl
 obtain⟨W,d⟩:=E7 (w.alloc (.cells #[int i64 g,int i64 t,int i64 b,.bool f] 262));have a:Kept [] w W:=by rw[d];exact(Kept.refl _ w).alloc _
 have e:At W w.heap.size 262 [int i64 g,int i64 t,int i64 b,.bool f]:=by rw[d];exact Fc w _ [int i64 g,int i64 t,int i64 b,.bool f]
 have u:W.cell? ⟨w.heap.size,0,none⟩=some (int i64 g):=e.cell 0;have c2:=(h.kept a (by simp)).head.2.2
 have l:Hid (StepC w c (coF c N m) (m.Fx g t b f) n (.returned (int i64 6)) W.drew):=hid (by
  rw[q]
  exact⟨rfl,(a.Fn (by simp)).drew,_,⟨N,rfl,((h.kept a (by simp)).kept (T:=[]) (Kept.refl _ W).drew (by simp))⟩,fun x s=> .inl s⟩)
 generalize StepC w c (coF c N m) (m.Fx g t b f) n=P at*;generalize m.loans.length=r at*;clear h o q e;unfold Fa Kt at*;unfold Gb at hg
 by_cases g1:g<1
 ·clear j;go_enter func134,ntmps134;go_upto_region 1 with fail
  rw[<-d];clear d
  go_region
  go_wp2_with fail;exact l.out
 ·have g2:(r:Int)<g:=by omega
  clear j;go_enter func134,ntmps134;go_upto_region 1 with fail
  rw[<-d];clear d
  go_region
  go_wp2_with fail;exact l.out
theorem Zs{m:CoM}(h:PCo w c F m n)(ht:Gb t)(C:Gb b)(Q:n<Jf)(hg:1<=g/\g<=(m.loans.length:Int))(K:m.repErr g t b≠0):Calls prog 134 #[Fa c,Kt g t b f] w (StepC w c F (m.Fx g t b f) n):=by
 obtain⟨N,rfl,h⟩:=h;have B:m.Fx g t b f=⟨m,m.repErr g t b⟩:=by unfold CoM.Fx;rw[Aa K]
 have D:=h.ok.len;have R:n<8796093022208:=Q;obtain⟨i,A⟩:∃i:Nat,g=(i:Int)+1:=⟨g.toNat-1,by omega⟩;have hi:i<m.loans.length:=by omega
 obtain⟨gb,cur,j, -⟩:=h.AeI hi;obtain⟨W,l⟩:=E7 (w.alloc (.cells #[int i64 g,int i64 t,int i64 b,.bool f] 262));have z:Kept [] w W:=by rw[l];exact(Kept.refl _ w).alloc _
 have a:At W w.heap.size 262 [int i64 g,int i64 t,int i64 b,.bool f]:=by rw[l];exact Fc w _ [int i64 g,int i64 t,int i64 b,.bool f]
 have v:Below w.heap.size w W.drew.drew:=by rw[l];exact((Ad _ w).alloc (Ac _) _).drew.drew
 have V:W.cell? ⟨w.heap.size,0,none⟩=some (int i64 g):=a.cell 0;have u1:W.cell? ⟨w.heap.size,1,none⟩=some (int i64 t):=a.cell 1;have X:W.cell? ⟨w.heap.size,2,none⟩=some (int i64 b):=a.cell 2;have Y:W.cell? ⟨w.heap.size,3,none⟩=some (.bool f):=a.cell 3;have u:=h.kept z (by simp);have c2:=u.head.2.2;rw[j]at c2;have o:=u.kept (T:=[]) (Kept.refl _ W).drew.drew (by simp);have y:=Tf (f:=f) o hi A j (by unfold Gb;omega) ht C (by unfold Jf;omega);have G:Hid (∀r,Below W.drew.drew.heap.size W.drew.drew r->StepC w c (coF c N m) (m.Fx g t b f) n (.returned (int i64 (m.repErr g t b))) r):=hid fun r d=>by
  rw[B];have q:=Fr v d;exact⟨rfl,Kept.E5 q,_,⟨N,rfl,h.kept (Kept.E5 (S:=[]) q) (by simp)⟩,fun x U=> .inl U⟩
 generalize StepC w c (coF c N m) (m.Fx g t b f) n=P at*;generalize m.repErr g t b=E at*;generalize s:m.loans.length=I at*;clear h B a u o j s C ht;unfold Fa Kt at*;have J:g-1=(i:Int):=by omega
 have L:¬g<1:=by omega
 have O:¬(I:Int)<g:=by omega
 clear hg A;go_enter func134,ntmps134;go_upto_region 1 with fail
 rw[<-l];clear l
 go_region;go_upto_region 3 with fail
 go_region
 go_wp2_with(go_at_call 173;refine y.mono ?_;rintro e r ⟨rfl,d⟩);exact G.out r d
end Go.Proofs.YtbjgfoiikhbonahGreatDoor
