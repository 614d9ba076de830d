import Derived.Test.YtbjgfoiikhbonahGreatDoorA33
set_option linter.unusedVariables false
set_option linter.unusedSimpArgs false
set_option maxRecDepth 100000
set_option maxHeartbeats 4000000
namespace Go.Proofs.YtbjgfoiikhbonahGreatDoor
open Go.ChangeShapes Go.WideShapes Go.ChangeAt Go.RowKit Go.Maps Go.Proofs.Tryz
open Value renaming int->A,slice->I
open Option renaming some->C,none->D
open Obj renaming cells->G
open Ending renaming returned->J
open IntKind renaming i64->O
variable {F:List Nat}{H L0 L1 b g k t:Int}{M:Int->Option Value}{N:CoN}{c gb i mb n ub:Nat}{f:Bool}{ls:List LnM}{p:PrM}{v3 v4:Value}{w w':World}{x:LnM}
def AjX (m:CoM)(k:Int):Value:=.agg #[A O ((m.MR k).1:Nat), A O ((m.MR k).2.1:Nat), A O ((m.MR k).2.2:Nat)]
theorem AaS{m:CoM}(h:m.per k=D):m.MR k=(0,0,0)/\m.PZ k=12:=by
 unfold CoM.MR CoM.PZ;rw[h];exact⟨rfl,rfl⟩
theorem AaT{m:CoM}(h:m.per k=C p):m.MR k=(m.left k p,m.It k,m.KS k)/\m.PZ k=0:=by
 unfold CoM.MR CoM.PZ;rw[h];exact⟨rfl,rfl⟩
theorem Zq{m:CoM}(h:PCo w c F m n)(B:Gb k):Calls prog 84 #[Fa c, A O k] w fun e w'=>e= J (.tuple #[AjX m k, A O (m.PZ k)])/\Below w.heap.size w w':=by
 obtain⟨N,rfl,h⟩:=h;have y:Below w.heap.size w (w.alloc (G #[A O 0, A O 0, A O 0] 157)):=(Ad _ w).alloc (Ac _) _;have o:=h.kept (Kept.E5 (S:=[]) y) (by simp);have a:=Fc w 157 [A O 0, A O 0, A O 0];have s:w.heap.size∉coF c N m:=fun T=>Bp _ (h.lt _ T)
 cases j:m.per k with
 | none=>
  have z:=M7 o B j;unfold AjX;rw[(AaS j).1,(AaS j).2];have n0:(w.alloc (G #[A O 0, A O 0, A O 0] 157)).cell? ⟨w.heap.size,0,D⟩=C (A O 0):=a.cell 0;have n1:(w.alloc (G #[A O 0, A O 0, A O 0] 157)).cell? ⟨w.heap.size,1,D⟩=C (A O 0):=a.cell 1;have n2:(w.alloc (G #[A O 0, A O 0, A O 0] 157)).cell? ⟨w.heap.size,2,D⟩=C (A O 0):=a.cell 2;have P:=a.free 0;have g1:=a.free 1;have g2:=a.free 2;clear h o j s a;unfold Fa at*;go_enter func84,ntmps84
  go_wp2_with(go_at_call 122;refine z.mono ?_;rintro e w1 ⟨rfl,rfl⟩)
  (try simp only[Exit.inBlock,Exit.then])
  refine Ah (v:=.tuple #[.agg #[A O 0, A O 0, A O 0], A O 12]) ?_ rfl ⟨rfl,?_⟩
  ·rw[AD rfl]
   go_simp
  grind
 | some p=>
  have z:=M8 o B j;unfold AjX;rw[(AaT j).1,(AaT j).2];have u:=o.ur k p j;have c0:(w.alloc (G #[A O 0, A O 0, A O 0] 157)).cell? ⟨N.ub k,0,D⟩=C (A O (m.left k p:Nat)):=u.cell 0;have c1:(w.alloc (G #[A O 0, A O 0, A O 0] 157)).cell? ⟨N.ub k,1,D⟩=C (A O (m.It k:Nat)):=u.cell 1;have c2:(w.alloc (G #[A O 0, A O 0, A O 0] 157)).cell? ⟨N.ub k,2,D⟩=C (A O (m.KS k:Nat)):=u.cell 2;have n0:(w.alloc (G #[A O 0, A O 0, A O 0] 157)).cell? ⟨w.heap.size,0,D⟩=C (A O 0):=a.cell 0;have n1:(w.alloc (G #[A O 0, A O 0, A O 0] 157)).cell? ⟨w.heap.size,1,D⟩=C (A O 0):=a.cell 1;have n2:(w.alloc (G #[A O 0, A O 0, A O 0] 157)).cell? ⟨w.heap.size,2,D⟩=C (A O 0):=a.cell 2;have P:=a.free 0;have g1:=a.free 1;have g2:=a.free 2;generalize m.left k p=E at*;generalize m.It k=K at*;generalize m.KS k=L at*;generalize N.ub k=ub at*;clear h o j s a u;unfold Fa at*;go_enter func84,ntmps84
  go_wp2_with(go_at_call 122;refine z.mono ?_;rintro e w1 ⟨rfl,rfl⟩)
  (try simp only[Exit.inBlock,Exit.then])
  refine Ah (v:=.tuple #[.agg #[A O (E:Int), A O (K:Int), A O (L:Int)], A O 0]) ?_ rfl ⟨rfl,?_⟩
  ·rw[AD rfl]
   go_simp
  ·exact(Ad _ w).alloc (Ac _) _
def S5 (c:Nat):Nat:=c-(c-1) % 8
def Aes (c:Nat):Nat:=min 8 (101-S5 c)
def Pe (f k:Nat):List Int:=(List.range k).map fun i=>((f+i:Nat):Int)
theorem AbW(f k:Nat):Pe f (k+1)=Pe f k++[((f+k:Nat):Int)]:=by
 unfold Pe;rw[Az,AR];rfl
theorem OL(f k:Nat):(Pe f k).length=k:=by simp[Pe]
theorem Aim:((List.range 101).all fun c=>c==0 || RY c==Pe (S5 c) (Aes c))=true:=by kernel_rfl
theorem Ak9(a:1<=c)(e:c<=100):RY c=Pe (S5 c) (Aes c):=by grind [RY,Pe,S5,Aes,Aim]
theorem AfD(c:Nat)(w:World)(h1:1<=c)(h2:c<=100):Calls prog 178 #[A O (c:Int)] w fun e w'=>∃a cc,e= J (I a (RY c).length cc)/\OwnI w' w.heap.size (I a (RY c).length cc) (RY c)/\Below w.heap.size w w':=by
 rw[Ak9 h1 h2,OL];obtain⟨f, m⟩ := E7 (S5 c);obtain⟨K, E⟩ := E7 (Aes c);have hf:((c:Int)-(((c:Int)-1) % 8))=(f:Int):=by rw[m];unfold S5;omega
 have aa:1<=f/\f<=100:=by rw[m];unfold S5;omega
 have W:K=min 8 (101-f):=by rw[E,m];rfl
 rw[<-m,<-E];clear m E;go_enter func178,ntmps178
 go_wp2_with fail
 go_loopw [4,5] (fun vm P wr=>∃(k cc:Nat) (a:Option Addr),k<=K/\P= A O ((f+k:Nat):Int)/\vm= I a k cc/\Hid (OwnI wr w.heap.size (I a k cc) (Pe f k))/\Hid (Below w.heap.size w wr)) (fun _ P _=>200-(intOf P).toNat)
 case atStart=>exact⟨0,0,D,by omega,by simp[*],rfl,hid (OwnI.nil _ _),hid (Ad _ _)⟩
 case round=>
  obtain⟨k,cc,a,hk,rfl,rfl,z,s⟩:=hrel
  by_cases ab:k<K
  ·have T:((f+k:Nat):Int)<(f:Int)+8:=by omega
   have U:((f+k:Nat):Int)<=100:=by omega
   have v:Hid ((Pe f k).length<8796093022208):=hid (by rw[OL];omega);obtain⟨y, h⟩ := E7 (((f+k:Nat):Int):Int);rw[<-h]at T U ⊢;have hy:1<=y:=by omega
   have S:=hid h;clear h
   go_wp2_with(at_builtin;refine Rj w.heap.size w y z.out rfl _ _ rfl rfl rfl v.out s.out s.out.size ?_;intro v3 w3 j o;obtain⟨a3,c3,L, -, -⟩:=OwnI.FC j;subst L;have B:=hid j;have u:=hid o;clear j o)
   go_roundw
   case rel=>
    have V:=B.out;rw[S.out,<-AbW,OL]at V;refine⟨k+1,c3,a3,by omega,?_,?_,hid V,u⟩
    ·have:=S.out;simp;omega
    ·simp[OL]
   case measure=>simp[intOf];omega
  ·have ek:k=K:=by omega
   subst ek;obtain⟨y, h⟩ := E7 (((f+k:Nat):Int):Int)
   by_cases T:y<(f:Int)+8
   ·have U:¬y<=100:=by omega
    rw[<-h];clear h W
    go_wp2_with fail;go_ret;exact⟨a,cc,rfl,z.out,s.out⟩
   ·rw[<-h];clear h W
    go_wp2_with fail;go_ret;exact⟨a,cc,rfl,z.out,s.out⟩
theorem AjP{m:CoM}(a:m.per k=C p)(h:p.st=1):m.Uh k=[(p.cell:Int)]:=by unfold CoM.Uh;rw[a];simp[h]
theorem AgS{m:CoM}(a:m.per k=C p)(h:p.st=2):m.Uh k=RY p.cell:=by unfold CoM.Uh;rw[a];simp[h]
theorem AjO{m:CoM}(h:m.QN k≠0):m.Uh k=[]:=by grind [CoM.Uh,CoM.QN,CoM.Fi,RM]
def Iv (w:World)(m:CoM)(k:Int):Ending->World->Prop:=fun e w'=>∃a cc,e= J (.tuple #[I a (m.Uh k).length cc, A O (m.QN k)])/\OwnI w' w.heap.size (I a (m.Uh k).length cc) (m.Uh k)/\Below w.heap.size w w'
theorem AfS{m:CoM}(h:PCo w c F m n)(hk:Gb k):Calls prog 136 #[Fa c, A O k] w (Iv w m k):=by
 obtain⟨N,rfl,h⟩:=h;have hi:=Ach 0 w;have K:Below w.heap.size w (w.alloc (G #[A O 0] 158)):=(Ad _ w).alloc (Ac _) _;have hr:Rd O (w.alloc (G #[A O 0] 158)) D []:=Rd.nil _ _ _;have z:(w.alloc (G #[A O 0] 158)).cell? ⟨w.heap.size,0,D⟩=C (A O ((0:Nat):Int)):=ON w _ 0;have h2:=h.kept (Kept.E5 (S:=[]) K) (by simp);have W:=Ali (cc:=0) h2 hk (AbX (s:=0) z) hr (by simp)
 by_cases y:m.QN k=0
 ·obtain⟨p,V,aa,ht⟩:=CoM.NV y;have u:m.Fi k (RM 0) []=0:=y;have U:Gd N m k (RM 0) []=Fa (N.ub k):=by unfold Gd;rw[Ab u]
  rw[U,u]at W;obtain⟨q1,q2,q3,q4,q5,q6,q7⟩:=h.ok.pr k p V;have T:p.st≠0:=by simpa [RM]using ht
  have q6:=q6 T;have HU:Hid (∀o,Below (w.alloc (G #[A O 0] 158)).heap.size (w.alloc (G #[A O 0] 158)) o->o.cell? ⟨N.ub k,3,D⟩=C (A O (p.st:Nat))/\o.cell? ⟨N.ub k,4,D⟩=C (A O (p.cell:Nat))/\Below w.heap.size w o):=hid fun o j=>by
   have hb:=Fr K j;have hA:=(h.kept (Kept.E5 (S:=[]) hb) (by simp)).ur k p V;exact⟨hA.cell 3,hA.cell 4,hb⟩
  by_cases h1:p.st=1
  ·have HP:Hid (∀o,Below w.heap.size w o->Iv w m k (J (.tuple #[I (C ⟨o.heap.size,0,D⟩) 1 1, A O 0])) (o.alloc (G #[A O (p.cell:Nat)] 3))):=hid fun o j=>by
    unfold Iv;rw[AjP V h1,y];refine⟨_,1,rfl,?_,j.alloc j.size _⟩;exact⟨rfl,.inr ⟨o.heap.size,1,#[A O (p.cell:Nat)],rfl,j.size,Am o _,Ac _,by unfold maxLen;omega,rfl,rfl⟩⟩
   rw[h1]at HU;generalize Iv w m k=P at*;generalize N.ub k=ub at*;generalize p.cell=pc at*;clear h h2 hr z y u V aa ht U h1 T;unfold Fa Jn at*;go_enter func136,ntmps136
   go_wp2_with(first
    | (go_at_call 177;refine hi.mono ?_;rintro e w1 ⟨rfl,rfl⟩)
    | (go_at_call 72;refine W.mono ?_;rintro e o ⟨rfl,j⟩;obtain⟨u3,u4,L⟩:=HU.out o j))
   exact HP.out o L
  ·have B:p.st=2:=by omega
   have HA:Hid (∀o,Below w.heap.size w o->Calls prog 178 #[A O (p.cell:Int)] o fun e w'=>∃v,e= J v/\Iv w m k (J (.tuple #[v, A O 0])) w'):=hid fun o j=>by
    refine(AfD p.cell o q6 q5).mono ?_;rintro e w' ⟨a,cc,rfl,ho,hb⟩;refine⟨_,rfl,?_⟩;unfold Iv;rw[AgS V B,y];exact⟨a,cc,rfl,OwnI.mono ho j.size,Fr j hb⟩
   rw[B]at HU;generalize Iv w m k=P at*;generalize N.ub k=ub at*;generalize p.cell=pc at*;clear h h2 hr z y u V aa ht U h1 T B;unfold Fa Jn at*;go_enter func136,ntmps136
   go_wp2_with(first
    | (go_at_call 177;refine hi.mono ?_;rintro e w1 ⟨rfl,rfl⟩)
    | (go_at_call 72;refine W.mono ?_;rintro e o ⟨rfl,j⟩;obtain⟨u3,u4,L⟩:=HU.out o j)
    | (go_at_call 178;refine(HA.out o L).mono ?_;rintro e w5 ⟨v5,rfl,hP⟩))
   exact hP
 ·have u:¬m.Fi k (RM 0) []=0:=y;have U:Gd N m k (RM 0) []=.pointer D:=by unfold Gd;rw[Aa u]
  rw[U]at W;have HF:Hid (∀o,Below (w.alloc (G #[A O 0] 158)).heap.size (w.alloc (G #[A O 0] 158)) o->Iv w m k (J (.tuple #[I D 0 0, A O (m.Fi k (RM 0) [])])) o):=hid fun o j=>by
   unfold Iv;rw[AjO y];exact⟨D,0,rfl,OwnI.nil _ _,Fr K j⟩
  generalize Iv w m k=P at*;generalize m.Fi k (RM 0) []=E at*;clear h h2 hr z U y;unfold Fa Jn at*;go_enter func136,ntmps136
  go_wp2_with(first
   | (go_at_call 177;refine hi.mono ?_;rintro e w1 ⟨rfl,rfl⟩)
   | (go_at_call 72;refine W.mono ?_;rintro e o ⟨rfl,j⟩))
  exact HF.out o j
theorem Tryz.Ann:(prog.info? 310).map (fun i=>(i.zero,i.size,i.bytes))=C (C (.agg #[.pointer D, A O 0]),2,16):=by kernel_rfl
def gaF (N:CoN):List Nat:=(N.ga.map (·.block)).toList
structure NumPost(w:World)(c:Nat)(N:CoN)(m:CoM)(ub:Nat)(w':World)(ga:Option Addr)(gc:Nat):Prop where
 hd:At w' c 64 [A O (m.unit:Int),.map (C N.bu), I ga (m.loans.length+1) gc]
 gr:w'.ownsRow 0 310 2 (I ga (m.loans.length+1) gc) (m.loans.length+1) (Zab N.ub m.loans++[Fa ub, A O 0])
 nw:∀y,ga=C y->N.ga=C y\/w.heap.size<=y.block
 kp:Kept (c::gaF N) w w'
theorem Zj{m:CoM}(h:PCore w c N m n)(hn:n<Jf):
 Calls prog 130 #[Fa c,Fa ub] w fun e w'=>e= J (A O ((m.loans.length+1:Nat):Int))/\∃ga gc,NumPost w c N m ub w' ga gc:=by
 have c2:=h.head.2.2;have U:=h.ok.len;unfold Jf at hn;obtain⟨i0,S,ab,ac,ad⟩:=As Tryz.Ann;obtain⟨a1,a2,a3⟩:=h.RX;have ao:=h.hd.lt;have E:c∉gaF N:=by
  unfold gaF
  cases hg:N.ga with
  | none=>simp
  | some y=>simpa using fun e=>(a2 y hg).1 e.symm
 have hF:∀v' w',w'.ownsRow 0 310 2 v' (m.loans.length+1) (Zab N.ub m.loans++[Fa ub, A O 0])->(w.alloc (G #[Fa ub, A O 0] 310)).grownBy w' (I N.ga m.loans.length N.gc).ownBlock->(v'.ownBlock=(I N.ga m.loans.length N.gc).ownBlock\/v'.ownBlock=C (w.alloc (G #[Fa ub, A O 0] 310)).heap.size)->
  ∃ga gc,v'= I ga (m.loans.length+1) gc/\w'.cell? ⟨c,2,D⟩=C (I N.ga m.loans.length N.gc)/\w'.frozen? ⟨c,2,D⟩=false/\NumPost w c N m ub (w'.setCell ⟨c,2,D⟩ (I ga (m.loans.length+1) gc)) ga gc:=fun v' w' g1 g2 a=>by
  obtain⟨ga,gc,rfl, -, -,hx⟩:=Fg g1;have an:(I N.ga m.loans.length N.gc).ownBlock.toList=gaF N:=by
   unfold gaF
   cases N.ga<;>rfl
  have hk:Kept (gaF N) w w':=by
   rw[<-an];exact((Kept.refl _ w).alloc _).trans (Kept.PR g2)
  have s:=h.hd.kept hk E;have V:∀y,ga=C y->N.ga=C y\/w.heap.size<=y.block:=fun y hy=>by
   obtain⟨g,rfl,z⟩:=hx y hy
   rcases a with a | a
   ·rw[z]at a
    cases v:N.ga with
    | none=>rw[v]at a;simp[Value.ownBlock]at a
    | some y'=>
     obtain⟨cur,he, -⟩:=h.PQ v;rw[v,he]at a;simp[Value.ownBlock]at a
     left;rw[he,<-a]
   ·rw[z]at a;simp at a
    right
    show w.heap.size<=g;omega
  have am:∀y,ga=C y->y.block≠c:=fun y hy=>by
   rcases V y hy with g | g
   ·exact(a2 y g).1
   ·omega
  refine⟨ga,gc,rfl,s.cell 2,s.free 2,s.setCell (o:=2) _,?_,V,(hk.Fn (fun x hx=>AU _ hx)).setCell (by simp) _⟩;refine FY g1 (FT w' c 2 _) (fun g hg=>?_)
  cases v:ga with
  | none=>rw[v]at hg;simp[Value.ownBlock]at hg
  | some y=>
   obtain⟨g',e1,z⟩:=hx y v;rw[hg]at z;have:=am y v;rw[e1]at this;simp at z;subst z
   simpa using this
 have HF:=hid hF;have ae:Hid (m.loans.length+1<=maxLen):=hid (by unfold maxLen;omega);have af:Hid ((m.loans.length+1)*16<=140737488355328):=hid (by omega);have HI:=hid S;have ai:=hid ab;have aj:=hid ac;have ak:=hid ad;have HO:Hid ((w.alloc (G #[Fa ub, A O 0] 310)).ownsRow 0 310 2 (I N.ga m.loans.length N.gc) m.loans.length (Zab N.ub m.loans)):=hid (A6 h.gr _);have B:=Fc w 310 [Fa ub, A O 0];have HS:Hid (∀(j:Nat) u,([Fa ub, A O 0]:List Value)[j]?=C u->(w.alloc (G #[Fa ub, A O 0] 310)).cell? ⟨w.heap.size,j,D⟩=C u):=hid fun j u hu=>(B.cell j).trans hu
 have ag:Hid (∀u∈([Fa ub, A O 0]:List Value),u.oneCell'=true):=hid (by
  intro u hu;simp at hu
  rcases hu with rfl | rfl<;>rfl)
 have HE:Hid (((m.loans.length+1:Nat):Int)=(m.loans.length:Int)+1):=hid (by omega);generalize hP:NumPost w c N m ub=P at*;generalize Zab N.ub m.loans=L at*;generalize al:m.loans.length=NN at*;clear h hF S ab ac ad U hn hP B al E;unfold Fa at*;go_enter func130,ntmps130
 go_wp2_with(at_builtin;refine I3 0 w.heap.size underlying62 HI.out ai.out aj.out ak.out rfl (by decide) HO.out rfl _ _ rfl rfl rfl rfl HS.out ag.out ae.out af.out (Af _) ?_;intro v7 w7 W K T;obtain⟨ga,gc,rfl,k2,kf,aa⟩:=HF.out _ _ W K T;have ah:=hid aa;clear W K T aa);go_ret;exact⟨by rw[HE.out];rfl,ga,gc,ah.out⟩
theorem Anh(h:i<ls.length):(ls++[x]).getD i .zero=ls.getD i .zero:=by grind
theorem Ani:(ls++[x]).getD ls.length .zero=x:=by grind
theorem Aaj(k j:Int)(ls:List LnM)(x:Nat):opV j (ls++[⟨k,x,0,0,false⟩])=if j=k then J8 (opV j ls) ((ls.length:Int)+1) (C (A O (x:Int))) else opV j ls:=by grind [opV,J8]
def gaN (N:CoN)(ga:Option Addr)(gc:Nat):CoN:=⟨N.bu,ga,gc,N.ub,N.mb⟩
theorem CoM.Wc{m:CoM}(a:m.per k=C p):m.Pn k=min m.unit (m.left k p):=by unfold CoM.Pn;rw[a]
theorem PCore.AoH{U w1:World}{m:CoM}{gc x:Nat}{ga:Option Addr}(h:PCore w c N m n)(v:m.per k=C p)(he:m.Gu k=0)(hx:x=m.Pn k)(K:Kept [] w U)(s:NumPost U c N m (N.ub k) w1 ga gc)(P:Kept [N.ub k,N.mb k] w1 w')
 (hA:At w' (N.ub k) 162 [A O ((m.left k p:Nat)-(x:Int)), A O ((m.It k:Nat)+(x:Int)), A O (m.KS k:Nat), A O (p.st:Nat), A O (p.cell:Nat),.map (C (N.mb k))])
 (hI:IMap w' (N.mb k) (n+1) (J8 (opV k m.loans) ((m.loans.length:Int)+1) (C (A O (x:Int))))):
 PCore w' c (gaN N ga gc) (m.Mr k) (n+1)/\Ga w.heap.size (coF c N m) (coF c (gaN N ga gc) (m.Mr k))/\Kept (coF c N m) w w':=by
 have T:=h.ok.Mr he;obtain⟨a1,a2,a3⟩:=h.RX;obtain⟨b1,b2,b3,b4,b5,b6⟩:=a3 k p v;obtain⟨q1,q2,q3,q4,q5,q6,q7⟩:=h.ok.pr k p v;have a:(m.Mr k).loans=m.loans++[⟨k,x,0,0,false⟩]:=by unfold CoM.Mr;rw[hx]
 have ae:x<=m.left k p:=by rw[hx,CoM.Wc v];omega
 have ac:w.heap.size<=U.heap.size:=K.size;have ab:=(h.ur k p v).lt;have aa:=(h.op k p v).lt;have S:∀y,ga=C y->N.ga=C y\/w.heap.size<=y.block:=fun y o=>(s.nw y o).elim .inl (fun g=> .inr (by omega))
 have V:Kept (c::(gaF N++[N.ub k,N.mb k])) w w':=by
  refine((K.Fn (by simp)).trans (s.kp.Fn (fun y o=>?_))).trans (P.Fn (fun y o=>?_))
  ·grind
  grind
 have B:∀y∈c::(gaF N++[N.ub k,N.mb k]),y=c\/(∃z,N.ga=C z/\y=z.block)\/y=N.ub k\/y=N.mb k:=fun y o=>by
  rw[Ar,BH]at o
  rcases o with o | o | o
  ·exact .inl o
  ·unfold gaF at o
   cases hg:N.ga with
   | none=>rw[hg]at o;simp at o
   | some z=>grind
  ·exact .inr (.inr (by simpa using o))
 have u:∀j,(m.Mr k).per j=if j=k then C p else m.per j:=fun j=>by
  show m.per j=_
  grind
 have L:∀g,(I ga (m.loans.length+1) gc).ownBlock=C g->g∉[N.ub k,N.mb k]:=fun g hg=>by
  cases W:ga with
  | none=>rw[W]at hg;simp[Value.ownBlock]at hg
  | some y=>
   rw[W]at hg;obtain⟨a',c',e,_,_,ad⟩:=Fg s.gr
   grind
 refine⟨h.next (N':=gaN N ga gc) v V B rfl rfl (fun j E=>rfl) (.inl rfl) u (fun j E=>⟨?_,?_,?_⟩) ?_ ?_ ?_ ?_ T (by omega),Tn (N':=gaN N ga gc) h v rfl rfl (fun j E=>rfl) (.inl rfl) u S,V.Fn (fun y o=>?_)⟩
 ·show GU j (m.Mr k).loans=_;rw[a,Rt];simp[GU,LnM.lc,show ¬k=j from fun e=>E e.symm];rfl
 ·show Hc j (m.Mr k).loans=_;rw[a,RV];simp[Hc,LnM.uc];rfl
 ·rw[a,Aaj,Aa E]
 ·rw[a];have:=s.hd.kept P (by grind)
  show At w' c _ [A O (m.unit:Int),.map (C N.bu), I ga (m.loans++[_]).length gc]
  grind
 ·have u1:(m.Mr k).It k=m.It k+x:=by
   show GU k (m.Mr k).loans=_;rw[a,Rt];simp[GU,LnM.lc];rfl
  have u2:(m.Mr k).KS k=m.KS k:=by
   show Hc k (m.Mr k).loans=_;rw[a,RV];simp[Hc,LnM.uc];rfl
  have:Gp (gaN N ga gc) (m.Mr k) k p=[A O ((m.left k p:Nat)-(x:Int)), A O ((m.It k:Nat)+(x:Int)), A O (m.KS k:Nat), A O (p.st:Nat), A O (p.cell:Nat),.map (C (N.mb k))]:=by
   unfold Gp;have e1:(((m.Mr k).left k p:Nat):Int)=(m.left k p:Nat)-(x:Int):=by
    have f1:(m.Mr k).left k p=p.quota-(m.Mr k).It k-(m.Mr k).KS k:=rfl;have f2:m.left k p=p.quota-m.It k-m.KS k:=rfl;rw[u1,u2]at f1;omega
   have e2:(((m.Mr k).It k:Nat):Int)=(m.It k:Nat)+(x:Int):=by rw[u1];omega
   rw[e1,e2,u2];rfl
  rw[this];exact hA
 ·rw[a,Aaj,Ab rfl];exact hI
 ·rw[a]
  show w'.ownsRow 0 _ 2 (I ga (m.loans++[_]).length gc) (m.loans++[_]).length (Zab N.ub (m.loans++[_]));rw[show(m.loans++[(⟨k,x,0,0,false⟩:LnM)]).length=m.loans.length+1 by simp,Y6];exact FY s.gr P L
 ·rcases B y o with e | ⟨z,K,e⟩ | e | e
  ·rw[e];exact AiB _ _ _
  ·rw[e];exact Aey K
  ·rw[e];exact(N5 h.ok v).1
  ·rw[e];exact(N5 h.ok v).2
def Kt (g t b:Int)(f:Bool):Value:=.agg #[A O g, A O t, A O b,.bool f]
theorem Y3{h:Int}(U:At w ub 162 [A O L0, A O L1, A O h,v3,v4,.map (C mb)])(V:IMap w mb n M)(hg:Gb g)(hM:M g=C (A O H))(hb:0<=b/\b<=H)(hH:H<=L1)(h1:L1<=1000000000)(h2:0<=h/\h<=1000000000)(hn:n<maxLen):
 Calls prog 174 #[Fa ub,Kt g t b f] w fun e w'=>e= J (.tuple #[])/\At w' ub 162 [A O L0, A O (L1-b), A O (h+b),v3,v4,.map (C mb)]/\IMap w' mb n (J8 M g (C (A O (H-b))))/\Kept [ub,mb] w w':=by
 obtain⟨W, B⟩ := E7 (w.alloc (G #[A O g, A O t, A O b,.bool f] 262));have u:Kept [] w W:=by rw[B];exact(Kept.refl _ w).alloc _
 have j:=U.kept u (by simp);have y:=V.kept u (by simp);have m:At W w.heap.size 262 [A O g, A O t, A O b,.bool f]:=by rw[B];exact Fc w _ [A O g, A O t, A O b,.bool f]
 have v:=y.kept (S:=[]) (Kept.refl _ W).drew (by simp);have P:=v.TX hg underlying89 (Tryz.YI W.drew) (x:= A O H) (by rw[hM];rfl) rfl false;simp only[AV,Ct]at P;obtain⟨w2,T,E,s⟩:=v.put hn hg underlying89 (A O (H-b)) n (by rw[hM];simp);have c5:W.cell? ⟨ub,5,D⟩=C (.map (C mb)):=j.cell 5;have u0:W.cell? ⟨w.heap.size,0,D⟩=C (A O g):=m.cell 0;have u2:W.cell? ⟨w.heap.size,2,D⟩=C (A O b):=m.cell 2;unfold Fa Kt at*;go_enter func174,ntmps174;go_upto_region 1 with fail
 rw[<-B];have HW:=hid B;clear B
 go_region;have z:ub≠mb:=fun e=>y.cells (by rw[<-e];exact j)
 have aa:=V.lt;have a:At w2 ub 162 _:=(j.kept (S:=[]) (Kept.refl _ W).drew (by simp)).kept s (by simpa using z);have L:=(m.kept (S:=[]) (Kept.refl _ W).drew (by simp)).kept s (by simp;omega);have K:Kept [ub,mb] w w2:=(u.Fn (by simp)).trans ((Kept.refl _ W).drew.trans (s.Fn (by simp)));have k1:w2.cell? ⟨ub,1,D⟩=C (A O L1):=a.cell 1;have k2:w2.cell? ⟨ub,2,D⟩=C (A O h):=a.cell 2;have y2:w2.cell? ⟨w.heap.size,2,D⟩=C (A O b):=L.cell 2;have f1:=a.free 1;have f2:=a.free 2;have ab:=U.lt;have HF:Hid (At ((w2.setCell ⟨ub,1,D⟩ (A O (L1-b))).setCell ⟨ub,2,D⟩ (A O (h+b))) ub 162 [A O L0, A O (L1-b), A O (h+b),v3,v4,.map (C mb)]/\IMap ((w2.setCell ⟨ub,1,D⟩ (A O (L1-b))).setCell ⟨ub,2,D⟩ (A O (h+b))) mb n (J8 M g (C (A O (H-b))))/\Kept [ub,mb] w ((w2.setCell ⟨ub,1,D⟩ (A O (L1-b))).setCell ⟨ub,2,D⟩ (A O (h+b)))):=
  hid ⟨(a.setCell (o:=1) (A O (L1-b))).setCell (o:=2) (A O (h+b)),E.kept (S:=[ub]) (((Kept.refl _ w2).setCell (by simp) _).setCell (by simp) _) (by simpa using fun e=>z e.symm),(K.setCell (by simp) _).setCell (by simp) _⟩
 clear U V j y m v P T a L K E s u c5 u0 u2 HW z;go_upto_region 2 with fail
 go_region;go_upto_region 3 with fail
 go_region
 first | go_end0 | skip
 obtain⟨r1,r2,r3⟩:=HF.out;exact⟨rfl,r1.kept (S:=[]) (Kept.refl _ _).drew.drew (by simp),r2.kept (S:=[]) (Kept.refl _ _).drew.drew (by simp),r3.drew.drew⟩
theorem Acb{v2:Value}(s:At w ub 162 [A O L0, A O L1,v2,v3,v4,.map (C mb)])(u:IMap w mb n M)(hg:Gb g)(S:M g=C (A O H))(P:0<=H/\H<=L1)(K:0<=L0/\L0<=1000000000)(L:L1<=1000000000):
 Calls prog 175 #[Fa ub, A O g] w fun e w'=>e= J (.tuple #[])/\At w' ub 162 [A O (L0+H), A O (L1-H),v2,v3,v4,.map (C mb)]/\IMap w' mb n (J8 M g D)/\Kept [ub,mb] w w':=by
 have z:=AfG s K (x:=H) ⟨by omega,L⟩ P;have B:=u.TX hg underlying89 (Tryz.YI w) (x:= A O H) (by rw[S];rfl) rfl false;simp only[AV,Ct]at B;have V:w.cell? ⟨ub,5,D⟩=C (.map (C mb)):=s.cell 5;have o:ub≠mb:=fun e=>u.cells (by rw[<-e];exact s)
 have E:Hid (∀w1,At w1 ub 162 [A O (L0+H), A O (L1-H),v2,v3,v4,.map (C mb)]->Kept [ub] w w1->w1.cell? ⟨ub,5,D⟩=C (.map (C mb))/\∃w2,(∀ty,(Builtin.delete_ #[89,3] ty #[.map (C mb), A O g]).run prog w1=.ok (.tuple #[]) w2)/\At w2 ub 162 [A O (L0+H), A O (L1-H),v2,v3,v4,.map (C mb)]/\IMap w2 mb n (J8 M g D)/\Kept [ub,mb] w w2):=hid fun w1 h j=>by
  have v:=u.kept j (by simpa using fun e=>o e.symm);obtain⟨w2,a,y,m⟩:=v.del hg underlying89 0;refine⟨h.cell 5,w2,fun ty=>?_,h.kept m (by simpa using o),y,(j.Fn (by simp)).trans (m.Fn (by simp))⟩;rw[<-a];rfl
 clear s u;unfold Fa at*;go_enter func175,ntmps175
 go_wp2_with(go_at_call 216;refine z.mono ?_;rintro e w1 ⟨rfl,h,j⟩;obtain⟨W,w2,a,T⟩:=E.out w1 h j;have U:=a 0)
 first | go_end0 | skip
 exact⟨rfl,T⟩
theorem PCore.AeI{m:CoM}(h:PCore w c N m n)(hi:i<m.loans.length):∃gb cur,N.ga=C ⟨gb,0,D⟩/\At w gb 310 cur/\cur.take (m.loans.length*2)=Zab N.ub m.loans/\cur.length=N.gc*2/\m.loans.length<=N.gc/\N.gc<=maxLen/\w.cell? ⟨gb,i*2,D⟩=C (Fa (N.ub (m.loans.getD i .zero).who))/\w.cell? ⟨gb,i*2+1,D⟩=C (A O ((m.loans.getD i .zero).turn:Nat)):=by
 obtain⟨gb,e⟩:=Oz h.gr (by omega);have hg:=h.gr;rw[e]at hg;obtain⟨cur,o, -,s,u,v,j,z⟩:=F9 hg;have a:∀k,k<2->w.cell? ⟨gb,i*2+k,D⟩=((m.loans.getD i .zero).cells N.ub)[k]?:=fun k y=>by
  rw[o.cell,<-Kf N.ub m.loans i k hi y,<-j,A3 (by omega)]
 exact⟨gb,cur,e,o,j,v,s,u,a 0 (by omega),a 1 (by omega)⟩
theorem AjA(hi:i<ls.length)(hg:g=(i:Int)+1):opV (ls.getD i .zero).who ls g=if (ls.getD i .zero).shut=true then D else C (A O (((ls.getD i .zero).bytes-(ls.getD i .zero).used:Nat):Int)):=by grind [opV]
theorem Tf{m:CoM}(h:PCore w c N m n)(hi:i<m.loans.length)(hg:g=(i:Int)+1)(ac:N.ga=C ⟨gb,0,D⟩)(ad:Gb g)(ht:Gb t)(hb:Gb b)(hn:n<=Jf):
 Calls prog 173 #[.pointer (C ⟨gb,i*2,D⟩),Kt g t b f] w fun e w'=>e= J (A O (m.repErr g t b))/\Below w.heap.size w w':=by
 obtain⟨L, P⟩ := E7 (m.at g);have o:L=m.loans.getD i .zero:=by rw[P,hg];unfold CoM.at;grind
 obtain⟨ae,cur,e1, -, -, -, -, -,c0,c1⟩:=h.AeI hi;rw[ac]at e1;obtain rfl:gb=ae:=by injection e1 with e1;injection e1
 rw[<-o]at c0 c1;obtain⟨⟨p,hp⟩,K,B,E⟩:=h.ok.ln L (by rw[o];exact V2 hi);have ag:n<=8796093022208:=hn;have j:m.repErr g t b=if 1<=t/\t<=(L.turn:Int) then 10 else if t=(L.turn:Int)+1 then (if L.shut=true then 9 else if 0<=b/\b<=((L.bytes-L.used:Nat):Int) then 0 else 11) else 3:=by
  unfold CoM.repErr;rw[Ab (by omega),<-P]
 obtain⟨W, s⟩ := E7 (w.alloc (G #[A O g, A O t, A O b,.bool f] 262));have aa:Kept [] w W:=by rw[s];exact(Kept.refl _ w).alloc _
 have u:At W w.heap.size 262 [A O g, A O t, A O b,.bool f]:=by rw[s];exact Fc w _ [A O g, A O t, A O b,.bool f]
 have v:Below w.heap.size w W:=by rw[s];exact(Ad _ w).alloc (Ac _) _
 have hW:=h.kept aa (by simp);have d0:=E8 aa c0 (by simp);have d1:=E8 aa c1 (by simp);have u0:W.cell? ⟨w.heap.size,0,D⟩=C (A O g):=u.cell 0;have u1:W.cell? ⟨w.heap.size,1,D⟩=C (A O t):=u.cell 1;have u2:W.cell? ⟨w.heap.size,2,D⟩=C (A O b):=u.cell 2;have c5:W.cell? ⟨N.ub L.who,5,D⟩=C (.map (C (N.mb L.who))):=(hW.ur _ p hp).cell 5;have U:=hW.op _ p hp;have a:=AjA (ls:=m.loans) hi hg;rw[<-o]at a;generalize m.repErr g t b=V at*;generalize N.ub L.who=ub at*;generalize N.mb L.who=mb at*;generalize z:(L.turn:Int)=T at*;have hT:0<=T/\T<=8796093022208:=by omega
 unfold Fa Kt at*;unfold Gb at ht hb;clear hg ac e1 hi
 by_cases a1:1<=t
 ·by_cases a2:t<=T
  ·have y:=hid (show V=10 by rw[j,Ab ⟨a1,a2⟩]);clear h hW U a hp K B E j P o z u c0 c1 c5 d0;go_enter func173,ntmps173;go_upto_region 1 with fail
   rw[<-s];clear s
   go_region
   go_wp2_with fail;go_ret;exact⟨by rw[y.out];rfl,v.drew⟩
  ·by_cases a3:t=T+1
   ·subst a3;rw[Aa (by omega),Ab rfl]at j
    cases hs:L.shut with
    | true=>
     rw[hs,Ab rfl]at j a;have y:=hid j;have ab:=(U.kept (S:=[]) (Kept.refl _ W).drew.drew.drew (by simp)).TX ad underlying89 (Tryz.YI W.drew.drew.drew) (x:= A O 0) (b:=false) (by rw[a];rfl) (by rw[a];rfl) true;simp only[AP]at ab;clear h hW U a hp K B E j P o z u c0 c1 hs;go_enter func173,ntmps173;go_upto_region 1 with fail
     rw[<-s];clear s
     go_region;go_upto_region 3 with fail
     go_region;go_upto_region 5 with fail
     go_region
     go_wp2_with fail;go_ret;exact⟨by rw[y.out];rfl,v.drew.drew.drew⟩
    | false=>
     rw[hs,Aa (by simp)]at j a;generalize af:((L.bytes-L.used:Nat):Int)=H at*;have ab:=(U.kept (S:=[]) (Kept.refl _ W).drew.drew.drew (by simp)).TX ad underlying89 (Tryz.YI W.drew.drew.drew) (x:= A O H) (b:=true) (by rw[a];rfl) (by rw[a];rfl) true;simp only[AP]at ab;clear h hW U a hp K B E P o z u c0 c1 hs af
     by_cases b1:b<0
     ·have y:=hid (show V=11 by rw[j,Aa (by omega)]);clear j;go_enter func173,ntmps173;go_upto_region 1 with fail
      rw[<-s];clear s
      go_region;go_upto_region 3 with fail
      go_region;go_upto_region 5 with fail
      go_region
      go_wp2_with fail;go_ret;exact⟨by rw[y.out];rfl,v.drew.drew.drew⟩
     ·by_cases b2:H<b
      ·have y:=hid (show V=11 by rw[j,Aa (by omega)]);clear j;go_enter func173,ntmps173;go_upto_region 1 with fail
       rw[<-s];clear s
       go_region;go_upto_region 3 with fail
       go_region;go_upto_region 5 with fail
       go_region
       go_wp2_with fail;go_ret;exact⟨by rw[y.out];rfl,v.drew.drew.drew⟩
      ·have y:=hid (show V=0 by rw[j,Ab (by omega)]);clear j;go_enter func173,ntmps173;go_upto_region 1 with fail
       rw[<-s];clear s
       go_region;go_upto_region 3 with fail
       go_region;go_upto_region 5 with fail
       go_region
       go_wp2_with fail;go_ret;exact⟨by rw[y.out];rfl,v.drew.drew.drew⟩
   ·have y:=hid (show V=3 by rw[j,Aa (by omega),Aa a3]);clear h hW U a hp K B E j P o z u c0 c1 c5 d0;go_enter func173,ntmps173;go_upto_region 1 with fail
    rw[<-s];clear s
    go_region;go_upto_region 3 with fail
    go_region
    go_wp2_with fail;go_ret;exact⟨by rw[y.out];rfl,v.drew.drew⟩
 ·have a3:¬t=T+1:=by omega
  have y:=hid (show V=3 by rw[j,Aa (by omega),Aa a3]);clear h hW U a hp K B E j P o z u c0 c1 c5 d0;go_enter func173,ntmps173;go_upto_region 1 with fail
  rw[<-s];clear s
  go_region;go_upto_region 3 with fail
  go_region
  go_wp2_with fail;go_ret;exact⟨by rw[y.out];rfl,v.drew.drew⟩
theorem Ank(hi:i<ls.length):(ls.set i x).getD i .zero=x:=by grind
theorem Anj{j:Nat}(h:i≠j):(ls.set i x).getD j .zero=ls.getD j .zero:=by grind
theorem AlU(hi:i<ls.length)(hg:g=(i:Int)+1)(a:x.who=(ls.getD i .zero).who)(j:Int):opV j (ls.set i x)=if j=x.who then J8 (opV j ls) g (if x.shut=true then D else C (A O ((x.bytes-x.used:Nat):Int))) else opV j ls:=by grind [opV,J8]
structure RepN(m:CoM)(g b:Int)(fin:Bool)(p:PrM)(l0 l1 l2:Int):Prop where
 n0:((m.rep g b fin).left (m.at g).who p:Int)=l0
 n1:((m.rep g b fin).It (m.at g).who:Int)=l1
 n2:((m.rep g b fin).KS (m.at g).who:Int)=l2
theorem RepN.of{m:CoM}(h:m.Ok n)(o:m.repErr g t b=0)(s:m.per (m.at g).who=C p)(fin:Bool):
 RepN m g b fin p (if fin then (m.left (m.at g).who p:Int)+(((m.at g).bytes-(m.at g).used:Nat)-b) else (m.left (m.at g).who p:Int)) (if fin then (m.It (m.at g).who:Int)-b-(((m.at g).bytes-(m.at g).used:Nat)-b) else (m.It (m.at g).who:Int)-b) ((m.KS (m.at g).who:Int)+b)/\((m.at g).bytes-(m.at g).used:Nat)<=m.It (m.at g).who:=by
 have a:=CoM.Yh o;have hi:g.toNat-1<m.loans.length:=by have:=a.g1;have:=a.g2;omega
 obtain⟨_,_,_,_,_,_,K⟩:=h.pr _ p s;have e1:=OX (m.at g).who ⟨(m.at g).who,(m.at g).bytes,(m.at g).used+b.toNat,(m.at g).turn+1,fin⟩ m.loans _ hi;have e2:=Pb (m.at g).who ⟨(m.at g).who,(m.at g).bytes,(m.at g).used+b.toNat,(m.at g).turn+1,fin⟩ m.loans _ hi;have e3:=AoF (m.at g).who m.loans _ hi;have j:m.loans.getD (g.toNat-1) .zero=m.at g:=rfl;rw[j]at e1 e2 e3;have u:(m.rep g b fin).It (m.at g).who=GU (m.at g).who (m.loans.set (g.toNat-1) ⟨(m.at g).who,(m.at g).bytes,(m.at g).used+b.toNat,(m.at g).turn+1,fin⟩):=rfl;have v:(m.rep g b fin).KS (m.at g).who=Hc (m.at g).who (m.loans.set (g.toNat-1) ⟨(m.at g).who,(m.at g).bytes,(m.at g).used+b.toNat,(m.at g).turn+1,fin⟩):=rfl;have y:(m.rep g b fin).left (m.at g).who p=p.quota-(m.rep g b fin).It (m.at g).who-(m.rep g b fin).KS (m.at g).who:=rfl;have L:m.left (m.at g).who p=p.quota-m.It (m.at g).who-m.KS (m.at g).who:=rfl;have P:m.It (m.at g).who=GU (m.at g).who m.loans:=rfl;have S:m.KS (m.at g).who=Hc (m.at g).who m.loans:=rfl;have b0:=a.b0;have b1:=a.b1;have e:=a.op;generalize GU (m.at g).who (m.loans.set (g.toNat-1) ⟨(m.at g).who,(m.at g).bytes,(m.at g).used+b.toNat,(m.at g).turn+1,fin⟩)=z at*;generalize Hc (m.at g).who (m.loans.set (g.toNat-1) ⟨(m.at g).who,(m.at g).bytes,(m.at g).used+b.toNat,(m.at g).turn+1,fin⟩)=E at*;rw[u,v]at y;simp only[LnM.lc,LnM.uc,e,and_self,AP]at e1 e2 e3;generalize (m.at g).bytes=B at*;generalize (m.at g).used=U at*;refine⟨⟨?_,?_,?_⟩,by omega⟩
 ·cases fin<;>simp at e1 ⊢<;>omega
 ·cases fin<;>simp at e1 ⊢<;>omega
 ·omega
theorem PCore.AeZ{m:CoM}{fin:Bool}{cur:List Value}{l0 l1 l2:Int}(h:PCore w c N m n)(he:m.repErr g t b=0)(S:m.per (m.at g).who=C p)(hi:i<m.loans.length)(hg:g=(i:Int)+1)(u:N.ga=C ⟨gb,0,D⟩)(E:At w gb 310 cur)(hk:Kept [gb,N.ub (m.at g).who,N.mb (m.at g).who] w w')
 (hG:At w' gb 310 (cur.set (i*2+1) (A O t))) (W:RepN m g b fin p l0 l1 l2)
 (hA:At w' (N.ub (m.at g).who) 162 [A O l0, A O l1, A O l2, A O (p.st:Nat), A O (p.cell:Nat),.map (C (N.mb (m.at g).who))])
 (hI:IMap w' (N.mb (m.at g).who) n (J8 (opV (m.at g).who m.loans) g (if fin=true then D else C (A O (((m.at g).bytes-(m.at g).used:Nat)-b))))):
 PCore w' c N (m.rep g b fin) (n+1)/\Ga w.heap.size (coF c N m) (coF c N (m.rep g b fin))/\Kept (coF c N m) w w':=by
 have aa:=h.ok.rep (fin:=fin) he;have hc:=CoM.Yh he;have ab:=hc.b0;have ac:=hc.b1;obtain⟨a1,a2,a3⟩:=h.RX;obtain⟨b1,b2,b3,b4,b5,b6⟩:=a3 _ p S;have eg:g.toNat-1=i:=by omega
 have s:m.loans.getD i .zero=m.at g:=by unfold CoM.at;rw[eg]
 have a:(m.rep g b fin).loans=m.loans.set i ⟨(m.at g).who,(m.at g).bytes,(m.at g).used+b.toNat,(m.at g).turn+1,fin⟩:=by unfold CoM.rep;rw[eg]
 have L:(m.rep g b fin).loans.length=m.loans.length:=by rw[a,An]
 have hS:∀y∈[gb,N.ub (m.at g).who,N.mb (m.at g).who],y=c\/(∃z,N.ga=C z/\y=z.block)\/y=N.ub (m.at g).who\/y=N.mb (m.at g).who:=by grind
 have o:∀j,(m.rep g b fin).per j=if j=(m.at g).who then C p else m.per j:=fun j=>by
  show m.per j=_
  grind
 have P:=fun j=>AlU (x:=⟨(m.at g).who,(m.at g).bytes,(m.at g).used+b.toNat,(m.at g).turn+1,fin⟩) hi hg (by rw[s]) j
 refine⟨h.next S hk hS rfl rfl (fun j K=>rfl) (.inl rfl) o (fun j K=>⟨?_,?_,?_⟩) ?_ ?_ ?_ ?_ aa (by omega),Tn h S rfl rfl (fun j K=>rfl) (.inl rfl) o (fun y T=> .inl T),hk.Fn (fun y T=>?_)⟩
 ·have:=OX j ⟨(m.at g).who,(m.at g).bytes,(m.at g).used+b.toNat,(m.at g).turn+1,fin⟩ m.loans i hi;rw[s]at this;simp only[LnM.lc,show ¬(m.at g).who=j from fun e=>K e.symm,false_and,AV]at this
  show GU j (m.rep g b fin).loans=GU j m.loans;rw[a];omega
 ·have:=Pb j ⟨(m.at g).who,(m.at g).bytes,(m.at g).used+b.toNat,(m.at g).turn+1,fin⟩ m.loans i hi;rw[s]at this;simp only[LnM.uc,show ¬(m.at g).who=j from fun e=>K e.symm,AV]at this
  show Hc j (m.rep g b fin).loans=Hc j m.loans;rw[a];omega
 ·rw[a,P j,Aa K]
 ·rw[L];refine h.hd.kept hk ?_
  grind
 ·unfold Gp;rw[W.n0,W.n1,W.n2];exact hA
 ·rw[a,P _,Ab rfl];refine(hI.mono (by omega)).congr fun j=>?_
  grind
 ·rw[L,a];obtain⟨U,v,e1,V,h4,h3,h1,h2, -, -⟩:=h.AeI hi;rw[u]at e1;obtain rfl:gb=U:=by injection e1 with e1;injection e1
  have B:cur=v:=by
   unfold At at E V
   grind
  subst B;rw[u];refine hG.row (by rw[JC,An]) h1 h2 (by rw[An];exact h3) ?_;rw[CW,h4];have ht:t=(((m.at g).turn+1:Nat):Int):=by rw[hc.t1];omega
  rw[ht];exact Y7 (x:=⟨(m.at g).who,(m.at g).bytes,(m.at g).used+b.toNat,(m.at g).turn+1,fin⟩) hi (by rw[s])
 ·simp at T
  rcases T with e | e | e
  ·rw[e];exact Aey u
  ·rw[e];exact(N5 h.ok S).1
  ·rw[e];exact(N5 h.ok S).2
theorem Ts{m:CoM}(h:PCo w c F m n)(hg:Gb g)(o:¬(1<=g/\g<=(m.loans.length:Int))):Calls prog 134 #[Fa c,Kt g t b f] w (StepC w c F (m.Fx g t b f) n):=by
 obtain⟨N,rfl,h⟩:=h;have u:m.repErr g t b=6:=by unfold CoM.repErr;rw[Aa o]
 have v:m.Fx g t b f=⟨m,6⟩:=by unfold CoM.Fx;rw[u];rfl
 obtain⟨W, e⟩ := E7 (w.alloc (G #[A O g, A O t, A O b,.bool f] 262));have a:Kept [] w W:=by rw[e];exact(Kept.refl _ w).alloc _
 have j:At W w.heap.size 262 [A O g, A O t, A O b,.bool f]:=by rw[e];exact Fc w _ [A O g, A O t, A O b,.bool f]
 have B:W.cell? ⟨w.heap.size,0,D⟩=C (A O g):=j.cell 0;have c2:=(h.kept a (by simp)).head.2.2
 have s:Hid (StepC w c (coF c N m) (m.Fx g t b f) n (J (A O 6)) W.drew):=hid (by
  rw[v]
  exact⟨rfl,(a.Fn (by simp)).drew,_,⟨N,rfl,((h.kept a (by simp)).kept (T:=[]) (Kept.refl _ W).drew (by simp))⟩,fun x z=> .inl z⟩)
 generalize StepC w c (coF c N m) (m.Fx g t b f) n=P at*;generalize m.loans.length=y at*;clear h u v j;unfold Fa Kt at*;unfold Gb at hg
 by_cases g1:g<1
 ·clear o;go_enter func134,ntmps134;go_upto_region 1 with fail
  rw[<-e];clear e
  go_region
  go_wp2_with fail;exact s.out
 ·have g2:(y:Int)<g:=by omega
  clear o;go_enter func134,ntmps134;go_upto_region 1 with fail
  rw[<-e];clear e
  go_region
  go_wp2_with fail;exact s.out
theorem Zs{m:CoM}(h:PCo w c F m n)(ht:Gb t)(hb:Gb b)(hn:n<Jf)(hg:1<=g/\g<=(m.loans.length:Int))(he:m.repErr g t b≠0):Calls prog 134 #[Fa c,Kt g t b f] w (StepC w c F (m.Fx g t b f) n):=by
 obtain⟨N,rfl,h⟩:=h;have hR:m.Fx g t b f=⟨m,m.repErr g t b⟩:=by unfold CoM.Fx;rw[Aa he]
 have aa:=h.ok.len;have ae:n<8796093022208:=hn;obtain⟨i,V⟩:∃i:Nat,g=(i:Int)+1:=⟨g.toNat-1,by omega⟩;have hi:i<m.loans.length:=by omega
 obtain⟨gb,cur,o, -⟩:=h.AeI hi;obtain⟨W, s⟩ := E7 (w.alloc (G #[A O g, A O t, A O b,.bool f] 262));have U:Kept [] w W:=by rw[s];exact(Kept.refl _ w).alloc _
 have a:At W w.heap.size 262 [A O g, A O t, A O b,.bool f]:=by rw[s];exact Fc w _ [A O g, A O t, A O b,.bool f]
 have K:Below w.heap.size w W.drew.drew:=by rw[s];exact((Ad _ w).alloc (Ac _) _).drew.drew
 have u0:W.cell? ⟨w.heap.size,0,D⟩=C (A O g):=a.cell 0;have u1:W.cell? ⟨w.heap.size,1,D⟩=C (A O t):=a.cell 1;have u2:W.cell? ⟨w.heap.size,2,D⟩=C (A O b):=a.cell 2;have u3:W.cell? ⟨w.heap.size,3,D⟩=C (.bool f):=a.cell 3;have B:=h.kept U (by simp);have c2:=B.head.2.2;rw[o]at c2;have u:=B.kept (T:=[]) (Kept.refl _ W).drew.drew (by simp);have L:=Tf (f:=f) u hi V o (by unfold Gb;omega) ht hb (by unfold Jf;omega);have HP:Hid (∀y,Below W.drew.drew.heap.size W.drew.drew y->StepC w c (coF c N m) (m.Fx g t b f) n (J (A O (m.repErr g t b))) y):=hid fun y j=>by
  rw[hR];have v:=Fr K j;exact⟨rfl,Kept.E5 v,_,⟨N,rfl,h.kept (Kept.E5 (S:=[]) v) (by simp)⟩,fun x hx=> .inl hx⟩
 generalize StepC w c (coF c N m) (m.Fx g t b f) n=P at*;generalize m.repErr g t b=E at*;generalize z:m.loans.length=LL at*;clear h hR a B u o z hb ht;unfold Fa Kt at*;have ab:g-1=(i:Int):=by omega
 have ac:¬g<1:=by omega
 have ad:¬(LL:Int)<g:=by omega
 clear hg V;go_enter func134,ntmps134;go_upto_region 1 with fail
 rw[<-s];clear s
 go_region;go_upto_region 3 with fail
 go_region
 go_wp2_with(go_at_call 173;refine L.mono ?_;rintro e y ⟨rfl,j⟩);exact HP.out y j
end Go.Proofs.YtbjgfoiikhbonahGreatDoor
