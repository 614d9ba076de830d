import Derived.Test.YtbjgfoiikhbonahGreatDoorD22
import Derived.Test.YtbjgfoiikhbonahGreatDoorD21
import Derived.Test.YtbjgfoiikhbonahGreatDoorD13
import Derived.Test.YtbjgfoiikhbonahGreatDoorD14
import Derived.Test.YtbjgfoiikhbonahGreatDoorD24
import Derived.Test.YtbjgfoiikhbonahGreatDoorD27
import Derived.Lib.LaidTab
import Derived.Lib.ItoaNum
set_option linter.unusedVariables false
set_option linter.unusedSimpArgs false
namespace Go.Proofs.YtbjgfoiikhbonahGreatDoor
open Go.ChangeShapes Go.WideShapes Go.ChangeAt Go.RowKit Go.Proofs.Tryz
variable {F F' S:List Nat}{T:TypeId}{args:Array Value}{b g j k:Nat}{cs:List Value}{f:FuncId}{i t:Nat×Nat}{m:OutM}{us:List UnP}{w w' w0:World}
theorem Vv(us:List UnP)(k:Nat):GF (us.drop k)<=GF us:=by
 unfold GF;exact(List.Sublist.filter _ (List.drop_sublist k us)).length_le
theorem Aeg{a:List UnP}(c:a.length=us.length)(h:∀i,i<us.length->(us.getD i .zero).dn=true->(a.getD i .zero).dn=true):GF a<=GF us:=by
 rw[KO,KO,c];have key:∀k,k<=us.length->((List.range k).filter fun i=>!(a.getD i .zero).dn).length<=((List.range k).filter fun i=>!(us.getD i .zero).dn).length:=by
  intro k
  induction k with
  | zero=>intro _;simp
  | succ k ih=>
   intro d;have:=ih (by omega);rw[Az,BS,BS,Ai,Ai]
   grind
 exact key _ (Ac _)
theorem SndM.taken{m:OutM}{us a:List UnP}{d:Nat}{gs:List GapM}(h:SndM m us)(hd:d<=GC GR us)(ht:Aep d (LQ (m.beg % 64) gs) (Rn (m.beg % 64) gs) us a):SndM (m.taken d gs) (a.drop (GC (·.dn) a))/\(m.taken d gs).beg=m.beg+GC (·.dn) a:=by
 have M:=h.Agx;have H:=K9 (·.dn) a;have s:=ht.1;have G:d<=us.length:=Ak hd (K9 _ _);have A:∀i,i<us.length->UnR (m.taken d gs) (m.beg+i) (a.getD i .zero):=fun i hi=>(h.un i hi).taken (ht.2 i hi)
 have c:(m.taken d gs).beg=m.beg+GC (·.dn) a:=by
  show Fv (fun u=>!m.N9 d gs u) m.beg m.n=_;refine Ge (by omega) (by omega) (fun j D E=>?_) (fun I=>?_)
  ·have r:=Kz (p:=(·.dn)) (us:=a) (k:=j-m.beg) (by omega);have l:=(A (j-m.beg) (by omega)).dn;rw[r,show m.beg+(j-m.beg)=j by omega]at l;have z:m.N9 d gs j=true:=l.symm;rw[z];rfl
  ·have r:=OW (p:=(·.dn)) (us:=a) (by omega);have l:=(A (GC (·.dn) a) (by omega)).dn;rw[r]at l;have z:m.N9 d gs (m.beg+GC (·.dn) a)=false:=l.symm;rw[z];rfl
 have v:(m.taken d gs).n=m.n:=rfl;refine⟨⟨h.w1,h.w2,by rw[c,v];omega,by rw[AJ,c,v];omega,fun i hi=>?_,fun u q=>?_,fun u q=>?_,fun i hi C=>?_,fun i hi o=>?_,?_⟩,c⟩
 ·grind
 ·rw[c]at q
  show m.N9 d gs u=true
  by_cases e:u<m.beg
  ·unfold OutM.N9;rw[h.old u e];rfl
  ·have r:=Kz (p:=(·.dn)) (us:=a) (k:=u-m.beg) (by omega);have l:=(A (u-m.beg) (by omega)).dn;rw[r,show m.beg+(u-m.beg)=u by omega]at l;exact l.symm
 ·have x:m.n<=u:=q;have K:=h.fresh u x;refine⟨?_,fun t=>?_⟩
  ·show m.N9 d gs u=false;unfold OutM.N9
   grind
  ·show m.Wg d gs u t=0;unfold OutM.Wg
   grind
 ·rw[AJ]at hi;rw[IC,(ht.2 _ (by omega)).2.1]at C;obtain⟨N,J⟩:=h.pre _ (by omega) C;refine⟨by show i<m.win;omega,fun j L=>?_⟩;rw[IC,(ht.2 _ (by omega)).2.1];exact J _ (by omega)
 ·rw[AJ]at hi;rw[IC]at o |-;have B:=ht.2 (GC (·.dn) a+i) (by omega);rw[B.2.1];rw[B.2.2.1]at o
  cases y:(us.getD (GC (·.dn) a+i) .zero).dn with
  | true=>exact h.dsn _ (by omega) y
  | false=>
   rw[y,Bool.false_or,BD,Bq]at o;have:=Kz (p:=GR) (us:=us) (k:=GC (·.dn) a+i) (by omega);exact AQ this
 ·have D:=Vv a (GC (·.dn) a);have E:=Aeg s (fun i hi y=>by rw[(ht.2 i hi).2.2.1,y];rfl);have:=h.few;omega
theorem SndM.Ans(h:SndM m us):GC GR us<=32:=by
 rcases DF (GC GR us)with e | e
 ·omega
 ·have c:=K9 GR us;have a:=Kz (p:=GR) (us:=us) (k:=GC GR us-1) (by omega);have:=(h.pre _ (by omega) (AQ a)).1;have:=h.w2;omega
theorem Aks{p:Addr}(r:ReportM)(a:Option Addr)(n c:Nat)(h:Snd w p F m)(A:Gps w a r.miss)(v:r.miss≠[]->Qh F a)(D:r.miss.length=n)(C:n<=maxLen):Calls prog 32 #[.pointer (some p),.agg #[.int .i64 r.next,.slice a n c]] w fun e w'=>e=.returned (.int .i64 (m.take r).err)/\Kept F w w'/\∃F',Snd w' p F' (m.take r).m/\Ga w.heap.size F F':=by
 obtain⟨b,q,cc,us,rfl,rfl,s,d⟩:=h;have J:=d.short;obtain⟨M,N,O⟩:=d.repErr r;rw[M]
 by_cases o:repErr (m.beg % 64) us r=0
 ·rw[O o];have l:E9 r.next m.beg<=GC GR us:=by
   grind [repErr,Kb]
  have u:E9 r.next (m.beg % 64)<=32:=by rw[Kb];have:=d.Ans;omega
  refine(AdS r a n c s (AZ _ (by omega)) (by omega) d.AkK A v D C o u).mono ?_;rintro e w' ⟨rfl,I,z,ht,H,E⟩;rw[Kb]at ht;obtain⟨K,L⟩:=d.taken l ht;refine⟨by rw[o],I,_,⟨b,q,cc,_,rfl,rfl,?_,K⟩,fun x G=>?_⟩
  ·rw[L];rw[Ru]at E;exact E
  ·have y:x∈F0 b q z:=by
    grind [J4,KU,IK,IC,Jy]
   exact Q6 H ht.1 y
 ·rw[N o];refine(AhD r a n c s (AZ _ (by omega)) (by omega) d.AkK A D C o).mono ?_;rintro e w' ⟨rfl,B⟩;exact⟨rfl,Kept.E5 B,F0 b q us,⟨b,q,cc,us,rfl,rfl,s.kept (Kept.E5 (S:=[]) B) (by simp),d⟩,fun x G=> .inl G⟩
theorem AlG:∀h:Fin 4,∀n:Fin 8, -1000<=Gr n.val h.val/\Gr n.val h.val<=1000:=by decide+kernel
theorem Ajg{n h:Nat}(a:h<=3)(d:n<2 ^ h): -1000<=Gr n h/\Gr n h<=1000:=by
 have c:2 ^ h<=2 ^ 3:=BC (by omega) a;exact AlG ⟨h,by omega⟩ ⟨n,by omega⟩
theorem Y0{S:Setg}{s:ByteArray}(q:SetOk S s.size)(v:Nat):(Jo S s v).all Kn=true/\((Jo S s v).length:Int)*S.order=S.count:=by
 have M:=q.order;have L:=q.count;obtain⟨O,z⟩:∃O:Nat,S.order=O:=⟨S.order.toNat,by omega⟩;obtain⟨C,n⟩:∃C:Nat,S.count=C:=⟨S.count.toNat,by omega⟩;obtain⟨h,N,B,d⟩:∃h,O=2*h/\1<=h/\h<=3:=⟨O / 2,by omega,by omega,by omega⟩;obtain⟨c,o⟩:=E7 (Xm S (QP S (SA (Fh s (8*s.size))) v));have E:c.length=C:=by rw[o,Ve,Uo,n,AN]
 have a:AllBits c:=by rw[o];exact VD _ _ _
 obtain⟨m,A⟩:=E7 (C / O);have r:C=m*O:=by
  rw[A]
  grind
 have eb:Jo S s v=NK h c O m:=by
  grind [Jo]
 rw[eb];have J:(NK h c O m).length=m:=by simp[NK]
 refine⟨AM.2 fun p u=>?_,?_⟩
 ·unfold NK at u;obtain⟨j,G,rfl⟩:=Bb.1 u;have l:=Bv.1 G;have I:j*O+O<=C:=by
   rw[r];have K:=BM O (show j+1<=m from l)
   grind
  have H:(Tl c O j).length=2*h:=by
   unfold Tl
   grind
  have D:∀x∈Tl c O j,x=0\/x=1:=fun x y=>by
   unfold Tl at y;have:=a x (BQ (Cr y));omega
  obtain⟨n0,n1,e⟩:=Wq B d H D;rw[e];exact Ag ⟨Ajg d n0,Ajg d n1⟩
 ·rw[J,z,n,r,CE]
structure Cm where
 P:World->List Nat->Prop
 lt:∀w F,P w F->∀x∈F,x<w.heap.size
 kept:∀w w' F S,P w F->Kept S w w'->(∀x∈F,x∉S)->P w' F
def Oe:Nat:=12
structure Wd(w:World):Prop where
 es:∃te pe,w.var? prog "strconv.ErrSyntax" =some #[.iface te pe]
 er:∃te pe,w.var? prog "strconv.ErrRange" =some #[.iface te pe]
 mx:∃m,w.cell? ⟨0,0,none⟩=some (.int .i64 m)
 tab:Lib.TabIs prog w "internal/strconv.uint64pow10" .u64 Lib.pow10Tab
theorem UW(k:∀x,x<Oe->w'.heap[x]?=w.heap[x]?){n:String}(hg:prog.globalNamed n=some g)(a:g<Oe):w'.var? prog n=w.var? prog n:=by
 unfold World.var?
 grind
theorem Wd.kept(h:Wd w)(k:∀x,x<Oe->w'.heap[x]?=w.heap[x]?):Wd w':=by
 obtain⟨⟨t1,a,c1⟩,⟨d,c,c2⟩,⟨m,c3⟩,t⟩:=h;refine⟨⟨t1,a,(UW k (g:=1) (by kernel_rfl) (by decide+kernel)).trans c1⟩,⟨d,c,(UW k (g:=2) (by kernel_rfl) (by decide+kernel)).trans c2⟩,⟨m,(AF (k _ (by decide+kernel))).trans c3⟩,?_⟩;exact(UW k (g:=4) (by kernel_rfl) (by decide+kernel)).trans t
structure Tb(w:World):Prop where
 rd:ReadyL w
 ver:VerT w
 wd:Wd w
theorem Tb.kept{w w':World}{S:List Nat}(h:Tb w)(c:Kept S w w')(v:∀x∈S,Oe<=x):Tb w':=by
 have d:∀x,x<Oe->x∉S:=by grind
 have u:Oe<=w.heap.size:=h.rd.wor.lt;have hd:=h.wd.kept fun x a=>c.block x (by omega) (d x a)
 obtain⟨⟨⟨t1,n,e1⟩,⟨q,p,e2⟩,r,f3,e3⟩,⟨s,f4,l⟩, -⟩:=h;have k:∀x o,x<Oe->w.heap[x]?=some o->w'.heap[x]?=some o:=fun x o a e=>(c.block x (Array.getElem?_eq_some_iff.1 e).1 (d x a)).trans e
 exact⟨⟨⟨t1,n,k _ _ (by decide+kernel) e1⟩,⟨q,p,k _ _ (by decide+kernel) e2⟩,r,f3,k _ _ (by decide+kernel) e3⟩,⟨s,f4,k _ _ (by decide+kernel) l⟩,hd⟩
theorem Tb.lt{w:World}(h:Tb w):Oe<=w.heap.size:=h.rd.wor.lt
structure Hq(w0:World)(S:List Nat)(w:World)(C:Nat×Nat->Option Cm)(F:Nat×Nat->List Nat):Prop where
 kep:Kept S w0 w
 tb:Tb w
 lo:∀x∈S,Oe<=x
 hi:Oe<=w0.heap.size
 each:∀i c,C i=some c->c.P w (F i)/\Ga w0.heap.size S (F i)
 ap:∀i j,i≠j->C i≠none->C j≠none->∀x∈F i,x∉F j
def Hp (w0:World)(S:List Nat)(w:World)(C:Nat×Nat->Option Cm):Prop:=∃F,Hq w0 S w C F
def FQ {A:Type} [DecidableEq A](C:A->Option Cm)(i:A)(c:Option Cm):A->Option Cm:=fun j=>if j=i then c else C j
theorem Hp.congr{C a:Nat×Nat->Option Cm}(h:Hp w0 S w C)(e:∀i,C i=a i):Hp w0 S w a:=by
 have:C=a:=funext e;exact this▸h
theorem Hp.get{C:Nat×Nat->Option Cm}(h:Hp w0 S w C){c:Cm}(hi:C i=some c):∃F,c.P w F:=by
 obtain⟨F,h⟩:=h;exact⟨_,(h.each i c hi).1⟩
theorem Hp.tb{w0 w:World}{S:List Nat}{C:Nat×Nat->Option Cm}(h:Hp w0 S w C):Tb w:=by
 obtain⟨F,h⟩:=h;exact h.tb
theorem Hp.kep{w0 w:World}{S:List Nat}{C:Nat×Nat->Option Cm}(h:Hp w0 S w C):Kept S w0 w:=by
 obtain⟨F,h⟩:=h;exact h.kep
theorem Kept.Aeq(h:Kept S w0 w)(k:Kept F w w')(hg:Ga w0.heap.size S F):Kept S w0 w':=
 ⟨k.os.trans h.os,k.tape.trans h.tape,k.output.trans h.output,Ak h.size k.size,fun i hi a=>(k.block i (AI hi h.size) (fun e=>(hg i e).elim a (by omega))).trans (h.block i hi a)⟩
theorem Hq.Ao1{C:Nat×Nat->Option Cm}{F:Nat×Nat->List Nat}(h:Hq w0 S w C F){c c':Cm}{d:Option Cm}{D:List Nat}(hi:C i=some c)(I:Kept (F i) w w')(U:c'.P w' F')(hg:Ga w.heap.size (F i) F')(hd:∀B,d=some B->B.P w' D/\∀x∈D,w.heap.size<=x/\x∉F'):Hp w0 S w' (FQ (FQ C i (some c')) t d):=by
 obtain⟨M,u,p,N,E,Q⟩:=h;have v:=(E i c hi).2;have X:=M.size;have hl:∀j o,C j=some o->∀x∈F j,x<w.heap.size:=fun j o n x r=>o.lt _ _ (E j o n).1 x r
 have H:∀x∈F i,Oe<=x:=fun x r=>(v x r).elim (p x) (fun q=>Ak N q)
 refine⟨fun j=>if j=t then D else if j=i then F' else F j,M.Aeq I v,u.kept I H,p,N,fun j o n=>?_,fun j k V n W x r Y=>?_⟩
 ·unfold FQ at n
  by_cases z:j=t
  ·rw[Ab z]at n |-;obtain⟨K,L⟩:=hd o n;exact⟨K,fun x r=> .inr (by have:=(L x r).1;omega)⟩
  ·rw[Aa z]at n |-
   by_cases s:j=i
   ·rw[Ab s]at n |-;obtain rfl:=AX n;refine⟨U,fun x r=>?_⟩
    rcases hg x r with q | q
    ·exact v x q
    ·exact .inr (by omega)
   ·rw[Aa s]at n |-;refine⟨o.kept _ _ _ _ (E j o n).1 I (Q j i s (by rw[n];simp) (by rw[hi];simp)),(E j o n).2⟩
 ·have R:∀y∈D,FQ (FQ C i (some c')) t d t≠none->w.heap.size<=y/\y∉F':=fun y G l=>by
   unfold FQ at l;rw[Ab rfl]at l;obtain⟨B,e⟩:=Option.ne_none_iff_exists'.1 l;exact(hd B e).2 y G
  have A:∀a,a≠t->a≠i->FQ (FQ C i (some c')) t d a=C a:=fun a u p=>by unfold FQ;rw[Aa u,Aa p]
  have J:∀a,a≠t->a≠i->FQ (FQ C i (some c')) t d a≠none->(∀y∈F a,y<w.heap.size)/\∀y∈F a,y∉F i:=fun a u p l=>by
   rw[A a u p]at l;obtain⟨Z,e⟩:=Option.ne_none_iff_exists'.1 l
   grind
  have O:∀a,a≠t->a≠i->FQ (FQ C i (some c')) t d a≠none->∀y∈F a,y∉F':=fun a u p l y G e=>by
   obtain⟨K,L⟩:=J a u p l
   rcases hg y e with q | q
   ·exact L y G q
   ·have:=K y G;omega
  grind
theorem Hq.step{C:Nat×Nat->Option Cm}{F:Nat×Nat->List Nat}(h:Hq w0 S w C F){c c':Cm}(hi:C i=some c)(v:Kept (F i) w w')(K:c'.P w' F')(hg:Ga w.heap.size (F i) F'):Hp w0 S w' (FQ C i (some c')):=by
 obtain⟨B,J,D,E,p,G⟩:=h;have l:=(p i c hi).2;have N:=B.size;have u:∀x∈F i,Oe<=x:=fun x r=>(l x r).elim (D x) (fun q=>Ak E q)
 have n:C i≠none:=by rw[hi];simp
 have hF:∀a,a≠i->C a≠none->∀y∈F a,y∉F':=fun a L o y H e=>by
  obtain⟨A,q⟩:=Option.ne_none_iff_exists'.1 o
  rcases hg y e with I | I
  ·exact G a i L o n y H I
  ·have:=A.lt _ _ (p a A q).1 y H;omega
 refine⟨fun j=>if j=i then F' else F j,B.Aeq v l,J.kept v u,D,E,fun j s d=>?_,fun j k M d z x r O=>?_⟩
 ·unfold FQ at d
  by_cases e:j=i
  ·rw[Ab e]at d |-;obtain rfl:=AX d;exact⟨K,fun x r=>(hg x r).elim (l x) fun q=> .inr (by omega)⟩
  ·rw[Aa e]at d |-;exact⟨s.kept _ _ _ _ (p j s d).1 v (G j i e (by rw[d];simp) n),(p j s d).2⟩
 ·unfold FQ at d z
  grind
theorem Hp.AoE{C:Nat×Nat->Option Cm}(h:Hp w0 S w C)(a:Kept [] w w'):Hp w0 S w' C:=by
 obtain⟨F,l,n,o,p,d,q⟩:=h;exact⟨F,l.Aeq a (by intro x r;cases r),n.kept a (by simp),o,p,fun j c e=>⟨c.kept _ _ _ _ (d j c e).1 a (by simp),(d j c e).2⟩,q⟩
theorem Hp.below{C:Nat×Nat->Option Cm}(h:Hp w0 S w C)(a:Below w.heap.size w w'):Hp w0 S w' C:=h.AoE (Kept.E5 a)
theorem Hp.new{C:Nat×Nat->Option Cm}(h:Hp w0 S w C){d:Cm}{D:List Nat}(o:Kept [] w w')(hd:d.P w' D)(v:∀x∈D,w.heap.size<=x):Hp w0 S w' (FQ C t (some d)):=by
 obtain⟨F,q,r,s,u,n,B⟩:=h;have z:=q.size;have E:∀j,C j≠none->∀x∈F j,x<w.heap.size:=fun j a x l=>by
  obtain⟨c,e⟩:=Option.ne_none_iff_exists'.1 a;exact c.lt _ _ (n j c e).1 x l
 refine⟨fun j=>if j=t then D else F j,q.Aeq o (by intro x l;cases l),r.kept o (by simp),s,u,fun j c a=>?_,fun j k y a p x l A=>?_⟩
 ·unfold FQ at a
  by_cases e:j=t
  ·rw[Ab e]at a |-;obtain rfl:=AX a;exact⟨hd,fun x l=> .inr (by have:=v x l;omega)⟩
  ·rw[Aa e]at a |-;exact⟨c.kept _ _ _ _ (n j c a).1 o (by simp),(n j c a).2⟩
 ·unfold FQ at a p
  grind
theorem Hp.drop{C:Nat×Nat->Option Cm}(h:Hp w0 S w C)(t:Nat×Nat):Hp w0 S w (FQ C t none):=by
 obtain⟨F,n,o,p,q,r,s⟩:=h;have e:∀j,FQ C t none j≠none->FQ C t none j=C j:=fun j a=>by
  unfold FQ at a |-
  grind
 refine⟨F,n,o,p,q,fun j c a=>r j c ((e j (by rw[a];simp)).symm.trans a),fun j k d a l x u=>s j k d (e j a▸a) (e k l▸l) x u⟩
def NS (f:FuncId)(args:Array Value)(w:World)(c:Cm)(R:Ending->Cm->Prop):Prop:=Tb w->∀F,(∀x∈F,Oe<=x)->c.P w F->Calls prog f args w fun e w'=>∃c',R e c'/\Kept F w w'/\∃F',c'.P w' F'/\Ga w.heap.size F F'
theorem Hp.act{C:Nat×Nat->Option Cm}(h:Hp w0 S w C){c:Cm}(hi:C i=some c){R:Ending->Cm->Prop}(H:NS f args w c R):Calls prog f args w fun e w'=>∃c',R e c'/\Hp w0 S w' (FQ C i (some c')):=by
 obtain⟨F,h⟩:=h;have o:=h.hi;refine(H h.tb (F i) (fun x n=>((h.each i c hi).2 x n).elim (h.lo x) (by omega)) (h.each i c hi).1).mono ?_;rintro e w' ⟨c',d,l,F',a,hg⟩;exact⟨c',d,h.step hi l a hg⟩
def YJ (f:FuncId)(args:Array Value)(w:World)(c:Cm)(R:Ending->Cm->Cm->Prop):Prop:=Tb w->∀F,(∀x∈F,Oe<=x)->c.P w F->Calls prog f args w fun e w'=>∃c' d,R e c' d/\Kept F w w'/\∃F' D,c'.P w' F'/\Ga w.heap.size F F'/\d.P w' D/\∀x∈D,w.heap.size<=x/\x∉F'
theorem Hp.AbV{C:Nat×Nat->Option Cm}(h:Hp w0 S w C){c:Cm}(hi:C i=some c){R:Ending->Cm->Cm->Prop}(H:YJ f args w c R)(t:Nat×Nat):Calls prog f args w fun e w'=>∃c' d,R e c' d/\Hp w0 S w' (FQ (FQ C i (some c')) t (some d)):=by
 obtain⟨F,h⟩:=h;have r:=h.hi;refine(H h.tb (F i) (fun x p=>((h.each i c hi).2 x p).elim (h.lo x) (by omega)) (h.each i c hi).1).mono ?_;rintro e w' ⟨c',d,n,o,F',D,l,hg,hd,a⟩;exact⟨c',d,n,h.Ao1 hi o l hg (fun q e=>by obtain rfl:=AX e;exact⟨hd,a⟩)⟩
theorem Hp.put{C:Nat×Nat->Option Cm}(h:Hp w0 S w C){c c':Cm}(hi:C i=some c)(H:∀F,c.P w F->Kept F w w'/\c'.P w' F):Hp w0 S w' (FQ C i (some c')):=by
 obtain⟨F,h⟩:=h;obtain⟨a,d⟩:=H _ (h.each i c hi).1;exact h.step hi a d fun x e=> .inl e
def JP (g:Nat)(T:TypeId)(cs:List Value):Cm:=⟨fun w F=>F=[g]/\At w g T cs,fun w F ⟨e,h⟩=>by subst e;exact fun x hx=>by rw[AC]at hx;subst hx;exact h.lt,fun w w' F S ⟨e,h⟩ hk hn=>by subst e;exact⟨rfl,h.kept hk (hn g (by simp))⟩⟩
def Hg (w0:World)(S:List Nat)(w:World)(D:Nat->Nat->Option Cm):Prop:=Hp w0 S w (fun i:Nat×Nat=>D i.1 i.2)
def setG (D:Nat->Nat->Option Cm)(g:Nat)(O:Nat->Option Cm):Nat->Nat->Option Cm:=fun k=>if k=g then O else D k
theorem IW(D:Nat->Nat->Option Cm)(g:Nat)(O:Nat->Option Cm):setG D g O g=O:=Ab rfl
theorem Ig(D:Nat->Nat->Option Cm)(g:Nat):setG D g (D g)=D:=funext fun k=>by unfold setG;split<;>simp_all
theorem Ahw(D:Nat->Nat->Option Cm)(g:Nat)(O O':Nat->Option Cm):setG (setG D g O) g O'=setG D g O':=funext fun k=>by unfold setG;split<;>simp_all
theorem JJ(D:Nat->Nat->Option Cm)(h:g≠k)(O O':Nat->Option Cm):setG (setG D g O) k O'=setG (setG D k O') g O:=funext fun x=>by unfold setG;split<;>split<;>simp_all
theorem Fo(D:Nat->Nat->Option Cm)(h:k≠g)(O:Nat->Option Cm):setG D g O k=D k:=Aa h
theorem JI(D:Nat->Nat->Option Cm)(g j:Nat)(O:Nat->Option Cm)(c:Option Cm):FQ (fun i:Nat×Nat=>setG D g O i.1 i.2) (g,j) c=fun i:Nat×Nat=>setG D g (FQ O j c) i.1 i.2:=funext fun⟨a,b⟩=>by
 unfold FQ setG
 by_cases d:a=g
 ·by_cases e:b=j
  ·simp[d,e]
  ·simp[d,e]
 ·simp[d]
theorem Hg.act{w0 w:World}{S:List Nat}{D:Nat->Nat->Option Cm}{g j:Nat}{O:Nat->Option Cm}(h:Hg w0 S w (setG D g O)){c:Cm}(hi:O j=some c){f:FuncId}{args:Array Value}{R:Ending->Cm->Prop}(H:NS f args w c R):Calls prog f args w fun e w'=>∃c',R e c'/\Hg w0 S w' (setG D g (FQ O j (some c'))):=by
 refine(Hp.act h (i:=(g,j)) (c:=c) (by show setG D g O g j=_;rw[IW];exact hi) H).mono ?_;rintro e w' ⟨c',d,a⟩;rw[JI]at a;exact⟨c',d,a⟩
theorem Hg.AbV{w0 w:World}{S:List Nat}{D:Nat->Nat->Option Cm}{g j:Nat}{O:Nat->Option Cm}(h:Hg w0 S w (setG D g O)){c:Cm}(hi:O j=some c){f:FuncId}{args:Array Value}{R:Ending->Cm->Cm->Prop}(H:YJ f args w c R)(t:Nat):Calls prog f args w fun e w'=>∃c' d,R e c' d/\Hg w0 S w' (setG D g (FQ (FQ O j (some c')) t (some d))):=by
 refine(Hp.AbV h (i:=(g,j)) (c:=c) (by show setG D g O g j=_;rw[IW];exact hi) H (g,t)).mono ?_;rintro e w' ⟨c',d,l,a⟩;rw[JI,JI]at a;exact⟨c',d,l,a⟩
theorem Hg.new{w0 w w':World}{S:List Nat}{D:Nat->Nat->Option Cm}{g:Nat}{O:Nat->Option Cm}(h:Hg w0 S w (setG D g O))(t:Nat){d:Cm}{L:List Nat}(e:Kept [] w w')(hd:d.P w' L)(c:∀x∈L,w.heap.size<=x):Hg w0 S w' (setG D g (FQ O t (some d))):=by
 have a:=Hp.new h (t:=(g,t)) e hd c;rw[JI]at a;exact a
theorem Hg.drop{w0 w:World}{S:List Nat}{D:Nat->Nat->Option Cm}{g:Nat}{O:Nat->Option Cm}(h:Hg w0 S w (setG D g O))(t:Nat):Hg w0 S w (setG D g (FQ O t none)):=by
 have a:=Hp.drop h (g,t);rw[JI]at a;exact a
theorem Hg.put{w0 w w':World}{S:List Nat}{D:Nat->Nat->Option Cm}{g j:Nat}{O:Nat->Option Cm}(h:Hg w0 S w (setG D g O)){c c':Cm}(hi:O j=some c)(H:∀F,c.P w F->Kept F w w'/\c'.P w' F):Hg w0 S w' (setG D g (FQ O j (some c'))):=by
 have a:=Hp.put h (i:=(g,j)) (c:=c) (by show setG D g O g j=_;rw[IW];exact hi) H;rw[JI]at a;exact a
theorem Hg.get{w0 w:World}{S:List Nat}{D:Nat->Nat->Option Cm}{g j:Nat}{O:Nat->Option Cm}(h:Hg w0 S w (setG D g O)){c:Cm}(hi:O j=some c):∃F,c.P w F:=Hp.get h (i:=(g,j)) (by show setG D g O g j=_;rw[IW];exact hi)
theorem Hg.box{D:Nat->Nat->Option Cm}{O:Nat->Option Cm}(h:Hg w0 S w (setG D g O))(hi:O j=some (JP b T cs)):At w b T cs:=by
 obtain⟨F, -,h⟩:=h.get hi;exact h
theorem Hg.GK{D:Nat->Nat->Option Cm}{O:Nat->Option Cm}(h:Hg w0 S w (setG D g O))(hi:O j=some (JP b T cs))(o:Nat)(v:Value):Hg w0 S (w.setCell ⟨b,o,none⟩ v) (setG D g (FQ O j (some (JP b T (cs.set o v))))):=
 h.put hi fun F ⟨e,a⟩=>by subst e;exact⟨(Kept.refl _ w).setCell (by simp) _,rfl,a.setCell v⟩
theorem Hg.Ii{D:Nat->Nat->Option Cm}{O:Nat->Option Cm}(h:Hg w0 S w (setG D g O))(t:Nat)(T:TypeId)(cs:List Value):Hg w0 S (w.alloc (.cells cs.toArray T)) (setG D g (FQ O t (some (JP w.heap.size T cs)))):=
 h.new t ((Kept.refl _ w).alloc _) (L:=[w.heap.size]) ⟨rfl,Fc w T cs⟩ (fun x a=>by rw[AC]at a;omega)
theorem Hg.below{w0 w w':World}{S:List Nat}{D:Nat->Nat->Option Cm}(h:Hg w0 S w D)(a:Below w.heap.size w w'):Hg w0 S w' D:=Hp.below h a
theorem Hg.tb{w0 w:World}{S:List Nat}{D:Nat->Nat->Option Cm}(h:Hg w0 S w D):Tb w:=Hp.tb h
end Go.Proofs.YtbjgfoiikhbonahGreatDoor
