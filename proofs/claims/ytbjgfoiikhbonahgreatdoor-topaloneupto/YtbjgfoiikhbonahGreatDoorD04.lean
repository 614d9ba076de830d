import Derived.Test.YtbjgfoiikhbonahGreatDoorD03
import Derived.RangeFuncBox
import Derived.Deep.WholeRow
set_option linter.unusedVariables false
set_option linter.unusedSimpArgs false
set_option maxRecDepth 100000
set_option maxHeartbeats 4000000
namespace Go.Proofs.YtbjgfoiikhbonahGreatDoor
open Go.ChangeShapes Go.WideShapes Go.ChangeAt Go.RowKit Go.Proofs.Tryz
open Value (int)
open IntKind (i64)
variable {P:Program}{Q:Exit->Act->World->Prop}{a:Act}{o:Oper}{ops:Array Oper}{rest:List Oper}{w:World}{zs:List Int}
def Nm (order:Int):Int:=if PW order then 0 else 1
theorem AeU(order:Int)(w:World):
 Calls prog 231 #[int i64 order] w fun e w'=>e=.returned (int i64 (Nm order))/\w=w':=by
 by_cases b:order=2
 ·subst b;go_enter func231,ntmps231;go_wp2;go_ret;exact⟨rfl,rfl⟩
 ·have g:(order==2)=false:=by simpa using b
  by_cases c:order=4
  ·subst c;go_enter func231,ntmps231;go_wp2;go_ret;exact⟨rfl,rfl⟩
  ·have h:(order==4)=false:=by simpa using c
   by_cases d:order=6
   ·subst d;go_enter func231,ntmps231;go_wp2;go_ret;exact⟨rfl,rfl⟩
   ·have i:(order==6)=false:=by simpa using d
    have f:=hid (show(1:Int)=Nm order by unfold Nm PW;rw[Ae (by omega)];rfl);clear b c d;go_enter func231,ntmps231;go_wp2;go_ret;exact⟨Fs f.out,rfl⟩
def AfX (x:Int):Bool:=decide (x < -1000\/1000<x)
theorem AeB(x:Int)(w:World):
 Calls prog 263 #[int i64 x] w fun e w'=>e=.returned (.bool (AfX x))/\w=w':=by
 by_cases c:x < -1000
 ·have b:=hid (show true=AfX x from(Ag (Or.inl c)).symm);go_enter func263,ntmps263;go_wp2;go_ret;exact⟨Ws b.out,rfl⟩
 ·have d:decide (x < -1000)=false:=Ae c;have b:=hid (show decide (1000<x)=AfX x by unfold AfX;simp[c]);go_enter func263,ntmps263;go_wp2;go_ret;exact⟨Ws b.out,rfl⟩
theorem AdR(x:Int)(w:World)(f: -3000<=x/\x<=3000):
 Calls prog 264 #[int i64 x] w fun e w'=>e=.returned (int i64 (x*x))/\w=w':=by
 have b:0<=x*x/\x*x<=9000000:=by
  have c:x*x=(x.natAbs*x.natAbs:Nat):=by rw[DX]
  have d:x.natAbs*x.natAbs<=3000*3000:=DW (by omega) (by omega);omega
 go_enter func264,ntmps264;go_wp2;go_ret;exact⟨rfl,rfl⟩
theorem Am3:∀q:Fin 8,bits BinOp.and IntKind.i64 (q.val:Int) 1=((q.val % 2:Nat):Int):=by decide+kernel
theorem Aer(p k:Nat)(c:p<8):bits BinOp.and IntKind.i64 ((p:Int) / 2 ^ k) 1=((J6 p k:Nat):Int):=by
 have b:p / 2 ^ k<8:=B5 (C3 _ _) c;have:=Am3 ⟨p / 2 ^ k,b⟩;unfold J6;rw[<-this];simp
theorem Ajh(t y:Nat)(z:Int)(ht:t<=2)(c:y=0\/y=1)(d: -7<=z/\z<=7):wrap64 ((1-2*(y:Int))*wrap64 (wrap64 (2 ^ t)-z))=(1-2*(y:Int))*(((2 ^ t:Nat):Int)-z):=by
 have b:t=0\/t=1\/t=2:=by omega
 rcases b with rfl | rfl | rfl<;>rcases c with rfl | rfl<;>simp[wrap64]<;>omega
theorem Agr(N h:Nat)(w:World)(d:N<8)(k:h<=3):
 Calls prog 262 #[int i64 N,int i64 h] w fun e w'=>e=.returned (int i64 (Gr N h))/\w=w':=by
 go_enter func262,ntmps262;go_wp2
 go_loop [5,9] (fun l q=>∃t:Nat,t<=h/\l=int i64 (Gr N t)/\q=int i64 t) (fun _ q=>h-(intOf q).toNat)
 case atStart=>exact⟨0,by omega,rfl,rfl⟩
 case round=>
  obtain⟨t,ht,rfl,rfl⟩:=hrel
  by_cases i:t<h
  ·have j:=Aer N t d;have f:=LS N t;have g:=XP N t (by omega);have b:=hid (show Gr N (t+1)=(1-2*(J6 N t:Int))*((2 ^ t:Nat)-Gr N t)from rfl);have c:=hid (Ajh t (J6 N t) (Gr N t) (by omega) f g);generalize Gr N t=z at*;generalize J6 N t=y at*;go_wp2
   go_round
   case rel=>exact⟨t+1,by omega,by rw[b.out,<-c.out],by go_num⟩
   case measure=>simp[intOf];omega
  ·obtain rfl:t=h:=by omega
   go_wp2;go_ret;exact⟨rfl,rfl⟩
theorem AoS:∀a:Fin 8,∀b:Fin 2,bits BinOp.or IntKind.i64 ((a.val:Int)*2) (b.val:Int)=((2*a.val+b.val:Nat):Int):=by decide+kernel
theorem X3{c:List Int}(d:∀j,c.getD j 0=0\/c.getD j 0=1)(b:Nat):∀t,Jv c b t<2 ^ t:=by intro a;induction a<;>grind [Jv]
theorem Uc(c:List Int)(b h n:Nat)(a:Option Addr)(v:Nat)(w:World)(I:Rd .u8 w a c)(D:c.length=n)(E:n=2*h)(K:h<=3)(L:b<=1)(C:∀j,c.getD j 0=0\/c.getD j 0=1):
 Calls prog 233 #[.slice a n v,int i64 b] w fun e w'=>e=.returned (int i64 (Jv c b h))/\w=w':=by
 have z:=hid D;have A:=hid E;have G:n<=6:=by omega
 clear D E;go_enter func233,ntmps233;go_wp2
 go_loop [5,6] (fun l q=>∃t p:Nat,t<=h/\Hid (p=b+2*t)/\p<=7/\l=int i64 (Jv c b t)/\q=int i64 p) (fun _ q=>7-(intOf q).toNat)
 case atStart=>exact⟨0,b,by omega,by unfold Hid;omega,by omega,rfl,rfl⟩
 case round=>
  obtain⟨t,p,ht,s,H,rfl,rfl⟩:=hrel
  by_cases r:p<n
  ·have d:t<h:=by have:=s.out;have:=A.out;omega
   obtain⟨b1,M,rfl,m⟩:=I.at (i:=p) (by rw[z.out];exact r);have g1:=m p (by rw[z.out];exact r);have g:=X3 C b t;have f:Jv c b t<8:=AI g (show 2 ^ t<=2 ^ 3 from BC (by omega) (by omega));have k:=C p;have u:=hid (show Jv c b (t+1)=2*Jv c b t+(c.getD p 0).toNat by rw[s.out];rfl);obtain⟨x,B⟩:∃x:Nat,c.getD p 0=(x:Int):=⟨(c.getD p 0).toNat,by omega⟩;rw[B]at g1 k u;have J:x<=1:=by omega
   obtain⟨N,y⟩:=E7 (Jv c b t);rw[<-y]at f u;rw[<-y];have F:=hid (AoS ⟨N,f⟩ ⟨x,by omega⟩);clear m y k g B;go_wp2
   go_round
   case rel=>exact⟨t+1,p+2,d,by unfold Hid;have:=s.out;omega,by omega,by rw[u.out,AN];exact congrArg (Value.int i64) F.out,by go_num⟩
   case measure=>simp[intOf];omega
  ·have d:t=h:=by have:=s.out;have:=A.out;omega
   subst d;go_wp2;go_ret;exact⟨rfl,rfl⟩
theorem QJ(v:Value)(w:World):Calls prog 187 #[v,int i64 0] w fun e w'=>e=.returned v/\w=w':=by
 go_enter func187,ntmps187;go_wp2;go_ret;exact⟨rfl,rfl⟩
theorem AoL(v:Value)(w:World):Calls prog 192 #[v,int i64 0] w fun e w'=>e=.returned v/\w=w':=by
 go_enter func192,ntmps192;go_wp2;go_ret;exact⟨rfl,rfl⟩
theorem AoK(v:Value)(w:World):Calls prog 196 #[v,int i64 0] w fun e w'=>e=.returned v/\w=w':=by
 go_enter func196,ntmps196;go_wp2;go_ret;exact⟨rfl,rfl⟩
theorem AoM(v:Value)(w:World):Calls prog 240 #[v,int i64 0] w fun e w'=>e=.returned v/\w=w':=by
 go_enter func240,ntmps240;go_wp2;go_ret;exact⟨rfl,rfl⟩
theorem LE(bytes:Int)(w:World)(h:0<=bytes/\bytes<=40):Calls prog 195 #[int i64 bytes] w fun e w'=>e=.returned (int i64 (8*bytes+24))/\w=w':=by
 go_enter func195,ntmps195;go_wp2;go_ret;exact⟨AjY (by go_num),rfl⟩
theorem OM{w1:World}{cs:Array Value}{T:TypeId}(b:Below (w.alloc (.cells cs T)).heap.size (w.alloc (.cells cs T)) w1)(k:Nat):w1.cell? ⟨w.heap.size,k,none⟩=cs[k]?:=by
 have h:w1.heap[w.heap.size]?=some (.cells cs T):=(b.block _ (by simp)).trans (World.alloc_heap_new w _);rw[Al _ _ _ _ _ _ h]
theorem Mv(w:World)(ty e:TypeId)(cs:Array Value)(n k:Nat)(v:Value)(d:TypeDesc)(m:P.underlying ty=some (.array n e))(l:P.underlying e=some d)(hd:d.isRow=false)(j:(P.info? e).map (·.size)=some 1)(r:k<n)(p:cs[k]?=some v)(q:IntKind):
 (Instr.index ty (.agg cs) (.int q k)).run P w=.ok v w:=by
 cases f:P.info? e with
 | none=>simp[f]at j
 | some i=>
  have g:i.size=1:=by simpa [f]using j
  have b:(isAgg e).run P w=.ok false w:=by
   unfold isAgg;rw[BN,Av l w]
   cases d<;>simp_all
  have c:0<=(k:Int)/\(k:Int)<(n:Int):=⟨by omega,by omega⟩;simp[Instr.index,asIntOf,BN,Av m w,c,sizeOf,typeInfo,f,g,part,b,p];intro h;omega
theorem I2(b:o.guard=none)(ty:TypeId)(x i:Operand)(l:o.op=.index ty x i)
 (e:TypeId) (cs:Array Value) (n k:Nat) (v:Value) (d:TypeDesc) (c:IntKind) (r:a.eval x=.agg cs) (hi:a.eval i=.int c k) (p:P.underlying ty=some (.array n e)) (g:P.underlying e=some d)
 (hd:d.isRow=false) (m:(P.info? e).map (·.size)=some 1) (j:k<n) (q:cs[k]?=some v)
 (h:wpList P ops Q rest (a.put o.dst v) w):wpList P ops Q (o::rest) a w:=
 CM b fun _ f=>by
  unfold Oper.wp execOp;simp only[l,r,hi,BN,Mv w ty e cs n k v d p g hd m j q c,B7];exact f _ _ h
theorem Hm(b:o.guard=none)(ty:TypeId)(x y:Operand)(e:o.op=.store ty x y)
 (g:Nat) (t:TypeId) (old cells:Array Value) (i:a.eval x=.pointer (some ⟨g,0,none⟩)) (j:a.eval y=.agg cells) (hg:w.heap[g]?=some (.cells old t (0,0))) (hi:(P.info? ty).map (·.size)=some cells.size)
 (f:old.size=cells.size) (c:cells.all (·.oneCell')=true) (h:wpList P ops Q rest (a.put o.dst undef) (w.setRow g cells)):wpList P ops Q (o::rest) a w:=
 CM b fun _ d=>by
  unfold Oper.wp execOp;simp only[e,i,j,Instr.storeAt,Instr.sureAddr,BN,Cv,B7,run_storeVar_row w g t ty old cells hg hi f c];exact d _ _ h
theorem PK(zs:List Int):∀(K i r:Nat),i<K->r<3->(Gz zs K).getD (3*i+r) 0=(UQ zs i).getD r 0
 | 0,i,r,h,_=>by omega
 | K+1,i,r,h,hr=>by
  rw[Gz]
  by_cases hi:i<K
  ·rw[<-PK zs K i r hi hr];have b:=JS zs K
   grind
  ·obtain rfl:i=K:=by omega
   have b:=JS zs i
   grind
def KG (S:Int):Int:=S % 2*32+S / 2 % 2*16+S / 4 % 2*8+S / 8 % 2*4+S / 16 % 2*2+S / 32 % 2
def Fz (W:Int):Int:=
 (W % 2+W / 2 % 2+W / 4 % 2+W / 8 % 2+W / 64 % 2) % 2*4+(W % 2+W / 4 % 2+W / 8 % 2+W / 32 % 2+W / 64 % 2) % 2*2+(W % 2+W / 2 % 2+W / 4 % 2+W / 16 % 2+W / 64 % 2) % 2
theorem M3(W:Int):0<=Fz W/\Fz W<8:=by unfold Fz;omega
theorem WV(W V:Int)(h:W % 128=V % 128):Fz W=Fz V:=by
 have b:W % 2=V % 2:=by omega
 have c:W / 2 % 2=V / 2 % 2:=by omega
 have d:W / 4 % 2=V / 4 % 2:=by omega
 have e:W / 8 % 2=V / 8 % 2:=by omega
 have f:W / 16 % 2=V / 16 % 2:=by omega
 have g:W / 32 % 2=V / 32 % 2:=by omega
 have i:W / 64 % 2=V / 64 % 2:=by omega
 unfold Fz;rw[b,c,d,e,f,g,i]
theorem Al9:∀S:Fin 64,∀x:Fin 2,
 (nxt (KG (S.val:Int)) (x.val:Int)=KG ((2*(S.val:Int)+(x.val:Int)) % 64)/\
 AnE (KG (S.val:Int)) (x.val:Int)=Fz (2*(S.val:Int)+(x.val:Int)) / 4 % 2/\
 AnF (KG (S.val:Int)) (x.val:Int)=Fz (2*(S.val:Int)+(x.val:Int)) / 2 % 2/\
 AnG (KG (S.val:Int)) (x.val:Int)=Fz (2*(S.val:Int)+(x.val:Int)) % 2/\
 Fz (2*(S.val:Int)+1)=7-Fz (2*(S.val:Int))):=by decide+kernel
theorem Yj(S:Nat)(b:S<64)(x:Nat)(c:x<2):
 nxt (KG (S:Int)) (x:Int)=KG ((2*(S:Int)+(x:Int)) % 64)/\
 AnE (KG (S:Int)) (x:Int)=Fz (2*(S:Int)+(x:Int)) / 4 % 2/\
 AnF (KG (S:Int)) (x:Int)=Fz (2*(S:Int)+(x:Int)) / 2 % 2/\
 AnG (KG (S:Int)) (x:Int)=Fz (2*(S:Int)+(x:Int)) % 2/\
 Fz (2*(S:Int)+1)=7-Fz (2*(S:Int)):=Al9 ⟨S,b⟩ ⟨x,c⟩
def gw (soft:List Int)(i:Nat)(w:Int):Int:=
 sgn (w / 4 % 2) (soft.getD (3*i) 0)+sgn (w / 2 % 2) (soft.getD (3*i+1) 0)+sgn (w % 2) (soft.getD (3*i+2) 0)
theorem AeK(soft:List Int)(i S x:Nat)(e:S<64)(f:x<2):gw soft i (Fz (2*(S:Int)+(x:Int)))=gain soft i (KG (S:Int)) (x:Int):=by
 obtain⟨_,b,c,d,_⟩:=Yj S e x f;unfold gw gain;rw[b,c,d]
def val (soft:List Int)(n:Nat):Nat->Nat->Int
 | 0,_=>0
 | k+1,S=>
  let i:=n+6-(k+1)
  let z:=gw soft i (Fz (2*(S:Int)))+val soft n k (2*S % 64)
  let o:=gw soft i (7-Fz (2*(S:Int)))+val soft n k (2*S % 64+1)
  if k<6 then z else if z<o then o else z
def one (soft:List Int)(n k S:Nat):Bool:=
 decide (gw soft (n+6-(k+1)) (Fz (2*(S:Int)))+val soft n k (2*S % 64)<gw soft (n+6-(k+1)) (7-Fz (2*(S:Int)))+val soft n k (2*S % 64+1))
theorem RA(S:Nat)(b:S<64):nxt (KG (S:Int)) 0=KG ((2*S % 64:Nat):Int):=by
 have:=(Yj S b 0 (by omega)).1
 grind
theorem Wt(S:Nat)(b:S<64):nxt (KG (S:Int)) 1=KG ((2*S % 64+1:Nat):Int):=by
 have:=(Yj S b 1 (by omega)).1
 grind
theorem TK(soft:List Int)(i S:Nat)(b:S<64):gw soft i (Fz (2*(S:Int)))=gain soft i (KG (S:Int)) 0:=by
 have:=AeK soft i S 0 b (by omega)
 simpa using this
theorem ZH(soft:List Int)(i S:Nat)(b:S<64):gw soft i (7-Fz (2*(S:Int)))=gain soft i (KG (S:Int)) 1:=by
 have h:=AeK soft i S 1 b (by omega);have c:=(Yj S b 1 (by omega)).2.2.2.2;rw[<-c]
 simpa using h
theorem AkN(soft:List Int)(n:Nat):∀k,k<=6->∀S,S<64->val soft n k S=sc soft (n+6-k) (KG (S:Int)) (List.replicate k 0):=by intro a;induction a<;>grind [val,sc,KG,TK,RA]
theorem Re(soft:List Int)(n:Nat):∀r,r<=n->∀S,S<64->val soft n (r+6) S=top soft r (n-r) (KG (S:Int))
 | 0,_,S,hS=>by
  rw[Ao,AkN soft n 6 (by omega) S hS]
  show _=sc soft (n-0) _ MA;rw[show n+6-6=n-0 by omega];rfl
 | r+1,hr,S,hS=>by
  rw[show r+1+6=(r+6)+1 by omega,val];simp only[Aa (show ¬r+6<6 by omega)];rw[TK soft _ S hS,ZH soft _ S hS,Re soft n r (by omega) _ (AZ _ (by omega)),Re soft n r (by omega) _ (by omega),show n+6-(r+6+1)=n-(r+1)by omega];rw[top,RA S hS,Wt S hS,show n-(r+1)+1=n-r by omega]
  split<;>omega
theorem AlT(soft:List Int)(n r S:Nat)(c:r<n)(b:S<64):
 way soft (r+1) (n-(r+1)) (KG (S:Int))=if one soft n (r+6) S then 1::way soft r (n-r) (KG ((2*S % 64+1:Nat):Int)) else 0::way soft r (n-r) (KG ((2*S % 64:Nat):Int)):=by
 rw[way];unfold one
 grind [TK,ZH,Re,RA,Wt]
def GP (soft:List Int)(n k:Nat):Nat->Nat
 | 0=>0
 | S+1=>GP soft n k S+if one soft n k S then 2 ^ S else 0
theorem Ol(soft:List Int)(n k:Nat):∀S,GP soft n k S<2 ^ S:=by intro a;induction a<;>grind [GP]
theorem Ajo(soft:List Int)(n k S:Nat):GP soft n k S ||| 2 ^ S=GP soft n k S+2 ^ S:=by
 have h:=Ol soft n k S;have:=Ex h 1
 grind
theorem So(soft:List Int)(n k S:Nat):∀d,GP soft n k (S+d) / 2 ^ S % 2=(GP soft n k S+if d=0 then 0 else if one soft n k S then 2 ^ S else 0) / 2 ^ S % 2
 | 0=>by simp
 | 1=>by simp[GP]
 | d+2=>by
  have b:=So soft n k S (d+1);rw[show S+(d+2)=(S+(d+1))+1 by omega,GP]
  split
  ·have e:2 ^ (S+(d+1))=2 ^ S*(2*2 ^ d):=by grind
   rw[e,Nat.add_mul_div_left _ _ (C6 S),Nat.add_mul_mod_self_left,b];simp
  ·rw[Bh,b];simp
theorem Agt(soft:List Int)(n k S:Nat)(c:S<64):GP soft n k 64 / 2 ^ S % 2=if one soft n k S then 1 else 0:=by
 obtain⟨d,hd⟩:∃d,64=S+(d+1):=⟨63-S,by omega⟩;have:=So soft n k S (d+1);rw[<-hd]at this;rw[this];have b:=Ol soft n k S;simp only[Nat.succ_ne_zero,AV]
 split
 ·rw[Nat.add_div_right _ (C6 S),Nat.div_eq_of_lt b]
 ·rw[Bh,Nat.div_eq_of_lt b]
def pop (x:Nat):Nat:=x % 2+x / 2 % 2+x / 4 % 2+x / 8 % 2+x / 16 % 2+x / 32 % 2+x / 64 % 2
def Ag0 (x:Int):Int:=IntKind.u64.wrap (bits .and .u64 (x / 2) 6148914691236517205+bits .and .u64 x 6148914691236517205)
def Ag1 (x:Int):Int:=IntKind.u64.wrap (bits .and .u64 (x / 4) 3689348814741910323+bits .and .u64 x 3689348814741910323)
def Ag2 (x:Int):Int:=bits .and .u64 (x / 16+x) 1085102592571150095
def Ag3 (x:Int):Int:=x+x / 256
def Ag4 (x:Int):Int:=x+x / 65536
def Ag5 (x:Int):Int:=x+x / 4294967296
theorem Al2:∀x:Fin 128,bits .and i64 (Ag5 (Ag4 (Ag3 (Ag2 (Ag1 (Ag0 (x.val:Int))))))) 127=(pop x.val:Int):=by decide+kernel
theorem AaC:∀x:Fin 128,((Ag0 (x.val:Int)).toNat:Int)=Ag0 (x.val:Int)/\(Ag0 (x.val:Int)).toNat<256:=by decide+kernel
theorem AaD:∀x:Fin 256,((Ag1 (x.val:Int)).toNat:Int)=Ag1 (x.val:Int)/\(Ag1 (x.val:Int)).toNat<128:=by decide+kernel
theorem AaE:∀x:Fin 128,((Ag2 (x.val:Int)).toNat:Int)=Ag2 (x.val:Int)/\(Ag2 (x.val:Int)).toNat<256:=by decide+kernel
theorem AaF:∀x:Fin 256,((Ag3 (x.val:Int)).toNat:Int)=Ag3 (x.val:Int)/\(Ag3 (x.val:Int)).toNat<256:=by decide+kernel
theorem AaG:∀x:Fin 256,((Ag4 (x.val:Int)).toNat:Int)=Ag4 (x.val:Int)/\(Ag4 (x.val:Int)).toNat<256:=by decide+kernel
theorem AaH:∀x:Fin 256,((Ag5 (x.val:Int)).toNat:Int)=Ag5 (x.val:Int)/\(Ag5 (x.val:Int)).toNat<256:=by decide+kernel
theorem AnA(x:Nat)(b:x<128)(w:World):
 Calls prog 293 #[int .u64 x] w fun e w'=>e=.returned (int i64 (pop x))/\w=w':=by
 have h:=hid (Al2 ⟨x,b⟩);obtain⟨A,k,c⟩:∃A:Nat,Ag0 x=A/\A<256:=⟨_,(AaC ⟨x,b⟩).1.symm,(AaC ⟨x,b⟩).2⟩;obtain⟨B,l,d⟩:∃B:Nat,Ag1 A=B/\B<128:=⟨_,(AaD ⟨A,c⟩).1.symm,(AaD ⟨A,c⟩).2⟩;obtain⟨C,m,f⟩:∃C:Nat,Ag2 B=C/\C<256:=⟨_,(AaE ⟨B,d⟩).1.symm,(AaE ⟨B,d⟩).2⟩;obtain⟨D,n,g⟩:∃D:Nat,Ag3 C=D/\D<256:=⟨_,(AaF ⟨C,f⟩).1.symm,(AaF ⟨C,f⟩).2⟩;obtain⟨E,p,i⟩:∃E:Nat,Ag4 D=E/\E<256:=⟨_,(AaG ⟨D,g⟩).1.symm,(AaG ⟨D,g⟩).2⟩;obtain⟨F,hF,q⟩:∃F:Nat,Ag5 E=F/\F<256:=⟨_,(AaH ⟨E,i⟩).1.symm,(AaH ⟨E,i⟩).2⟩;have j:Hid (bits .and i64 (F:Int) 127=(pop x:Int)):=by
  grind
 unfold Ag0 at k;unfold Ag1 at l;unfold Ag2 at m;unfold Ag3 at n;unfold Ag4 at p;unfold Ag5 at hF;clear h;go_enter func293,ntmps293;go_wp2;go_ret;exact⟨Fs j.out,rfl⟩
theorem Anz(x:Nat)(b:x<128)(w:World):
 Calls prog 280 #[int .u64 x] w fun e w'=>e=.returned (int i64 (pop x))/\w=w':=by
 go_enter func280,ntmps280
 go_wp2_with(go_at_call 293;refine(AnA x b _).mono ?_;rintro e w' ⟨rfl,rfl⟩);go_ret;exact⟨rfl,rfl⟩
theorem Amr:∀r:Fin 128,((2*(2*(2*0+pop (r.val &&& 79) % 2)+pop (r.val &&& 109) % 2)+pop (r.val &&& 87) % 2:Nat):Int)=Fz (r.val:Int):=by decide+kernel
theorem W4(V t:Nat)(ht:127 &&& t=t):V &&& t=(V % 128) &&& t:=by
 have e:V % 128=V &&& 127:=(nat_mask7 V).symm;rw[e,Nat.and_assoc,ht]
def Yu (k:Nat):Nat:=if k=0 then 79 else if k=1 then 109 else 87
def Rk (V:Nat):Nat->Nat
 | 0=>0
 | k+1=>2*Rk V k+pop (V &&& Yu k) % 2
theorem Ak3(V:Nat):∀k,Rk V k<2 ^ k:=by intro a;induction a<;>grind [Rk]
theorem Aff(V:Nat):((Rk V 3:Nat):Int)=Fz (V:Int):=by
 have h:=Amr ⟨V % 128,AZ _ (by omega)⟩;have b:Rk V 3=2*(2*(2*0+pop (V &&& 79) % 2)+pop (V &&& 109) % 2)+pop (V &&& 87) % 2:=rfl
 grind [W4,WV]
def Taps (w:World):Prop:=∃T fr,w.heap[9]?=some (.cells #[int .u64 79,int .u64 109,int .u64 87] T fr)
theorem Taps.cells(h:Taps w):w.cell? ⟨9,0,none⟩=some (int .u64 79)/\w.cell? ⟨9,1,none⟩=some (int .u64 109)/\w.cell? ⟨9,2,none⟩=some (int .u64 87):=by
 obtain⟨T,fr,h⟩:=h;exact⟨by rw[Al w 9 0 _ T fr h];rfl,by rw[Al w 9 1 _ T fr h];rfl,by rw[Al w 9 2 _ T fr h];rfl⟩
theorem AlY:∀a:Fin 4,∀b:Fin 2,bits .or .u64 ((a.val:Int)*2) (b.val:Int)=((2*a.val+b.val:Nat):Int):=by decide+kernel
theorem Aij:∀p:Fin 128,bits .and i64 ((pop p.val:Nat):Int) 1=((pop p.val % 2:Nat):Int):=by decide+kernel
theorem RJ(V k:Nat)(e:k<3):bits .and i64 ((pop (V &&& Yu k):Nat):Int) 1=((pop (V &&& Yu k) % 2:Nat):Int)/\
 bits .or .u64 ((Rk V k:Int)*2) (((pop (V &&& Yu k):Nat):Int) % 2)=((Rk V (k+1):Nat):Int)/\Rk V k<4:=by
 have d:=Ak3 V k;have b:Rk V k<4:=by
  have:2 ^ k<=2 ^ 2:=BC (by omega) (by omega);omega
 have c:V &&& Yu k<128:=B5 Dw (by unfold Yu;split<;>(try split)<;>omega);exact⟨Aij ⟨_,c⟩,AlY ⟨_,b⟩ ⟨_,AZ _ (by omega)⟩,b⟩
theorem UZ(V:Nat)(f:V<18446744073709551616)(w:World)(l:Taps w):
 Calls prog 261 #[int .u64 V] w fun e w'=>e=.returned (int .u64 (Fz V))/\w=w':=by
 obtain⟨c0,c1,c2⟩:=l.cells;have j:=hid (Aff V);go_enter func261,ntmps261;go_wp2
 go_loop [3,7] (fun a q=>∃k:Nat,k<=3/\q=int i64 k/\a=int .u64 (Rk V k)) (fun _ q=>3-(intOf q).toNat)
 case atStart=>exact⟨0,by omega,rfl,rfl⟩
 case round=>
  obtain⟨k,m,rfl,rfl⟩:=hrel
  rcases (show k=0\/k=1\/k=2\/k=3 by omega)with rfl | rfl | rfl | rfl
  ·have h:bits .and .u64 (V:Int) 79=((V &&& 79:Nat):Int):=C7 V 79 f (by omega);have d:V &&& 79<128:=B5 Dw (by omega);have b:=RJ V 0 (by omega);rw[show Yu 0=79 from rfl]at b;obtain⟨b,f3,i⟩:=b;have c:=hid f3;clear f3;generalize V &&& 79=X at*;generalize Rk V 0=g at*
   go_wp2_with(first | (go_at_call 280;refine(Anz X d _).mono ?_;rintro e w' ⟨rfl,rfl⟩) | (refine I2 rfl 412 (.tmp 6) (.tmp 7) rfl 194 #[int .u64 79,int .u64 109,int .u64 87] 3 0 (int .u64 79) _ i64 rfl rfl underlying412 underlying194 rfl (by kernel_rfl) (by omega) rfl ?_))
   go_round
   case rel=>exact⟨0+1,by omega,by go_num,congrArg (Value.int .u64) c.out⟩
   case measure=>simp[intOf]
  ·have h:bits .and .u64 (V:Int) 109=((V &&& 109:Nat):Int):=C7 V 109 f (by omega);have d:V &&& 109<128:=B5 Dw (by omega);have b:=RJ V 1 (by omega);rw[show Yu 1=109 from rfl]at b;obtain⟨b,f3,i⟩:=b;have c:=hid f3;clear f3;generalize V &&& 109=X at*;generalize Rk V 1=g at*
   go_wp2_with(first | (go_at_call 280;refine(Anz X d _).mono ?_;rintro e w' ⟨rfl,rfl⟩) | (refine I2 rfl 412 (.tmp 6) (.tmp 7) rfl 194 #[int .u64 79,int .u64 109,int .u64 87] 3 1 (int .u64 109) _ i64 rfl rfl underlying412 underlying194 rfl (by kernel_rfl) (by omega) rfl ?_))
   go_round
   case rel=>exact⟨1+1,by omega,by go_num,congrArg (Value.int .u64) c.out⟩
   case measure=>simp[intOf]
  ·have h:bits .and .u64 (V:Int) 87=((V &&& 87:Nat):Int):=C7 V 87 f (by omega);have d:V &&& 87<128:=B5 Dw (by omega);have b:=RJ V 2 (by omega);rw[show Yu 2=87 from rfl]at b;obtain⟨b,f3,i⟩:=b;have c:=hid f3;clear f3;generalize V &&& 87=X at*;generalize Rk V 2=g at*
   go_wp2_with(first | (go_at_call 280;refine(Anz X d _).mono ?_;rintro e w' ⟨rfl,rfl⟩) | (refine I2 rfl 412 (.tmp 6) (.tmp 7) rfl 194 #[int .u64 79,int .u64 109,int .u64 87] 3 2 (int .u64 87) _ i64 rfl rfl underlying412 underlying194 rfl (by kernel_rfl) (by omega) rfl ?_))
   go_round
   case rel=>exact⟨2+1,by omega,by go_num,congrArg (Value.int .u64) c.out⟩
   case measure=>simp[intOf]
  ·go_wp2;go_ret;exact⟨Fs j.out,rfl⟩
def JT (L:List Int)(k:Nat):List Int:=L.take k++List.replicate (L.length-k) 0
theorem TC(L:List Int):JT L 0=List.replicate L.length 0:=by simp[JT]
theorem VX(L:List Int):JT L L.length=L:=by simp[JT]
theorem Ht(L:List Int)(k:Nat)(h:k<=L.length):(JT L k).length=L.length:=by simp[JT];omega
theorem Kj(L:List Int)(k:Nat)(h:k<L.length)(x:Int)(c:x=L.getD k 0):(JT L k).set k x=JT L (k+1):=by
 unfold JT;obtain⟨m,b⟩:∃m,L.length-k=m+1:=⟨L.length-k-1,by omega⟩;rw[b,KI _ k m x (by simp;omega),show L.length-(k+1)=m by omega,c]
 congr 1
 rw[Br];simp[List.getD,h]
theorem seven(b c d e f g h:Int)(i:0<=b/\b<=1)(j:0<=c/\c<=1)(k:0<=d/\d<=1)(l:0<=e/\e<=1)(m:0<=f/\f<=1)(n:0<=g/\g<=1)(p:0<=h/\h<=1):
 (h*64+g*32+f*16+e*8+d*4+c*2+b) % 2=b/\(h*64+g*32+f*16+e*8+d*4+c*2+b) / 2 % 2=c/\(h*64+g*32+f*16+e*8+d*4+c*2+b) / 4 % 2=d/\
 (h*64+g*32+f*16+e*8+d*4+c*2+b) / 8 % 2=e/\(h*64+g*32+f*16+e*8+d*4+c*2+b) / 16 % 2=f/\(h*64+g*32+f*16+e*8+d*4+c*2+b) / 32 % 2=g/\
 (h*64+g*32+f*16+e*8+d*4+c*2+b) / 64 % 2=h:=by omega
def Pd (zs:List Int)(i:Nat):Int:=
 Is zs ((i:Int)-6)*64+Is zs ((i:Int)-5)*32+Is zs ((i:Int)-4)*16+Is zs ((i:Int)-3)*8+Is zs ((i:Int)-2)*4+Is zs ((i:Int)-1)*2
theorem Ape(h:Bits zs)(i:Nat):0<=Pd zs i/\Pd zs i<128:=by
 have b:=Gj h ((i:Int)-1);have c:=Gj h ((i:Int)-2);have d:=Gj h ((i:Int)-3);have e:=Gj h ((i:Int)-4);have f:=Gj h ((i:Int)-5);have g:=Gj h ((i:Int)-6);unfold Pd;omega
theorem Ag7(zs:List Int):Pd zs 0=0:=by simp[Pd,Is]
theorem Ag6(h:Bits zs)(i:Nat):Pd zs (i+1)=2*((Pd zs i+Is zs i) % 64):=by
 have e:∀k:Nat,Is zs (((i+1:Nat):Int)-((k+1:Nat):Int))=Is zs ((i:Int)-(k:Int)):=fun k=>by congr 1;omega
 have b:=e 0;have e1:=e 1;have e2:=e 2;have e3:=e 3;have c:=e 4;have d:=e 5;simp only[Ao,Nat.reduceAdd,Int.cast_ofNat_Int,Int.sub_zero]at b e1 e2 e3 c d;have f:=Gj h (i:Int);have g:=Gj h ((i:Int)-1);have j:=Gj h ((i:Int)-2);have l:=Gj h ((i:Int)-3);have m:=Gj h ((i:Int)-4);have n:=Gj h ((i:Int)-5)
 grind [Gj,Pd,Is]
theorem WP(h:Bits zs)(i:Nat)(V:Int)(k:V % 128=Pd zs i+Is zs i):UQ zs i=[Fz V / 4 % 2,Fz V / 2 % 2,Fz V % 2]:=by
 have b:=Gj h (i:Int);have c:=Gj h ((i:Int)-1);have d:=Gj h ((i:Int)-2);have e:=Gj h ((i:Int)-3);have f:=Gj h ((i:Int)-4);have g:=Gj h ((i:Int)-5);have j:=Gj h ((i:Int)-6);rw[WV V (Pd zs i+Is zs i) (by omega)];obtain⟨l,m,n,p,q,r,s⟩:=seven _ _ _ _ _ _ _ b c d e f g j;unfold Pd Fz UQ
 grind
theorem AbK(h:Bits zs)(i:Nat)(V:Int)(b:V % 128=Pd zs i+Is zs i):2*V % 128=Pd zs (i+1):=by
 rw[Ag6 h i,<-b];omega
def Mo (zs:List Int):Int:=if F6 zs=0 then (if 400<zs.length then 2 else 0) else F6 zs
def Xw (zs:List Int):List Int:=if Mo zs=0 then Gz zs (zs.length+6) else []
theorem K7(zs:List Int)(K i:Nat)(hi:i<K)(j:Nat)(b:j<3):(Gz zs K).getD (3*i+j) 0=(UQ zs i).getD j 0:=PK zs K i j hi b
theorem Ph(zs:List Int)(K i:Nat)(hi:i<K):(Gz zs K).getD (3*i) 0=(UQ zs i).getD 0 0:=PK zs K i 0 hi (by omega)
theorem Taps.lt(h:Taps w):9<w.heap.size:=by grind [Taps]
theorem Taps.below{w':World}(h:Taps w)(c:Below w.heap.size w w'):Taps w':=by
 have b:=h.lt;obtain⟨T,fr,h⟩:=h;exact⟨T,fr,(c.block _ b).trans h⟩
theorem AbJ(e:Bits zs)(i V b:Nat)(f:(2*(V:Int)) % 128=Pd zs i)(c:Is zs i=(b:Int)):
 ∃U:Nat,IntKind.u64.wrap ((V:Int)*2)=(U:Int)/\U<18446744073709551616/\bits .or .u64 (U:Int) (b:Int)=((U+b:Nat):Int)/\U+b<18446744073709551616/\((U+b:Nat):Int) % 128=Pd zs i+Is zs i:=by
 have d:=Gj e (i:Int);refine⟨V*2 % 18446744073709551616,?_,by omega,?_,by omega,?_⟩
 ·rw[IntKind.wrap_u64];omega
 ·rw[u64_or_nat _ _ (by omega) (by omega),nat_join 1 _ _ (by omega) (by omega)]
 ·rw[c];omega
theorem OZ(x:Nat)(h:x<8):∃y:Nat,bits .and .u64 (x:Int) 1=(y:Int)/\(x:Int) % 2=(y:Int)/\y<=1:=by
 refine⟨x % 2,?_,by omega,by omega⟩;have:=C7 x 1 (by omega) (by omega)
 grind
theorem Acr(zs:List Int)(a:Option Addr)(c:Nat)(w:World)(ha:Rd .u8 w a zs)(hz:zs.length<=maxLen)(hy:Bytes zs)(hT:Taps w):
 Calls prog 230 #[.slice a zs.length c] w fun e w'=>∃v,e=.returned (.tuple #[v,int i64 (Mo zs)])/\Own w' w.heap.size v (Xw zs)/\Below w.heap.size w w':=by
 by_cases D:F6 zs=0
 ·by_cases h1:400<zs.length
  ·have F:Mo zs=2:=by unfold Mo;rw[Ab D,Ab h1]
   have M:Xw zs=[]:=by unfold Xw;rw[F];rfl
   rw[F,M];have H0:=hid D;clear F M D;unfold maxLen at hz;go_enter func230,ntmps230
   go_wp2_with(go_at_call 225;refine(IP zs a c _ ha (by unfold maxLen;omega)).mono ?_;rintro e w' ⟨rfl,rfl⟩;rw[H0.out])
   go_ret2;exact⟨_,rfl,Own.nil _ _,Ad _ _⟩
  ·have F:Mo zs=0:=by unfold Mo;rw[Ab D,Aa h1]
   have M:Xw zs=Gz zs (zs.length+6):=by unfold Xw;rw[F];rfl
   rw[F,M];have E:Bits zs:=fun k=>⟨(hy.at k).1,(IA D).1 k⟩
   have T:=hid E;have H0:=hid D;have ae:zs.length<=400:=by omega
   clear F M D h1 E hz;have u:=hid (JS zs (zs.length+6));go_enter func230,ntmps230
   go_wp2_with(first | (go_at_call 225;refine(IP zs a c _ ha (by unfold maxLen;omega)).mono ?_;rintro e w' ⟨rfl,rfl⟩;rw[H0.out]) | (at_make;refine FH w.heap.size w (3*(zs.length+6)) rfl _ _ rfl _ _ rfl rfl ?_ ?_ (by omega) (Ad _ _) (Ac _) ?_))
   ·omega
   ·omega
   intro w1 f h ad;have e1:List.replicate (3*(zs.length+6)) (0:Int)=JT (Gz zs (zs.length+6)) (3*0):=by rw[Nat.mul_zero,TC,u.out]
   rw[e1]at f;obtain⟨g,HG⟩:=E7 w.heap.size;have H:Own w1 w.heap.size (.slice (some ⟨g,0,none⟩) (3*(zs.length+6)) (3*(zs.length+6))) (JT (Gz zs (zs.length+6)) (3*0)):=by rw[HG];exact f
   clear f;have f:=H;clear H;have C:=hid (show w.heap.size<=g by omega);rw[<-HG];clear HG e1;obtain⟨N,hN⟩:=E7 (3*(zs.length+6));rw[<-hN]at f;rw[<-hN];have HN:=hid hN;have af:N<=1218:=by omega
   clear hN;go_wp2
   go_loopw [6,26] (fun v q wr=>∃i V:Nat,i<=zs.length+6/\q=int i64 i/\v=int .u64 V/\V<18446744073709551616/\Hid (2*(V:Int) % 128=Pd zs i)/\Own wr w.heap.size (.slice (some ⟨g,0,none⟩) N N) (JT (Gz zs (zs.length+6)) (3*i))/\Below w.heap.size w wr) (fun _ q _=>zs.length+6-(intOf q).toNat)
   case atStart=>exact⟨0,0,by omega,rfl,rfl,by omega,by rw[Ag7];rfl,f,h⟩
   case round=>
    clear f h;obtain⟨i,V,hi,rfl,rfl,al,HP,f,h⟩:=hrel
    by_cases ai:i<zs.length+6
    ·have ag:3*i+2<N:=by rw[HN.out];omega
     by_cases ab:i<zs.length
     ·skip
      obtain⟨b1,o1,rfl,Z⟩:=(ha.below h).at ab;have g1:=Z i ab;clear Z;have O:=Gj T.out (i:Int);obtain⟨b,K⟩:=Cw O.1;have aa:zs.getD i 0=(b:Int):=by rw[<-K];unfold Is;rw[Aa (by omega),AN]
      rw[aa]at g1;obtain⟨U,hU,lU,ak,lV,B⟩:=AbJ T.out i V b HP.out K;have Y:=hid B;have ah:b<=1:=by omega
      clear B aa O;generalize ac:U+b=L at*;clear ac;have S:=hT.below h;obtain⟨t,x⟩:∃t:Nat,Fz (L:Int)=(t:Int):=Cw (M3 _).1;have W:=(M3 (L:Int)).2;rw[x]at W;have A:=hid (show UQ zs i=[(t:Int) / 4 % 2,(t:Int) / 2 % 2,(t:Int) / 1 % 2]by rw[WP T.out i _ Y.out,x];simp);have X:=hid (AbK T.out i _ Y.out);have R:=hid x;clear x
      go_wp2_with(go_at_call 261;refine(UZ L lV _ S).mono ?_;rintro e w' ⟨rfl,rfl⟩;rw[R.out])
      go_loopw [44] (fun q wr=>∃j:Nat,j<=3/\q=int i64 j/\Own wr w.heap.size (.slice (some ⟨g,0,none⟩) N N) (JT (Gz zs (zs.length+6)) (3*i+j))/\Below w.heap.size w wr) (fun q _=>3-(intOf q).toNat)
      case atStart=>exact⟨0,by omega,rfl,f,h⟩
      case round=>
       obtain⟨j,hj,rfl,d,n⟩:=hrel;clear f h
       rcases (show j=0\/j=1\/j=2\/j=3 by omega)with rfl | rfl | rfl | rfl
       ·obtain⟨y,m,s,I⟩:=OZ (t / 4) (by omega);have J:bits .and .u64 ((t:Int) / 4) 1=(y:Int):=by rw[<-m];rfl
        replace d:Own wr w.heap.size (.slice (some ⟨g,0,none⟩) N N) (JT (Gz zs (zs.length+6)) (3*i)):=d;have r:=d.cell (i:=3*i) (by rw[Ht _ _ (by rw[u.out];omega),u.out];omega);have G:=d.free (3*i);have l:=d.set (3*i) (y:Int);rw[Kj _ (3*i) (by rw[u.out];omega) _ (by rw[Ph zs _ i (by omega),A.out];grind)]at l;have z:=n.setCell (p:=⟨g,3*i,none⟩) C.out (int .u8 (y:Int));clear d n m s;go_wp2
        go_roundw
        case rel=>grind
        case measure=>simp[intOf]
       ·obtain⟨y,m,s,I⟩:=OZ (t / 2) (by omega);have J:bits .and .u64 ((t:Int) / 2) 1=(y:Int):=by rw[<-m];rfl
        have r:=d.cell (i:=3*i+1) (by rw[Ht _ _ (by rw[u.out];omega),u.out];omega);have G:=d.free (3*i+1);have l:=d.set (3*i+1) (y:Int);rw[Kj _ (3*i+1) (by rw[u.out];omega) _ (by rw[K7 zs _ i (by omega) 1 (by omega),A.out];grind)]at l;have z:=n.setCell (p:=⟨g,3*i+1,none⟩) C.out (int .u8 (y:Int));clear d n m s;go_wp2
        go_roundw
        case rel=>grind
        case measure=>simp[intOf]
       ·obtain⟨y,m,s,I⟩:=OZ (t / 1) (by omega);have J:bits .and .u64 (t:Int) 1=(y:Int):=by rw[<-m,Nat.div_one]
        have r:=d.cell (i:=3*i+2) (by rw[Ht _ _ (by rw[u.out];omega),u.out];omega);have G:=d.free (3*i+2);have l:=d.set (3*i+2) (y:Int);rw[Kj _ (3*i+2) (by rw[u.out];omega) _ (by rw[K7 zs _ i (by omega) 2 (by omega),A.out];grind)]at l;have z:=n.setCell (p:=⟨g,3*i+2,none⟩) C.out (int .u8 (y:Int));clear d n m s;go_wp2
        go_roundw
        case rel=>grind
        case measure=>simp[intOf]
       ·go_wp2
        go_roundw
        case rel=>exact⟨i+1,L,by omega,by go_num,rfl,lV,X,d,n⟩
        case measure=>simp[intOf];omega
     ·skip
      have K:Is zs (i:Int)=((0:Nat):Int):=by grind [Is]
      obtain⟨U,hU,lU,_,lV,B⟩:=AbJ T.out i V 0 HP.out K;rw[Bh]at lV B;have Y:=hid B;clear B;obtain⟨L,rfl⟩:=E7 U;have S:=hT.below h;obtain⟨t,x⟩:∃t:Nat,Fz (L:Int)=(t:Int):=Cw (M3 _).1;have W:=(M3 (L:Int)).2;rw[x]at W;have A:=hid (show UQ zs i=[(t:Int) / 4 % 2,(t:Int) / 2 % 2,(t:Int) / 1 % 2]by rw[WP T.out i _ Y.out,x];simp);have X:=hid (AbK T.out i _ Y.out);have R:=hid x;clear x
      go_wp2_with(go_at_call 261;refine(UZ L lV _ S).mono ?_;rintro e w' ⟨rfl,rfl⟩;rw[R.out])
      go_loopw [44] (fun q wr=>∃j:Nat,j<=3/\q=int i64 j/\Own wr w.heap.size (.slice (some ⟨g,0,none⟩) N N) (JT (Gz zs (zs.length+6)) (3*i+j))/\Below w.heap.size w wr) (fun q _=>3-(intOf q).toNat)
      case atStart=>exact⟨0,by omega,rfl,f,h⟩
      case round=>
       obtain⟨j,hj,rfl,d,n⟩:=hrel;clear f h
       rcases (show j=0\/j=1\/j=2\/j=3 by omega)with rfl | rfl | rfl | rfl
       ·obtain⟨y,m,s,I⟩:=OZ (t / 4) (by omega);have J:bits .and .u64 ((t:Int) / 4) 1=(y:Int):=by rw[<-m];rfl
        replace d:Own wr w.heap.size (.slice (some ⟨g,0,none⟩) N N) (JT (Gz zs (zs.length+6)) (3*i)):=d;have r:=d.cell (i:=3*i) (by rw[Ht _ _ (by rw[u.out];omega),u.out];omega);have G:=d.free (3*i);have l:=d.set (3*i) (y:Int);rw[Kj _ (3*i) (by rw[u.out];omega) _ (by rw[Ph zs _ i (by omega),A.out];grind)]at l;have z:=n.setCell (p:=⟨g,3*i,none⟩) C.out (int .u8 (y:Int));clear d n m s;go_wp2
        go_roundw
        case rel=>grind
        case measure=>simp[intOf]
       ·obtain⟨y,m,s,I⟩:=OZ (t / 2) (by omega);have J:bits .and .u64 ((t:Int) / 2) 1=(y:Int):=by rw[<-m];rfl
        have r:=d.cell (i:=3*i+1) (by rw[Ht _ _ (by rw[u.out];omega),u.out];omega);have G:=d.free (3*i+1);have l:=d.set (3*i+1) (y:Int);rw[Kj _ (3*i+1) (by rw[u.out];omega) _ (by rw[K7 zs _ i (by omega) 1 (by omega),A.out];grind)]at l;have z:=n.setCell (p:=⟨g,3*i+1,none⟩) C.out (int .u8 (y:Int));clear d n m s;go_wp2
        go_roundw
        case rel=>grind
        case measure=>simp[intOf]
       ·obtain⟨y,m,s,I⟩:=OZ (t / 1) (by omega);have J:bits .and .u64 (t:Int) 1=(y:Int):=by rw[<-m,Nat.div_one]
        have r:=d.cell (i:=3*i+2) (by rw[Ht _ _ (by rw[u.out];omega),u.out];omega);have G:=d.free (3*i+2);have l:=d.set (3*i+2) (y:Int);rw[Kj _ (3*i+2) (by rw[u.out];omega) _ (by rw[K7 zs _ i (by omega) 2 (by omega),A.out];grind)]at l;have z:=n.setCell (p:=⟨g,3*i+2,none⟩) C.out (int .u8 (y:Int));clear d n m s;go_wp2
        go_roundw
        case rel=>grind
        case measure=>simp[intOf]
       ·go_wp2
        go_roundw
        case rel=>grind
        case measure=>simp[intOf];omega
    ·obtain rfl:i=zs.length+6:=by omega
     go_wp2
     go_ret2;refine⟨_,rfl,?_,h⟩;rw[show 3*(zs.length+6)=(Gz zs (zs.length+6)).length from u.out.symm,VX]at f;exact f
 ·have F:Mo zs=F6 zs:=by unfold Mo;rw[Aa D]
  have M:Xw zs=[]:=by unfold Xw;rw[F,Aa D]
  rw[F,M];have aj:(F6 zs !=0)=true:=by simpa using D
  have H0:=hid D;clear F M D;generalize HE:F6 zs=q at*;go_enter func230,ntmps230
  go_wp2_with(go_at_call 225;refine(IP zs a c _ ha hz).mono ?_;rintro e w' ⟨rfl,rfl⟩;rw[HE])
  go_ret2;exact⟨_,rfl,Own.nil _ _,Ad _ _⟩
theorem M5{B:Nat}{a:World}(h:Below B a w){g:Nat}(hg:B<=g)(cs:Array Value):Below B a (w.setRow g cs):=
 h.trans ⟨rfl,rfl,rfl,by simp,fun k b=>Cl w g k cs (by omega)⟩
def Jl (n:Nat):List Int:=(List.range 64).map fun S=>if S<n then Fz (2*(S:Int)) else 0
theorem OH(n:Nat):(Jl n).length=64:=by simp[Jl]
theorem AbO(n:Nat):(Jl n).set n (Fz (2*(n:Int)))=Jl (n+1):=by
 refine AW (by simp[Jl]) fun j b c=>?_
 grind [Jl]
theorem Aek(S:Nat)(h:S<64):(Jl 64).getD S 0=Fz (2*(S:Int)):=by simp[Jl,List.getD,h]
theorem Ah7(w:World)(n:Taps w):
 Calls prog 296 #[] w fun e w'=>e=.returned (.agg ((Jl 64).map (Value.int .u64)).toArray)/\Below w.heap.size w w':=by
 go_enter func296,ntmps296;go_wp2
 go_loopw [3] (fun q wr=>∃S:Nat,S<=64/\q=int i64 S/\ArrAt .u64 428 wr w.heap.size (List.replicate 64 0)/\ArrAt .u64 428 wr (w.heap.size+1) (Jl S)/\Below w.heap.size w wr) (fun q _=>64-(intOf q).toNat)
 case atStart=>
  refine⟨0,by omega,rfl,?_,?_,?_⟩
  ·exact(Bc _ _ w.heap.size (by simp)).trans (Am w _)
  ·have:=Am (w.alloc (.cells ((List.replicate 64 (0:Int)).map (Value.int .u64)).toArray 428)) (.cells ((List.replicate 64 (0:Int)).map (Value.int .u64)).toArray 428);have e:(w.alloc (.cells ((List.replicate 64 (0:Int)).map (Value.int .u64)).toArray 428)).heap.size=w.heap.size+1:=by simp
   rw[e]at this;exact this
  ·exact(((Ad _ _).alloc (Ac _) _).alloc (by simp) _)
 case round=>
  obtain⟨S,r,rfl,f,c,b⟩:=hrel
  by_cases l:S<64
  ·have s:=c.cell (j:=S) (by rw[OH];exact l);have t:=c.free S;have i:=n.below b;have d:=c.set S (Fz (2*(S:Int)));rw[AbO]at d;have m:=f.other ⟨w.heap.size+1,S,none⟩ (int .u64 (Fz (2*(S:Int)))) (by grind);have k:=b.setCell (p:=⟨w.heap.size+1,S,none⟩) (by grind) (int .u64 (Fz (2*(S:Int))));clear f c b;have g:=hid (show(S:Int)*2=((2*S:Nat):Int)by omega);have h:=hid (show((2*S:Nat):Int)=2*(S:Int)by omega)
   go_wp2_with(first | (go_at_call 261;rw[g.out];refine(UZ (2*S) (by omega) _ i).mono ?_;rintro e w' ⟨rfl,rfl⟩;rw[h.out]))
   go_roundw
   case rel=>grind
   case measure=>simp[intOf];omega
  ·obtain rfl:S=64:=by omega
   go_wp2_with(first | (refine CP rfl 428 (.tmp 1) rfl (w.heap.size+1) rfl 428 _ (0,0) _ c underlying428 rfl (by kernel_rfl) ?_) | (refine Hm rfl 428 (.tmp 0) (.tmp 13) rfl w.heap.size 428 _ _ rfl rfl f (by kernel_rfl) (by simp[Jl]) (by kernel_rfl) ?_));refine Ah (BO (p:=0) (ty:=428) (by kernel_rfl) _ _ w.heap.size 428 _ (0,0) _ rfl (Cn _ _ _ _ _ _ f) underlying428 rfl (by kernel_rfl)) rfl ?_;exact⟨rfl,M5 b (Ac _) _⟩
end Go.Proofs.YtbjgfoiikhbonahGreatDoor
