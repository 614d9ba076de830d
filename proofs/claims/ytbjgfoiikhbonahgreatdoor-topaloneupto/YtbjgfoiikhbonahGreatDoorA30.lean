import Derived.Test.YtbjgfoiikhbonahGreatDoorA29
import Derived.Test.YtbjgfoiikhbonahGreatDoorA27
import Derived.ArgAppend
set_option linter.unusedVariables false
set_option linter.unusedSimpArgs false
set_option maxRecDepth 100000
set_option maxHeartbeats 4000000
namespace Go.Proofs.YtbjgfoiikhbonahGreatDoor
open Go.ChangeShapes Go.WideShapes Go.ChangeAt Go.RowKit Go.Proofs.Tryz
open Value renaming string->C,int->E,slice->G
open Option renaming none->D,some->I
open Ending renaming returned->J
open Go renaming World->K
open IntKind renaming i64->N
variable {L:List ByteArray}{d:ByteArray}{g n:Nat}{us:List UnP}{v:Value}{w:K}{zs:List Int}
theorem Vv(us:List UnP)(k:Nat):GF (us.drop k)<=GF us:=by
 unfold GF;exact(List.Sublist.filter _ (List.drop_sublist k us)).length_le
theorem Aeg{a:List UnP}(b:a.length=us.length)(h:∀i,i<us.length->(us.getD i .zero).dn=true->(a.getD i .zero).dn=true):GF a<=GF us:=by
 rw[KO,KO,b];have key:∀k,k<=us.length->((List.range k).filter fun i=>!(a.getD i .zero).dn).length<=((List.range k).filter fun i=>!(us.getD i .zero).dn).length:=by
  intro k
  induction k with
  | zero=>intro _;simp
  | succ k ih=>
   intro c;have:=ih (by omega);rw[Az,BS,BS,Ai,Ai]
   grind
 exact key _ (Ac _)
theorem SndM.taken{m:OutM}{us a:List UnP}{d:Nat}{gs:List GapM}(h:SndM m us)(hd:d<=GC GR us)(ht:Aep d (LQ (m.beg % 64) gs) (Rn (m.beg % 64) gs) us a):SndM (m.taken d gs) (a.drop (GC (·.dn) a))/\(m.taken d gs).beg=m.beg+GC (·.dn) a:=by
 have hn:=h.Agx;have R:=K9 (·.dn) a;have r:=ht.1;have P:d<=us.length:=Ak hd (K9 _ _);have A:∀i,i<us.length->UnR (m.taken d gs) (m.beg+i) (a.getD i .zero):=fun i hi=>(h.un i hi).taken (ht.2 i hi)
 have b:(m.taken d gs).beg=m.beg+GC (·.dn) a:=by
  show Fv (fun u=>!m.N9 d gs u) m.beg m.n=_;refine Ge (by omega) (by omega) (fun j H M=>?_) (fun S=>?_)
  ·have q:=Kz (p:=(·.dn)) (us:=a) (k:=j-m.beg) (by omega);have c:=(A (j-m.beg) (by omega)).dn;rw[q,show m.beg+(j-m.beg)=j by omega]at c;have z:m.N9 d gs j=true:=c.symm;rw[z];rfl
  ·have q:=OW (p:=(·.dn)) (us:=a) (by omega);have c:=(A (GC (·.dn) a) (by omega)).dn;rw[q]at c;have z:m.N9 d gs (m.beg+GC (·.dn) a)=false:=c.symm;rw[z];rfl
 have s:(m.taken d gs).n=m.n:=rfl;refine⟨⟨h.w1,h.w2,by rw[b,s];omega,by rw[AJ,b,s];omega,fun i hi=>?_,fun u o=>?_,fun u o=>?_,fun i hi F=>?_,fun i hi l=>?_,?_⟩,b⟩
 ·grind
 ·rw[b]at o
  show m.N9 d gs u=true
  by_cases e:u<m.beg
  ·unfold OutM.N9;rw[h.old u e];rfl
  ·have q:=Kz (p:=(·.dn)) (us:=a) (k:=u-m.beg) (by omega);have c:=(A (u-m.beg) (by omega)).dn;rw[q,show m.beg+(u-m.beg)=u by omega]at c;exact c.symm
 ·have x:m.n<=u:=o;have V:=h.fresh u x;refine⟨?_,fun t=>?_⟩
  ·show m.N9 d gs u=false;unfold OutM.N9
   grind
  ·show m.Wg d gs u t=0;unfold OutM.Wg
   grind
 ·rw[AJ]at hi;rw[IC,(ht.2 _ (by omega)).2.1]at F;obtain⟨q1,T⟩:=h.pre _ (by omega) F;refine⟨by show i<m.win;omega,fun j hj=>?_⟩;rw[IC,(ht.2 _ (by omega)).2.1];exact T _ (by omega)
 ·rw[AJ]at hi;rw[IC]at l ⊢;have B:=ht.2 (GC (·.dn) a+i) (by omega);rw[B.2.1];rw[B.2.2.1]at l
  cases y:(us.getD (GC (·.dn) a+i) .zero).dn with
  | true=>exact h.dsn _ (by omega) y
  | false=>
   rw[y,Bool.false_or,BD,Bq]at l;have:=Kz (p:=GR) (us:=us) (k:=GC (·.dn) a+i) (by omega);exact AQ this
 ·have H:=Vv a (GC (·.dn) a);have M:=Aeg r (fun i hi y=>by rw[(ht.2 i hi).2.2.1,y];rfl);have:=h.few;omega
theorem SndM.Ans{m:OutM}(h:SndM m us):GC GR us<=32:=by
 rcases DF (GC GR us)with e | e
 ·omega
 ·have b:=K9 GR us;have a:=Kz (p:=GR) (us:=us) (k:=GC GR us-1) (by omega);have:=(h.pre _ (by omega) (AQ a)).1;have:=h.w2;omega
theorem Aks{p:Addr}{F:List Nat}{m:OutM}(r:ReportM)(a:Option Addr)(n c:Nat)(h:Snd w p F m)(B:Gps w a r.miss)(t:r.miss≠[]->Qh F a)(P:r.miss.length=n)(M:n<=maxLen):Calls prog 32 #[.pointer (I p),.agg #[E N r.next, G a n c]] w fun e w'=>e= J (E N (m.take r).err)/\Kept F w w'/\∃F',Snd w' p F' (m.take r).m/\Ga w.heap.size F F':=by
 obtain⟨b,o,cc,us,rfl,rfl,q,i⟩:=h;have aa:=i.short;obtain⟨r1,r2,r3⟩:=i.repErr r;rw[r1]
 by_cases k:repErr (m.beg % 64) us r=0
 ·rw[r3 k];have l:E9 r.next m.beg<=GC GR us:=by
   unfold repErr at k;rw[Kb]at k
   grind
  have s:E9 r.next (m.beg % 64)<=32:=by rw[Kb];have:=i.Ans;omega
  refine(AdS r a n c q (AZ _ (by omega)) (by omega) i.AkK B t P M k s).mono ?_;rintro e w' ⟨rfl,hk,A,ht,T,R⟩;rw[Kb]at ht;obtain⟨q1,q2⟩:=i.taken l ht;refine⟨by rw[k],hk,_,⟨b,o,cc,_,rfl,rfl,?_,q1⟩,fun x u=>?_⟩
  ·rw[q2];rw[Ru]at R;exact R
  ·have z:x∈F0 b o A:=by
    rcases J4 u with rfl | ⟨y,hy,rfl⟩ | ⟨j,V,e⟩
    ·exact KU _ _ _
    ·exact IK hy
    ·rw[IC]at e;rw[AJ]at V;exact Jy (by omega) e
   exact Q6 T ht.1 z
 ·rw[r2 k];refine(AhD r a n c q (AZ _ (by omega)) (by omega) i.AkK B P M k).mono ?_;rintro e w' ⟨rfl,H⟩;exact⟨rfl,Kept.E5 H,F0 b o us,⟨b,o,cc,us,rfl,rfl,q.kept (Kept.E5 (S:=[]) H) (by simp),i⟩,fun x u=> .inl u⟩
theorem Sq(s:ByteArray)(n j:Nat)(b:8*j+8<=n):∀m,m<=8->num (Fh s n) (8*j) m=KR s j / 2 ^ (8-m)
 | 0,_=>by
  have h:0<=KR s j/\KR s j<256:=by
   unfold KR
   split
   ·have:=D7 s[j];omega
   ·omega
  rw[num];simp only[Dn,Int.reducePow];omega
 | m+1,hm=>by
  have c:=Sq s n j b m (by omega);have a:(Fh s n).getD (8*j+m) 0=KR s j / 2 ^ (7-m) % 2:=by
   have e:(Fh s n).getD (8*j+m) 0=NW s (8*j+m):=by simp[Fh,List.getD,show 8*j+m<n by omega]
   rw[e];unfold NW;rw[show(8*j+m) / 8=j by omega,show(8*j+m) % 8=m by omega]
  rw[num,c,a]
  rcases (show m=0\/m=1\/m=2\/m=3\/m=4\/m=5\/m=6\/m=7 by omega)with rfl | rfl | rfl | rfl | rfl | rfl | rfl | rfl<;>simp<;>omega
theorem AlZ(s:ByteArray):strOfNums (JH (Fh s (8*s.size)))=s:=by
 have c:(JH (Fh s (8*s.size))).length=s.size:=by rw[Lb,Gx];omega
 have hd:(strOfNums (JH (Fh s (8*s.size)))).data=s.data:=by
  refine C5 ?_ fun j i a=>?_
  ·show((JH (Fh s (8*s.size))).map fun n=>UInt8.ofNat n.toNat).toArray.size=_;rw[A8,Bo,c];rfl
  ·show((JH (Fh s (8*s.size))).map fun n=>UInt8.ofNat n.toNat).toArray[j]'_=_;have b:j<s.size:=a;have e:num (Fh s (8*s.size)) (8*j) 8=(s[j].toNat:Int):=by
    rw[Sq s _ j (by omega) 8 (Ac _),VN s j b];simp
   simp[JH,e];rfl
 cases h:strOfNums (JH (Fh s (8*s.size)))
 cases s;rw[h]at hd;simp at hd;rw[hd]
theorem Rc(s:ByteArray)(n:Nat):Bits (Fh s n):=by grind [Bits,Fh,NW]
theorem VE(xs a:List Int)(n:Nat):Bits (Lk xs a n):=by grind [Bits,Lk]
theorem TQ(zs:List Int)(k:Int):Bits (Ko zs k):=by grind [Bits,Ko,RK,kW,MX,kP,b2i,crc]
theorem Qn(h:Bits zs)(a:zs.length<=4096):F6 zs=0:=TB (fun j _=>(h j).2) (by omega)
theorem YY(h:Bits zs):Bytes zs:=fun x a=>by
 obtain⟨k,b,rfl⟩:=A5 a;have:=h k
 grind
theorem Apn:kW 3=24:=by unfold kW;simp
theorem Ai9:Jr 3=true:=by unfold Jr;simp
def Hb (k:Int)(c:Nat):Nat:=((k+48271*(c:Int)+12345) % 2147483648).toNat
theorem Akj(k:Int)(c:Nat):Hb k c<2147483648:=by unfold Hb;omega
theorem Aki(k:Int)(c:Nat):((Hb k c:Nat):Int)=(k+48271*(c:Int)+12345) % 2147483648:=by unfold Hb;omega
def LP (d:ByteArray)(s:Nat):ByteArray:=strOfNums (JH (Lk (Fh d (8*d.size)) (FG s (8*d.size)) (8*d.size)))
theorem Lg(d:ByteArray)(s:Nat):(LP d s).size=d.size:=by
 unfold LP;rw[BP,Lb,GZ];omega
def Pl (c:Nat):ByteArray:=strOfNums [(c:Int) / 65536 % 256,(c:Int) / 256 % 256,(c:Int) % 256]
theorem TL(c:Nat):(Pl c).size=3:=by unfold Pl;rw[BP];rfl
def If (c:Nat)(d:ByteArray):ByteArray:=strOfNums (JH (Ko (Fh (Pl c++d) (8*(3+d.size))) 3))
theorem MM(zs:List Int):(Ko zs 3).length=24:=by
 have:(Ko zs 3).length=kW 3:=KL _ _ _;rw[this,Apn]
theorem UH(c:Nat)(d:ByteArray):(If c d).size=3:=by
 unfold If;rw[BP,Lb,MM]
structure PktM where
 short:Int
 data:ByteArray
 sl:ByteArray
def PktM.val(p:PktM):Value:=.agg #[E N p.short, C p.data, C p.sl]
def PktM.zero:PktM:=⟨0,ByteArray.empty,ByteArray.empty⟩
def QQ (k:Int)(c:Nat)(d:ByteArray):PktM:=⟨((c % 4096:Nat):Int),LP d (Hb k c),If c d⟩
theorem S8(s:ByteArray)(w:K)(l:s.size<=503):
 Calls prog 251 #[C s] w fun e w'=>∃v,e= J v/\Own w' w.heap.size v (Fh s (8*s.size))/\Below w.heap.size w w':=by
 have a:Gw s (8*(s.size:Int))=0:=by unfold Gw;rw[Aa (by omega),Aa (by omega)]
 have h:IZ s (8*(s.size:Int))=Fh s (8*s.size):=by
  unfold IZ;rw[Ab a]
  congr 1
 have b:=fun k=>UU s (8*(s.size:Int)) k (by omega)
 rw[a,h]at b;clear a h;obtain⟨L, c⟩ := E7 (Fh s (8*s.size));rw[<-c]at b ⊢;clear c;go_enter func251,ntmps251
 go_wp2_with(go_at_call 189;refine(b _).mono ?_;rintro e w' ⟨v,rfl,i,j⟩);go_ret;exact⟨v,rfl,i,j⟩
theorem Afn(n:Int):bits .and N n 2147483647=n % 2147483648:=by
 have a:(BitVec.ofInt 64 2147483647).toNat=2 ^ 31-1:=by decide
 have key:(BitVec.ofInt 64 n &&& BitVec.ofInt 64 2147483647).toNat=(n % ((2 ^ 64:Nat):Int)).toNat % 2 ^ 31:=by
  rw[BitVec.toNat_and,BitVec.toNat_ofInt,a,Nat.and_two_pow_sub_one_eq_mod]
 show IntKind.i64.wrap ((BitVec.ofInt 64 n &&& BitVec.ofInt 64 2147483647).toNat:Nat)=n % 2147483648;rw[key,AO];omega
theorem AdK(k:Int)(c:Nat)(w:K)(b:0<=k/\k<2147483648)(a:c<=33554432):
 Calls prog 252 #[E N k, E N (c:Int)] w fun e w'=>e= J (E N (Hb k c:Nat))/\w=w':=by
 have H:=hid (show bits .and N (k+48271*(c:Int)+12345) 2147483647=(Hb k c:Nat)by rw[Afn,Aki]);go_enter func252,ntmps252;go_wp2;go_ret;exact⟨by rw[H.out];rfl,rfl⟩
theorem Nd(d:ByteArray)(k:Int)(c:Nat)(w:K)(hd:d.size<=500)(M:0<=k/\k<2147483648)(F:c<=33554432):
 Calls prog 214 #[C d, E N k, E N (c:Int)] w fun e w'=>e= J (C (LP d (Hb k c)))/\Below w.heap.size w w':=by
 have u:=fun h=>S8 d h (by omega)
 have z:=fun h=>AdK k c h M F
 have P:=Akj k c;have H:=hid (show strOfNums (JH (Lk (Fh d (8*d.size)) (FG (Hb k c) (8*d.size)) (8*d.size)))=LP d (Hb k c)from rfl);have o:(Fh d (8*d.size)).length=8*d.size:=Gx _ _;have b:=Rc d (8*d.size);obtain⟨R, l⟩ := E7 (LP d (Hb k c));obtain⟨S, m⟩ := E7 (Hb k c);obtain⟨L, A⟩ := E7 (Fh d (8*d.size));obtain⟨n, B⟩ := E7 (8*d.size);rw[<-A]at u o b H;rw[<-m]at z P H;rw[<-m]at l;rw[<-l]at H;have hn:n<=4000:=by omega
 rw[<-B]at o H;rw[show LP d (Hb k c)=R by rw[l,m]];clear l m A B hd M F;have x:=fun a p h t=>Zo L S a p h t b (Qn b (by omega)) P
 rw[o]at x;have y:=fun a p h t=>Ya (Lk L (FG S n) n) a p h t (VE _ _ _) (by rw[GZ];omega) (Qn (VE _ _ _) (by rw[GZ];omega))
 rw[GZ,H.out]at y;go_enter func214,ntmps214
 go_wp2_with(first | (go_at_call 251;refine(u _).mono ?_;rintro e w1 ⟨v1,rfl,i,q⟩;obtain⟨T,c1,rfl, -, -⟩:=i.FC;rw[o]) | (go_at_call 252;refine(z _).mono ?_;rintro e w2 ⟨rfl,rfl⟩));refine(x T c1 _ i.rd).mono ?_;rintro e w2 ⟨v2,rfl,j,r⟩;obtain⟨V,c2,rfl, -, -⟩:=j.FC;rw[GZ]
 go_wp2_with fail;refine(y V c2 _ j.rd).mono ?_;rintro e w3 ⟨rfl,s⟩;go_wp2;go_ret;exact⟨rfl,Fr q (Fr r s)⟩
theorem Acm(x y z:Int)(a:K):(convert 103 9 (G (I ⟨a.heap.size,0,D⟩) 3 3)).run prog (a.alloc (.cells #[E .u8 x, E .u8 y, E .u8 z] 5))=.ok (C (strOfNums [x,y,z])) (a.alloc (.cells #[E .u8 x, E .u8 y, E .u8 z] 5)):=by
 refine L6 (L:=[x,y,z]) ?_ 3;intro _;refine⟨a.heap.size,0,rfl,fun j b=>?_⟩;have c:j<3:=b;rw[Al _ _ _ _ _ _ (Am a _)]
 grind
theorem Nw(d:ByteArray)(c:Nat)(w:K)(hd:d.size<=500):
 Calls prog 215 #[E N (c:Int), C d] w fun e w'=>e= J (C (If c d))/\Below w.heap.size w w':=by
 have t:(Pl c++d).size=3+d.size:=by rw[CH,TL]
 have l:=fun h=>S8 (Pl c++d) h (by omega)
 rw[t]at l;have H:=hid (show strOfNums (JH (Ko (Fh (Pl c++d) (8*(3+d.size))) 3))=If c d from rfl);have k:(Fh (Pl c++d) (8*(3+d.size))).length=8*(3+d.size):=Gx _ _;have M:=TL c;have b:=Rc (Pl c++d) (8*(3+d.size));obtain⟨R, z⟩ := E7 (If c d);obtain⟨L, y⟩ := E7 (Fh (Pl c++d) (8*(3+d.size)));obtain⟨n, A⟩ := E7 (8*(3+d.size));rw[<-y]at l k b H;rw[<-z]at H ⊢;have P:n<=4024:=by omega
 rw[<-A]at k;clear z y A;have u:=fun a m h s=>AnY L 3 a m h s (YY b) (by unfold Lq;rw[Ab (Qn b (by omega)),Ab Ai9])
 rw[k]at u;have x:=fun a m h s=>Ya (Ko L 3) a m h s (TQ _ _) (by rw[MM];omega) (Qn (TQ _ _) (by rw[MM];omega))
 rw[MM,H.out]at x;go_enter func215,ntmps215;have r:=fun h=>Acm ((c:Int) / 65536 % 256) ((c:Int) / 256 % 256) ((c:Int) % 256) h
 rw[show strOfNums [(c:Int) / 65536 % 256,(c:Int) / 256 % 256,(c:Int) % 256]=Pl c from rfl]at r
 go_wp2_with(go_at_call 251;refine(l _).mono ?_;rintro e w1 ⟨v1,rfl,i,o⟩;obtain⟨B,c1,rfl, -, -⟩:=i.FC;rw[k]);refine(u B c1 _ i.rd).mono ?_;rintro e w2 ⟨v2,rfl,j,p⟩;obtain⟨F,c2,rfl, -, -⟩:=j.FC;rw[MM]
 go_wp2_with fail;refine(x F c2 _ j.rd).mono ?_;rintro e S ⟨rfl,q⟩;go_wp2;go_ret;exact⟨rfl,Fr ((Ad _ _).alloc (Ac _) _) (Fr o (Fr p q))⟩
theorem At.Gq{b:Nat}{T:TypeId}{cur:List Value}(h:At w b T cur)(o:Nat)(v:Value):At (w.setCell ⟨b,o,D⟩ v) b T (cur.set o v):=by
 unfold At at h ⊢;rw[BK w b o _ T v h];simp
theorem K4(w:K)(T:TypeId)(cur:List Value):At (w.alloc (.cells cur.toArray T)) w.heap.size T cur:=Am w (.cells cur.toArray T)
theorem QM(d:ByteArray)(k:Int)(c:Nat)(w:K)(hd:d.size<=500)(x:0<=k/\k<2147483648)(u:c<=33554432):
 Calls prog 172 #[C d, E N k, E N (c:Int)] w fun e w'=>e= J (QQ k c d).val/\Below w.heap.size w w':=by
 have m:=fun l=>Nd d k c l hd x u
 have o:=fun l=>Nw d c l hd
 have H:=hid (show Value.agg #[E N ((c:Int) % 4096), C (LP d (Hb k c)), C (If c d)]=(QQ k c d).val by unfold QQ PktM.val;simp);obtain⟨V, q⟩ := E7 ((QQ k c d).val);rw[<-q]at H ⊢;obtain⟨A, i⟩ := E7 (LP d (Hb k c));obtain⟨B, j⟩ := E7 (If c d);rw[<-i,<-j]at H;rw[<-i]at m;rw[<-j]at o;clear q i j;have r:=hid (K4 w 255 [E N 0, C {data:=#[]}, C {data:=#[]}]);go_enter func172,ntmps172
 go_wp2_with(first | (go_at_call 214;refine(m _).mono ?_;rintro e w1 ⟨rfl,b⟩) | (go_at_call 215;refine(o _).mono ?_;rintro e w2 ⟨rfl,h⟩;have a:=(r.out.kept (S:=[]) (Kept.E5 b) (by simp)).kept (S:=[]) (Kept.E5 h) (by simp);have y:w2.cell? ⟨w.heap.size,0,D⟩=I (E N 0):=a.cell 0;have z:w2.cell? ⟨w.heap.size,1,D⟩=I (C {data:=#[]}):=a.cell 1;have F:w2.cell? ⟨w.heap.size,2,D⟩=I (C {data:=#[]}):=a.cell 2;have M:=a.free 0;have P:=a.free 1;have R:=a.free 2));have t:At (((w2.setCell ⟨w.heap.size,0,D⟩ (E N ((c:Int) % 4096))).setCell ⟨w.heap.size,1,D⟩ (C A)).setCell ⟨w.heap.size,2,D⟩ (C B)) w.heap.size 255 [E N ((c:Int) % 4096), C A, C B]:=((a.Gq 0 (E N ((c:Int) % 4096))).Gq 1 (C A)).Gq 2 (C B);have s:Below w.heap.size w (((w2.setCell ⟨w.heap.size,0,D⟩ (E N ((c:Int) % 4096))).setCell ⟨w.heap.size,1,D⟩ (C A)).setCell ⟨w.heap.size,2,D⟩ (C B)):=(((Fr ((Ad _ _).alloc (Ac _) _) (Fr b h)).setCell (Ac _) _).setCell (Ac _) _).setCell (Ac _) _
 (try simp only[Exit.inBlock,Exit.then])
 refine Ah (BO (p:=6) (ty:=255) (by kernel_rfl) _ _ w.heap.size 255 _ (0,0) _ rfl t underlying255 rfl (by kernel_rfl)) rfl ?_;exact⟨by rw[<-H.out],s⟩
def KZ (k:Int):Bool:=decide (0<=k) && decide (k<=2147483647)
def Js (k:Int):Int:=if KZ k then 0 else 1
theorem K6(k:Int)(w:K):Calls prog 125 #[E N k] w fun e w'=>e= J (E N (Js k))/\w=w':=by
 by_cases a:k<0
 ·have H:=hid (show Js k=1 by unfold Js KZ;simp[show ¬(0<=k)by omega]);go_enter func125,ntmps125;go_wp2;go_ret;exact⟨by rw[H.out];rfl,rfl⟩
 ·by_cases b:2147483647<k
  ·have H:=hid (show Js k=1 by unfold Js KZ;grind);go_enter func125,ntmps125;go_wp2;go_ret;exact⟨by rw[H.out];rfl,rfl⟩
  ·have H:=hid (show Js k=0 by unfold Js KZ;grind);go_enter func125,ntmps125;go_wp2;go_ret;exact⟨by rw[H.out];rfl,rfl⟩
def KQ:Value->List Nat
 | G (I a) _ _=>[a.block]
 | _=>[]
def Mid (w:K)(v:Value)(L:List ByteArray):Prop:=
 (v= G D 0 0/\L=[])\/∃g o c cur,v= G (I ⟨g,o,D⟩) L.length c/\At w g 9 cur/\L.length<=c/\c<=maxLen/\o+c<=cur.length/\∀i,i<L.length->cur[o+i]?=I (C (L.getD i ByteArray.empty))
theorem Mid.kept{w w':K}{v:Value}{L:List ByteArray}{S:List Nat}(h:Mid w v L)(b:Kept S w w')(e:∀x∈KQ v,x∉S):Mid w' v L:=by
 rcases h with h | ⟨g,o,c,cur,rfl,a,r⟩
 ·exact .inl h
 ·exact .inr ⟨g,o,c,cur,rfl,a.kept b (e g (by simp[KQ])),r⟩
theorem Mid.lt{w:K}{v:Value}{L:List ByteArray}(h:Mid w v L):∀x∈KQ v,x<w.heap.size:=by
 rcases h with⟨rfl,_⟩ | ⟨g,o,c,cur,rfl,b,r⟩
 ·intro x a;simp[KQ]at a
 ·intro x a;simp only[KQ,AC]at a;subst a;exact b.lt
theorem Mid.FC(h:Mid w v L):∃a c,v= G a L.length c/\L.length<=c/\c<=maxLen:=by grind [Mid]
theorem Mid.txs{a:Option Addr}{c:Nat}(h:Mid w (G a n c) L):Txs w a L:=by
 intro b
 rcases h with⟨_,j⟩ | ⟨g,o,c,cur,e,k,m,p,q,l⟩
 ·exact absurd j b
 ·simp only[Aq]at e;obtain⟨rfl,_,_⟩:=e;exact⟨g,o,rfl,fun i hi=>by rw[k.cell,l i hi]⟩
theorem AlK{B:Nat}(h:w.ownsRow B 9 1 v n (L.map Value.string)):Mid w v L:=by
 have j:L.length=n:=by have:=h.1;simpa using this
 rcases h.2 with⟨rfl,k⟩ | ⟨g,a,cur,rfl,_,hg,l,b,c,m⟩
 ·exact .inl ⟨rfl,Cp (by omega)⟩
 ·refine .inr ⟨g,0,a,cur.toList,by rw[j],by unfold At;rw[ES];exact hg,by omega,b,by simp[c],fun i hi=>?_⟩;have e:cur.toList[i]?=(L.map Value.string)[i]?:=by
   grind
  grind
theorem AcF(L:List ByteArray)(x:ByteArray)(i:Nat):(L++[x]).getD i ByteArray.empty=if i=L.length then x else L.getD i ByteArray.empty:=by grind
theorem Af8(L:List ByteArray)(j:Nat)(u:Value)(h:(L.map Value.string)[j]?=I u):u= C (L.getD j ByteArray.empty)/\j<L.length:=by grind
theorem Abg(h:Mid w v L)(x:ByteArray)(t ty:TypeId)(ht:prog.underlying t=I (.slice 9))(gb:Nat)(hx:w.cell? ⟨gb,0,D⟩=I (C x))(hm:L.length<1099511627776):
 ∃v' w',(Builtin.append_ #[t,t] ty #[v, G (I ⟨gb,0,D⟩) 1 1]).run prog w=.ok v' w'/\Mid w' v' (L++[x])/\Kept (KQ v) w w'/\Ga w.heap.size (KQ v) (KQ v'):=by
 obtain⟨T,hi,z,l,A⟩:=As Tryz.Rr;have e:∀j u,[C x][j]?=I u->w.cell? ((⟨gb,0,D⟩:Addr).add j)=I u:=fun j u s=>by
  have:j=0:=by
   grind
  subst this;rw[BT,hx]
  simpa using s
 have V:(L.length+1)*16<=140737488355328:=by omega
 have p:L.length+1<=maxLen:=by unfold maxLen;omega
 have q:∀(v':Value) (w':K) (B:Nat),w'.ownsRow B 9 1 v' (L.length+1) (L.map Value.string++[C x])->Mid w' v' (L++[x]):=fun v' w' B m=>AlK (B:=B) (n:=L.length+1) (by rw[AR];exact m)
 have r:∀(v':Value) (w':K),w'.ownsRow w.heap.size 9 1 v' (L.length+1) (L.map Value.string++[C x])->∀F,Ga w.heap.size F (KQ v'):=fun v' w' m F y M=>by
  rcases m.2 with⟨_,h0⟩ | ⟨g,aa,cur,rfl,hB,_⟩
  ·omega
  ·simp only[KQ,AC]at M;subst M;exact .inr hB
 rcases h with⟨rfl,rfl⟩ | ⟨g,o,c,cur,rfl,H,r1,r2,r3,r4⟩
 ·obtain⟨v',w',b,m,a,_⟩:=run_append_own (P:=prog) w w.heap.size t ty 9 T _ 1 16 ht hi z l A rfl (by omega) (G D 0 0) 0 [] ⟨rfl,.inl ⟨rfl,rfl⟩⟩ ⟨gb,0,D⟩ 1 1 [C x] rfl e (by simp[Value.oneCell']) p V (Ac _);exact⟨v',w',b,q _ _ _ m,⟨a.os,a.tape,a.output,a.size,fun k S _=>a.block k S (by simp[Value.ownBlock])⟩,r _ _ m _⟩
 ·by_cases hr:L.length+1<=c
  ·have ac:o+L.length<cur.length:=by omega
   have b:=run_append_room_cells (P:=prog) w t ty 9 T ht hi g o L.length c ⟨gb,0,D⟩ 1 1 [C x] (by rw[l];rfl) e (by simp[Value.oneCell']) hr
    (fun j s=>by
     have:j=0:=by simpa using s
     subst this;rw[l,H.cell,Ap (by omega)]
     rfl) (fun j _=>H.free _)
   refine⟨_,_,b,?_,?_,fun y M=> .inl M⟩
   ·refine .inr ⟨g,o,c,cur.set (o+L.length) (C x),by simp,?_,by simpa using hr,r2,by simpa using r3,fun i ab=>?_⟩
    ·have:=H.Gq (o+L.length) (C x);rw[l,By];exact this
    grind
   ·show Kept [g] w _;rw[l,By];exact(Kept.refl _ w).setCell (by simp) _
  ·obtain⟨v',w',b,m,a⟩:=run_append_arg_grows (P:=prog) w t ty 9 T _ 1 16 ht hi z l A rfl (by omega) ⟨g,o,D⟩ L.length c (L.map Value.string) (by simp) (fun j u s=>by
    obtain⟨rfl,R⟩:=Af8 L j u s
    rw[BT,H.cell,r4 j R]) ⟨gb,0,D⟩ 1 1 [C x] rfl e (by omega) p V
   exact⟨v',w',b,q _ _ _ m,⟨a.os,a.tape,a.output,a.size,fun k S _=>a.block k S (by simp)⟩,r _ _ m _⟩
structure SdM where
 key:Int
 beg:Nat
 wait:List ByteArray
def SdM.nxt(m:SdM):Nat:=m.beg+m.wait.length
def SdM.new(k:Int):SdM:=⟨k,0,[]⟩
structure SdM.Ok(m:SdM):Prop where
 key:0<=m.key/\m.key<2147483648
 few:m.nxt<=16777216
 small:∀i,i<m.wait.length->(m.wait.getD i ByteArray.empty).size<=500
structure PSd(w:K)(g:Nat)(v:Value)(m:SdM):Prop where
 hd:At w g 242 [E N m.key, E N (m.beg:Int),v]
 mid:Mid w v m.wait
 ne:g∉KQ v
 ok:m.Ok
def sdF (g:Nat)(v:Value):List Nat:=g::KQ v
theorem PSd.kept{w w':K}{g:Nat}{v:Value}{m:SdM}{S:List Nat}(h:PSd w g v m)(a:Kept S w w')(b:∀x∈sdF g v,x∉S):PSd w' g v m:=
 ⟨h.hd.kept a (b g (AL)),h.mid.kept a (fun x c=>b x (AU _ c)),h.ne,h.ok⟩
theorem PSd.lt{w:K}{g:Nat}{v:Value}{m:SdM}(h:PSd w g v m):∀x∈sdF g v,x<w.heap.size:=fun x a=>by
 rcases Ar.1 a with rfl | a
 ·exact h.hd.lt
 ·exact h.mid.lt x a
theorem Kept.Anv{S j:List Nat}{a b c:K}(h:Kept S a b)(k:Kept j b c)(m:∀x∈j,x∈S\/a.heap.size<=x):Kept S a c:=
 ⟨k.os.trans h.os,k.tape.trans h.tape,k.output.trans h.output,Ak h.size k.size,fun i hi l=>(k.block i (AI hi h.size) (fun e=>by grind)).trans (h.block i hi l)⟩
theorem QD{k:Int}(h:KZ k=true):0<=k/\k<2147483648:=by
 unfold KZ at h
 grind
theorem AiY(k:Int)(w:K)(a:KZ k=true):
 Calls prog 74 #[E N k] w fun e w'=>e= J (.tuple #[.pointer (I ⟨w.heap.size,0,D⟩), E N 0])/\PSd w' w.heap.size (G D 0 0) (.new k)/\Below w.heap.size w w':=by
 have c:=fun j=>K6 k j
 rw[show Js k=0 by unfold Js;rw[Ab a]]at c;have b:=QD a;have h:Hid (PSd (w.alloc (.cells #[E N k, E N 0, G D 0 0] 242)) w.heap.size (G D 0 0) (.new k)):=⟨K4 w _ _,.inl ⟨rfl,rfl⟩,by simp[KQ],⟨b,by show 0+0<=16777216;omega,fun i hi=>absurd hi (by simp[SdM.new])⟩⟩;clear a b;go_enter func74,ntmps74
 go_wp2_with(go_at_call 125;refine(c _).mono ?_;rintro e w' ⟨rfl,rfl⟩)
 go_ret2;exact⟨rfl,h.out,(Ad _ w).alloc (Ac _) _⟩
theorem OU{m:SdM}(h:PSd w g v m):
 Calls prog 171 #[.pointer (I ⟨g,0,D⟩)] w fun e w'=>e= J (E N (m.nxt:Nat))/\Below w.heap.size w w':=by
 obtain⟨a,c,rfl, -, -⟩:=h.mid.FC;have c1:w.cell? ⟨g,1,D⟩=I (E N (m.beg:Int)):=h.hd.cell 1;have c2:w.cell? ⟨g,2,D⟩=I (G a m.wait.length c):=h.hd.cell 2;have b:m.beg+m.wait.length<=16777216:=h.ok.few;have H:=hid (show((m.nxt:Nat):Int)=(m.beg:Int)+(m.wait.length:Int)by unfold SdM.nxt;omega);clear h;go_enter func171,ntmps171;go_upto_region 1 with fail
 go_region;go_wp2;go_ret;exact⟨by rw[H.out];rfl,(Ad _ w).drew⟩
def Aem:Value:=.agg #[E N 0, C {data:=#[]}, C {data:=#[]}]
theorem Anl{m:SdM}(h:PSd w g v m)(hd:d.size<=500)(o:16777216<=m.nxt):
 Calls prog 131 #[.pointer (I ⟨g,0,D⟩), C d] w fun e w'=>e= J (.tuple #[Aem, E N 7])/\Below w.heap.size w w':=by
 have b:Below w.heap.size w (w.alloc (.cells #[E N 0, C {data:=#[]}, C {data:=#[]}] 255)):=(Ad _ w).alloc (Ac _) _;have k:=OU (h.kept (S:=[]) (Kept.E5 b) (by simp));have i:m.nxt<=33554432:=by have:=h.ok.few;omega
 have l:=hid (K4 w 255 [E N 0, C {data:=#[]}, C {data:=#[]}]);obtain⟨M, j⟩ := E7 ((m.nxt:Nat):Int);rw[<-j]at k;have p:(16777216:Int)<=M:=by omega
 clear h o i j;go_enter func131,ntmps131
 go_wp2_with(go_at_call 171;refine k.mono ?_;rintro e w1 ⟨rfl,c⟩;have a:=l.out.kept (S:=[]) (Kept.E5 c) (by simp);have q:w1.cell? ⟨w.heap.size,0,D⟩=I (E N 0):=a.cell 0;have r:w1.cell? ⟨w.heap.size,1,D⟩=I (C {data:=#[]}):=a.cell 1;have s:w1.cell? ⟨w.heap.size,2,D⟩=I (C {data:=#[]}):=a.cell 2;have t:=a.free 0;have u:=a.free 1;have x:=a.free 2)
 (try simp only[Exit.inBlock,Exit.then])
 refine Ah (v:=.tuple #[Aem, E N 7]) ?_ rfl ⟨rfl,?_⟩
 ·rw[AD rfl];unfold Aem
  go_simp
 ·exact(((Fr b c).setCell (Ac _) _).setCell (Ac _) _).setCell (Ac _) _
def SdM.Mw(m:SdM)(d:ByteArray):SdM:=⟨m.key,m.beg,m.wait++[d]⟩
theorem SdM.Ok.Mw{m:SdM}(h:m.Ok)(hd:d.size<=500)(a:m.nxt<16777216):(m.Mw d).Ok:=by
 refine⟨h.key,?_,fun i hi=>?_⟩
 ·show m.beg+(m.wait++[d]).length<=16777216;have:m.beg+m.wait.length<16777216:=a
  grind
 ·show((m.wait++[d]).getD i ByteArray.empty).size<=500;have b:i<m.wait.length+1:=by have:i<(m.wait++[d]).length:=hi;simpa using this
  rw[AcF]
  split
  ·exact hd
  ·exact h.small i (by omega)
def Ah9 (w:K)(g:Nat)(v:Value)(m':SdM)(r:Value):Ending->K->Prop:=fun e w'=>e= J r/\Kept (sdF g v) w w'/\∃v',PSd w' g v' m'/\Ga w.heap.size (KQ v) (KQ v')
theorem Ai0{m:SdM}(h:PSd w g v m)(hd:d.size<=500)(hf:m.nxt<16777216):
 Calls prog 131 #[.pointer (I ⟨g,0,D⟩), C d] w (Ah9 w g v (m.Mw d) (.tuple #[(QQ m.key m.nxt d).val, E N 0])):=by
 have H:Below w.heap.size w (w.alloc (.cells #[E N 0, C {data:=#[]}, C {data:=#[]}] 255)):=(Ad _ w).alloc (Ac _) _;have h0:=h.kept (S:=[]) (Kept.E5 H) (by simp);have hn:=OU h0;have hP:=fun wz=>QM d m.key m.nxt wz hd h.ok.key (by omega)
 have hA:=K4 w 255 [E N 0, C {data:=#[]}, C {data:=#[]}];have q:=h.lt;have T:m.wait.length<1099511627776:=by
  have:m.beg+m.wait.length<16777216:=hf;omega
 obtain⟨a,c,rfl, -, -⟩:=h.mid.FC;have hF:∀w1:K,Below (w.alloc (.cells #[E N 0, C {data:=#[]}, C {data:=#[]}] 255)).heap.size (w.alloc (.cells #[E N 0, C {data:=#[]}, C {data:=#[]}] 255)) w1->
  w1.cell? ⟨g,2,D⟩=I (G a m.wait.length c)/\∃a' c' o,(Builtin.append_ #[22,22] 22 #[G a m.wait.length c, G (I ⟨w1.heap.size,0,D⟩) 1 1]).run prog (w1.alloc (.cells #[C d] 9))=.ok (G a' (m.wait.length+1) c') o/\
   o.cell? ⟨g,0,D⟩=I (E N m.key)/\o.cell? ⟨g,2,D⟩=I (G a m.wait.length c)/\o.frozen? ⟨g,2,D⟩=false/\∀l,Below (o.setCell ⟨g,2,D⟩ (G a' (m.wait.length+1) c')).heap.size (o.setCell ⟨g,2,D⟩ (G a' (m.wait.length+1) c')) l->
    At l w.heap.size 255 [E N 0, C {data:=#[]}, C {data:=#[]}]/\∀x y z,Kept (sdF g (G a m.wait.length c)) w (((l.setCell ⟨w.heap.size,0,D⟩ x).setCell ⟨w.heap.size,1,D⟩ y).setCell ⟨w.heap.size,2,D⟩ z)/\∃v',PSd (((l.setCell ⟨w.heap.size,0,D⟩ x).setCell ⟨w.heap.size,1,D⟩ y).setCell ⟨w.heap.size,2,D⟩ z) g v' (m.Mw d)/\Ga w.heap.size (KQ (G a m.wait.length c)) (KQ v'):=fun w1 j=>by
  have h1:=h0.kept (S:=[]) (Kept.E5 j) (by simp);have aa:=hA.kept (S:=[]) (Kept.E5 j) (by simp);refine⟨h1.hd.cell 2,?_⟩;have s:Kept [] w1 (w1.alloc (.cells #[C d] 9)):=(Kept.refl _ w1).alloc _;have h2:=h1.kept s (by simp);have ab:=aa.kept s (by simp);obtain⟨v',o,F,hM,hK,hG⟩:=Abg h2.mid d 22 22 underlying22 w1.heap.size ((K4 w1 9 [C d]).cell 0) T;obtain⟨a',c',rfl,q1,q2⟩:=hM.FC;rw[Ai,List.length_singleton]at F hM hG;have P:=h.ne;have p:=h2.hd.kept hK P;have ah:w.heap.size+1<=w1.heap.size:=by have:=j.size;rw[Ax]at this;exact this
  have ac:=ab.kept hK (fun b=>by have:=q _ (AU _ b);omega);have ag:g<w.heap.size:=q g AL;refine⟨a',c',o,F,p.cell 0,p.cell 2,p.free 2,fun l k=>?_⟩;have ae:=(p.Gq 2 (G a' (m.wait.length+1) c')).kept (S:=[]) (Kept.E5 k) (by simp);have t:Kept [g] o (o.setCell ⟨g,2,D⟩ (G a' (m.wait.length+1) c')):=(Kept.refl _ o).setCell (by simp) _;have r:g∉KQ (G a' (m.wait.length+1) c'):=fun b=>by
   rcases hG g b with b | b
   ·exact P b
   ·rw[Ax]at b;omega
  have af:=(hM.kept t (fun x b e=>r (by simp at e;rw[<-e];exact b))).kept (S:=[]) (Kept.E5 k) (by simp);have i:=(ac.kept t (by simp;omega)).kept (S:=[]) (Kept.E5 k) (by simp);refine⟨i,fun x y z=>?_⟩;have u:Kept [w.heap.size] l (((l.setCell ⟨w.heap.size,0,D⟩ x).setCell ⟨w.heap.size,1,D⟩ y).setCell ⟨w.heap.size,2,D⟩ z):=(((Kept.refl _ l).setCell (by simp) _).setCell (by simp) _).setCell (by simp) _;have ad:Ga w.heap.size (KQ (G a m.wait.length c)) (KQ (G a' (m.wait.length+1) c')):=fun x b=>by
   rcases hG x b with b | b
   ·exact .inl b
   ·exact .inr (by rw[Ax]at b;omega)
  have V:∀x∈sdF g (G a' (m.wait.length+1) c'),x∉[w.heap.size]:=fun x b e=>by
   rw[AC]at e;subst e
   rcases Ar.1 b with e | b
   ·omega
   ·rcases hG _ b with b | b
    ·have:=q _ (AU _ b);omega
    ·rw[Ax]at b;omega
  refine⟨?_,_,⟨ae.kept u (V g AL),af.kept u (fun x b=>V x (AU _ b)),r,h.ok.Mw hd hf⟩,ad⟩;have e1:Kept (sdF g (G a m.wait.length c)) w o:=(((Kept.E5 (Fr H j)).trans (s.Fn (by simp))).trans (hK.Fn (fun x b=>AU _ b)));have e2:Kept (sdF g (G a m.wait.length c)) w l:=(e1.trans (t.Fn (fun x b=>by rw[AC]at b;subst b;exact AL))).trans (Kept.E5 k);exact e2.Anv u (fun x b=> .inr (by rw[AC]at b;omega))
 obtain⟨R, eR⟩ := E7 (QQ m.key m.nxt d);rw[<-eR]at hP ⊢;obtain⟨rx,ry,rz⟩:=R;dsimp only[PktM.val]at hP ⊢;have HF:=hid hF;obtain⟨M, eM⟩ := E7 ((m.nxt:Nat):Int);rw[<-eM]at hn hP;have hI:M<(16777216:Int):=by omega
 clear h h0 hF hf eR q T hA eM;go_enter func131,ntmps131
 go_wp2_with(first
  | (go_at_call 171;refine hn.mono ?_;rintro e w1 ⟨rfl,j⟩;obtain⟨x2,a',c',o,F,k0,k2,kf,hE⟩:=HF.out w1 j;have HE:=hid hE;clear hE)
  | (at_builtin;refine IM _ rfl .append _ _ 22 22 rfl _ _ rfl rfl (GG F) ?_)
  | (go_at_call 172;refine(hP _).mono ?_;rintro e l ⟨rfl,k⟩;obtain⟨i,B⟩:=HE.out l k;have A:=hid B;clear B;have y0:l.cell? ⟨w.heap.size,0,D⟩=I (E N 0):=i.cell 0;have y1:l.cell? ⟨w.heap.size,1,D⟩=I (C {data:=#[]}):=i.cell 1;have y2:l.cell? ⟨w.heap.size,2,D⟩=I (C {data:=#[]}):=i.cell 2;have z0:=i.free 0;have z1:=i.free 1;have z2:=i.free 2))
 (try simp only[Exit.inBlock,Exit.then])
 refine Ah (v:=.tuple #[.agg #[E N rx, C ry, C rz], E N 0]) ?_ rfl ⟨rfl,A.out _ _ _⟩;rw[AD rfl];clear A HE HF F k j
 go_simp
end Go.Proofs.YtbjgfoiikhbonahGreatDoor
