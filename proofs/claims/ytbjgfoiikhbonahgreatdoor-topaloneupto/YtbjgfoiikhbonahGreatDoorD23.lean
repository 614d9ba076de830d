import Derived.Test.YtbjgfoiikhbonahGreatDoorD11
import Derived.Test.YtbjgfoiikhbonahGreatDoorD15
import Derived.Laws.ResultCell
import Derived.ArgAppend
set_option linter.unusedVariables false
set_option linter.unusedSimpArgs false
set_option maxRecDepth 100000
set_option maxHeartbeats 4000000
namespace Go.Proofs.YtbjgfoiikhbonahGreatDoor
open Go.ChangeShapes Go.WideShapes Go.ChangeAt Go.RowKit Go.Proofs.Tryz
open Value (int slice string)
open IntKind (i64)
variable {L:List ByteArray}{d:ByteArray}{g n:Nat}{v:Value}{w:World}{zs:List Int}
theorem Sq(s:ByteArray)(n j:Nat)(b:8*j+8<=n):∀m,m<=8->num (Fh s n) (8*j) m=KR s j / 2 ^ (8-m)
 | 0,_=>by
  have h:0<=KR s j/\KR s j<256:=by
   unfold KR
   split
   ·have:=D7 s[j];omega
   ·omega
  rw[num];simp only[Dn,Int.reducePow];omega
 | m+1,hm=>by
  have c:=Sq s n j b m (by omega);have a:(Fh s n).getD (8*j+m) 0=KR s j / 2 ^ (7-m) % 2:=by
   have e:(Fh s n).getD (8*j+m) 0=NW s (8*j+m):=by simp[Fh,List.getD,show 8*j+m<n by omega]
   rw[e];unfold NW;rw[show(8*j+m) / 8=j by omega,show(8*j+m) % 8=m by omega]
  rw[num,c,a]
  rcases (show m=0\/m=1\/m=2\/m=3\/m=4\/m=5\/m=6\/m=7 by omega)with rfl | rfl | rfl | rfl | rfl | rfl | rfl | rfl<;>simp<;>omega
theorem AlZ(s:ByteArray):strOfNums (JH (Fh s (8*s.size)))=s:=by
 have b:(JH (Fh s (8*s.size))).length=s.size:=by rw[Lb,Gx];omega
 have hd:(strOfNums (JH (Fh s (8*s.size)))).data=s.data:=by
  refine C5 ?_ fun j c a=>?_
  ·show((JH (Fh s (8*s.size))).map fun n=>UInt8.ofNat n.toNat).toArray.size=_;rw[A8,Bo,b];rfl
  ·show((JH (Fh s (8*s.size))).map fun n=>UInt8.ofNat n.toNat).toArray[j]'_=_;have f:j<s.size:=a;have e:num (Fh s (8*s.size)) (8*j) 8=(s[j].toNat:Int):=by
    grind [Sq,VN]
   simp[JH,e];rfl
 cases h:strOfNums (JH (Fh s (8*s.size)))
 cases s;rw[h]at hd;simp at hd;rw[hd]
theorem Rc(s:ByteArray)(n:Nat):Bits (Fh s n):=by grind [Bits,Fh,NW]
theorem VE(xs a:List Int)(n:Nat):Bits (Lk xs a n):=by grind [Bits,Lk]
theorem TQ(zs:List Int)(k:Int):Bits (Ko zs k):=by grind [Bits,Ko,RK,kW,MX,kP,b2i,crc]
theorem Qn(h:Bits zs)(a:zs.length<=4096):F6 zs=0:=TB (fun j _=>(h j).2) (by omega)
theorem YY(h:Bits zs):Bytes zs:=fun x a=>by
 obtain⟨k,b,rfl⟩:=A5 a;have:=h k
 grind
theorem Apn:kW 3=24:=by unfold kW;simp
theorem Ai9:Jr 3=true:=by unfold Jr;simp
def Hb (k:Int)(c:Nat):Nat:=((k+48271*(c:Int)+12345) % 2147483648).toNat
theorem Akj(k:Int)(c:Nat):Hb k c<2147483648:=by unfold Hb;omega
theorem Aki(k:Int)(c:Nat):((Hb k c:Nat):Int)=(k+48271*(c:Int)+12345) % 2147483648:=by unfold Hb;omega
def LP (d:ByteArray)(s:Nat):ByteArray:=strOfNums (JH (Lk (Fh d (8*d.size)) (FG s (8*d.size)) (8*d.size)))
theorem Lg(d:ByteArray)(s:Nat):(LP d s).size=d.size:=by
 unfold LP;rw[BP,Lb,GZ];omega
def Pl (c:Nat):ByteArray:=strOfNums [(c:Int) / 65536 % 256,(c:Int) / 256 % 256,(c:Int) % 256]
theorem TL(c:Nat):(Pl c).size=3:=by unfold Pl;rw[BP];rfl
def If (c:Nat)(d:ByteArray):ByteArray:=strOfNums (JH (Ko (Fh (Pl c++d) (8*(3+d.size))) 3))
theorem MM(zs:List Int):(Ko zs 3).length=24:=by
 have:(Ko zs 3).length=kW 3:=KL _ _ _;rw[this,Apn]
theorem UH(c:Nat)(d:ByteArray):(If c d).size=3:=by
 unfold If;rw[BP,Lb,MM]
structure PktM where
 short:Int
 data:ByteArray
 sl:ByteArray
def PktM.val(p:PktM):Value:=.agg #[int i64 p.short,string p.data,string p.sl]
def PktM.zero:PktM:=⟨0,ByteArray.empty,ByteArray.empty⟩
def QQ (k:Int)(c:Nat)(d:ByteArray):PktM:=⟨((c % 4096:Nat):Int),LP d (Hb k c),If c d⟩
theorem S8(s:ByteArray)(w:World)(k:s.size<=503):
 Calls prog 251 #[string s] w fun e w'=>∃v,e=.returned v/\Own w' w.heap.size v (Fh s (8*s.size))/\Below w.heap.size w w':=by
 have a:Gw s (8*(s.size:Int))=0:=by unfold Gw;rw[Aa (by omega),Aa (by omega)]
 have f:IZ s (8*(s.size:Int))=Fh s (8*s.size):=by
  unfold IZ;rw[Ab a]
  congr 1
 have b:=fun j=>UU s (8*(s.size:Int)) j (by omega)
 rw[a,f]at b;clear a f;obtain⟨L,c⟩:=E7 (Fh s (8*s.size));rw[<-c]at b |-;clear c;go_enter func251,ntmps251
 go_wp2_with(go_at_call 189;refine(b _).mono ?_;rintro e w' ⟨v,rfl,h,i⟩);go_ret;exact⟨v,rfl,h,i⟩
theorem Afn(n:Int):bits .and i64 n 2147483647=n % 2147483648:=by
 have a:(BitVec.ofInt 64 2147483647).toNat=2 ^ 31-1:=by decide
 have key:(BitVec.ofInt 64 n &&& BitVec.ofInt 64 2147483647).toNat=(n % ((2 ^ 64:Nat):Int)).toNat % 2 ^ 31:=by
  rw[BitVec.toNat_and,BitVec.toNat_ofInt,a,Nat.and_two_pow_sub_one_eq_mod]
 show IntKind.i64.wrap ((BitVec.ofInt 64 n &&& BitVec.ofInt 64 2147483647).toNat:Nat)=n % 2147483648;rw[key,AO];omega
theorem AdK(k:Int)(c:Nat)(w:World)(b:0<=k/\k<2147483648)(a:c<=33554432):
 Calls prog 252 #[int i64 k,int i64 (c:Int)] w fun e w'=>e=.returned (int i64 (Hb k c:Nat))/\w=w':=by
 have H:=hid (show bits .and i64 (k+48271*(c:Int)+12345) 2147483647=(Hb k c:Nat)by rw[Afn,Aki]);go_enter func252,ntmps252;go_wp2;go_ret;exact⟨by rw[H.out];rfl,rfl⟩
theorem Nd(d:ByteArray)(k:Int)(c:Nat)(w:World)(hd:d.size<=500)(C:0<=k/\k<2147483648)(B:c<=33554432):
 Calls prog 214 #[string d,int i64 k,int i64 (c:Int)] w fun e w'=>e=.returned (string (LP d (Hb k c)))/\Below w.heap.size w w':=by
 have t:=fun f=>S8 d f (by omega)
 have y:=fun f=>AdK k c f C B
 have D:=Akj k c;have H:=hid (show strOfNums (JH (Lk (Fh d (8*d.size)) (FG (Hb k c) (8*d.size)) (8*d.size)))=LP d (Hb k c)from rfl);have m:(Fh d (8*d.size)).length=8*d.size:=Gx _ _;have b:=Rc d (8*d.size);obtain⟨R,j⟩:=E7 (LP d (Hb k c));obtain⟨S,l⟩:=E7 (Hb k c);obtain⟨L,z⟩:=E7 (Fh d (8*d.size));obtain⟨n,A⟩:=E7 (8*d.size);rw[<-z]at t m b H;rw[<-l]at y D H;rw[<-l]at j;rw[<-j]at H;have G:n<=4000:=by omega
 rw[<-A]at m H;rw[show LP d (Hb k c)=R by rw[j,l]];clear j l z A hd C B;have u:=fun a o f s=>Zo L S a o f s b (Qn b (by omega)) D
 rw[m]at u;have x:=fun a o f s=>Ya (Lk L (FG S n) n) a o f s (VE _ _ _) (by rw[GZ];omega) (Qn (VE _ _ _) (by rw[GZ];omega))
 rw[GZ,H.out]at x;go_enter func214,ntmps214
 go_wp2_with(first | (go_at_call 251;refine(t _).mono ?_;rintro e w1 ⟨v1,rfl,h,p⟩;obtain⟨E,c1,rfl, -, -⟩:=h.FC;rw[m]) | (go_at_call 252;refine(y _).mono ?_;rintro e w2 ⟨rfl,rfl⟩));refine(u E c1 _ h.rd).mono ?_;rintro e w2 ⟨v2,rfl,i,q⟩;obtain⟨F,c2,rfl, -, -⟩:=i.FC;rw[GZ]
 go_wp2_with fail;refine(x F c2 _ i.rd).mono ?_;rintro e I ⟨rfl,r⟩;go_wp2;go_ret;exact⟨rfl,Fr p (Fr q r)⟩
theorem Acm(x y z:Int)(a:World):(convert 103 9 (slice (some ⟨a.heap.size,0,none⟩) 3 3)).run prog (a.alloc (.cells #[int .u8 x,int .u8 y,int .u8 z] 5))=.ok (string (strOfNums [x,y,z])) (a.alloc (.cells #[int .u8 x,int .u8 y,int .u8 z] 5)):=by
 refine L6 (L:=[x,y,z]) ?_ 3;intro _;refine⟨a.heap.size,0,rfl,fun j b=>?_⟩;have c:j<3:=b;rw[Al _ _ _ _ _ _ (Am a _)]
 grind
theorem Nw(d:ByteArray)(c:Nat)(w:World)(hd:d.size<=500):
 Calls prog 215 #[int i64 (c:Int),string d] w fun e w'=>e=.returned (string (If c d))/\Below w.heap.size w w':=by
 have s:(Pl c++d).size=3+d.size:=by rw[CH,TL]
 have k:=fun f=>S8 (Pl c++d) f (by omega)
 rw[s]at k;have H:=hid (show strOfNums (JH (Ko (Fh (Pl c++d) (8*(3+d.size))) 3))=If c d from rfl);have j:(Fh (Pl c++d) (8*(3+d.size))).length=8*(3+d.size):=Gx _ _;have C:=TL c;have b:=Rc (Pl c++d) (8*(3+d.size));obtain⟨R,y⟩:=E7 (If c d);obtain⟨L,x⟩:=E7 (Fh (Pl c++d) (8*(3+d.size)));obtain⟨n,z⟩:=E7 (8*(3+d.size));rw[<-x]at k j b H;rw[<-y]at H |-;have D:n<=4024:=by omega
 rw[<-z]at j;clear y x z;have t:=fun a l f r=>AnY L 3 a l f r (YY b) (by unfold Lq;rw[Ab (Qn b (by omega)),Ab Ai9])
 rw[j]at t;have u:=fun a l f r=>Ya (Ko L 3) a l f r (TQ _ _) (by rw[MM];omega) (Qn (TQ _ _) (by rw[MM];omega))
 rw[MM,H.out]at u;go_enter func215,ntmps215;have q:=fun f=>Acm ((c:Int) / 65536 % 256) ((c:Int) / 256 % 256) ((c:Int) % 256) f
 rw[show strOfNums [(c:Int) / 65536 % 256,(c:Int) / 256 % 256,(c:Int) % 256]=Pl c from rfl]at q
 go_wp2_with(go_at_call 251;refine(k _).mono ?_;rintro e w1 ⟨v1,rfl,h,m⟩;obtain⟨A,c1,rfl, -, -⟩:=h.FC;rw[j]);refine(t A c1 _ h.rd).mono ?_;rintro e w2 ⟨v2,rfl,i,o⟩;obtain⟨B,c2,rfl, -, -⟩:=i.FC;rw[MM]
 go_wp2_with fail;refine(u B c2 _ i.rd).mono ?_;rintro e E ⟨rfl,p⟩;go_wp2;go_ret;exact⟨rfl,Fr ((Ad _ _).alloc (Ac _) _) (Fr m (Fr o p))⟩
theorem At.Gq{b:Nat}{T:TypeId}{cur:List Value}(h:At w b T cur)(o:Nat)(v:Value):At (w.setCell ⟨b,o,none⟩ v) b T (cur.set o v):=by
 unfold At at h |-;rw[BK w b o _ T v h];simp
theorem K4(w:World)(T:TypeId)(cur:List Value):At (w.alloc (.cells cur.toArray T)) w.heap.size T cur:=Am w (.cells cur.toArray T)
theorem QM(d:ByteArray)(k:Int)(c:Nat)(w:World)(hd:d.size<=500)(u:0<=k/\k<2147483648)(t:c<=33554432):
 Calls prog 172 #[string d,int i64 k,int i64 (c:Int)] w fun e w'=>e=.returned (QQ k c d).val/\Below w.heap.size w w':=by
 have l:=fun j=>Nd d k c j hd u t
 have m:=fun j=>Nw d c j hd
 have H:=hid (show Value.agg #[int i64 ((c:Int) % 4096),string (LP d (Hb k c)),string (If c d)]=(QQ k c d).val by unfold QQ PktM.val;simp);obtain⟨V,o⟩:=E7 ((QQ k c d).val);rw[<-o]at H |-;obtain⟨A,h⟩:=E7 (LP d (Hb k c));obtain⟨B,i⟩:=E7 (If c d);rw[<-h,<-i]at H;rw[<-h]at l;rw[<-i]at m;clear o h i;have q:=hid (K4 w 255 [int i64 0,string {data:=#[]},string {data:=#[]}]);go_enter func172,ntmps172
 go_wp2_with(first | (go_at_call 214;refine(l _).mono ?_;rintro e w1 ⟨rfl,b⟩) | (go_at_call 215;refine(m _).mono ?_;rintro e w2 ⟨rfl,f⟩;have a:=(q.out.kept (S:=[]) (Kept.E5 b) (by simp)).kept (S:=[]) (Kept.E5 f) (by simp);have x:w2.cell? ⟨w.heap.size,0,none⟩=some (int i64 0):=a.cell 0;have y:w2.cell? ⟨w.heap.size,1,none⟩=some (string {data:=#[]}):=a.cell 1;have z:w2.cell? ⟨w.heap.size,2,none⟩=some (string {data:=#[]}):=a.cell 2;have C:=a.free 0;have D:=a.free 1;have E:=a.free 2));have s:At (((w2.setCell ⟨w.heap.size,0,none⟩ (int i64 ((c:Int) % 4096))).setCell ⟨w.heap.size,1,none⟩ (string A)).setCell ⟨w.heap.size,2,none⟩ (string B)) w.heap.size 255 [int i64 ((c:Int) % 4096),string A,string B]:=((a.Gq 0 (int i64 ((c:Int) % 4096))).Gq 1 (string A)).Gq 2 (string B);have r:Below w.heap.size w (((w2.setCell ⟨w.heap.size,0,none⟩ (int i64 ((c:Int) % 4096))).setCell ⟨w.heap.size,1,none⟩ (string A)).setCell ⟨w.heap.size,2,none⟩ (string B)):=(((Fr ((Ad _ _).alloc (Ac _) _) (Fr b f)).setCell (Ac _) _).setCell (Ac _) _).setCell (Ac _) _
 (try simp only[Exit.inBlock,Exit.then])
 refine Ah (BO (p:=6) (ty:=255) (by kernel_rfl) _ _ w.heap.size 255 _ (0,0) _ rfl s underlying255 rfl (by kernel_rfl)) rfl ?_;exact⟨by rw[<-H.out],r⟩
def KZ (k:Int):Bool:=decide (0<=k) && decide (k<=2147483647)
def Js (k:Int):Int:=if KZ k then 0 else 1
theorem K6(k:Int)(w:World):Calls prog 125 #[int i64 k] w fun e w'=>e=.returned (int i64 (Js k))/\w=w':=by
 by_cases a:k<0
 ·have H:=hid (show Js k=1 by unfold Js KZ;simp[show ¬(0<=k)by omega]);go_enter func125,ntmps125;go_wp2;go_ret;exact⟨by rw[H.out];rfl,rfl⟩
 ·by_cases b:2147483647<k
  ·have H:=hid (show Js k=1 by unfold Js KZ;grind);go_enter func125,ntmps125;go_wp2;go_ret;exact⟨by rw[H.out];rfl,rfl⟩
  ·have H:=hid (show Js k=0 by grind [Js,KZ]);go_enter func125,ntmps125;go_wp2;go_ret;exact⟨by rw[H.out];rfl,rfl⟩
def KQ:Value->List Nat
 | slice (some a) _ _=>[a.block]
 | _=>[]
def Mid (w:World)(v:Value)(L:List ByteArray):Prop:=
 (v=slice none 0 0/\L=[])\/∃g o c cur,v=slice (some ⟨g,o,none⟩) L.length c/\At w g 9 cur/\L.length<=c/\c<=maxLen/\o+c<=cur.length/\∀i,i<L.length->cur[o+i]?=some (string (L.getD i ByteArray.empty))
theorem Mid.kept{w w':World}{v:Value}{L:List ByteArray}{S:List Nat}(h:Mid w v L)(b:Kept S w w')(e:∀x∈KQ v,x∉S):Mid w' v L:=by
 rcases h with h | ⟨g,o,c,cur,rfl,a,r⟩
 ·exact .inl h
 ·exact .inr ⟨g,o,c,cur,rfl,a.kept b (e g (by simp[KQ])),r⟩
theorem Mid.lt{w:World}{v:Value}{L:List ByteArray}(h:Mid w v L):∀x∈KQ v,x<w.heap.size:=by
 rcases h with⟨rfl,_⟩ | ⟨g,o,c,cur,rfl,b,r⟩
 ·intro x a;simp[KQ]at a
 ·intro x a;simp only[KQ,AC]at a;subst a;exact b.lt
theorem Mid.FC(h:Mid w v L):∃a c,v=slice a L.length c/\L.length<=c/\c<=maxLen:=by grind [Mid]
theorem Mid.txs{a:Option Addr}{c:Nat}(h:Mid w (slice a n c) L):Txs w a L:=by
 intro b
 rcases h with⟨_,f⟩ | ⟨g,o,c,cur,e,j,l,m,p,k⟩
 ·exact absurd f b
 ·simp only[Aq]at e;obtain⟨rfl,_,_⟩:=e;exact⟨g,o,rfl,fun i hi=>by rw[j.cell,k i hi]⟩
theorem AlK{B:Nat}(h:w.ownsRow B 9 1 v n (L.map Value.string)):Mid w v L:=by
 have f:L.length=n:=by have:=h.1;simpa using this
 rcases h.2 with⟨rfl,j⟩ | ⟨g,a,cur,rfl,_,hg,k,b,c,l⟩
 ·exact .inl ⟨rfl,Cp (by omega)⟩
 ·refine .inr ⟨g,0,a,cur.toList,by rw[f],by unfold At;rw[ES];exact hg,by omega,b,by simp[c],fun i hi=>?_⟩;have e:cur.toList[i]?=(L.map Value.string)[i]?:=by
   grind
  grind
theorem AcF(L:List ByteArray)(x:ByteArray)(i:Nat):(L++[x]).getD i ByteArray.empty=if i=L.length then x else L.getD i ByteArray.empty:=by grind
theorem Af8(L:List ByteArray)(j:Nat)(u:Value)(h:(L.map Value.string)[j]?=some u):u=string (L.getD j ByteArray.empty)/\j<L.length:=by grind
theorem Abg(h:Mid w v L)(x:ByteArray)(t ty:TypeId)(ht:prog.underlying t=some (.slice 9))(gb:Nat)(N:w.cell? ⟨gb,0,none⟩=some (string x))(U:L.length<1099511627776):
 ∃v' w',(Builtin.append_ #[t,t] ty #[v,slice (some ⟨gb,0,none⟩) 1 1]).run prog w=.ok v' w'/\Mid w' v' (L++[x])/\Kept (KQ v) w w'/\Ga w.heap.size (KQ v) (KQ v'):=by
 obtain⟨E,hi,s,f,z⟩:=As Tryz.Rr;have e:∀j u,[string x][j]?=some u->w.cell? ((⟨gb,0,none⟩:Addr).add j)=some u:=fun j u r=>by
  have:j=0:=by
   grind
  subst this;rw[BT,N]
  simpa using r
 have G:(L.length+1)*16<=140737488355328:=by omega
 have m:L.length+1<=maxLen:=by unfold maxLen;omega
 have p:∀(v':Value) (w':World) (B:Nat),w'.ownsRow B 9 1 v' (L.length+1) (L.map Value.string++[string x])->Mid w' v' (L++[x]):=fun v' w' B l=>AlK (B:=B) (n:=L.length+1) (by rw[AR];exact l)
 have q:∀(v':Value) (w':World),w'.ownsRow w.heap.size 9 1 v' (L.length+1) (L.map Value.string++[string x])->∀F,Ga w.heap.size F (KQ v'):=fun v' w' l F y I=>by
  rcases l.2 with⟨_,S⟩ | ⟨g,J,cur,rfl,T,_⟩
  ·omega
  grind [KQ]
 rcases h with⟨rfl,rfl⟩ | ⟨g,o,c,cur,rfl,A,V,O,Q,R⟩
 ·obtain⟨v',w',b,l,a,_⟩:=run_append_own (P:=prog) w w.heap.size t ty 9 E _ 1 16 ht hi s f z rfl (by omega) (slice none 0 0) 0 [] ⟨rfl,.inl ⟨rfl,rfl⟩⟩ ⟨gb,0,none⟩ 1 1 [string x] rfl e (by simp[Value.oneCell']) m G (Ac _);exact⟨v',w',b,p _ _ _ l,⟨a.os,a.tape,a.output,a.size,fun k D _=>a.block k D (by simp[Value.ownBlock])⟩,q _ _ l _⟩
 ·by_cases H:L.length+1<=c
  ·have M:o+L.length<cur.length:=by omega
   have b:=run_append_room_cells (P:=prog) w t ty 9 E ht hi g o L.length c ⟨gb,0,none⟩ 1 1 [string x] (by rw[f];rfl) e (by simp[Value.oneCell']) H
    (fun j r=>by
     have:j=0:=by simpa using r
     subst this;rw[f,A.cell,Ap (by omega)]
     rfl) (fun j _=>A.free _)
   refine⟨_,_,b,?_,?_,fun y I=> .inl I⟩
   ·refine .inr ⟨g,o,c,cur.set (o+L.length) (string x),by simp,?_,by simpa using H,O,by simpa using Q,fun i K=>?_⟩
    ·have:=A.Gq (o+L.length) (string x);rw[f,By];exact this
    grind
   ·show Kept [g] w _;rw[f,By];exact(Kept.refl _ w).setCell (by simp) _
  ·obtain⟨v',w',b,l,a⟩:=run_append_arg_grows (P:=prog) w t ty 9 E _ 1 16 ht hi s f z rfl (by omega) ⟨g,o,none⟩ L.length c (L.map Value.string) (by simp) (fun j u r=>by
    obtain⟨rfl,C⟩:=Af8 L j u r
    rw[BT,A.cell,R j C]) ⟨gb,0,none⟩ 1 1 [string x] rfl e (by omega) m G
   exact⟨v',w',b,p _ _ _ l,⟨a.os,a.tape,a.output,a.size,fun k D _=>a.block k D (by simp)⟩,q _ _ l _⟩
structure SdM where
 key:Int
 beg:Nat
 wait:List ByteArray
def SdM.nxt(m:SdM):Nat:=m.beg+m.wait.length
def SdM.new(k:Int):SdM:=⟨k,0,[]⟩
structure SdM.Ok(m:SdM):Prop where
 key:0<=m.key/\m.key<2147483648
 few:m.nxt<=16777216
 small:∀i,i<m.wait.length->(m.wait.getD i ByteArray.empty).size<=500
structure PSd(w:World)(g:Nat)(v:Value)(m:SdM):Prop where
 hd:At w g 242 [int i64 m.key,int i64 (m.beg:Int),v]
 mid:Mid w v m.wait
 ne:g∉KQ v
 ok:m.Ok
def sdF (g:Nat)(v:Value):List Nat:=g::KQ v
theorem PSd.kept{w w':World}{g:Nat}{v:Value}{m:SdM}{S:List Nat}(h:PSd w g v m)(a:Kept S w w')(b:∀x∈sdF g v,x∉S):PSd w' g v m:=
 ⟨h.hd.kept a (b g (AL)),h.mid.kept a (fun x c=>b x (AU _ c)),h.ne,h.ok⟩
theorem PSd.lt{w:World}{g:Nat}{v:Value}{m:SdM}(h:PSd w g v m):∀x∈sdF g v,x<w.heap.size:=fun x a=>by
 rcases Ar.1 a with rfl | a
 ·exact h.hd.lt
 ·exact h.mid.lt x a
theorem Kept.Anv{S f:List Nat}{a b c:World}(h:Kept S a b)(k:Kept f b c)(l:∀x∈f,x∈S\/a.heap.size<=x):Kept S a c:=
 ⟨k.os.trans h.os,k.tape.trans h.tape,k.output.trans h.output,Ak h.size k.size,fun i hi j=>(k.block i (AI hi h.size) (fun e=>by grind)).trans (h.block i hi j)⟩
theorem QD{k:Int}(h:KZ k=true):0<=k/\k<2147483648:=by
 grind [KZ]
theorem AiY(k:Int)(w:World)(a:KZ k=true):
 Calls prog 74 #[int i64 k] w fun e w'=>e=.returned (.tuple #[.pointer (some ⟨w.heap.size,0,none⟩),int i64 0])/\PSd w' w.heap.size (slice none 0 0) (.new k)/\Below w.heap.size w w':=by
 have c:=fun h=>K6 k h
 rw[show Js k=0 by unfold Js;rw[Ab a]]at c;have b:=QD a;have f:Hid (PSd (w.alloc (.cells #[int i64 k,int i64 0,slice none 0 0] 242)) w.heap.size (slice none 0 0) (.new k)):=⟨K4 w _ _,.inl ⟨rfl,rfl⟩,by simp[KQ],⟨b,by show 0+0<=16777216;omega,fun i hi=>absurd hi (by simp[SdM.new])⟩⟩;clear a b;go_enter func74,ntmps74
 go_wp2_with(go_at_call 125;refine(c _).mono ?_;rintro e w' ⟨rfl,rfl⟩)
 go_ret2;exact⟨rfl,f.out,(Ad _ w).alloc (Ac _) _⟩
theorem OU{m:SdM}(h:PSd w g v m):
 Calls prog 171 #[.pointer (some ⟨g,0,none⟩)] w fun e w'=>e=.returned (int i64 (m.nxt:Nat))/\Below w.heap.size w w':=by
 obtain⟨a,c,rfl, -, -⟩:=h.mid.FC;have c1:w.cell? ⟨g,1,none⟩=some (int i64 (m.beg:Int)):=h.hd.cell 1;have c2:w.cell? ⟨g,2,none⟩=some (slice a m.wait.length c):=h.hd.cell 2;have b:m.beg+m.wait.length<=16777216:=h.ok.few;have H:=hid (show((m.nxt:Nat):Int)=(m.beg:Int)+(m.wait.length:Int)by unfold SdM.nxt;omega);clear h;go_enter func171,ntmps171;go_upto_region 1 with fail
 go_region;go_wp2;go_ret;exact⟨by rw[H.out];rfl,(Ad _ w).drew⟩
def Aem:Value:=.agg #[int i64 0,string {data:=#[]},string {data:=#[]}]
theorem Anl{m:SdM}(h:PSd w g v m)(hd:d.size<=500)(l:16777216<=m.nxt):
 Calls prog 131 #[.pointer (some ⟨g,0,none⟩),string d] w fun e w'=>e=.returned (.tuple #[Aem,int i64 7])/\Below w.heap.size w w':=by
 have b:Below w.heap.size w (w.alloc (.cells #[int i64 0,string {data:=#[]},string {data:=#[]}] 255)):=(Ad _ w).alloc (Ac _) _;have j:=OU (h.kept (S:=[]) (Kept.E5 b) (by simp));have f:m.nxt<=33554432:=by have:=h.ok.few;omega
 have k:=hid (K4 w 255 [int i64 0,string {data:=#[]},string {data:=#[]}]);obtain⟨M,i⟩:=E7 ((m.nxt:Nat):Int);rw[<-i]at j;have o:(16777216:Int)<=M:=by omega
 clear h l f i;go_enter func131,ntmps131
 go_wp2_with(go_at_call 171;refine j.mono ?_;rintro e w1 ⟨rfl,c⟩;have a:=k.out.kept (S:=[]) (Kept.E5 c) (by simp);have p:w1.cell? ⟨w.heap.size,0,none⟩=some (int i64 0):=a.cell 0;have q:w1.cell? ⟨w.heap.size,1,none⟩=some (string {data:=#[]}):=a.cell 1;have r:w1.cell? ⟨w.heap.size,2,none⟩=some (string {data:=#[]}):=a.cell 2;have s:=a.free 0;have t:=a.free 1;have u:=a.free 2)
 (try simp only[Exit.inBlock,Exit.then])
 refine Ah (v:=.tuple #[Aem,int i64 7]) ?_ rfl ⟨rfl,?_⟩
 ·rw[AD rfl];unfold Aem
  go_simp
 ·exact(((Fr b c).setCell (Ac _) _).setCell (Ac _) _).setCell (Ac _) _
def SdM.Mw(m:SdM)(d:ByteArray):SdM:=⟨m.key,m.beg,m.wait++[d]⟩
theorem SdM.Ok.Mw{m:SdM}(h:m.Ok)(hd:d.size<=500)(a:m.nxt<16777216):(m.Mw d).Ok:=by
 refine⟨h.key,?_,fun i hi=>?_⟩
 ·show m.beg+(m.wait++[d]).length<=16777216;have:m.beg+m.wait.length<16777216:=a
  grind
 ·show((m.wait++[d]).getD i ByteArray.empty).size<=500;have b:i<m.wait.length+1:=by have:i<(m.wait++[d]).length:=hi;simpa using this
  rw[AcF]
  split
  ·exact hd
  ·exact h.small i (by omega)
def Ah9 (w:World)(g:Nat)(v:Value)(m':SdM)(r:Value):Ending->World->Prop:=fun e w'=>e=.returned r/\Kept (sdF g v) w w'/\∃v',PSd w' g v' m'/\Ga w.heap.size (KQ v) (KQ v')
theorem Ai0{m:SdM}(h:PSd w g v m)(hd:d.size<=500)(V:m.nxt<16777216):
 Calls prog 131 #[.pointer (some ⟨g,0,none⟩),string d] w (Ah9 w g v (m.Mw d) (.tuple #[(QQ m.key m.nxt d).val,int i64 0])):=by
 have C:Below w.heap.size w (w.alloc (.cells #[int i64 0,string {data:=#[]},string {data:=#[]}] 255)):=(Ad _ w).alloc (Ac _) _;have I:=h.kept (S:=[]) (Kept.E5 C) (by simp);have hn:=OU I;have H:=fun wz=>QM d m.key m.nxt wz hd h.ok.key (by omega)
 have hA:=K4 w 255 [int i64 0,string {data:=#[]},string {data:=#[]}];have p:=h.lt;have E:m.wait.length<1099511627776:=by
  have:m.beg+m.wait.length<16777216:=V;omega
 obtain⟨a,c,rfl, -, -⟩:=h.mid.FC;have hF:∀w1:World,Below (w.alloc (.cells #[int i64 0,string {data:=#[]},string {data:=#[]}] 255)).heap.size (w.alloc (.cells #[int i64 0,string {data:=#[]},string {data:=#[]}] 255)) w1->
  w1.cell? ⟨g,2,none⟩=some (slice a m.wait.length c)/\∃a' c' l,(Builtin.append_ #[22,22] 22 #[slice a m.wait.length c,slice (some ⟨w1.heap.size,0,none⟩) 1 1]).run prog (w1.alloc (.cells #[string d] 9))=.ok (slice a' (m.wait.length+1) c') l/\
   l.cell? ⟨g,0,none⟩=some (int i64 m.key)/\l.cell? ⟨g,2,none⟩=some (slice a m.wait.length c)/\l.frozen? ⟨g,2,none⟩=false/\∀k,Below (l.setCell ⟨g,2,none⟩ (slice a' (m.wait.length+1) c')).heap.size (l.setCell ⟨g,2,none⟩ (slice a' (m.wait.length+1) c')) k->
    At k w.heap.size 255 [int i64 0,string {data:=#[]},string {data:=#[]}]/\∀x y z,Kept (sdF g (slice a m.wait.length c)) w (((k.setCell ⟨w.heap.size,0,none⟩ x).setCell ⟨w.heap.size,1,none⟩ y).setCell ⟨w.heap.size,2,none⟩ z)/\∃v',PSd (((k.setCell ⟨w.heap.size,0,none⟩ x).setCell ⟨w.heap.size,1,none⟩ y).setCell ⟨w.heap.size,2,none⟩ z) g v' (m.Mw d)/\Ga w.heap.size (KQ (slice a m.wait.length c)) (KQ v'):=fun w1 i=>by
  have h1:=I.kept (S:=[]) (Kept.E5 i) (by simp);have J:=hA.kept (S:=[]) (Kept.E5 i) (by simp);refine⟨h1.hd.cell 2,?_⟩;have r:Kept [] w1 (w1.alloc (.cells #[string d] 9)):=(Kept.refl _ w1).alloc _;have h2:=h1.kept r (by simp);have K:=J.kept r (by simp);obtain⟨v',l,B,T,Q,G⟩:=Abg h2.mid d 22 22 underlying22 w1.heap.size ((K4 w1 9 [string d]).cell 0) E;obtain⟨a',c',rfl,q1,q2⟩:=T.FC;rw[Ai,List.length_singleton]at B T G;have D:=h.ne;have o:=h2.hd.kept Q D;have ab:w.heap.size+1<=w1.heap.size:=by have:=i.size;rw[Ax]at this;exact this
  have N:=K.kept Q (fun b=>by have:=p _ (AU _ b);omega);have aa:g<w.heap.size:=p g AL;refine⟨a',c',l,B,o.cell 0,o.cell 2,o.free 2,fun k j=>?_⟩;have P:=(o.Gq 2 (slice a' (m.wait.length+1) c')).kept (S:=[]) (Kept.E5 j) (by simp);have s:Kept [g] l (l.setCell ⟨g,2,none⟩ (slice a' (m.wait.length+1) c')):=(Kept.refl _ l).setCell (by simp) _;have q:g∉KQ (slice a' (m.wait.length+1) c'):=fun b=>by
   rcases G g b with b | b
   ·exact D b
   ·rw[Ax]at b;omega
  have U:=(T.kept s (fun x b e=>q (by simp at e;rw[<-e];exact b))).kept (S:=[]) (Kept.E5 j) (by simp);have f:=(N.kept s (by simp;omega)).kept (S:=[]) (Kept.E5 j) (by simp);refine⟨f,fun x y z=>?_⟩;have t:Kept [w.heap.size] k (((k.setCell ⟨w.heap.size,0,none⟩ x).setCell ⟨w.heap.size,1,none⟩ y).setCell ⟨w.heap.size,2,none⟩ z):=(((Kept.refl _ k).setCell (by simp) _).setCell (by simp) _).setCell (by simp) _;have O:Ga w.heap.size (KQ (slice a m.wait.length c)) (KQ (slice a' (m.wait.length+1) c')):=fun x b=>by
   rcases G x b with b | b
   ·exact .inl b
   ·exact .inr (by rw[Ax]at b;omega)
  have F:∀x∈sdF g (slice a' (m.wait.length+1) c'),x∉[w.heap.size]:=fun x b e=>by
   rw[AC]at e;subst e
   rcases Ar.1 b with e | b
   ·omega
   ·rcases G _ b with b | b
    ·have:=p _ (AU _ b);omega
    ·rw[Ax]at b;omega
  refine⟨?_,_,⟨P.kept t (F g AL),U.kept t (fun x b=>F x (AU _ b)),q,h.ok.Mw hd V⟩,O⟩;have e1:Kept (sdF g (slice a m.wait.length c)) w l:=(((Kept.E5 (Fr C i)).trans (r.Fn (by simp))).trans (Q.Fn (fun x b=>AU _ b)));have e2:Kept (sdF g (slice a m.wait.length c)) w k:=(e1.trans (s.Fn (fun x b=>by rw[AC]at b;subst b;exact AL))).trans (Kept.E5 j);exact e2.Anv t (fun x b=> .inr (by rw[AC]at b;omega))
 obtain⟨R,Z⟩:=E7 (QQ m.key m.nxt d);rw[<-Z]at H |-;obtain⟨rx,ry,rz⟩:=R;dsimp only[PktM.val]at H |-;have X:=hid hF;obtain⟨M,Y⟩:=E7 ((m.nxt:Nat):Int);rw[<-Y]at hn H;have hI:M<(16777216:Int):=by omega
 clear h I hF V Z p E hA Y;go_enter func131,ntmps131
 go_wp2_with(first
  | (go_at_call 171;refine hn.mono ?_;rintro e w1 ⟨rfl,i⟩;obtain⟨x2,a',c',l,B,k0,k2,kf,hE⟩:=X.out w1 i;have W:=hid hE;clear hE)
  | (at_builtin;refine IM _ rfl .append _ _ 22 22 rfl _ _ rfl rfl (GG B) ?_)
  | (go_at_call 172;refine(H _).mono ?_;rintro e k ⟨rfl,j⟩;obtain⟨f,A⟩:=W.out k j;have u:=hid A;clear A;have y0:k.cell? ⟨w.heap.size,0,none⟩=some (int i64 0):=f.cell 0;have y1:k.cell? ⟨w.heap.size,1,none⟩=some (string {data:=#[]}):=f.cell 1;have y2:k.cell? ⟨w.heap.size,2,none⟩=some (string {data:=#[]}):=f.cell 2;have z0:=f.free 0;have z1:=f.free 1;have z2:=f.free 2))
 (try simp only[Exit.inBlock,Exit.then])
 refine Ah (v:=.tuple #[.agg #[int i64 rx,string ry,string rz],int i64 0]) ?_ rfl ⟨rfl,u.out _ _ _⟩;rw[AD rfl];clear u W X B j i
 go_simp
end Go.Proofs.YtbjgfoiikhbonahGreatDoor
