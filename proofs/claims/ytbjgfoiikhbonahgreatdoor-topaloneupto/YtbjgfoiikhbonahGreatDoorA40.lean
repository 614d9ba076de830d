import Derived.Test.YtbjgfoiikhbonahGreatDoorA39
import Derived.Shelf.Strings.Builder1
import Derived.Shelf.Strings.Builder2
import Derived.Shelf.Strings.OnBuilder
import Derived.Shelf.Small.Wraps
import Derived.Shelf.Strconv.Itoa3
import Derived.Shelf.Strconv.AtoiAll
import Derived.Shelf.LaysM
import Derived.Shelf.LaysC
import Derived.Shelf.Strings.Cut
import Derived.Lib.SmallJoins
import Derived.Shelf.Strconv.ErrVarAll
set_option linter.unusedVariables false
set_option linter.unusedSimpArgs false
set_option maxRecDepth 100000
set_option maxHeartbeats 4000000
namespace Go.Proofs.YtbjgfoiikhbonahGreatDoor
open Go.ChangeShapes Go.WideShapes Go.ChangeAt Go.RowKit Go.Shelf Go.Proofs.Tryz
open Option renaming some->A,none->C
open Bool renaming false->B,true->M
open Value renaming bool->G,string->J,int->K,pointer->P
open Ending renaming returned->I
open IntKind renaming i64->Q
variable {D:Nat->Nat->Option Cm}{E4:Int}{S:List Nat}{l:List UsM}{w w' w0:World}
def KH (s:UsrM×NetM)(d:ByteArray):(UsrM×NetM)×Int:=
 if s.1.AiR=M then (s,7) else if s.2.co.Gu (s.1.who:Int)=0 then
  (if d.size<=s.2.co.QF (s.1.who:Int) then ((s.1.Mw d (s.2.co.Lu (s.1.who:Int):Nat),s.2.with (s.2.co.Ka (s.1.who:Int)) (s.2.n+1)),0)
   else ((s.1,(s.2.with (s.2.co.Ka (s.1.who:Int)) (s.2.n+1)).Tk (s.2.co.Lu (s.1.who:Int):Nat) 0),11))
 else ((s.1,s.2.with (s.2.co.Ka (s.1.who:Int)) (s.2.n+1)),s.2.co.Gu (s.1.who:Int))
theorem AgG{g:Nat}{q:NetP}{p:UsrP}{s:UsrM×NetM}(d:ByteArray)(h:Hg w0 S w (setG (setG D 0 (FK q s.2)) g (usO p s.1)))(a:g≠0)(hw:s.1.who<=16)(hd:d.size<=1000000000)(hx:s.2.co.QF (s.1.who:Int)<=500)(hG:s.2.co.Lu (s.1.who:Int)<=1000000000000)(hn:s.1.sl.nxt<16777216)(hs:s.1.sent<=100000000)(L:s.1.grN<=100000000)(hc:s.2.n<=1000000000000):Calls prog 37 #[Fa q.b,Fa p.b, J d] w fun e w'=>e= I (K Q (KH s d).2)/\Hg w0 S w' (setG (setG D 0 (FK q (KH s d).1.2)) g (usO p (KH s d).1.1)):=by
 have o:=hid (AhV h);unfold Fa at*
 cases i:s.1.AiR with
 | true=>
  rw[i]at o;have f:=hid (show KH s d=(s,7)from Ab i);clear h;go_enter func37,ntmps37
  go_wp2_with(go_at_call 77;refine o.out.mono ?_;rintro e w1 ⟨rfl,k⟩;have H1:=hid k;clear k);go_ret;rw[f.out];exact⟨rfl,H1.out⟩
 | false=>
  rw[i]at o;have f:=hid (show KH s d=_ from Aa (by rw[i];simp));clear h;go_enter func37,ntmps37;go_upto_region 3 with(go_at_call 77;refine o.out.mono ?_;rintro e w1 ⟨rfl,k⟩)
  have c0:w1.cell? ⟨q.b,0,C⟩=A (P (A ⟨q.c,0,C⟩)):=((k.net a).box (j:=0) rfl).cell 0;have Y:w1.cell? ⟨p.b,0,C⟩=A (K Q (s.1.who:Int)):=(k.box (j:=0) rfl).cell 0;have y:=hid (((k.below ((Ad _ w1).drew)).net a).act (j:=1) rfl (Aoe q.c s.2.co s.2.n (s.1.who:Int) w1.drew ⟨by omega,by omega⟩ (by unfold Jf;omega)));unfold Fa at y;generalize s.2.co.Gu (s.1.who:Int)=le at*;generalize s.2.co.Lu (s.1.who:Int)=v at*;generalize s.2.co.QF (s.1.who:Int)=N at*;generalize s.2.co.Ka (s.1.who:Int)=O at*;clear k o
  go_region_held3 (fun w'=>w'.cell? ⟨q.b,0,C⟩=A (P (A ⟨q.c,0,C⟩))/\w'.cell? ⟨p.b,0,C⟩=A (K Q (s.1.who:Int))) (first | exact⟨c0,Y⟩ | exact Z | go_keep) (first
   | (go_at_call 78;refine y.out.mono ?_;rintro e w2 ⟨c',⟨rfl,rfl⟩,E⟩;have m:=hid ((E.conv (O':=FK q (s.2.with O (s.2.n+1))) fun j=>by rcases j with _ | _ | _ | j<;>rfl).net (Ck a));have Z:w2.cell? ⟨q.b,0,C⟩=A (P (A ⟨q.c,0,C⟩))/\w2.cell? ⟨p.b,0,C⟩=A (K Q (s.1.who:Int)):=⟨(E.box (j:=0) rfl).cell 0,(m.out.box (j:=0) rfl).cell 0⟩;clear E))
  clear y Z c0 Y
  by_cases H:le=0
  ·subst H
   by_cases u:d.size<=N
   ·have z:=hid (show KH s d=((s.1.Mw d (v:Nat),s.2.with O (s.2.n+1)),0)from f.out.trans (by simp[u]));clear f;have F:(d.size:Int)<=(N:Int):=by omega
    have r:=hid (Ah1 d (v:Int) m.out (by omega) hn hs L);unfold Fa at r;clear m
    go_wp2_with(go_at_call 79;refine r.out.mono ?_;rintro e w3 ⟨rfl,t⟩;have x:=hid t;clear t);go_ret;rw[z.out];exact⟨rfl,x.out⟩
   ·have z:=hid (show KH s d=((s.1,(s.2.with O (s.2.n+1)).Tk (v:Nat) 0),11)from f.out.trans (by simp[u]));clear f;have F:¬(d.size:Int)<=(N:Int):=by omega
    have r:=hid (Sp (v:Int) 0 (m.out.net a) ⟨by omega,by omega⟩ ⟨by omega,by omega⟩ (by show s.2.n+1<Jf;unfold Jf;omega));unfold Fa at r;clear m
    go_wp2_with(go_at_call 80;refine r.out.mono ?_;rintro e w3 ⟨rfl,t⟩;have x:=hid (t.net (Ck a));clear t);go_ret;rw[z.out];exact⟨rfl,x.out⟩
  ·have f:=hid (f.out.trans (Aa H));have aa:(le !=0)=M:=by simpa using H
   go_wp2_with fail;go_ret;rw[f.out];exact⟨rfl,m.out⟩
def NetP.AaN(q:NetP)(k:Nat)(v:Value):NetP:={q with us:=q.us.set k v}
theorem AgB{q:NetP}{t:NetM}(k:Nat)(x:Int)(h:Hg w0 S w (setG D 0 (FK q t)))(hk:k<=9223372036854775807)(hn:t.n<=1000000000000)(hu:q.us.length=17)(hj:(t.co.join (k:Int) x).err=0->1<=k/\k<=16/\D k=fun _=>C):Calls prog 17 #[Fa q.b, K Q (k:Int), K Q x] w fun e w'=>
 ((t.co.join (k:Int) x).err≠0/\e= I (K Q (t.co.join (k:Int) x).err)/\Hg w0 S w' (setG D 0 (FK q (t.with (t.co.join (k:Int) x).m (t.n+1)))))\/
 ((t.co.join (k:Int) x).err=0/\((t.co.join (k:Int) x).m.FV (k:Int) 1).err≠0/\e= I (K Q ((t.co.join (k:Int) x).m.FV (k:Int) 1).err)/\Hg w0 S w' (setG D 0 (FK q (t.with ((t.co.join (k:Int) x).m.FV (k:Int) 1).m (t.n+1)))))\/
 ((t.co.join (k:Int) x).err=0/\((t.co.join (k:Int) x).m.FV (k:Int) 1).err=0/\e= I (K Q 0)/\∃p,Hg w0 S w' (setG (setG D 0 (FK (q.AaN k (Fa p.b)) (t.with ((t.co.join (k:Int) x).m.FV (k:Int) 1).m (t.n+1)))) k (usO p (UsrM.new k)))):=by
 have c0:w.cell? ⟨q.b,0,C⟩=A (P (A ⟨q.c,0,C⟩)):=(h.box (j:=0) rfl).cell 0;have y:=hid (h.act (j:=1) rfl (Alh (fun F L=>AfL x L (k:=(k:Int)) ⟨by omega,by omega⟩ (by unfold Jf;omega))));have v:=hid (fun wz hz=>Hg.act (w:=wz) (w0:=w0) (S:=S) (D:=D) (g:=0) (O:=FK q (t.with (t.co.join (k:Int) x).m (t.n+1))) hz (j:=1) (c:=coC q.c (t.co.join (k:Int) x).m (t.n+1)) rfl (Alh (r:=(t.co.join (k:Int) x).m.FV (k:Int) 1) (n':=t.n+1) (fun F L=>Aca 1 L (k:=(k:Int)) ⟨by omega,by omega⟩)));generalize t.co.join (k:Int) x=R1 at*;generalize R1.m.FV (k:Int) 1=R2 at*;obtain⟨m1,e1⟩:=R1;obtain⟨i,e2⟩:=R2;dsimp only at*;unfold Fa at*;clear h
 by_cases d:e1=0
 ·subst d;obtain⟨aa,N,H⟩:=hj rfl;go_enter func17,ntmps17;go_upto_region 4 with(go_at_call 34;refine y.out.mono ?_;rintro e w1 ⟨c',⟨rfl,rfl⟩,o⟩)
  have E:=o.conv (O':=FK q (t.with m1 (t.n+1))) fun j=>by rcases j with _ | _ | _ | j<;>rfl
  have a:=hid (v.out w1 E);have d0:w1.cell? ⟨q.b,0,C⟩=A (P (A ⟨q.c,0,C⟩)):=(E.box (j:=0) rfl).cell 0;clear o E y c0 v
  by_cases f:e2=0
  ·subst f;go_upto_region 7 with(go_at_call 35;refine a.out.mono ?_;rintro e w2 ⟨c',⟨rfl,rfl⟩,s⟩)
   have h4:=s.conv (O':=FK q (t.with i (t.n+1))) fun j=>by rcases j with _ | _ | _ | j<;>rfl
   have h5:Hg w0 S w2.drew (setG (setG D 0 (FK q (t.with i (t.n+1)))) k (fun _=>C)):=by
    have e9:setG (setG D 0 (FK q (t.with i (t.n+1)))) k (fun _=>C)=setG D 0 (FK q (t.with i (t.n+1))):=by
     rw[<-H,show D k=setG D 0 (FK q (t.with i (t.n+1))) k from(Fo D (by omega) _).symm,Ig]
    rw[e9];exact h4.below ((Ad _ w2).drew)
   have z:=hid (AgK k h5 N);unfold Fa at z;have ab:(k:Int)<17:=by omega
   obtain⟨v0,Z⟩:∃v0,q.us[k]?=A v0:=⟨_,Ap (by omega)⟩;clear s h4 h5 a d0
   go_region_with (first | (go_at_call 36;refine z.out.mono ?_;rintro e w3 ⟨p,rfl,u⟩;have H6:=hid (u.net (show k≠0 by omega));have f9:=((u.net (show k≠0 by omega)).box (j:=0) rfl).free (2+k);have g9:w3.cell? ⟨q.b,2+k,C⟩=A v0:=(((u.net (show k≠0 by omega)).box (j:=0) rfl).cell (2+k)).trans (by rw[show 2+k=k+1+1 by omega];exact Z);clear u))
   have h7:=(((H6.out.GK (j:=0) rfl (2+k) (P (A ⟨p.b,0,C⟩))).conv (O':=FK (q.AaN k (Fa p.b)) (t.with i (t.n+1))) fun j=>by
    rcases j with _ | _ | _ | j
    ·show A (JP _ _ ((Fa q.c::Fa q.r::q.us).set (2+k) _))=A (JP _ _ _);rw[show 2+k=k+1+1 by omega];rfl
    all_goals rfl).net (show 0≠k by omega))
   have H7:=hid h7;clear h7 H6 f9 g9 z
   go_wp2_with fail;go_ret;exact⟨rfl,p,H7.out⟩
  ·have Y:(e2 !=0)=M:=by simpa using f
   go_wp2_with(go_at_call 35;refine a.out.mono ?_;rintro e w2 ⟨c',⟨rfl,rfl⟩,s⟩;have H3:=hid (s.conv (O':=FK q (t.with i (t.n+1))) fun j=>by rcases j with _ | _ | _ | j<;>rfl);clear s);go_ret;exact .inr (.inl ⟨trivial,f,rfl,H3.out⟩)
 ·have Y:(e1 !=0)=M:=by simpa using d
  clear v;go_enter func17,ntmps17
  go_wp2_with(go_at_call 34;refine y.out.mono ?_;rintro e w1 ⟨c',⟨rfl,rfl⟩,o⟩;have H1:=hid (o.conv (O':=FK q (t.with m1 (t.n+1))) fun j=>by rcases j with _ | _ | _ | j<;>rfl);clear o);go_ret;exact .inl ⟨d,rfl,H1.out⟩
def NetM.new:NetM:=⟨.new 100,0,0,B,fun _=>0⟩
theorem Hg.SF(ht:Tb w):Hg w [] w (fun _ _=>C):=⟨fun _=>[],Kept.refl _ w,ht,by simp,ht.lt,fun i c h=>(by cases h),fun i j _ hi=>absurd rfl hi⟩
theorem Ajv(h:Hg w0 S w (setG D 0 fun _=>C)):Calls prog 5 #[] w fun e w'=>∃q,e= I (Fa q.b)/\q.us=List.replicate 17 (.pointer C)/\Hg w0 S w' (setG D 0 (FK q NetM.new)):=by
 have H:=hid h;have m:=hid (AfN 100 w (by omega) (by omega));unfold Fa at*;clear h;go_enter func5,ntmps5;go_upto_region 2 with(go_at_call 12;refine m.out.mono ?_;rintro e w1 ⟨c,N,rfl,f,a,i⟩)
 have o:=H.out.new 1 (Kept.E5 i) (d:=coC c (.new 100) 0) (L:=coF c N (.new 100)) ⟨N,rfl,f⟩ a;have n:=hid (AhP 1 w1 (by omega) (by omega));clear f a i H m;go_upto_region 3 with(go_at_call 13;refine n.out.mono ?_;rintro e w2 ⟨rfl,g,k⟩)
 have p:=o.new 2 (Kept.E5 k) (d:=tuC w1.heap.size 0 B fun _=>0) (L:=[w1.heap.size]) ⟨rfl,g⟩ (by intro x u;simp at u;omega);generalize w1.heap.size=r at*;have s:=p.Ii 0 47 (Fa c::Fa r::List.replicate 17 (.pointer C));have t:=hid s;clear o p s n g k
 go_wp2_with fail;go_ret;refine⟨⟨w2.heap.size,c,r,List.replicate 17 (.pointer C)⟩,rfl,rfl,?_⟩;exact t.out.conv fun j=>by rcases j with _ | _ | _ | j<;>rfl
def Tryz.ZR:Go.Shelf.Ren:=⟨fun | 103=>52 | 210=>103 | 206=>153 | n=>n,fun | 9=>9 | 4=>4 | 24=>110 | 3=>3 | n=>n,fun | n=>n⟩
theorem Tryz.AlC:Go.Proofs.Lays.n103 prog Tryz.ZR:={
 mixed:=by kernel_rfl
 f103:=func52.trans (congrArg A (by kernel_rfl))
 f206:=func153.trans (congrArg A (by kernel_rfl))
 f210:=func103.trans (congrArg A (by kernel_rfl))
 t3:=underlying3
 a3:=isAgg3
 z3:=sizeOf3
 v3:=zeroValue3
 t4:=underlying4
 a4:=isAgg4
 z4:=sizeOf4
 v4:=zeroValue4
 t9:=underlying9
 a9:=isAgg9
 z9:=sizeOf9
 v9:=zeroValue9
 t24:=underlying110
 a24:=isAgg110
 z24:=sizeOf110
 v24:=zeroValue110}
def Tryz.ZS:Go.Shelf.Ren:=⟨fun | 145=>26 | 220=>51 | 219=>43 | 217=>92 | 225=>93 | 224=>94 | 267=>95 | 266=>144 | 314=>145 | n=>n,fun | 9=>9 | 4=>4 | 59=>68 | 3=>3 | 5=>5 | 46=>194 | 146=>270 | 51=>269 | n=>n,fun | 1=>0 | n=>n⟩
theorem Tryz.AlD:Go.Proofs.Lays.n145 prog Tryz.ZS:={
 mixed:=by kernel_rfl
 f145:=func26.trans (congrArg A (by kernel_rfl))
 f217:=func92.trans (congrArg A (by kernel_rfl))
 f219:=func43.trans (congrArg A (by kernel_rfl))
 f220:=func51.trans (congrArg A (by kernel_rfl))
 f224:=func94.trans (congrArg A (by kernel_rfl))
 f225:=func93.trans (congrArg A (by kernel_rfl))
 f266:=func144.trans (congrArg A (by kernel_rfl))
 f267:=func95.trans (congrArg A (by kernel_rfl))
 f314:=func145.trans (congrArg A (by kernel_rfl))
 t3:=underlying3
 a3:=isAgg3
 z3:=sizeOf3
 v3:=zeroValue3
 t4:=underlying4
 a4:=isAgg4
 z4:=sizeOf4
 v4:=zeroValue4
 t5:=underlying5
 a5:=isAgg5
 z5:=sizeOf5
 v5:=zeroValue5
 t9:=underlying9
 a9:=isAgg9
 z9:=sizeOf9
 v9:=zeroValue9
 t46:=underlying194
 a46:=isAgg194
 z46:=sizeOf194
 v46:=zeroValue194
 t51:=underlying269
 a51:=isAgg269
 z51:=sizeOf269
 v51:=zeroValue269
 t59:=underlying68
 a59:=isAgg68
 z59:=sizeOf68
 v59:=zeroValue68
 t146:=underlying270
 a146:=isAgg270
 z146:=sizeOf270
 v146:=zeroValue270
 g1:=by kernel_rfl}
def Tryz.XN:Go.Shelf.Ren:=⟨fun | 171=>11 | 243=>25 | 246=>50 | 283=>99 | 284=>100 | 285=>101 | 286=>102 | 129=>149 | 317=>148 | 318=>150 | 319=>151 | 320=>152 | 337=>181 | 338=>182 | n=>n,fun | 3=>3 | 9=>9 | 2=>2 | 4=>4 | 171=>201 | 0=>0 | 53=>195 | 37=>103 | 5=>5 | 173=>204 | 212=>278 | 51=>269 | 20=>20 | 213=>279 | 46=>194 | 232=>363 | 233=>364 | n=>n,fun | 17=>4 | 18=>7 | 19=>8 | n=>n⟩
theorem Tryz.ZU:Go.Proofs.LaysM.n171 prog Tryz.XN:={
 mixed:=by kernel_rfl
 f129:=func149.trans (congrArg A (by kernel_rfl))
 f171:=func11.trans (congrArg A (by kernel_rfl))
 f243:=func25.trans (congrArg A (by kernel_rfl))
 f246:=func50.trans (congrArg A (by kernel_rfl))
 f283:=func99.trans (congrArg A (by kernel_rfl))
 f284:=func100.trans (congrArg A (by kernel_rfl))
 f285:=func101.trans (congrArg A (by kernel_rfl))
 f286:=func102.trans (congrArg A (by kernel_rfl))
 f317:=func148.trans (congrArg A (by kernel_rfl))
 f318:=func150.trans (congrArg A (by kernel_rfl))
 f319:=func151.trans (congrArg A (by kernel_rfl))
 f320:=func152.trans (congrArg A (by kernel_rfl))
 f337:=func181.trans (congrArg A (by kernel_rfl))
 f338:=func182.trans (congrArg A (by kernel_rfl))
 t0:=underlying0
 a0:=isAgg0
 z0:=sizeOf0
 v0:=zeroValue0
 t2:=underlying2
 a2:=isAgg2
 z2:=sizeOf2
 v2:=zeroValue2
 t3:=underlying3
 a3:=isAgg3
 z3:=sizeOf3
 v3:=zeroValue3
 t4:=underlying4
 a4:=isAgg4
 z4:=sizeOf4
 v4:=zeroValue4
 t5:=underlying5
 a5:=isAgg5
 z5:=sizeOf5
 v5:=zeroValue5
 t9:=underlying9
 a9:=isAgg9
 z9:=sizeOf9
 v9:=zeroValue9
 t20:=underlying20
 a20:=isAgg20
 z20:=sizeOf20
 v20:=zeroValue20
 t37:=underlying103
 a37:=isAgg103
 z37:=sizeOf103
 v37:=zeroValue103
 t46:=underlying194
 a46:=isAgg194
 z46:=sizeOf194
 v46:=zeroValue194
 t51:=underlying269
 a51:=isAgg269
 z51:=sizeOf269
 v51:=zeroValue269
 t53:=underlying195
 a53:=isAgg195
 z53:=sizeOf195
 v53:=zeroValue195
 t171:=underlying201
 a171:=isAgg201
 z171:=sizeOf201
 v171:=zeroValue201
 t173:=underlying204
 a173:=isAgg204
 z173:=sizeOf204
 v173:=zeroValue204
 t212:=underlying278
 a212:=isAgg278
 z212:=sizeOf278
 v212:=zeroValue278
 t213:=underlying279
 a213:=isAgg279
 z213:=sizeOf279
 t232:=underlying363
 a232:=isAgg363
 z232:=sizeOf363
 v232:=zeroValue363
 t233:=underlying364
 a233:=isAgg364
 z233:=sizeOf364
 v233:=zeroValue364
 g17:=by kernel_rfl
 g18:=by kernel_rfl
 g19:=by kernel_rfl
 i0:=by kernel_rfl
 i2:=by kernel_rfl
 i3:=by kernel_rfl
 i4:=by kernel_rfl
 i5:=by kernel_rfl
 i9:=by kernel_rfl
 i20:=by kernel_rfl
 i37:=by kernel_rfl
 i46:=by kernel_rfl
 i51:=by kernel_rfl
 i53:=by kernel_rfl
 i171:=by kernel_rfl
 i173:=by kernel_rfl
 i212:=by kernel_rfl
 i232:=by kernel_rfl
 i233:=by kernel_rfl
 m17:=by kernel_rfl
 m18:=by kernel_rfl
 m19:=by kernel_rfl}
def Tryz.XM:Go.Shelf.Ren:=⟨fun | 172=>9 | 244=>22 | 245=>23 | 247=>44 | 279=>45 | 280=>46 | 281=>47 | 282=>48 | 287=>96 | 316=>97 | 171=>11 | 205=>98 | 321=>146 | 322=>147 | 243=>25 | 246=>50 | 283=>99 | 284=>100 | 285=>101 | 286=>102 | 129=>149 | 317=>148 | 318=>150 | 319=>151 | 320=>152 | 337=>181 | 338=>182 | n=>n,fun | 9=>9 | 3=>3 | 75=>30 | 76=>31 | 4=>4 | 5=>5 | 167=>102 | 37=>103 | 0=>0 | 85=>104 | 2=>2 | 168=>106 | 53=>195 | 175=>196 | 46=>194 | 210=>199 | 127=>268 | 145=>276 | 143=>274 | 21=>21 | 171=>201 | 173=>204 | 212=>278 | 51=>269 | 20=>20 | 213=>279 | 232=>363 | 233=>364 | 80=>188 | n=>n,fun | 15=>1 | 16=>2 | 17=>4 | 18=>7 | 19=>8 | n=>n⟩
theorem Tryz.TR:Go.Proofs.LaysC.n172 prog Tryz.XM:={
 mixed:=by kernel_rfl
 f129:=func149.trans (congrArg A (by kernel_rfl))
 f171:=func11.trans (congrArg A (by kernel_rfl))
 f172:=func9.trans (congrArg A (by kernel_rfl))
 f205:=func98.trans (congrArg A (by kernel_rfl))
 f243:=func25.trans (congrArg A (by kernel_rfl))
 f244:=func22.trans (congrArg A (by kernel_rfl))
 f245:=func23.trans (congrArg A (by kernel_rfl))
 f246:=func50.trans (congrArg A (by kernel_rfl))
 f247:=func44.trans (congrArg A (by kernel_rfl))
 f279:=func45.trans (congrArg A (by kernel_rfl))
 f280:=func46.trans (congrArg A (by kernel_rfl))
 f281:=func47.trans (congrArg A (by kernel_rfl))
 f282:=func48.trans (congrArg A (by kernel_rfl))
 f283:=func99.trans (congrArg A (by kernel_rfl))
 f284:=func100.trans (congrArg A (by kernel_rfl))
 f285:=func101.trans (congrArg A (by kernel_rfl))
 f286:=func102.trans (congrArg A (by kernel_rfl))
 f287:=func96.trans (congrArg A (by kernel_rfl))
 f316:=func97.trans (congrArg A (by kernel_rfl))
 f317:=func148.trans (congrArg A (by kernel_rfl))
 f318:=func150.trans (congrArg A (by kernel_rfl))
 f319:=func151.trans (congrArg A (by kernel_rfl))
 f320:=func152.trans (congrArg A (by kernel_rfl))
 f321:=func146.trans (congrArg A (by kernel_rfl))
 f322:=func147.trans (congrArg A (by kernel_rfl))
 f337:=func181.trans (congrArg A (by kernel_rfl))
 f338:=func182.trans (congrArg A (by kernel_rfl))
 t0:=underlying0
 a0:=isAgg0
 z0:=sizeOf0
 v0:=zeroValue0
 t2:=underlying2
 a2:=isAgg2
 z2:=sizeOf2
 v2:=zeroValue2
 t3:=underlying3
 a3:=isAgg3
 z3:=sizeOf3
 v3:=zeroValue3
 t4:=underlying4
 a4:=isAgg4
 z4:=sizeOf4
 v4:=zeroValue4
 t5:=underlying5
 a5:=isAgg5
 z5:=sizeOf5
 v5:=zeroValue5
 t9:=underlying9
 a9:=isAgg9
 z9:=sizeOf9
 v9:=zeroValue9
 t20:=underlying20
 a20:=isAgg20
 z20:=sizeOf20
 v20:=zeroValue20
 t21:=underlying21
 a21:=isAgg21
 z21:=sizeOf21
 v21:=zeroValue21
 t37:=underlying103
 a37:=isAgg103
 z37:=sizeOf103
 v37:=zeroValue103
 t46:=underlying194
 a46:=isAgg194
 z46:=sizeOf194
 v46:=zeroValue194
 t51:=underlying269
 a51:=isAgg269
 z51:=sizeOf269
 v51:=zeroValue269
 t53:=underlying195
 a53:=isAgg195
 z53:=sizeOf195
 v53:=zeroValue195
 t75:=underlying30
 a75:=isAgg30
 z75:=sizeOf30
 v75:=zeroValue30
 t76:=underlying31
 a76:=isAgg31
 z76:=sizeOf31
 v76:=zeroValue31
 t85:=underlying104
 a85:=isAgg104
 z85:=sizeOf104
 v85:=zeroValue104
 t127:=underlying268
 a127:=isAgg268
 z127:=sizeOf268
 v127:=zeroValue268
 t143:=underlying274
 a143:=isAgg274
 z143:=sizeOf274
 v143:=zeroValue274
 t145:=underlying276
 a145:=isAgg276
 z145:=sizeOf276
 v145:=zeroValue276
 t167:=underlying102
 a167:=isAgg102
 z167:=sizeOf102
 v167:=zeroValue102
 t168:=underlying106
 a168:=isAgg106
 z168:=sizeOf106
 v168:=zeroValue106
 t171:=underlying201
 a171:=isAgg201
 z171:=sizeOf201
 v171:=zeroValue201
 t173:=underlying204
 a173:=isAgg204
 z173:=sizeOf204
 v173:=zeroValue204
 t175:=underlying196
 a175:=isAgg196
 z175:=sizeOf196
 v175:=zeroValue196
 t210:=underlying199
 a210:=isAgg199
 z210:=sizeOf199
 v210:=zeroValue199
 t212:=underlying278
 a212:=isAgg278
 z212:=sizeOf278
 v212:=zeroValue278
 t213:=underlying279
 a213:=isAgg279
 z213:=sizeOf279
 t232:=underlying363
 a232:=isAgg363
 z232:=sizeOf363
 v232:=zeroValue363
 t233:=underlying364
 a233:=isAgg364
 z233:=sizeOf364
 v233:=zeroValue364
 g15:=by kernel_rfl
 g16:=by kernel_rfl
 g17:=by kernel_rfl
 g18:=by kernel_rfl
 g19:=by kernel_rfl
 t80:=underlying188
 a80:=isAgg188
 z80:=sizeOf188
 v80:=zeroValue188
 i0:=by kernel_rfl
 i2:=by kernel_rfl
 i3:=by kernel_rfl
 i4:=by kernel_rfl
 i5:=by kernel_rfl
 i9:=by kernel_rfl
 i20:=by kernel_rfl
 i21:=by kernel_rfl
 i37:=by kernel_rfl
 i46:=by kernel_rfl
 i51:=by kernel_rfl
 i53:=by kernel_rfl
 i75:=by kernel_rfl
 i76:=by kernel_rfl
 i80:=by kernel_rfl
 i85:=by kernel_rfl
 i127:=by kernel_rfl
 i143:=by kernel_rfl
 i145:=by kernel_rfl
 i167:=by kernel_rfl
 i168:=by kernel_rfl
 i171:=by kernel_rfl
 i173:=by kernel_rfl
 i175:=by kernel_rfl
 i210:=by kernel_rfl
 i212:=by kernel_rfl
 i232:=by kernel_rfl
 i233:=by kernel_rfl
 m15:=by kernel_rfl
 m16:=by kernel_rfl
 m17:=by kernel_rfl
 m18:=by kernel_rfl
 m19:=by kernel_rfl
 c0:=by kernel_rfl
 c2:=by kernel_rfl
 c3:=by kernel_rfl
 c4:=by kernel_rfl
 c5:=by kernel_rfl
 c9:=by kernel_rfl
 c20:=by kernel_rfl
 c21:=by kernel_rfl
 c37:=by kernel_rfl
 c46:=by kernel_rfl
 c51:=by kernel_rfl
 c53:=by kernel_rfl
 c75:=by kernel_rfl
 c76:=by kernel_rfl
 c80:=by kernel_rfl
 c85:=by kernel_rfl
 c127:=by kernel_rfl
 c143:=by kernel_rfl
 c145:=by kernel_rfl
 c167:=by kernel_rfl
 c168:=by kernel_rfl
 c171:=by kernel_rfl
 c173:=by kernel_rfl
 c175:=by kernel_rfl
 c210:=by kernel_rfl
 c212:=by kernel_rfl
 c213:=by kernel_rfl
 c232:=by kernel_rfl
 c233:=by kernel_rfl}
def Tryz.Sk:Go.Shelf.Ren:=⟨fun | 156=>85 | 165=>141 | 166=>86 | 169=>88 | 240=>142 | 241=>179 | 276=>180 | 277=>218 | n=>n,fun | 31=>22 | 9=>9 | 3=>3 | 4=>4 | 0=>0 | 20=>20 | 72=>186 | 76=>31 | 70=>184 | 37=>103 | 75=>30 | 127=>268 | 164=>315 | 5=>5 | 80=>188 | n=>n,fun | n=>n⟩
theorem Tryz.XL:Go.Proofs.Lays.n156 prog Tryz.Sk:={
 mixed:=by kernel_rfl
 f156:=func85.trans (congrArg A (by kernel_rfl))
 f165:=func141.trans (congrArg A (by kernel_rfl))
 f166:=func86.trans (congrArg A (by kernel_rfl))
 f169:=func88.trans (congrArg A (by kernel_rfl))
 f240:=func142.trans (congrArg A (by kernel_rfl))
 f241:=func179.trans (congrArg A (by kernel_rfl))
 f276:=func180.trans (congrArg A (by kernel_rfl))
 f277:=func218.trans (congrArg A (by kernel_rfl))
 t0:=underlying0
 a0:=isAgg0
 z0:=sizeOf0
 v0:=zeroValue0
 t3:=underlying3
 a3:=isAgg3
 z3:=sizeOf3
 v3:=zeroValue3
 t4:=underlying4
 a4:=isAgg4
 z4:=sizeOf4
 v4:=zeroValue4
 t9:=underlying9
 a9:=isAgg9
 z9:=sizeOf9
 v9:=zeroValue9
 t20:=underlying20
 a20:=isAgg20
 z20:=sizeOf20
 v20:=zeroValue20
 t31:=underlying22
 a31:=isAgg22
 z31:=sizeOf22
 v31:=zeroValue22
 t37:=underlying103
 a37:=isAgg103
 z37:=sizeOf103
 v37:=zeroValue103
 t70:=underlying184
 a70:=isAgg184
 z70:=sizeOf184
 v70:=zeroValue184
 t72:=underlying186
 a72:=isAgg186
 z72:=sizeOf186
 v72:=zeroValue186
 t75:=underlying30
 a75:=isAgg30
 z75:=sizeOf30
 v75:=zeroValue30
 t76:=underlying31
 a76:=isAgg31
 z76:=sizeOf31
 v76:=zeroValue31
 t127:=underlying268
 a127:=isAgg268
 z127:=sizeOf268
 v127:=zeroValue268
 t164:=underlying315
 a164:=isAgg315
 z164:=sizeOf315
 v164:=zeroValue315}
theorem Tryz.Im:Builder.Extra prog Tryz.Sk:={
 sizeBuilder:=by kernel_rfl
 liesBuilder:=by kernel_rfl
 t5:=underlying5
 a5:=isAgg5
 z5:=sizeOf5
 v5:=zeroValue5
 infoByte:=by kernel_rfl
 cellsByte:=by kernel_rfl
 sizeByte:=by kernel_rfl
 neB5:=by decide}
def Tryz.Sl:Go.Shelf.Ren:=⟨fun | 169=>88 | n=>n,fun | 70=>184 | 9=>9 | 0=>0 | 72=>186 | 37=>103 | 127=>268 | 3=>3 | 5=>5 | n=>n,fun | n=>n⟩
theorem Tryz.AlE:Go.Proofs.Lays.n169 prog Tryz.Sl:={
 mixed:=by kernel_rfl
 f169:=func88.trans (congrArg A (by kernel_rfl))
 t0:=underlying0
 a0:=isAgg0
 z0:=sizeOf0
 v0:=zeroValue0
 t3:=underlying3
 a3:=isAgg3
 z3:=sizeOf3
 v3:=zeroValue3
 t9:=underlying9
 a9:=isAgg9
 z9:=sizeOf9
 v9:=zeroValue9
 t37:=underlying103
 a37:=isAgg103
 z37:=sizeOf103
 v37:=zeroValue103
 t70:=underlying184
 a70:=isAgg184
 z70:=sizeOf184
 v70:=zeroValue184
 t72:=underlying186
 a72:=isAgg186
 z72:=sizeOf186
 v72:=zeroValue186
 t127:=underlying268
 a127:=isAgg268
 z127:=sizeOf268
 v127:=zeroValue268}
theorem Tryz.Qd:Builder.Extra prog Tryz.Sl:={
 sizeBuilder:=by kernel_rfl
 liesBuilder:=by kernel_rfl
 t5:=underlying5
 a5:=isAgg5
 z5:=sizeOf5
 v5:=zeroValue5
 infoByte:=by kernel_rfl
 cellsByte:=by kernel_rfl
 sizeByte:=by kernel_rfl
 neB5:=by decide}
def NQ (e:Nat):ByteArray:=if e=0 then ⟨#[111,107,10]⟩ else (⟨#[101,114,114,111,114,32]⟩:ByteArray)++⟨(Lib.decDigits e).toArray⟩++⟨#[10]⟩
theorem AcS(i:Nat)(hi:i<100)(w:World):Calls prog 11 #[K Q i] w fun e w'=>e= I (J ⟨(Lib.decDigits i).toArray⟩)/\w'=w:=Any.strconv_Itoa_small {Tryz.ZU with} i hi w
theorem Acp:∀x:Fin 100,(Lib.decDigits x.val).length<=2:=by decide+kernel
theorem Z9(x:Nat)(b:x<100)(w:World):Calls prog 16 #[K Q (x:Int)] w fun e w'=>e= I (J (NQ x))/\w'=w:=by
 by_cases a:x=0
 ·subst a;go_enter func16,ntmps16
  go_wp2_with fail;go_ret;exact⟨rfl,rfl⟩
 ·have c:=hid (AcS x b w);have f:=hid (show NQ x=_ from Aa a);have h:((x:Int)==0)=B:=by simpa using a
  have g:(⟨(Lib.decDigits x).toArray⟩:ByteArray).size<=2:=by show(Lib.decDigits x).toArray.size<=2;rw[A8];exact Acp ⟨x,b⟩
  generalize (⟨(Lib.decDigits x).toArray⟩:ByteArray)=d at*;go_enter func16,ntmps16
  go_wp2_with(go_at_call 11;refine c.out.mono ?_;rintro e w1 ⟨rfl,rfl⟩);go_ret;rw[f.out];exact⟨rfl,rfl⟩
theorem Wd.below(h:Wd w)(a:Below w.heap.size w w')(hg:Oe<=w.heap.size):Wd w':=h.kept fun x b=>a.block x (by omega)
theorem RZ(w:World)(k:Nat)(os:Array Obj):Below w.heap.size w (Sort.grow (w.drewN k) os):=
 ⟨rfl,rfl,rfl,by first | (simp[Sort.grow];done) | (simp[Sort.grow];omega),fun i hi=>by
  show((w.drewN k).heap++os)[i]?=_;rw[Array.getElem?_append_left (by show i<w.heap.size;omega)]
  rfl⟩
def VF (s:ByteArray):Option Int:=match Lib.atoiAll s.data.toList with
 | .ok v=>A v
 | _=>C
theorem Aio(s:ByteArray)(w:World)(ht:Tb w)(i:s.size<=100000):Calls prog 9 #[J s] w fun e w'=>∃(v:Int) (E:Value),e= I (.tuple #[K Q v,E])/\Gb v/\((E=.nilIface/\VF s=A v)\/(VF s=C/\∃te pe,E=.iface te (P (A pe))))/\Below w.heap.size w w':=by
 obtain⟨t1,d,c1⟩:=ht.wd.es;obtain⟨g,f,c2⟩:=ht.wd.er;unfold VF
 rcases h:Lib.atoiAll s.data.toList with v | _ | _
 ·obtain⟨b1,c⟩:=Lib.atoiAll_bounds h;refine(Any.strconv_Atoi_ok Tryz.TR s (by omega) v h w).mono ?_;rintro e w' ⟨rfl,b⟩;refine⟨v,.nilIface,rfl,⟨by omega,by omega⟩,.inl ⟨rfl,rfl⟩,?_⟩
  rcases b with rfl | ⟨t,rfl⟩
  ·exact Ad _ _
  ·exact _root_.Go.Joins.below_bytesWorld _ _ _ _ (Ac _)
 ·refine(Any.strconv_Atoi_syntax_var Tryz.TR s (by omega) h t1 d w c1).mono ?_;rintro e w' ⟨N,rfl, -, -,a⟩;exact⟨0,_,rfl,⟨by omega,by omega⟩,.inr ⟨rfl,_,_,rfl⟩,a⟩
 ·obtain⟨b1,c⟩:=Lib.atoiSat_bounds s.data.toList;refine(Any.strconv_Atoi_range_var Tryz.TR s (by omega) h g f w c2).mono ?_;rintro e w' ⟨N,rfl, -, -,a⟩;exact⟨_,_,rfl,⟨by omega,by omega⟩,.inr ⟨rfl,_,_,rfl⟩,a⟩
theorem TN(v:Int)(w:World)(a:Gb v)(ht:Lib.TabIs prog w "internal/strconv.uint64pow10" .u64 Lib.pow10Tab):Calls prog 11 #[K Q v] w fun e w'=>e= I (J ⟨(Lib.itoa v).toArray⟩)/\Below w.heap.size w w':=by
 obtain⟨b,c⟩:=a;refine(Any.strconv_Itoa Tryz.ZU v (by omega) (by omega) w ht).mono ?_;rintro e w' ⟨rfl,k,os,rfl⟩;exact⟨rfl,RZ _ _ _⟩
def Om (s:ByteArray):Option Nat:=if 9<s.size then C else match VF s with
 | some v=>if 0<=v/\(⟨(Lib.itoa v).toArray⟩:ByteArray)=s then A v.toNat else C
 | none=>C
theorem QR(s:ByteArray)(w:World)(ht:Tb w)(F:s.size<=1000000000):Calls prog 27 #[J s] w fun e w'=>∃v:Int,e= I (.tuple #[K Q v, G (Om s).isSome])/\Gb v/\(∀k,Om s=A k->v=(k:Int))/\Below w.heap.size w w':=by
 by_cases x:9<s.size
 ·have e:Om s=C:=Ab x;have r:(9:Int)<(s.size:Int):=by omega
  rw[e];go_enter func27,ntmps27
  go_wp2_with fail
  go_ret2;exact⟨0,rfl,⟨by omega,by omega⟩,by simp,Ad _ _⟩
 ·have r:¬(9:Int)<(s.size:Int):=by omega
  have o:=hid (Aio s w ht (by omega));have m:=hid ht
  have a:Hid (Om s=match VF s with
   | some v=>if 0<=v/\(⟨(Lib.itoa v).toArray⟩:ByteArray)=s then A v.toNat else C
   | none=>C):=Aa x
  go_enter func27,ntmps27;go_upto_region 4 with(go_at_call 9;refine o.out.mono ?_;rintro e w1 ⟨v,E,rfl,i,y,g⟩)
  rcases y with⟨rfl,h⟩ | ⟨h,L,H,rfl⟩
  ·rw[h]at a;have n:=hid i;have j:=hid g
   by_cases u:0<=v
   ·have p:=hid (TN v w1 i (m.out.wd.below g m.out.lt).tab);obtain⟨d, t⟩ := E7 ((⟨(Lib.itoa v).toArray⟩:ByteArray));have a:Hid (Om s=if 0<=v/\(⟨(Lib.itoa v).toArray⟩:ByteArray)=s then A v.toNat else C):=a;rw[<-t]at p a;clear t;clear g i o m h
    by_cases hd:d=s
    ·subst hd;have c:=hid (a.out.trans (Ab ⟨u,rfl⟩))
     go_wp2_with(go_at_call 11;refine p.out.mono ?_;rintro e w2 ⟨rfl,f⟩)
     go_ret2;refine⟨v,?_,n.out,fun k b=>?_,Fr j.out f⟩
     ·rw[c.out];simp
     ·rw[c.out]at b
      grind
    ·have c:=hid (a.out.trans (Aa fun q=>hd q.2));have z:=O9 hd
     go_wp2_with(go_at_call 11;refine p.out.mono ?_;rintro e w2 ⟨rfl,f⟩)
     go_ret2;refine⟨v,?_,n.out,fun k b=>?_,Fr j.out f⟩
     ·rw[c.out];rfl
     ·rw[c.out]at b
      cases b
   ·have c:=hid (a.out.trans (Aa fun q=>u q.1));clear g i o m h
    go_wp2_with fail
    go_ret2;refine⟨v,?_,n.out,fun k b=>?_,j.out⟩
    ·rw[c.out];rfl
    ·rw[c.out]at b
     cases b
  ·rw[h]at a;have n:=hid i;have j:=hid g;clear g i o m h
   go_wp2_with fail
   go_ret2;refine⟨v,?_,n.out,fun k b=>?_,j.out⟩
   ·rw[a.out];rfl
   ·rw[a.out]at b
    cases b
theorem Tb.below(h:Tb w)(a:Below w.heap.size w w'):Tb w':=h.kept (S:=[]) (Kept.E5 a) (by simp)
def Tt (s:ByteArray):ByteArray:=⟨(Lib.cut s.data.toList [32]).1.toArray⟩
def Mn (s:ByteArray):ByteArray:=⟨(Lib.cut s.data.toList [32]).2.1.toArray⟩
def Aln (s:ByteArray):Bool:=(Lib.cut s.data.toList [32]).2.2
theorem below_drewN(w:World):∀n,Below w.heap.size w (w.drewN n):=fun n=>by
 have h:=RZ w n #[];have e:Sort.grow (w.drewN n) #[]=w.drewN n:=by unfold Sort.grow;simp;rfl
 rwa [e]at h
theorem Aez(s:ByteArray)(w:World)(ht:Tb w)(b:s.size<=4000000000):Calls prog 26 #[J s, J ⟨#[32]⟩] w fun e w'=>e= I (.tuple #[J (Tt s), J (Mn s), G (Aln s)])/\Below w.heap.size w w':=by
 obtain⟨m,a⟩:=ht.wd.mx;refine(Any.strings_Cut Tryz.AlD s ⟨#[32]⟩ m w (by omega) a).mono ?_;rintro e w' ⟨rfl,n,rfl⟩;exact⟨rfl,below_drewN w n⟩
def Tm:ByteArray:=⟨#[99,108,101,97,114]⟩
def Z3:ByteArray:=⟨#[108,111,115,116]⟩
def Zu:ByteArray:=⟨#[100,101,97,102]⟩
def Oy:ByteArray:=⟨#[114,111,117,103,104,32]⟩
def Ns (s:ByteArray):ByteArray:=⟨(Lib.trimPrefix s.data.toList Oy.data.toList).toArray⟩
def PD (s:ByteArray):Option AirM:=if s=Tm then A ⟨B,B,0⟩ else if s=Z3 then A ⟨M,B,0⟩ else if s=Zu then A ⟨B,M,0⟩ else if Lib.hasPrefix s.data.toList Oy.data.toList=M then (Om (Ns s)).map fun k=>⟨B,B,k⟩ else C
theorem AjQ(s:ByteArray)(w:World)(ht:Tb w)(Y:(Ns s).size<=1000000000):Calls prog 28 #[J s] w fun e w'=>∃(l d:Bool) (r:Int),e= I (.tuple #[.agg #[G l, G d, K Q r], G (PD s).isSome])/\Gb r/\(∀a,PD s=A a->l=a.lost/\d=a.deaf/\r=(a.rough:Int))/\Below w.heap.size w w':=by
 by_cases q:s=Tm
 ·subst q;have e1:PD Tm=A ⟨B,B,0⟩:=by unfold PD;rw[Ab rfl]
  rw[e1];unfold Tm;clear e1;go_enter func28,ntmps28
  go_wp2_with fail
  (try simp only[Exit.inBlock,Exit.then])
  refine Ah (v:=.tuple #[.agg #[G B, G B, K Q 0], G M]) ?_ rfl ⟨B,B,0,rfl,⟨by omega,by omega⟩,fun a c=>by cases c;exact⟨rfl,rfl,rfl⟩,(Ad _ w).alloc (Ac _) _⟩;rw[AD rfl]
  go_simp
 ·by_cases t:s=Z3
  ·subst t;have e1:PD Z3=A ⟨M,B,0⟩:=by unfold PD;rw[Aa (by decide),Ab rfl]
   rw[e1];unfold Z3;clear e1;go_enter func28,ntmps28
   go_wp2_with fail
   (try simp only[Exit.inBlock,Exit.then])
   refine Ah (v:=.tuple #[.agg #[G M, G B, K Q 0], G M]) ?_ rfl ⟨M,B,0,rfl,⟨by omega,by omega⟩,fun a c=>by cases c;exact⟨rfl,rfl,rfl⟩,(Ad _ w).alloc (Ac _) _⟩;rw[AD rfl]
   go_simp
  ·by_cases u:s=Zu
   ·subst u;have e1:PD Zu=A ⟨B,M,0⟩:=by unfold PD;grind
    rw[e1];unfold Zu;clear e1;go_enter func28,ntmps28
    go_wp2_with fail
    (try simp only[Exit.inBlock,Exit.then])
    refine Ah (v:=.tuple #[.agg #[G B, G M, K Q 0], G M]) ?_ rfl ⟨B,M,0,rfl,⟨by omega,by omega⟩,fun a c=>by cases c;exact⟨rfl,rfl,rfl⟩,(Ad _ w).alloc (Ac _) _⟩;rw[AD rfl]
    go_simp
   ·have n1:(s.toList==[99,108,101,97,114])=B:=by have:=O9 q;rwa [show Tm.toList=[99,108,101,97,114]by decide+kernel]at this
    have n2:(s.toList==[108,111,115,116])=B:=by have:=O9 t;rwa [show Z3.toList=[108,111,115,116]by decide+kernel]at this
    have Z:(s.toList==[100,101,97,102])=B:=by have:=O9 u;rwa [show Zu.toList=[100,101,97,102]by decide+kernel]at this
    have z:=hid (fun o=>Any.strings_CutPrefix Tryz.AlC s Oy o);have f:Below w.heap.size w (w.alloc (.cells #[G B, G B, K Q 0] 49)):=(Ad _ w).alloc (Ac _) _;have F:=hid (QR (Ns s) _ (ht.below f) Y);have n:Hid (PD s=if Lib.hasPrefix s.data.toList Oy.data.toList=M then (Om (Ns s)).map fun k=>⟨B,B,k⟩ else C):=by
     show(if _ then _ else _)=_;rw[Aa q,Aa t,Aa u]
    have h:Hid (∀o,Calls prog 52 #[J s, J ⟨#[114,111,117,103,104,32]⟩] o fun e w'=>e= I (.tuple #[J (Ns s), G (Lib.hasPrefix s.data.toList Oy.data.toList)])/\w'=o):=z.out;generalize Lib.hasPrefix s.data.toList Oy.data.toList=O at*;generalize Ns s=m at*;have x:=hid (Fc w 49 [G B, G B, K Q 0]);have y:=hid f;clear z f;go_enter func28,ntmps28;go_upto_region 10 with(first | (go_at_call 52;refine(h.out _).mono ?_;rintro e w1 ⟨rfl,rfl⟩) | (go_at_call 27;refine F.out.mono ?_;rintro e w2 ⟨v,rfl,L,j,g⟩))
    have b:=x.out.kept (S:=[]) (Kept.E5 g) (by simp);have y0:w2.cell? ⟨w.heap.size,0,C⟩=A (G B):=b.cell 0;have y1:w2.cell? ⟨w.heap.size,1,C⟩=A (G B):=b.cell 1;have y2:w2.cell? ⟨w.heap.size,2,C⟩=A (K Q 0):=b.cell 2;have f0:=b.free 0;have f1:=b.free 1;have f2:=b.free 2;have E:=hid (show Below w.heap.size w (((w2.setCell ⟨w.heap.size,0,C⟩ (G B)).setCell ⟨w.heap.size,1,C⟩ (G B)).setCell ⟨w.heap.size,2,C⟩ (K Q v))from(((Fr y.out g).setCell (Ac _) _).setCell (Ac _) _).setCell (Ac _) _);have H:=hid L;have p:=hid j;clear g L j b x y F h n1 n2 Z
    cases O with
    | false=>
     have i:=hid (show PD s=C from n.out);clear n
     go_wp2_with fail
     (try simp only[Exit.inBlock,Exit.then])
     refine Ah (v:=.tuple #[.agg #[G B, G B, K Q v], G B]) ?_ rfl ⟨B,B,v,by rw[i.out];rfl,H.out,fun a c=>by(rw[i.out]at c;cases c),E.out⟩;rw[AD rfl]
     go_simp
    | true=>
     have i:=hid (show PD s=(Om m).map fun k=>⟨B,B,k⟩from n.out);clear n
     go_wp2_with fail
     (try simp only[Exit.inBlock,Exit.then])
     refine Ah (v:=.tuple #[.agg #[G B, G B, K Q v], G (Om m).isSome]) ?_ rfl ⟨B,B,v,by rw[i.out,DJ],H.out,fun a c=>?_,E.out⟩
     ·rw[AD rfl]
      go_simp
     ·rw[i.out]at c;obtain⟨k,N,rfl⟩:=Option.map_eq_some_iff.1 c;exact⟨rfl,rfl,p.out k N⟩
structure TSt where
 last:Nat
 opn:Bool
 cr:Nat->Int
structure TSt.Ok(t:TSt):Prop where
 last:t.last<=16
 opn:t.opn=M->1<=t.last
 cr:∀a,0<=t.cr a
 low:∀a,t.cr a<10000\/(t.opn=M/\a=t.last/\t.cr a<20000)
def TSt.new:TSt:=⟨0,B,fun _=>0⟩
theorem TSt.XX:TSt.new.Ok:=⟨Af _,fun h=>(by cases h),fun _=>Ci _,fun _=> .inl (show(0:Int)<10000 by omega)⟩
def TSt.s0(t:TSt)(l:List UsM):SlM:=UO l t.last t.opn t.cr
def SB (l:List UsM)(E4:Int):Bool:=decide (0<=E4/\E4<=100) && (List.range l.length).all fun i=>(l.getD i .zero).ok (YU l i)
theorem MW:SB l E4=M↔Mx l E4:=by grind [SB,Mx,OkU,Aag]
def TSt.run(t:TSt)(q:Int)(l:List UsM)(E4:Int):SlM:=J3 q (byF UsM.fit l) E4.toNat (t.s0 l)
def TSt.next(t:TSt)(q:Int)(l:List UsM)(E4:Int):TSt:=if SB l E4=M then ⟨(t.run q l E4).last,(t.run q l E4).opn,(t.run q l E4).cr⟩ else t
def TSt.J7(t:TSt)(q:Int)(l:List UsM)(E4:Int):List Int:=if SB l E4=M then MJ (t.run q l E4).out E4.toNat else []
def S0 (l:List UsM)(E4:Int):Int:=if SB l E4=M then 0 else 1
theorem TSt.Ok.s0{t:TSt}(h:t.Ok)(b:OkU l)(E4:Nat):(t.s0 l).Ok E4:=⟨h.last,h.opn,h.cr,fun a=>(Ab7 b a).1,Af _⟩
theorem TSt.Ok.run{t:TSt}(h:t.Ok){q:Int}(b:1<=q/\q<=10000)(c:Mx l E4):CrB (t.run q l E4)/\(t.run q l E4).Ok E4.toNat:=by
 have d:=h.s0 c.2 E4.toNat;have hF:FitOk (byF UsM.fit l) (t.s0 l).bw:=Anc c.2 (Only.SF l);have:=Abq (E4:=E4.toNat) (fits:=byF UsM.fit l) b.1 CrB (fun s a e hi _ _=>hi.Afa ⟨by omega,b.2⟩ a e) _ (t.s0 l) (Ac _) d hF h.low;exact⟨this.1,this.2.1⟩
theorem TSt.Ok.next{t:TSt}(h:t.Ok){q:Int}(d:1<=q/\q<=10000)(l:List UsM)(E4:Int):(t.next q l E4).Ok:=by
 unfold TSt.next
 by_cases b:SB l E4=M
 ·rw[Ab b];obtain⟨c,a⟩:=h.run d (MW.1 b);exact⟨a.last,a.opn,a.cr,c⟩
 ·rw[Aa b];exact h
theorem Akf{t:TSt}{q:Int}(h:t.Ok)(c:1<=q/\q<=10000):(t.J7 q l E4).length<=100:=by
 unfold TSt.J7
 by_cases a:SB l E4=M
 ·rw[Ab a];have b:=MW.1 a;rw[Na (h.run c b).2.out];have:=b.1;omega
 ·rw[Aa a];simp
theorem Ag8(t:TSt)(l:List UsM)(E4 q:Int)(i c r:Nat)(a:Option Addr)(w:World)(ht:t.Ok)(m:1<=q/\q<=10000)(o:Usr w a l)(f:l.length=i)(x:i<=maxLen)(n:PTurn w r q t.last t.opn t.cr):
 Calls prog 29 #[P (A ⟨r,0,C⟩),.slice a i c, K Q E4] w fun e w'=>∃v,e= I (.tuple #[v, K Q (S0 l E4)])/\OwnI w' w.heap.size v (t.J7 q l E4)/\PTurn w' r q (t.next q l E4).last (t.next q l E4).opn (t.next q l E4).cr/\Kept [r] w w':=by
 by_cases b:SB l E4=M
 ·have g:=MW.1 b;obtain⟨k,rfl⟩:∃k:Nat,E4=(k:Int):=⟨E4.toNat,by have:=g.1;omega⟩;have e1:t.next q l k=⟨(t.run q l k).last,(t.run q l k).opn,(t.run q l k).cr⟩:=Ab b
  have e2:t.J7 q l k=MJ (t.run q l k).out k:=Ab b;have e3:S0 l k=0:=Ab b;have d:=(ht.run m g).2.out;rw[e1,e2,e3];refine(Ads l k i c r t.last t.opn t.cr q a w (by have:=g.1;omega) o f g.2 n m.1 m.2 ht.cr ht.low ht.last ht.opn).mono ?_;rintro e w' ⟨y,rfl,j,p,s,u⟩;refine⟨_,rfl,Aas j s ?_ (by have:=g.1;unfold maxLen;omega),p,u⟩;exact Na d
 ·have e1:t.next q l E4=t:=Aa b
  have e2:t.J7 q l E4=[]:=Aa b;have e3:S0 l E4=1:=Aa b;rw[e1,e2,e3];refine(Ag9 l E4 i c a _ w o f x (fun h=>b (MW.2 h))).mono ?_;rintro e w' ⟨rfl,j⟩;exact⟨_,rfl,OwnI.nil _ _,FunAt.below n j,Kept.E5 j⟩
end Go.Proofs.YtbjgfoiikhbonahGreatDoor
