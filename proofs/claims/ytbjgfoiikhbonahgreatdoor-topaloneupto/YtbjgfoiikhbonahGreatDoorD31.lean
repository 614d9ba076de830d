import Derived.Test.YtbjgfoiikhbonahGreatDoorD30
import Derived.Shelf.Strings.Builder1
import Derived.Shelf.Strings.Builder2
import Derived.Shelf.Strings.OnBuilder
import Derived.Shelf.Small.Wraps
import Derived.Shelf.Strconv.Itoa3
import Derived.Shelf.Strconv.AtoiAll
import Derived.Shelf.LaysM
import Derived.Shelf.LaysC
import Derived.Shelf.Strings.Cut
import Derived.Lib.SmallJoins
import Derived.Shelf.Strconv.ErrVarAll
set_option linter.unusedVariables false
set_option linter.unusedSimpArgs false
set_option maxRecDepth 100000
set_option maxHeartbeats 4000000
namespace Go.Proofs.YtbjgfoiikhbonahGreatDoor
open Go.ChangeShapes Go.WideShapes Go.ChangeAt Go.RowKit Go.Shelf Go.Proofs.Tryz
open Value (int pointer)
open IntKind (i64)
variable {A:Type}{D E:Nat->Nat->Option Cm}{E4 q:Int}{L g k:Nat}{O:Nat->Option Cm}{S:List Nat}{l:List UsM}{w w' w0:World}{x:UsrP}
def KH (s:UsrM×NetM)(d:ByteArray):(UsrM×NetM)×Int:=
 if s.1.AiR=true then (s,7) else if s.2.co.Gu (s.1.who:Int)=0 then
  (if d.size<=s.2.co.QF (s.1.who:Int) then ((s.1.Mw d (s.2.co.Lu (s.1.who:Int):Nat),s.2.with (s.2.co.Ka (s.1.who:Int)) (s.2.n+1)),0)
   else ((s.1,(s.2.with (s.2.co.Ka (s.1.who:Int)) (s.2.n+1)).Tk (s.2.co.Lu (s.1.who:Int):Nat) 0),11))
 else ((s.1,s.2.with (s.2.co.Ka (s.1.who:Int)) (s.2.n+1)),s.2.co.Gu (s.1.who:Int))
theorem AgG{q:NetP}{p:UsrP}{s:UsrM×NetM}(d:ByteArray)(h:Hg w0 S w (setG (setG D 0 (FK q s.2)) g (usO p s.1)))(a:g≠0)(X:s.1.who<=16)(hd:d.size<=1000000000)(Y:s.2.co.QF (s.1.who:Int)<=500)(V:s.2.co.Lu (s.1.who:Int)<=1000000000000)(Q:s.1.sl.nxt<16777216)(T:s.1.sent<=100000000)(I:s.1.grN<=100000000)(W:s.2.n<=1000000000000):Calls prog 37 #[Fa q.b,Fa p.b,.string d] w fun e w'=>e=.returned (int i64 (KH s d).2)/\Hg w0 S w' (setG (setG D 0 (FK q (KH s d).1.2)) g (usO p (KH s d).1.1)):=by
 have r:=hid (AhV h);unfold Fa at*
 cases i:s.1.AiR with
 | true=>
  rw[i]at r;have f:=hid (show KH s d=(s,7)from Ab i);clear h;go_enter func37,ntmps37
  go_wp2_with(go_at_call 77;refine r.out.mono ?_;rintro e w1 ⟨rfl,m⟩;have P:=hid m;clear m);go_ret;rw[f.out];exact⟨rfl,P.out⟩
 | false=>
  rw[i]at r;have f:=hid (show KH s d=_ from Aa (by rw[i];simp));clear h;go_enter func37,ntmps37;go_upto_region 3 with(go_at_call 77;refine r.out.mono ?_;rintro e w1 ⟨rfl,m⟩)
  have c0:w1.cell? ⟨q.b,0,none⟩=some (pointer (some ⟨q.c,0,none⟩)):=((m.net a).box (j:=0) rfl).cell 0;have M:w1.cell? ⟨p.b,0,none⟩=some (int i64 (s.1.who:Int)):=(m.box (j:=0) rfl).cell 0;have B:=hid (((m.below ((Ad _ w1).drew)).net a).act (j:=1) rfl (Aoe q.c s.2.co s.2.n (s.1.who:Int) w1.drew ⟨by omega,by omega⟩ (by unfold Jf;omega)));unfold Fa at B;generalize s.2.co.Gu (s.1.who:Int)=le at*;generalize s.2.co.Lu (s.1.who:Int)=y at*;generalize s.2.co.QF (s.1.who:Int)=J at*;generalize s.2.co.Ka (s.1.who:Int)=K at*;clear m r
  go_region_held3 (fun w'=>w'.cell? ⟨q.b,0,none⟩=some (pointer (some ⟨q.c,0,none⟩))/\w'.cell? ⟨p.b,0,none⟩=some (int i64 (s.1.who:Int))) (first | exact⟨c0,M⟩ | exact N | go_keep) (first
   | (go_at_call 78;refine B.out.mono ?_;rintro e w2 ⟨c',⟨rfl,rfl⟩,F⟩;have o:=hid ((F.conv (O':=FK q (s.2.with K (s.2.n+1))) fun j=>by rcases j with _ | _ | _ | j<;>rfl).net (Ck a));have N:w2.cell? ⟨q.b,0,none⟩=some (pointer (some ⟨q.c,0,none⟩))/\w2.cell? ⟨p.b,0,none⟩=some (int i64 (s.1.who:Int)):=⟨(F.box (j:=0) rfl).cell 0,(o.out.box (j:=0) rfl).cell 0⟩;clear F))
  clear B N c0 M
  by_cases H:le=0
  ·subst H
   by_cases v:d.size<=J
   ·have C:=hid (show KH s d=((s.1.Mw d (y:Nat),s.2.with K (s.2.n+1)),0)from f.out.trans (by simp[v]));clear f;have G:(d.size:Int)<=(J:Int):=by omega
    have t:=hid (Ah1 d (y:Int) o.out (by omega) Q T I);unfold Fa at t;clear o
    go_wp2_with(go_at_call 79;refine t.out.mono ?_;rintro e U ⟨rfl,u⟩;have z:=hid u;clear u);go_ret;rw[C.out];exact⟨rfl,z.out⟩
   ·have C:=hid (show KH s d=((s.1,(s.2.with K (s.2.n+1)).Tk (y:Nat) 0),11)from f.out.trans (by simp[v]));clear f;have G:¬(d.size:Int)<=(J:Int):=by omega
    have t:=hid (Sp (y:Int) 0 (o.out.net a) ⟨by omega,by omega⟩ ⟨by omega,by omega⟩ (by show s.2.n+1<Jf;unfold Jf;omega));unfold Fa at t;clear o
    go_wp2_with(go_at_call 80;refine t.out.mono ?_;rintro e U ⟨rfl,u⟩;have z:=hid (u.net (Ck a));clear u);go_ret;rw[C.out];exact⟨rfl,z.out⟩
  ·have f:=hid (f.out.trans (Aa H));have R:(le !=0)=true:=by simpa using H
   go_wp2_with fail;go_ret;rw[f.out];exact⟨rfl,o.out⟩
def NetP.AaN(q:NetP)(k:Nat)(v:Value):NetP:={q with us:=q.us.set k v}
theorem AgB{q:NetP}{t:NetM}(k:Nat)(x:Int)(h:Hg w0 S w (setG D 0 (FK q t)))(hk:k<=9223372036854775807)(hn:t.n<=1000000000000)(hu:q.us.length=17)(hj:(t.co.join (k:Int) x).err=0->1<=k/\k<=16/\D k=fun _=>none):Calls prog 17 #[Fa q.b,int i64 (k:Int),int i64 x] w fun e w'=>
 ((t.co.join (k:Int) x).err≠0/\e=.returned (int i64 (t.co.join (k:Int) x).err)/\Hg w0 S w' (setG D 0 (FK q (t.with (t.co.join (k:Int) x).m (t.n+1)))))\/
 ((t.co.join (k:Int) x).err=0/\((t.co.join (k:Int) x).m.FV (k:Int) 1).err≠0/\e=.returned (int i64 ((t.co.join (k:Int) x).m.FV (k:Int) 1).err)/\Hg w0 S w' (setG D 0 (FK q (t.with ((t.co.join (k:Int) x).m.FV (k:Int) 1).m (t.n+1)))))\/
 ((t.co.join (k:Int) x).err=0/\((t.co.join (k:Int) x).m.FV (k:Int) 1).err=0/\e=.returned (int i64 0)/\∃p,Hg w0 S w' (setG (setG D 0 (FK (q.AaN k (Fa p.b)) (t.with ((t.co.join (k:Int) x).m.FV (k:Int) 1).m (t.n+1)))) k (usO p (UsrM.new k)))):=by
 have c0:w.cell? ⟨q.b,0,none⟩=some (pointer (some ⟨q.c,0,none⟩)):=(h.box (j:=0) rfl).cell 0;have y:=hid (h.act (j:=1) rfl (Alh (fun F C=>AfL x C (k:=(k:Int)) ⟨by omega,by omega⟩ (by unfold Jf;omega))));have v:=hid (fun wz hz=>Hg.act (w:=wz) (w0:=w0) (S:=S) (D:=D) (g:=0) (O:=FK q (t.with (t.co.join (k:Int) x).m (t.n+1))) hz (j:=1) (c:=coC q.c (t.co.join (k:Int) x).m (t.n+1)) rfl (Alh (r:=(t.co.join (k:Int) x).m.FV (k:Int) 1) (n':=t.n+1) (fun F C=>Aca 1 C (k:=(k:Int)) ⟨by omega,by omega⟩)));generalize t.co.join (k:Int) x=J at*;generalize J.m.FV (k:Int) 1=U at*;obtain⟨P,e1⟩:=J;obtain⟨i,e2⟩:=U;dsimp only at*;unfold Fa at*;clear h
 by_cases d:e1=0
 ·subst d;obtain⟨aa,G,Z⟩:=hj rfl;go_enter func17,ntmps17;go_upto_region 4 with(go_at_call 34;refine y.out.mono ?_;rintro e w1 ⟨c',⟨rfl,rfl⟩,o⟩)
  have B:=o.conv (O':=FK q (t.with P (t.n+1))) fun j=>by rcases j with _ | _ | _ | j<;>rfl
  have a:=hid (v.out w1 B);have V:w1.cell? ⟨q.b,0,none⟩=some (pointer (some ⟨q.c,0,none⟩)):=(B.box (j:=0) rfl).cell 0;clear o B y c0 v
  by_cases f:e2=0
  ·subst f;go_upto_region 7 with(go_at_call 35;refine a.out.mono ?_;rintro e w2 ⟨c',⟨rfl,rfl⟩,s⟩)
   have K:=s.conv (O':=FK q (t.with i (t.n+1))) fun j=>by rcases j with _ | _ | _ | j<;>rfl
   have M:Hg w0 S w2.drew (setG (setG D 0 (FK q (t.with i (t.n+1)))) k (fun _=>none)):=by
    have W:setG (setG D 0 (FK q (t.with i (t.n+1)))) k (fun _=>none)=setG D 0 (FK q (t.with i (t.n+1))):=by
     grind [setG,FK,Fo,Ig]
    rw[W];exact K.below ((Ad _ w2).drew)
   have z:=hid (AgK k M G);unfold Fa at z;have ab:(k:Int)<17:=by omega
   obtain⟨v0,ac⟩:∃v0,q.us[k]?=some v0:=⟨_,Ap (by omega)⟩;clear s K M a V
   go_region_with (first | (go_at_call 36;refine z.out.mono ?_;rintro e w3 ⟨p,rfl,u⟩;have I:=hid (u.net (show k≠0 by omega));have X:=((u.net (show k≠0 by omega)).box (j:=0) rfl).free (2+k);have Y:w3.cell? ⟨q.b,2+k,none⟩=some v0:=(((u.net (show k≠0 by omega)).box (j:=0) rfl).cell (2+k)).trans (by grind);clear u))
   have N:=(((I.out.GK (j:=0) rfl (2+k) (pointer (some ⟨p.b,0,none⟩))).conv (O':=FK (q.AaN k (Fa p.b)) (t.with i (t.n+1))) fun j=>by
    rcases j with _ | _ | _ | j
    ·show some (JP _ _ ((Fa q.c::Fa q.r::q.us).set (2+k) _))=some (JP _ _ _);rw[show 2+k=k+1+1 by omega];rfl
    all_goals rfl).net (show 0≠k by omega))
   have T:=hid N;clear N I X Y z
   go_wp2_with fail;go_ret;exact⟨rfl,p,T.out⟩
  ·have H:(e2 !=0)=true:=by simpa using f
   go_wp2_with(go_at_call 35;refine a.out.mono ?_;rintro e w2 ⟨c',⟨rfl,rfl⟩,s⟩;have R:=hid (s.conv (O':=FK q (t.with i (t.n+1))) fun j=>by rcases j with _ | _ | _ | j<;>rfl);clear s);go_ret;exact .inr (.inl ⟨trivial,f,rfl,R.out⟩)
 ·have H:(e1 !=0)=true:=by simpa using d
  clear v;go_enter func17,ntmps17
  go_wp2_with(go_at_call 34;refine y.out.mono ?_;rintro e w1 ⟨c',⟨rfl,rfl⟩,o⟩;have Q:=hid (o.conv (O':=FK q (t.with P (t.n+1))) fun j=>by rcases j with _ | _ | _ | j<;>rfl);clear o);go_ret;exact .inl ⟨d,rfl,Q.out⟩
def NetM.new:NetM:=⟨.new 100,0,0,false,fun _=>0⟩
theorem Hg.SF(ht:Tb w):Hg w [] w (fun _ _=>none):=⟨fun _=>[],Kept.refl _ w,ht,by simp,ht.lt,fun i c h=>(by cases h),fun i j _ hi=>absurd rfl hi⟩
theorem Ajv(h:Hg w0 S w (setG D 0 fun _=>none)):Calls prog 5 #[] w fun e w'=>∃q,e=.returned (Fa q.b)/\q.us=List.replicate 17 (pointer none)/\Hg w0 S w' (setG D 0 (FK q NetM.new)):=by
 have H:=hid h;have o:=hid (AfN 100 w (by omega) (by omega));unfold Fa at*;clear h;go_enter func5,ntmps5;go_upto_region 2 with(go_at_call 12;refine o.out.mono ?_;rintro e w1 ⟨c,N,rfl,f,a,m⟩)
 have s:=H.out.new 1 (Kept.E5 m) (d:=coC c (.new 100) 0) (L:=coF c N (.new 100)) ⟨N,rfl,f⟩ a;have p:=hid (AhP 1 w1 (by omega) (by omega));clear f a m H o;go_upto_region 3 with(go_at_call 13;refine p.out.mono ?_;rintro e w2 ⟨rfl,i,n⟩)
 have t:=s.new 2 (Kept.E5 n) (d:=tuC w1.heap.size 0 false fun _=>0) (L:=[w1.heap.size]) ⟨rfl,i⟩ (by intro x y;simp at y;omega);generalize w1.heap.size=r at*;have u:=t.Ii 0 47 (Fa c::Fa r::List.replicate 17 (pointer none));have v:=hid u;clear s t u p i n
 go_wp2_with fail;go_ret;refine⟨⟨w2.heap.size,c,r,List.replicate 17 (pointer none)⟩,rfl,rfl,?_⟩;exact v.out.conv fun j=>by rcases j with _ | _ | _ | j<;>rfl
def Tryz.ZR:Go.Shelf.Ren:=⟨fun | 103=>52 | 210=>103 | 206=>153 | n=>n,fun | 9=>9 | 4=>4 | 24=>110 | 3=>3 | n=>n,fun | n=>n⟩
theorem Tryz.AlC:Go.Proofs.Lays.n103 prog Tryz.ZR:={
 mixed:=by kernel_rfl
 f103:=func52.trans (congrArg some (by kernel_rfl))
 f206:=func153.trans (congrArg some (by kernel_rfl))
 f210:=func103.trans (congrArg some (by kernel_rfl))
 t3:=underlying3
 a3:=isAgg3
 z3:=sizeOf3
 v3:=zeroValue3
 t4:=underlying4
 a4:=isAgg4
 z4:=sizeOf4
 v4:=zeroValue4
 t9:=underlying9
 a9:=isAgg9
 z9:=sizeOf9
 v9:=zeroValue9
 t24:=underlying110
 a24:=isAgg110
 z24:=sizeOf110
 v24:=zeroValue110}
def Tryz.ZS:Go.Shelf.Ren:=⟨fun | 145=>26 | 220=>51 | 219=>43 | 217=>92 | 225=>93 | 224=>94 | 267=>95 | 266=>144 | 314=>145 | n=>n,fun | 9=>9 | 4=>4 | 59=>68 | 3=>3 | 5=>5 | 46=>194 | 146=>270 | 51=>269 | n=>n,fun | 1=>0 | n=>n⟩
theorem Tryz.AlD:Go.Proofs.Lays.n145 prog Tryz.ZS:={
 mixed:=by kernel_rfl
 f145:=func26.trans (congrArg some (by kernel_rfl))
 f217:=func92.trans (congrArg some (by kernel_rfl))
 f219:=func43.trans (congrArg some (by kernel_rfl))
 f220:=func51.trans (congrArg some (by kernel_rfl))
 f224:=func94.trans (congrArg some (by kernel_rfl))
 f225:=func93.trans (congrArg some (by kernel_rfl))
 f266:=func144.trans (congrArg some (by kernel_rfl))
 f267:=func95.trans (congrArg some (by kernel_rfl))
 f314:=func145.trans (congrArg some (by kernel_rfl))
 t3:=underlying3
 a3:=isAgg3
 z3:=sizeOf3
 v3:=zeroValue3
 t4:=underlying4
 a4:=isAgg4
 z4:=sizeOf4
 v4:=zeroValue4
 t5:=underlying5
 a5:=isAgg5
 z5:=sizeOf5
 v5:=zeroValue5
 t9:=underlying9
 a9:=isAgg9
 z9:=sizeOf9
 v9:=zeroValue9
 t46:=underlying194
 a46:=isAgg194
 z46:=sizeOf194
 v46:=zeroValue194
 t51:=underlying269
 a51:=isAgg269
 z51:=sizeOf269
 v51:=zeroValue269
 t59:=underlying68
 a59:=isAgg68
 z59:=sizeOf68
 v59:=zeroValue68
 t146:=underlying270
 a146:=isAgg270
 z146:=sizeOf270
 v146:=zeroValue270
 g1:=by kernel_rfl}
def Tryz.XN:Go.Shelf.Ren:=⟨fun | 171=>11 | 243=>25 | 246=>50 | 283=>99 | 284=>100 | 285=>101 | 286=>102 | 129=>149 | 317=>148 | 318=>150 | 319=>151 | 320=>152 | 337=>181 | 338=>182 | n=>n,fun | 3=>3 | 9=>9 | 2=>2 | 4=>4 | 171=>201 | 0=>0 | 53=>195 | 37=>103 | 5=>5 | 173=>204 | 212=>278 | 51=>269 | 20=>20 | 213=>279 | 46=>194 | 232=>363 | 233=>364 | n=>n,fun | 17=>4 | 18=>7 | 19=>8 | n=>n⟩
theorem Tryz.ZU:Go.Proofs.LaysM.n171 prog Tryz.XN:={
 mixed:=by kernel_rfl
 f129:=func149.trans (congrArg some (by kernel_rfl))
 f171:=func11.trans (congrArg some (by kernel_rfl))
 f243:=func25.trans (congrArg some (by kernel_rfl))
 f246:=func50.trans (congrArg some (by kernel_rfl))
 f283:=func99.trans (congrArg some (by kernel_rfl))
 f284:=func100.trans (congrArg some (by kernel_rfl))
 f285:=func101.trans (congrArg some (by kernel_rfl))
 f286:=func102.trans (congrArg some (by kernel_rfl))
 f317:=func148.trans (congrArg some (by kernel_rfl))
 f318:=func150.trans (congrArg some (by kernel_rfl))
 f319:=func151.trans (congrArg some (by kernel_rfl))
 f320:=func152.trans (congrArg some (by kernel_rfl))
 f337:=func181.trans (congrArg some (by kernel_rfl))
 f338:=func182.trans (congrArg some (by kernel_rfl))
 t0:=underlying0
 a0:=isAgg0
 z0:=sizeOf0
 v0:=zeroValue0
 t2:=underlying2
 a2:=isAgg2
 z2:=sizeOf2
 v2:=zeroValue2
 t3:=underlying3
 a3:=isAgg3
 z3:=sizeOf3
 v3:=zeroValue3
 t4:=underlying4
 a4:=isAgg4
 z4:=sizeOf4
 v4:=zeroValue4
 t5:=underlying5
 a5:=isAgg5
 z5:=sizeOf5
 v5:=zeroValue5
 t9:=underlying9
 a9:=isAgg9
 z9:=sizeOf9
 v9:=zeroValue9
 t20:=underlying20
 a20:=isAgg20
 z20:=sizeOf20
 v20:=zeroValue20
 t37:=underlying103
 a37:=isAgg103
 z37:=sizeOf103
 v37:=zeroValue103
 t46:=underlying194
 a46:=isAgg194
 z46:=sizeOf194
 v46:=zeroValue194
 t51:=underlying269
 a51:=isAgg269
 z51:=sizeOf269
 v51:=zeroValue269
 t53:=underlying195
 a53:=isAgg195
 z53:=sizeOf195
 v53:=zeroValue195
 t171:=underlying201
 a171:=isAgg201
 z171:=sizeOf201
 v171:=zeroValue201
 t173:=underlying204
 a173:=isAgg204
 z173:=sizeOf204
 v173:=zeroValue204
 t212:=underlying278
 a212:=isAgg278
 z212:=sizeOf278
 v212:=zeroValue278
 t213:=underlying279
 a213:=isAgg279
 z213:=sizeOf279
 t232:=underlying363
 a232:=isAgg363
 z232:=sizeOf363
 v232:=zeroValue363
 t233:=underlying364
 a233:=isAgg364
 z233:=sizeOf364
 v233:=zeroValue364
 g17:=by kernel_rfl
 g18:=by kernel_rfl
 g19:=by kernel_rfl
 i0:=by kernel_rfl
 i2:=by kernel_rfl
 i3:=by kernel_rfl
 i4:=by kernel_rfl
 i5:=by kernel_rfl
 i9:=by kernel_rfl
 i20:=by kernel_rfl
 i37:=by kernel_rfl
 i46:=by kernel_rfl
 i51:=by kernel_rfl
 i53:=by kernel_rfl
 i171:=by kernel_rfl
 i173:=by kernel_rfl
 i212:=by kernel_rfl
 i232:=by kernel_rfl
 i233:=by kernel_rfl
 m17:=by kernel_rfl
 m18:=by kernel_rfl
 m19:=by kernel_rfl}
def Tryz.XM:Go.Shelf.Ren:=⟨fun | 172=>9 | 244=>22 | 245=>23 | 247=>44 | 279=>45 | 280=>46 | 281=>47 | 282=>48 | 287=>96 | 316=>97 | 171=>11 | 205=>98 | 321=>146 | 322=>147 | 243=>25 | 246=>50 | 283=>99 | 284=>100 | 285=>101 | 286=>102 | 129=>149 | 317=>148 | 318=>150 | 319=>151 | 320=>152 | 337=>181 | 338=>182 | n=>n,fun | 9=>9 | 3=>3 | 75=>30 | 76=>31 | 4=>4 | 5=>5 | 167=>102 | 37=>103 | 0=>0 | 85=>104 | 2=>2 | 168=>106 | 53=>195 | 175=>196 | 46=>194 | 210=>199 | 127=>268 | 145=>276 | 143=>274 | 21=>21 | 171=>201 | 173=>204 | 212=>278 | 51=>269 | 20=>20 | 213=>279 | 232=>363 | 233=>364 | 80=>188 | n=>n,fun | 15=>1 | 16=>2 | 17=>4 | 18=>7 | 19=>8 | n=>n⟩
theorem Tryz.TR:Go.Proofs.LaysC.n172 prog Tryz.XM:={
 mixed:=by kernel_rfl
 f129:=func149.trans (congrArg some (by kernel_rfl))
 f171:=func11.trans (congrArg some (by kernel_rfl))
 f172:=func9.trans (congrArg some (by kernel_rfl))
 f205:=func98.trans (congrArg some (by kernel_rfl))
 f243:=func25.trans (congrArg some (by kernel_rfl))
 f244:=func22.trans (congrArg some (by kernel_rfl))
 f245:=func23.trans (congrArg some (by kernel_rfl))
 f246:=func50.trans (congrArg some (by kernel_rfl))
 f247:=func44.trans (congrArg some (by kernel_rfl))
 f279:=func45.trans (congrArg some (by kernel_rfl))
 f280:=func46.trans (congrArg some (by kernel_rfl))
 f281:=func47.trans (congrArg some (by kernel_rfl))
 f282:=func48.trans (congrArg some (by kernel_rfl))
 f283:=func99.trans (congrArg some (by kernel_rfl))
 f284:=func100.trans (congrArg some (by kernel_rfl))
 f285:=func101.trans (congrArg some (by kernel_rfl))
 f286:=func102.trans (congrArg some (by kernel_rfl))
 f287:=func96.trans (congrArg some (by kernel_rfl))
 f316:=func97.trans (congrArg some (by kernel_rfl))
 f317:=func148.trans (congrArg some (by kernel_rfl))
 f318:=func150.trans (congrArg some (by kernel_rfl))
 f319:=func151.trans (congrArg some (by kernel_rfl))
 f320:=func152.trans (congrArg some (by kernel_rfl))
 f321:=func146.trans (congrArg some (by kernel_rfl))
 f322:=func147.trans (congrArg some (by kernel_rfl))
 f337:=func181.trans (congrArg some (by kernel_rfl))
 f338:=func182.trans (congrArg some (by kernel_rfl))
 t0:=underlying0
 a0:=isAgg0
 z0:=sizeOf0
 v0:=zeroValue0
 t2:=underlying2
 a2:=isAgg2
 z2:=sizeOf2
 v2:=zeroValue2
 t3:=underlying3
 a3:=isAgg3
 z3:=sizeOf3
 v3:=zeroValue3
 t4:=underlying4
 a4:=isAgg4
 z4:=sizeOf4
 v4:=zeroValue4
 t5:=underlying5
 a5:=isAgg5
 z5:=sizeOf5
 v5:=zeroValue5
 t9:=underlying9
 a9:=isAgg9
 z9:=sizeOf9
 v9:=zeroValue9
 t20:=underlying20
 a20:=isAgg20
 z20:=sizeOf20
 v20:=zeroValue20
 t21:=underlying21
 a21:=isAgg21
 z21:=sizeOf21
 v21:=zeroValue21
 t37:=underlying103
 a37:=isAgg103
 z37:=sizeOf103
 v37:=zeroValue103
 t46:=underlying194
 a46:=isAgg194
 z46:=sizeOf194
 v46:=zeroValue194
 t51:=underlying269
 a51:=isAgg269
 z51:=sizeOf269
 v51:=zeroValue269
 t53:=underlying195
 a53:=isAgg195
 z53:=sizeOf195
 v53:=zeroValue195
 t75:=underlying30
 a75:=isAgg30
 z75:=sizeOf30
 v75:=zeroValue30
 t76:=underlying31
 a76:=isAgg31
 z76:=sizeOf31
 v76:=zeroValue31
 t85:=underlying104
 a85:=isAgg104
 z85:=sizeOf104
 v85:=zeroValue104
 t127:=underlying268
 a127:=isAgg268
 z127:=sizeOf268
 v127:=zeroValue268
 t143:=underlying274
 a143:=isAgg274
 z143:=sizeOf274
 v143:=zeroValue274
 t145:=underlying276
 a145:=isAgg276
 z145:=sizeOf276
 v145:=zeroValue276
 t167:=underlying102
 a167:=isAgg102
 z167:=sizeOf102
 v167:=zeroValue102
 t168:=underlying106
 a168:=isAgg106
 z168:=sizeOf106
 v168:=zeroValue106
 t171:=underlying201
 a171:=isAgg201
 z171:=sizeOf201
 v171:=zeroValue201
 t173:=underlying204
 a173:=isAgg204
 z173:=sizeOf204
 v173:=zeroValue204
 t175:=underlying196
 a175:=isAgg196
 z175:=sizeOf196
 v175:=zeroValue196
 t210:=underlying199
 a210:=isAgg199
 z210:=sizeOf199
 v210:=zeroValue199
 t212:=underlying278
 a212:=isAgg278
 z212:=sizeOf278
 v212:=zeroValue278
 t213:=underlying279
 a213:=isAgg279
 z213:=sizeOf279
 t232:=underlying363
 a232:=isAgg363
 z232:=sizeOf363
 v232:=zeroValue363
 t233:=underlying364
 a233:=isAgg364
 z233:=sizeOf364
 v233:=zeroValue364
 g15:=by kernel_rfl
 g16:=by kernel_rfl
 g17:=by kernel_rfl
 g18:=by kernel_rfl
 g19:=by kernel_rfl
 t80:=underlying188
 a80:=isAgg188
 z80:=sizeOf188
 v80:=zeroValue188
 i0:=by kernel_rfl
 i2:=by kernel_rfl
 i3:=by kernel_rfl
 i4:=by kernel_rfl
 i5:=by kernel_rfl
 i9:=by kernel_rfl
 i20:=by kernel_rfl
 i21:=by kernel_rfl
 i37:=by kernel_rfl
 i46:=by kernel_rfl
 i51:=by kernel_rfl
 i53:=by kernel_rfl
 i75:=by kernel_rfl
 i76:=by kernel_rfl
 i80:=by kernel_rfl
 i85:=by kernel_rfl
 i127:=by kernel_rfl
 i143:=by kernel_rfl
 i145:=by kernel_rfl
 i167:=by kernel_rfl
 i168:=by kernel_rfl
 i171:=by kernel_rfl
 i173:=by kernel_rfl
 i175:=by kernel_rfl
 i210:=by kernel_rfl
 i212:=by kernel_rfl
 i232:=by kernel_rfl
 i233:=by kernel_rfl
 m15:=by kernel_rfl
 m16:=by kernel_rfl
 m17:=by kernel_rfl
 m18:=by kernel_rfl
 m19:=by kernel_rfl
 c0:=by kernel_rfl
 c2:=by kernel_rfl
 c3:=by kernel_rfl
 c4:=by kernel_rfl
 c5:=by kernel_rfl
 c9:=by kernel_rfl
 c20:=by kernel_rfl
 c21:=by kernel_rfl
 c37:=by kernel_rfl
 c46:=by kernel_rfl
 c51:=by kernel_rfl
 c53:=by kernel_rfl
 c75:=by kernel_rfl
 c76:=by kernel_rfl
 c80:=by kernel_rfl
 c85:=by kernel_rfl
 c127:=by kernel_rfl
 c143:=by kernel_rfl
 c145:=by kernel_rfl
 c167:=by kernel_rfl
 c168:=by kernel_rfl
 c171:=by kernel_rfl
 c173:=by kernel_rfl
 c175:=by kernel_rfl
 c210:=by kernel_rfl
 c212:=by kernel_rfl
 c213:=by kernel_rfl
 c232:=by kernel_rfl
 c233:=by kernel_rfl}
def Tryz.Sk:Go.Shelf.Ren:=⟨fun | 156=>85 | 165=>141 | 166=>86 | 169=>88 | 240=>142 | 241=>179 | 276=>180 | 277=>218 | n=>n,fun | 31=>22 | 9=>9 | 3=>3 | 4=>4 | 0=>0 | 20=>20 | 72=>186 | 76=>31 | 70=>184 | 37=>103 | 75=>30 | 127=>268 | 164=>315 | 5=>5 | 80=>188 | n=>n,fun | n=>n⟩
theorem Tryz.XL:Go.Proofs.Lays.n156 prog Tryz.Sk:={
 mixed:=by kernel_rfl
 f156:=func85.trans (congrArg some (by kernel_rfl))
 f165:=func141.trans (congrArg some (by kernel_rfl))
 f166:=func86.trans (congrArg some (by kernel_rfl))
 f169:=func88.trans (congrArg some (by kernel_rfl))
 f240:=func142.trans (congrArg some (by kernel_rfl))
 f241:=func179.trans (congrArg some (by kernel_rfl))
 f276:=func180.trans (congrArg some (by kernel_rfl))
 f277:=func218.trans (congrArg some (by kernel_rfl))
 t0:=underlying0
 a0:=isAgg0
 z0:=sizeOf0
 v0:=zeroValue0
 t3:=underlying3
 a3:=isAgg3
 z3:=sizeOf3
 v3:=zeroValue3
 t4:=underlying4
 a4:=isAgg4
 z4:=sizeOf4
 v4:=zeroValue4
 t9:=underlying9
 a9:=isAgg9
 z9:=sizeOf9
 v9:=zeroValue9
 t20:=underlying20
 a20:=isAgg20
 z20:=sizeOf20
 v20:=zeroValue20
 t31:=underlying22
 a31:=isAgg22
 z31:=sizeOf22
 v31:=zeroValue22
 t37:=underlying103
 a37:=isAgg103
 z37:=sizeOf103
 v37:=zeroValue103
 t70:=underlying184
 a70:=isAgg184
 z70:=sizeOf184
 v70:=zeroValue184
 t72:=underlying186
 a72:=isAgg186
 z72:=sizeOf186
 v72:=zeroValue186
 t75:=underlying30
 a75:=isAgg30
 z75:=sizeOf30
 v75:=zeroValue30
 t76:=underlying31
 a76:=isAgg31
 z76:=sizeOf31
 v76:=zeroValue31
 t127:=underlying268
 a127:=isAgg268
 z127:=sizeOf268
 v127:=zeroValue268
 t164:=underlying315
 a164:=isAgg315
 z164:=sizeOf315
 v164:=zeroValue315}
theorem Tryz.Im:Builder.Extra prog Tryz.Sk:={
 sizeBuilder:=by kernel_rfl
 liesBuilder:=by kernel_rfl
 t5:=underlying5
 a5:=isAgg5
 z5:=sizeOf5
 v5:=zeroValue5
 infoByte:=by kernel_rfl
 cellsByte:=by kernel_rfl
 sizeByte:=by kernel_rfl
 neB5:=by decide}
def Tryz.Sl:Go.Shelf.Ren:=⟨fun | 169=>88 | n=>n,fun | 70=>184 | 9=>9 | 0=>0 | 72=>186 | 37=>103 | 127=>268 | 3=>3 | 5=>5 | n=>n,fun | n=>n⟩
theorem Tryz.AlE:Go.Proofs.Lays.n169 prog Tryz.Sl:={
 mixed:=by kernel_rfl
 f169:=func88.trans (congrArg some (by kernel_rfl))
 t0:=underlying0
 a0:=isAgg0
 z0:=sizeOf0
 v0:=zeroValue0
 t3:=underlying3
 a3:=isAgg3
 z3:=sizeOf3
 v3:=zeroValue3
 t9:=underlying9
 a9:=isAgg9
 z9:=sizeOf9
 v9:=zeroValue9
 t37:=underlying103
 a37:=isAgg103
 z37:=sizeOf103
 v37:=zeroValue103
 t70:=underlying184
 a70:=isAgg184
 z70:=sizeOf184
 v70:=zeroValue184
 t72:=underlying186
 a72:=isAgg186
 z72:=sizeOf186
 v72:=zeroValue186
 t127:=underlying268
 a127:=isAgg268
 z127:=sizeOf268
 v127:=zeroValue268}
theorem Tryz.Qd:Builder.Extra prog Tryz.Sl:={
 sizeBuilder:=by kernel_rfl
 liesBuilder:=by kernel_rfl
 t5:=underlying5
 a5:=isAgg5
 z5:=sizeOf5
 v5:=zeroValue5
 infoByte:=by kernel_rfl
 cellsByte:=by kernel_rfl
 sizeByte:=by kernel_rfl
 neB5:=by decide}
def NQ (e:Nat):ByteArray:=if e=0 then ⟨#[111,107,10]⟩ else (⟨#[101,114,114,111,114,32]⟩:ByteArray)++⟨(Lib.decDigits e).toArray⟩++⟨#[10]⟩
theorem AcS(i:Nat)(hi:i<100)(w:World):Calls prog 11 #[int i64 i] w fun e w'=>e=.returned (.string ⟨(Lib.decDigits i).toArray⟩)/\w'=w:=Any.strconv_Itoa_small {Tryz.ZU with} i hi w
theorem Acp:∀x:Fin 100,(Lib.decDigits x.val).length<=2:=by decide+kernel
theorem Z9(x:Nat)(b:x<100)(w:World):Calls prog 16 #[int i64 (x:Int)] w fun e w'=>e=.returned (.string (NQ x))/\w'=w:=by
 by_cases a:x=0
 ·subst a;go_enter func16,ntmps16
  go_wp2_with fail;go_ret;exact⟨rfl,rfl⟩
 ·have c:=hid (AcS x b w);have f:=hid (show NQ x=_ from Aa a);have i:((x:Int)==0)=false:=by simpa using a
  have h:(⟨(Lib.decDigits x).toArray⟩:ByteArray).size<=2:=by show(Lib.decDigits x).toArray.size<=2;rw[A8];exact Acp ⟨x,b⟩
  generalize (⟨(Lib.decDigits x).toArray⟩:ByteArray)=d at*;go_enter func16,ntmps16
  go_wp2_with(go_at_call 11;refine c.out.mono ?_;rintro e w1 ⟨rfl,rfl⟩);go_ret;rw[f.out];exact⟨rfl,rfl⟩
theorem Wd.below(h:Wd w)(a:Below w.heap.size w w')(hg:Oe<=w.heap.size):Wd w':=h.kept fun x b=>a.block x (by omega)
theorem RZ(w:World)(k:Nat)(os:Array Obj):Below w.heap.size w (Sort.grow (w.drewN k) os):=
 ⟨rfl,rfl,rfl,by first | (simp[Sort.grow];done) | (simp[Sort.grow];omega),fun i hi=>by
  show((w.drewN k).heap++os)[i]?=_;rw[Array.getElem?_append_left (by show i<w.heap.size;omega)]
  rfl⟩
def VF (s:ByteArray):Option Int:=match Lib.atoiAll s.data.toList with
 | .ok v=>some v
 | _=>none
theorem Aio(s:ByteArray)(w:World)(ht:Tb w)(j:s.size<=100000):Calls prog 9 #[.string s] w fun e w'=>∃(v:Int) (E:Value),e=.returned (.tuple #[int i64 v,E])/\Gb v/\((E=.nilIface/\VF s=some v)\/(VF s=none/\∃te pe,E=.iface te (pointer (some pe))))/\Below w.heap.size w w':=by
 obtain⟨t1,d,c1⟩:=ht.wd.es;obtain⟨i,f,c2⟩:=ht.wd.er;unfold VF
 rcases h:Lib.atoiAll s.data.toList with v | _ | _
 ·obtain⟨b1,c⟩:=Lib.atoiAll_bounds h;refine(Any.strconv_Atoi_ok Tryz.TR s (by omega) v h w).mono ?_;rintro e w' ⟨rfl,b⟩;refine⟨v,.nilIface,rfl,⟨by omega,by omega⟩,.inl ⟨rfl,rfl⟩,?_⟩
  rcases b with rfl | ⟨t,rfl⟩
  ·exact Ad _ _
  ·exact _root_.Go.Joins.below_bytesWorld _ _ _ _ (Ac _)
 ·refine(Any.strconv_Atoi_syntax_var Tryz.TR s (by omega) h t1 d w c1).mono ?_;rintro e w' ⟨N,rfl, -, -,a⟩;exact⟨0,_,rfl,⟨by omega,by omega⟩,.inr ⟨rfl,_,_,rfl⟩,a⟩
 ·obtain⟨b1,c⟩:=Lib.atoiSat_bounds s.data.toList;refine(Any.strconv_Atoi_range_var Tryz.TR s (by omega) h i f w c2).mono ?_;rintro e w' ⟨N,rfl, -, -,a⟩;exact⟨_,_,rfl,⟨by omega,by omega⟩,.inr ⟨rfl,_,_,rfl⟩,a⟩
theorem TN(v:Int)(w:World)(a:Gb v)(ht:Lib.TabIs prog w "internal/strconv.uint64pow10" .u64 Lib.pow10Tab):Calls prog 11 #[int i64 v] w fun e w'=>e=.returned (.string ⟨(Lib.itoa v).toArray⟩)/\Below w.heap.size w w':=by
 obtain⟨b,c⟩:=a;refine(Any.strconv_Itoa Tryz.ZU v (by omega) (by omega) w ht).mono ?_;rintro e w' ⟨rfl,k,os,rfl⟩;exact⟨rfl,RZ _ _ _⟩
def Om (s:ByteArray):Option Nat:=if 9<s.size then none else match VF s with
 | some v=>if 0<=v/\(⟨(Lib.itoa v).toArray⟩:ByteArray)=s then some v.toNat else none
 | none=>none
theorem QR(s:ByteArray)(w:World)(ht:Tb w)(F:s.size<=1000000000):Calls prog 27 #[.string s] w fun e w'=>∃v:Int,e=.returned (.tuple #[int i64 v,.bool (Om s).isSome])/\Gb v/\(∀k,Om s=some k->v=(k:Int))/\Below w.heap.size w w':=by
 by_cases z:9<s.size
 ·have e:Om s=none:=Ab z;have t:(9:Int)<(s.size:Int):=by omega
  rw[e];go_enter func27,ntmps27
  go_wp2_with fail
  go_ret2;exact⟨0,rfl,⟨by omega,by omega⟩,by simp,Ad _ _⟩
 ·have t:¬(9:Int)<(s.size:Int):=by omega
  have p:=hid (Aio s w ht (by omega));have n:=hid ht
  have a:Hid (Om s=match VF s with
   | some v=>if 0<=v/\(⟨(Lib.itoa v).toArray⟩:ByteArray)=s then some v.toNat else none
   | none=>none):=Aa z
  go_enter func27,ntmps27;go_upto_region 4 with(go_at_call 9;refine p.out.mono ?_;rintro e w1 ⟨v,E,rfl,j,B,h⟩)
  rcases B with⟨rfl,i⟩ | ⟨i,H,G,rfl⟩
  ·rw[i]at a;have o:=hid j;have m:=hid h
   by_cases y:0<=v
   ·have r:=hid (TN v w1 j (n.out.wd.below h n.out.lt).tab);obtain⟨d,u⟩:=E7 ((⟨(Lib.itoa v).toArray⟩:ByteArray));have a:Hid (Om s=if 0<=v/\(⟨(Lib.itoa v).toArray⟩:ByteArray)=s then some v.toNat else none):=a;rw[<-u]at r a;clear u;clear h j p n i
    by_cases hd:d=s
    ·subst hd;have c:=hid (a.out.trans (Ab ⟨y,rfl⟩))
     go_wp2_with(go_at_call 11;refine r.out.mono ?_;rintro e w2 ⟨rfl,f⟩)
     go_ret2;refine⟨v,?_,o.out,fun k b=>?_,Fr m.out f⟩
     ·rw[c.out];simp
     ·rw[c.out]at b
      grind
    ·have c:=hid (a.out.trans (Aa fun q=>hd q.2));have C:=O9 hd
     go_wp2_with(go_at_call 11;refine r.out.mono ?_;rintro e w2 ⟨rfl,f⟩)
     go_ret2;refine⟨v,?_,o.out,fun k b=>?_,Fr m.out f⟩
     ·rw[c.out];rfl
     ·rw[c.out]at b
      cases b
   ·have c:=hid (a.out.trans (Aa fun q=>y q.1));clear h j p n i
    go_wp2_with fail
    go_ret2;refine⟨v,?_,o.out,fun k b=>?_,m.out⟩
    ·rw[c.out];rfl
    ·rw[c.out]at b
     cases b
  ·rw[i]at a;have o:=hid j;have m:=hid h;clear h j p n i
   go_wp2_with fail
   go_ret2;refine⟨v,?_,o.out,fun k b=>?_,m.out⟩
   ·rw[a.out];rfl
   ·rw[a.out]at b
    cases b
theorem Tb.below(h:Tb w)(a:Below w.heap.size w w'):Tb w':=h.kept (S:=[]) (Kept.E5 a) (by simp)
def Tt (s:ByteArray):ByteArray:=⟨(Lib.cut s.data.toList [32]).1.toArray⟩
def Mn (s:ByteArray):ByteArray:=⟨(Lib.cut s.data.toList [32]).2.1.toArray⟩
def Aln (s:ByteArray):Bool:=(Lib.cut s.data.toList [32]).2.2
theorem below_drewN(w:World):∀n,Below w.heap.size w (w.drewN n):=fun n=>by
 have h:=RZ w n #[];have e:Sort.grow (w.drewN n) #[]=w.drewN n:=by unfold Sort.grow;simp;rfl
 rwa [e]at h
theorem Aez(s:ByteArray)(w:World)(ht:Tb w)(b:s.size<=4000000000):Calls prog 26 #[.string s,.string ⟨#[32]⟩] w fun e w'=>e=.returned (.tuple #[.string (Tt s),.string (Mn s),.bool (Aln s)])/\Below w.heap.size w w':=by
 obtain⟨m,a⟩:=ht.wd.mx;refine(Any.strings_Cut Tryz.AlD s ⟨#[32]⟩ m w (by omega) a).mono ?_;rintro e w' ⟨rfl,n,rfl⟩;exact⟨rfl,below_drewN w n⟩
def Tm:ByteArray:=⟨#[99,108,101,97,114]⟩
def Z3:ByteArray:=⟨#[108,111,115,116]⟩
def Zu:ByteArray:=⟨#[100,101,97,102]⟩
def Oy:ByteArray:=⟨#[114,111,117,103,104,32]⟩
def Ns (s:ByteArray):ByteArray:=⟨(Lib.trimPrefix s.data.toList Oy.data.toList).toArray⟩
def PD (s:ByteArray):Option AirM:=if s=Tm then some ⟨false,false,0⟩ else if s=Z3 then some ⟨true,false,0⟩ else if s=Zu then some ⟨false,true,0⟩ else if Lib.hasPrefix s.data.toList Oy.data.toList=true then (Om (Ns s)).map fun k=>⟨false,false,k⟩ else none
theorem AjQ(s:ByteArray)(w:World)(ht:Tb w)(N:(Ns s).size<=1000000000):Calls prog 28 #[.string s] w fun e w'=>∃(l d:Bool) (r:Int),e=.returned (.tuple #[.agg #[.bool l,.bool d,int i64 r],.bool (PD s).isSome])/\Gb r/\(∀a,PD s=some a->l=a.lost/\d=a.deaf/\r=(a.rough:Int))/\Below w.heap.size w w':=by
 by_cases u:s=Tm
 ·subst u;have e1:PD Tm=some ⟨false,false,0⟩:=by unfold PD;rw[Ab rfl]
  rw[e1];unfold Tm;clear e1;go_enter func28,ntmps28
  go_wp2_with fail
  (try simp only[Exit.inBlock,Exit.then])
  refine Ah (v:=.tuple #[.agg #[.bool false,.bool false,int i64 0],.bool true]) ?_ rfl ⟨false,false,0,rfl,⟨by omega,by omega⟩,fun a c=>by cases c;exact⟨rfl,rfl,rfl⟩,(Ad _ w).alloc (Ac _) _⟩;rw[AD rfl]
  go_simp
 ·by_cases y:s=Z3
  ·subst y;have e1:PD Z3=some ⟨true,false,0⟩:=by unfold PD;rw[Aa (by decide),Ab rfl]
   rw[e1];unfold Z3;clear e1;go_enter func28,ntmps28
   go_wp2_with fail
   (try simp only[Exit.inBlock,Exit.then])
   refine Ah (v:=.tuple #[.agg #[.bool true,.bool false,int i64 0],.bool true]) ?_ rfl ⟨true,false,0,rfl,⟨by omega,by omega⟩,fun a c=>by cases c;exact⟨rfl,rfl,rfl⟩,(Ad _ w).alloc (Ac _) _⟩;rw[AD rfl]
   go_simp
  ·by_cases z:s=Zu
   ·subst z;have e1:PD Zu=some ⟨false,true,0⟩:=by unfold PD;grind
    rw[e1];unfold Zu;clear e1;go_enter func28,ntmps28
    go_wp2_with fail
    (try simp only[Exit.inBlock,Exit.then])
    refine Ah (v:=.tuple #[.agg #[.bool false,.bool true,int i64 0],.bool true]) ?_ rfl ⟨false,true,0,rfl,⟨by omega,by omega⟩,fun a c=>by cases c;exact⟨rfl,rfl,rfl⟩,(Ad _ w).alloc (Ac _) _⟩;rw[AD rfl]
    go_simp
   ·have n1:(s.toList==[99,108,101,97,114])=false:=by have:=O9 u;rwa [show Tm.toList=[99,108,101,97,114]by decide+kernel]at this
    have n2:(s.toList==[108,111,115,116])=false:=by have:=O9 y;rwa [show Z3.toList=[108,111,115,116]by decide+kernel]at this
    have P:(s.toList==[100,101,97,102])=false:=by have:=O9 z;rwa [show Zu.toList=[100,101,97,102]by decide+kernel]at this
    have F:=hid (fun p=>Any.strings_CutPrefix Tryz.AlC s Oy p);have f:Below w.heap.size w (w.alloc (.cells #[.bool false,.bool false,int i64 0] 49)):=(Ad _ w).alloc (Ac _) _;have H:=hid (QR (Ns s) _ (ht.below f) N);have o:Hid (PD s=if Lib.hasPrefix s.data.toList Oy.data.toList=true then (Om (Ns s)).map fun k=>⟨false,false,k⟩ else none):=by
     show(if _ then _ else _)=_;rw[Aa u,Aa y,Aa z]
    have i:Hid (∀p,Calls prog 52 #[.string s,.string ⟨#[114,111,117,103,104,32]⟩] p fun e w'=>e=.returned (.tuple #[.string (Ns s),.bool (Lib.hasPrefix s.data.toList Oy.data.toList)])/\w'=p):=F.out;generalize Lib.hasPrefix s.data.toList Oy.data.toList=M at*;generalize Ns s=n at*;have B:=hid (Fc w 49 [.bool false,.bool false,int i64 0]);have C:=hid f;clear F f;go_enter func28,ntmps28;go_upto_region 10 with(first | (go_at_call 52;refine(i.out _).mono ?_;rintro e w1 ⟨rfl,rfl⟩) | (go_at_call 27;refine H.out.mono ?_;rintro e w2 ⟨v,rfl,J,m,h⟩))
    have b:=B.out.kept (S:=[]) (Kept.E5 h) (by simp);have U:w2.cell? ⟨w.heap.size,0,none⟩=some (.bool false):=b.cell 0;have V:w2.cell? ⟨w.heap.size,1,none⟩=some (.bool false):=b.cell 1;have W:w2.cell? ⟨w.heap.size,2,none⟩=some (int i64 0):=b.cell 2;have Q:=b.free 0;have R:=b.free 1;have T:=b.free 2;have G:=hid (show Below w.heap.size w (((w2.setCell ⟨w.heap.size,0,none⟩ (.bool false)).setCell ⟨w.heap.size,1,none⟩ (.bool false)).setCell ⟨w.heap.size,2,none⟩ (int i64 v))from(((Fr C.out h).setCell (Ac _) _).setCell (Ac _) _).setCell (Ac _) _);have I:=hid J;have t:=hid m;clear h J m b B C H i n1 n2 P
    cases M with
    | false=>
     have j:=hid (show PD s=none from o.out);clear o
     go_wp2_with fail
     (try simp only[Exit.inBlock,Exit.then])
     refine Ah (v:=.tuple #[.agg #[.bool false,.bool false,int i64 v],.bool false]) ?_ rfl ⟨false,false,v,by rw[j.out];rfl,I.out,fun a c=>by(rw[j.out]at c;cases c),G.out⟩;rw[AD rfl]
     go_simp
    | true=>
     have j:=hid (show PD s=(Om n).map fun k=>⟨false,false,k⟩from o.out);clear o
     go_wp2_with fail
     (try simp only[Exit.inBlock,Exit.then])
     refine Ah (v:=.tuple #[.agg #[.bool false,.bool false,int i64 v],.bool (Om n).isSome]) ?_ rfl ⟨false,false,v,by rw[j.out,DJ],I.out,fun a c=>?_,G.out⟩
     ·rw[AD rfl]
      go_simp
     ·rw[j.out]at c;obtain⟨k,K,rfl⟩:=Option.map_eq_some_iff.1 c;exact⟨rfl,rfl,t.out k K⟩
structure TSt where
 last:Nat
 opn:Bool
 cr:Nat->Int
structure TSt.Ok(t:TSt):Prop where
 last:t.last<=16
 opn:t.opn=true->1<=t.last
 cr:∀a,0<=t.cr a
 low:∀a,t.cr a<10000\/(t.opn=true/\a=t.last/\t.cr a<20000)
def TSt.new:TSt:=⟨0,false,fun _=>0⟩
theorem TSt.XX:TSt.new.Ok:=⟨Af _,fun h=>(by cases h),fun _=>Ci _,fun _=> .inl (show(0:Int)<10000 by omega)⟩
def TSt.s0(t:TSt)(l:List UsM):SlM:=UO l t.last t.opn t.cr
def SB (l:List UsM)(E4:Int):Bool:=decide (0<=E4/\E4<=100) && (List.range l.length).all fun i=>(l.getD i .zero).ok (YU l i)
theorem MW:SB l E4=true↔Mx l E4:=by grind [SB,Mx,OkU,Aag]
def TSt.run(t:TSt)(q:Int)(l:List UsM)(E4:Int):SlM:=J3 q (byF UsM.fit l) E4.toNat (t.s0 l)
def TSt.next(t:TSt)(q:Int)(l:List UsM)(E4:Int):TSt:=if SB l E4=true then ⟨(t.run q l E4).last,(t.run q l E4).opn,(t.run q l E4).cr⟩ else t
def TSt.J7(t:TSt)(q:Int)(l:List UsM)(E4:Int):List Int:=if SB l E4=true then MJ (t.run q l E4).out E4.toNat else []
def S0 (l:List UsM)(E4:Int):Int:=if SB l E4=true then 0 else 1
theorem TSt.Ok.s0{t:TSt}(h:t.Ok)(b:OkU l)(E4:Nat):(t.s0 l).Ok E4:=⟨h.last,h.opn,h.cr,fun a=>(Ab7 b a).1,Af _⟩
theorem TSt.Ok.run{t:TSt}(h:t.Ok)(b:1<=q/\q<=10000)(c:Mx l E4):CrB (t.run q l E4)/\(t.run q l E4).Ok E4.toNat:=by
 have d:=h.s0 c.2 E4.toNat;have hF:FitOk (byF UsM.fit l) (t.s0 l).bw:=Anc c.2 (Only.SF l);have:=Abq (E4:=E4.toNat) (fits:=byF UsM.fit l) b.1 CrB (fun s a e hi _ _=>hi.Afa ⟨by omega,b.2⟩ a e) _ (t.s0 l) (Ac _) d hF h.low;exact⟨this.1,this.2.1⟩
theorem TSt.Ok.next{t:TSt}(h:t.Ok){q:Int}(d:1<=q/\q<=10000)(l:List UsM)(E4:Int):(t.next q l E4).Ok:=by
 unfold TSt.next
 by_cases b:SB l E4=true
 ·rw[Ab b];obtain⟨c,a⟩:=h.run d (MW.1 b);exact⟨a.last,a.opn,a.cr,c⟩
 ·rw[Aa b];exact h
theorem Akf{t:TSt}(h:t.Ok)(c:1<=q/\q<=10000):(t.J7 q l E4).length<=100:=by
 unfold TSt.J7
 by_cases a:SB l E4=true
 ·rw[Ab a];have b:=MW.1 a;rw[Na (h.run c b).2.out];have:=b.1;omega
 ·rw[Aa a];simp
theorem Ag8(t:TSt)(l:List UsM)(E4 q:Int)(j c r:Nat)(a:Option Addr)(w:World)(ht:t.Ok)(n:1<=q/\q<=10000)(p:Usr w a l)(f:l.length=j)(z:j<=maxLen)(o:PTurn w r q t.last t.opn t.cr):
 Calls prog 29 #[pointer (some ⟨r,0,none⟩),.slice a j c,int i64 E4] w fun e w'=>∃v,e=.returned (.tuple #[v,int i64 (S0 l E4)])/\OwnI w' w.heap.size v (t.J7 q l E4)/\PTurn w' r q (t.next q l E4).last (t.next q l E4).opn (t.next q l E4).cr/\Kept [r] w w':=by
 by_cases b:SB l E4=true
 ·have i:=MW.1 b;obtain⟨k,rfl⟩:∃k:Nat,E4=(k:Int):=⟨E4.toNat,by have:=i.1;omega⟩;have e1:t.next q l k=⟨(t.run q l k).last,(t.run q l k).opn,(t.run q l k).cr⟩:=Ab b
  have e2:t.J7 q l k=MJ (t.run q l k).out k:=Ab b;have e3:S0 l k=0:=Ab b;have d:=(ht.run n i).2.out;rw[e1,e2,e3];refine(Ads l k j c r t.last t.opn t.cr q a w (by have:=i.1;omega) p f i.2 o n.1 n.2 ht.cr ht.low ht.last ht.opn).mono ?_;rintro e w' ⟨B,rfl,m,s,u,y⟩;refine⟨_,rfl,Aas m u ?_ (by have:=i.1;unfold maxLen;omega),s,y⟩;exact Na d
 ·have e1:t.next q l E4=t:=Aa b
  have e2:t.J7 q l E4=[]:=Aa b;have e3:S0 l E4=1:=Aa b;rw[e1,e2,e3];refine(Ag9 l E4 j c a _ w p f z (fun h=>b (MW.2 h))).mono ?_;rintro e w' ⟨rfl,m⟩;exact⟨_,rfl,OwnI.nil _ _,FunAt.below o m,Kept.E5 m⟩
structure NtM where
 us:Nat->Option UsrM
 t:NetM
structure NtP where
 q:NetP
 P:Nat->UsrP
def P7 {A:Type}(f:Nat->A)(k:Nat)(x:A):Nat->A:=fun j=>if j=k then x else f j
theorem I0(f:Nat->A)(k:Nat)(x:A):P7 f k x k=x:=Ab rfl
theorem Hx(f:Nat->A){j:Nat}(x:A)(h:j≠k):P7 f k x j=f j:=Aa h
def NtM.put(m:NtM)(k:Nat)(s:UsrM×NetM):NtM:=⟨P7 m.us k (some s.1),s.2⟩
def NtP.put(p:NtP)(k:Nat)(x:UsrP):NtP:=⟨p.q,P7 p.P k x⟩
def MP (p:NtP)(m:NtM)(k:Nat):Option Addr:=match m.us k with
 | some _=>some ⟨(p.P k).b,0,none⟩
 | none=>none
def usG (p:NtP)(m:NtM)(k:Nat):Nat->Option Cm:=match m.us k with
 | some u=>usO (p.P k) u
 | none=>fun _=>none
def Hn (E:Nat->Nat->Option Cm)(p:NtP)(m:NtM):Nat->Nat->Option Cm:=fun g=>if g=0 then FK p.q m.t else if g<=16 then usG p m g else E g
structure NtAt(w0:World)(S:List Nat)(w:World)(E:Nat->Nat->Option Cm)(p:NtP)(m:NtM):Prop where
 hg:Hg w0 S w (Hn E p m)
 us:p.q.us=(List.range 17).map fun k=> pointer (MP p m k)
 e1:E 100=fun _=>none
 e2:E 101=fun _=>none
 e3:E 102=fun _=>none
theorem Ajr(E:Nat->Nat->Option Cm)(p:NtP)(m:NtM):setG (Hn E p m) 0 (FK p.q m.t)=Hn E p m:=Ig (Hn E p m) 0
theorem Rw{p:NtP}{m:NtM}{u:UsrM}(b:m.us k=some u)(a:1<=k/\k<=16):setG (setG (Hn E p m) 0 (FK p.q m.t)) k (usO (p.P k) u)=Hn E p m:=by grind [setG,Hn,FK,usO,usG]
theorem T6(E:Nat->Nat->Option Cm)(p:NtP)(m:NtM)(h:16<g)(O:Nat->Option Cm):setG (Hn E p m) g O=Hn (setG E g O) p m:=by grind [setG,Hn]
theorem Ajs(E:Nat->Nat->Option Cm)(p:NtP)(m:NtM)(a:1<=k/\k<=16)(x:UsrP)(s:UsrM×NetM):setG (setG (Hn E p m) 0 (FK p.q s.2)) k (usO x s.1)=Hn E (p.put k x) (m.put k s):=funext fun j=>by
 unfold setG Hn usG NtM.put NtP.put
 grind [I0,Hx]
theorem NtAt.J5{p:NtP}{m:NtM}{u:UsrM}(h:NtAt w0 S w E p m)(b:m.us k=some u)(a:1<=k/\k<=16):Hg w0 S w (setG (setG (Hn E p m) 0 (FK p.q m.t)) k (usO (p.P k) u)):=by
 rw[Rw b a];exact h.hg
theorem NtAt.net{p:NtP}{m:NtM}(h:NtAt w0 S w E p m):Hg w0 S w (setG (Hn E p m) 0 (FK p.q m.t)):=by
 rw[Ajr];exact h.hg
theorem AaJ{p:NtP}{m:NtM}{u:UsrM}(a:m.us k=some u)(c:x.b=(p.P k).b)(s:UsrM×NetM)(j:Nat):MP (p.put k x) (m.put k s) j=MP p m j:=by
 unfold MP NtM.put NtP.put
 grind [I0,Hx]
theorem NtAt.put{p:NtP}{m:NtM}{u:UsrM}(h:NtAt w0 S w E p m)(d:m.us k=some u)(c:1<=k/\k<=16){s:UsrM×NetM}(e:x.b=(p.P k).b)(a:Hg w0 S w' (setG (setG (Hn E p m) 0 (FK p.q s.2)) k (usO x s.1))):NtAt w0 S w' E (p.put k x) (m.put k s):=by
 rw[Ajs E p m c]at a;refine⟨a,?_,h.e1,h.e2,h.e3⟩;rw[funext (fun j=>congrArg pointer (AaJ d e s j))];exact h.us
theorem NtAt.below{w0 w w':World}{S:List Nat}{E:Nat->Nat->Option Cm}{p:NtP}{m:NtM}(h:NtAt w0 S w E p m)(a:Below w.heap.size w w'):NtAt w0 S w' E p m:=⟨h.hg.below a,h.us,h.e1,h.e2,h.e3⟩
theorem NtAt.at{p:NtP}{m:NtM}(h:NtAt w0 S w E p m)(a:k<17):p.q.us[k]?=some (pointer (MP p m k)):=by
 rw[h.us,A9,Ch a];rfl
theorem O5{p:NtP}{m:NtM}{u:UsrM}(h:m.us k=some u):MP p m k=some ⟨(p.P k).b,0,none⟩:=by unfold MP;rw[h]
theorem MQ{p:NtP}{m:NtM}(h:m.us k=none):MP p m k=none:=by unfold MP;rw[h]
structure UInv(L k:Nat)(u:UsrM):Prop where
 who:u.who=k
 key:u.key<=16001+7*L
 rough:u.air.rough<=9223372036854775807
 ear:∀x,u.ear=some x->EarOk u.who x.sums
 ok:UOk u
 inn:InOk u.rcv
 nxt:u.sl.nxt<=L
 sent:u.sent<=L
 grN:u.grN<=L
 tld:∀d∈u.told,d.size<=500
structure NFix(s s':UsrM×NetM):Prop where
 n:s'.2.n+s.1.told.length=s.2.n+s'.1.told.length
 per:s'.2.co.per=s.2.co.per
 unit:s'.2.co.unit=s.2.co.unit
 tu:s'.2.last=s.2.last/\s'.2.opn=s.2.opn/\s'.2.cr=s.2.cr
structure TFix(s s':UsrM×NetM):Prop where
 ear:s'.1.ear=s.1.ear
 rcv:s'.1.rcv=s.1.rcv
 grN:s'.1.grN<=s.1.grN
 per:s'.2.co.per=s.2.co.per
 unit:s'.2.co.unit=s.2.co.unit
 tu:s'.2.last=s.2.last/\s'.2.opn=s.2.opn/\s'.2.cr=s.2.cr
theorem TFix.refl(s:UsrM×NetM):TFix s s:=⟨rfl,rfl,Ac _,rfl,rfl,rfl,rfl,rfl⟩
theorem TFix.trans{a b c:UsrM×NetM}(h:TFix a b)(k:TFix b c):TFix a c:=⟨k.ear.trans h.ear,k.rcv.trans h.rcv,Ak k.grN h.grN,k.per.trans h.per,k.unit.trans h.unit,k.tu.1.trans h.tu.1,k.tu.2.1.trans h.tu.2.1,k.tu.2.2.trans h.tu.2.2⟩
theorem Uv(m:CoM)(g t b:Int)(f:Bool):(m.Fx g t b f).m.per=m.per/\(m.Fx g t b f).m.unit=m.unit:=by
 unfold CoM.Fx
 split<;>exact⟨rfl,rfl⟩
theorem AhK(s:UsrM×NetM)(d:ByteArray):TFix s (Jk s d):=by
 obtain⟨a,b⟩:=Uv s.2.co (grI s.1.gr (s.1.told.length:Int)) 1 (d.size:Int) true;exact⟨rfl,rfl,Nat.sub_le _ _,a,b,rfl,rfl,rfl⟩
theorem Ae7:∀(l:List ByteArray) (s:UsrM×NetM),TFix s (JL s l)
 | [],_=> .refl _
 | d::l,s=>(AhK s d).trans (Ae7 l (Jk s d))
theorem AnB(s:UsrM×NetM)(t:ByteArray):TFix s (PU s t):=by
 unfold PU
 split
 ·have h:=Ae7 (s.1.op.out (LR t).1) ({s.1 with op:=s.1.op.take (LR t).1},s.2);exact⟨h.ear,h.rcv,h.grN,h.per,h.unit,h.tu⟩
 ·exact .refl _
theorem AjF:∀(l:List ByteArray) (s:UsrM×NetM),TFix s (Ry s l)
 | [],_=> .refl _
 | d::l,s=>(AnB s d).trans (AjF l (PU s d))
theorem Ad4:∀(l:List ByteArray) (s:UsrM×NetM),(JL s l).1.told=s.1.told++l:=by intro a;induction a<;>grind [JL,Jk]
theorem AjH{s:UsrM×NetM}(h:UOk s.1)(ht:∀d∈s.1.told,d.size<=500)(t:ByteArray):∀d∈(PU s t).1.told,d.size<=500:=by
 unfold PU
 split
 ·rw[Ad4];intro d hd
  rcases BH.1 hd with q | q
  ·exact ht d q
  ·obtain⟨j,a,rfl⟩:=A5 q;have:=h.op.out (LR t).1 j
   grind
 ·exact ht
theorem Aao:∀(l:List ByteArray) {s:UsrM×NetM},UOk s.1->(∀d∈s.1.told,d.size<=500)->∀d∈(Ry s l).1.told,d.size<=500
 | [],_,_,ht=>ht
 | d::l,_,h,ht=>Aao l (X6 h d).ok (AjH h ht d)
theorem NFix.refl(s:UsrM×NetM):NFix s s:=⟨rfl,rfl,rfl,rfl,rfl,rfl⟩
theorem Amz{s:UsrM×NetM}(h:UInv L k s.1)(b:ByteArray):UInv L k (Vu s b).1/\NFix s (Vu s b):=by
 have a:=AbG s b;unfold Vu at a |-
 split
 ·next hp=>
  rw[Ab hp]at a;have c:=AjF (s.1.rcv.take (Hr b).1).out ({s.1 with rcv:=(s.1.rcv.take (Hr b).1).m},s.2);have d:=X5 (s.1.rcv.take (Hr b).1).out (s:=({s.1 with rcv:=(s.1.rcv.take (Hr b).1).m},s.2)) ⟨h.ok.len,h.ok.gr,h.ok.op⟩;have e:=(h.inn.take (Hr b).1).1;have f:=Aao (s.1.rcv.take (Hr b).1).out (s:=({s.1 with rcv:=(s.1.rcv.take (Hr b).1).m},s.2)) ⟨h.ok.len,h.ok.gr,h.ok.op⟩ h.tld;generalize Ry ({s.1 with rcv:=(s.1.rcv.take (Hr b).1).m},s.2) (s.1.rcv.take (Hr b).1).out=z at*;refine⟨⟨a.who.trans h.who,by rw[a.key];exact h.key,by rw[a.air];exact h.rough,?_,d.ok,?_,by rw[a.sl];exact h.nxt,by rw[a.sent];exact h.sent,Ak c.grN h.grN,f⟩,⟨d.n,c.per,c.unit,c.tu⟩⟩
  ·rw[c.ear,a.who];exact h.ear
  ·rw[c.rcv];exact e
 ·exact⟨h,.refl _⟩
theorem Alm{s:UsrM×NetM}(h:UInv L k s.1)(i:k<=16)(v:Nat)(c:Bool)(d:ByteArray):UInv L k (Vd s v c d).1/\NFix s (Vd s v c d):=by
 have f:=Ae6 (by rw[h.who];exact i) h.ear c
 have e:UInv L k (s.1.tkn v c d,s.2).1:=⟨h.who,h.key,h.rough,fun x j=>by
  obtain rfl:=AX j
  exact⟨by rw[Tx];exact f.len,Xt f.soft⟩,⟨h.ok.len,h.ok.gr,h.ok.op⟩,h.inn,h.nxt,h.sent,h.grN,h.tld⟩
 unfold Vd
 split
 ·obtain⟨a,b⟩:=Amz e (s.1.tk v c d).data;exact⟨a,b.n,b.per,b.unit,b.tu⟩
 ·exact⟨e,rfl,rfl,rfl,rfl,rfl,rfl⟩
theorem AjV{u:UsrM}(h:UInv L k u):UInv L k u.Hj.1:=by
 unfold UsrM.Hj
 split
 ·exact h
 ·split<;>exact⟨h.who,h.key,h.rough,h.ear,⟨h.ok.len,h.ok.gr,h.ok.op⟩,h.inn,h.nxt,h.sent,h.grN,h.tld⟩
theorem Al3{u:UsrM}(a:u.Hj.2≠0):u.Hj.1.blk=u.blk:=by grind [UsrM.Hj]
theorem AmE{s:UsrM×NetM}(h:UInv L k s.1)(z:k<=16)(o:Bk s.1.blk):UInv L k (P8 s).1/\Bk (P8 s).1.blk/\NFix s (P8 s):=by
 have c:=AjV h;have ht:=(AaI s.1).2.2.2.2.1;unfold P8
 split
 ·next e=>
  obtain⟨d,f⟩:=AeV o e;generalize s.1.Hj.1=u at*;obtain⟨p,C,F⟩:=Abm d f;have v:∀y,Bk (u.I5.blk.set 0 (u.I5.blk.GI 0 y)):=fun y=>by
   have m:=SendM.Lf p.len (k:=0) (by omega) (u.I5.blk.GI 0 y);refine⟨p.set (by omega) (NU _ _ _),fun j r t=>?_,?_,fun _=>?_⟩
   ·rw[m,Aa (by omega)]
    show((u.blk.set 0 _).tat j).busy=false;rw[SendM.Lf d.ok.len (by omega),Aa (by omega)];exact d.idle j r t
   ·rw[m,Ab rfl];rfl
   ·rw[m,Ab rfl]
    show((u.blk.set 0 _).tat 0).data.size=20;rw[SendM.Lf d.ok.len (by omega),Ab rfl];exact d.len f
  have i:UInv L k u.I5:=⟨c.who,c.key,c.rough,c.ear,⟨c.ok.len,c.ok.gr,c.ok.op⟩,c.inn,c.nxt,c.sent,c.grN,c.tld⟩;have B:UInv L k (SS (u,s.2)).1/\NFix (u,s.2) (SS (u,s.2)):=by
   unfold SS
   split
   ·exact⟨i,rfl,rfl,rfl,rfl,rfl,rfl⟩
   ·obtain⟨a,b⟩:=Alm (s:=(u.I5,s.2)) i z u.ver (u.blk.tat 0).flag (u.blk.tat 0).data;exact⟨a,b.n,b.per,b.unit,b.tu⟩
  obtain⟨x,y⟩:=B;exact⟨⟨x.who,x.key,x.rough,x.ear,⟨x.ok.len,x.ok.gr,x.ok.op⟩,x.inn,x.nxt,x.sent,x.grN,x.tld⟩,v _,by rw[<-ht];exact y.n,y.per,y.unit,y.tu⟩
 ·next e=>exact⟨c,by rw[Al3 e];exact o,by show _+_=_+_;rw[ht],rfl,rfl,rfl,rfl,rfl⟩
def Afe (l:List Int):Prop:=∀x∈l,0<=x/\x<=16
theorem Abj(fits:Nat->Int)(E4:Nat):∀(f:Nat) (s:SlM),s.last<=16->Afe s.out->Afe (F8 fits E4 f s).out
 | 0,_,_,h=>h
 | f+1,s,hl,h=>by
  unfold F8
  split
  ·split
   ·exact h
   ·refine Abj fits E4 f (s.Ls fits) hl fun x a=>?_
    rcases BH.1 a with q | q
    ·exact h x q
    grind
  ·exact h
theorem AkQ{fits:Nat->Int}{E4:Nat}{s:SlM}(c:s.Ok E4)(h:Afe s.out):Afe (Fu q fits E4 s).out:=by
 have b:=(MG c).2;have hg:(s.Fq.gain q (!s.opn)).last=s.Fq.last/\(s.Fq.gain q (!s.opn)).out=s.out:=by unfold SlM.gain;split<;>exact⟨rfl,rfl⟩
 unfold Fu
 split
 ·have a:=Abj fits E4 (E4+1) (s.Fq.gain q (!s.opn)) (by rw[hg.1];exact b) (by rw[hg.2];exact h);unfold SlM.IG
  split<;>exact a
 ·exact h
theorem Ame{t:TSt}(h:t.Ok)(l:List UsM):Afe (t.J7 1 l 4):=by
 unfold TSt.J7
 split
 ·next hb=>
  have b:=MW.1 hb;obtain⟨c, -, -⟩:=Abq (q:=1) (fits:=byF UsM.fit l) (E4:=4) (by omega) (fun s=>Afe s.out) (fun s b _ hi _ _=>AkQ b hi) _ (t.s0 l) (Ac _) (h.s0 b.2 4) (Anc b.2 (Only.SF l)) (fun x a=>by cases a);intro x a;unfold MJ at a
  rcases BH.1 a with q | q
  ·exact c x q
  grind
 ·intro x a
  cases a
def UsrM.SJ(u:UsrM):Bool:=(u.blk.tat 0).busy || decide (0<u.snd.wait)
def Afb (m:NtM)(k:Nat):List UsM:=match m.us k with
 | some u=>if u.SJ then [⟨k,1,1⟩] else []
 | none=>[]
def waitTo(m:NtM)(j:Nat):List UsM:=(List.range j).flatMap (Afb m)
theorem SI(m:NtM)(j:Nat):waitTo m (j+1)=waitTo m j++Afb m j:=by
 unfold waitTo;rw[Az,Bd,D6]
theorem waitTo_len(m:NtM):∀j,(waitTo m j).length<=j
 | 0=>Ac _
 | j+1=>by
  rw[SI,Ai];have a:=waitTo_len m j;have b:(Afb m j).length<=1:=by
   unfold Afb
   grind
  omega
def NetM.tst(t:NetM):TSt:=⟨t.last,t.opn,t.cr⟩
def NetM.Abp(t:NetM)(l:List UsM):NetM:={t with last:=(t.tst.next 1 l 4).last,opn:=(t.tst.next 1 l 4).opn,cr:=(t.tst.next 1 l 4).cr}
def AmD (m:NtM)(k:Nat):NtM:=match m.us k with
 | some u=>m.put k (P8 (u,m.t))
 | none=>m
def useL (m:NtM)(l:List Int):NtM:=l.foldl (fun m x=>AmD m x.toNat) m
def Al7 (m:NtM)(k:Nat):NtM:=match m.us k with
 | some u=>if u.air.lost then m else m.put k ({u with snd:=(u.snd.take u.rcv.Fx).m},m.t)
 | none=>m
def repTo(m:NtM)(j:Nat):NtM:=(List.range j).foldl Al7 m
def AbD (m:NtM):NtM:=repTo (useL ⟨m.us,m.t.Abp (waitTo m 17)⟩ (m.t.tst.J7 1 (waitTo m 17) 4)) 17
theorem Ah0(m:NtM)(l:List Int)(j:Nat)(h:j<l.length):useL m (l.take (j+1))=AmD (useL m (l.take j)) (l.getD j 0).toNat:=by
 unfold useL;rw[Br,Ap h,Cf,Au,Ap h];rfl
theorem Uu(m:NtM)(j:Nat):repTo m (j+1)=Al7 (repTo m j) j:=by
 unfold repTo;rw[Az,Cf];rfl
def LJ (m:NtM)(k:Nat):Nat:=match m.us k with
 | some u=>u.told.length
 | none=>0
def LM (m:NtM):Nat->Nat
 | 0=>0
 | j+1=>LM m j+LJ m j
theorem WO(m:NtM){k:Nat}{u:UsrM}(a:m.us k=some u)(s:UsrM×NetM):∀j,LM (m.put k s) j+(if k<j then u.told.length else 0)=LM m j+if k<j then s.1.told.length else 0
 | 0=>by simp[LM]
 | j+1=>by
  have b:=WO m a s j
  show LM (m.put k s) j+LJ (m.put k s) j+_=LM m j+LJ m j+_
  by_cases e:j=k
  ·subst e;have e1:LJ (m.put j s) j=s.1.told.length:=by unfold LJ NtM.put;simp only[I0]
   have e2:LJ m j=u.told.length:=by unfold LJ;rw[a]
   grind
  ·have e1:LJ (m.put k s) j=LJ m j:=by unfold LJ NtM.put;simp only[Hx _ _ e]
   grind
structure NInv(L:Nat)(m:NtM):Prop where
 us:∀k u,m.us k=some u->(1<=k/\k<=16)/\UInv L k u/\Bk u.blk
 per:∀k:Nat,m.t.co.per (k:Int)=none↔m.us k=none
 st:∀k pr,m.t.co.per k=some pr->pr.st=1
 unit:m.t.co.unit=100
 n:m.t.n<=4*L+LM m 17
 tu:m.t.tst.Ok
theorem UInv.mono{a:Nat}{u:UsrM}(h:UInv L k u)(b:L<=a):UInv a k u:=⟨h.who,by have:=h.key;omega,h.rough,h.ear,h.ok,h.inn,by have:=h.nxt;omega,by have:=h.sent;omega,by have:=h.grN;omega,h.tld⟩
theorem NInv.mono{L b:Nat}{m:NtM}(h:NInv L m)(c:L<=b):NInv b m:=⟨fun k u a=>⟨(h.us k u a).1,(h.us k u a).2.1.mono c,(h.us k u a).2.2⟩,h.per,h.st,h.unit,by have:=h.n;omega,h.tu⟩
theorem NInv.put{L b k:Nat}{m:NtM}{u:UsrM}{s:UsrM×NetM}(h:NInv L m)(i:L<=b)(c:m.us k=some u)(hi:UInv b k s.1)(v:Bk s.1.blk)(z:s.2.n+u.told.length<=m.t.n+4*(b-L)+s.1.told.length)(o:∀j,s.2.co.per j=none↔m.t.co.per j=none)(p:∀j pr,s.2.co.per j=some pr->pr.st=1)(f:s.2.co.unit=m.t.co.unit)(ht:s.2.tst=m.t.tst):NInv b (m.put k s):=by
 have y:=(h.us k u c).1;refine⟨fun j x a=>?_,fun j=>?_,p,f.trans h.unit,?_,?_⟩
 ·unfold NtM.put at a;dsimp only at a
  by_cases e:j=k
  ·subst e;rw[I0]at a
   grind
  ·rw[Hx _ _ e]at a;exact(h.mono i).us j x a
 ·show s.2.co.per j=none↔P7 m.us k (some s.1) j=none;rw[o]
  by_cases e:j=k
  ·subst e;rw[I0,h.per,c];simp
  ·rw[Hx _ _ e];exact h.per j
 ·have d:=WO m c s 17;rw[Ab (by omega),Ab (by omega)]at d;have r:=h.n
  show s.2.n<=_;omega
 ·show s.2.tst.Ok;rw[ht];exact h.tu
theorem NInv.use{m:NtM}(h:NInv L m):NInv L (AmD m k):=by
 unfold AmD
 split
 ·next u hu=>
  obtain⟨e,hi,d⟩:=h.us k u hu;obtain⟨a,b,c⟩:=AmE (s:=(u,m.t)) hi e.2 d;refine h.put (Ac _) hu a b ?_ (fun j=>by rw[c.per]) (fun j pr=>by rw[c.per];exact h.st j pr) c.unit ?_
  ·have:=c.n;dsimp only at this;omega
  ·unfold NetM.tst;rw[c.tu.1,c.tu.2.1,c.tu.2.2]
 ·exact h
theorem NInv.useL{L:Nat}:∀(l:List Int) {m:NtM},NInv L m->NInv L (useL m l)
 | [],_,h=>h
 | _::l,_,h=>NInv.useL l h.use
theorem NInv.Abp{m:NtM}(h:NInv L m)(l:List UsM):NInv L ⟨m.us,m.t.Abp l⟩:=⟨h.us,h.per,h.st,h.unit,h.n,h.tu.next (by omega) l 4⟩
theorem NInv.rep{m:NtM}(h:NInv L m):NInv L (Al7 m k):=by
 unfold Al7
 split
 ·next u hu=>
  obtain⟨b,hi,a⟩:=h.us k u hu
  split
  ·exact h
  ·exact h.put (Ac _) hu ⟨hi.who,hi.key,hi.rough,hi.ear,⟨hi.ok.len,hi.ok.gr,hi.ok.op⟩,hi.inn,hi.nxt,hi.sent,hi.grN,hi.tld⟩ a (by grind) (fun j=>CI) h.st rfl rfl
 ·exact h
theorem NInv.repTo{L:Nat}{m:NtM}(h:NInv L m):∀j,NInv L (repTo m j)
 | 0=>h
 | j+1=>by rw[Uu];exact(h.repTo j).rep
theorem NInv.Apu{m:NtM}(h:NInv L m):NInv L (AbD m):=((h.Abp _).useL _).repTo 17
theorem NInv.Mw{m:NtM}{u:UsrM}(h:NInv L m)(f:m.us k=some u)(d:ByteArray)(r:m.t.co.loans.length<=1000000000000):NInv (L+1) (m.put k (KH (u,m.t) d).1):=by
 obtain⟨s,hi,i⟩:=h.us k u f;have a:=hi.mono (Bx L);have b:(m.t.co.Ka (u.who:Int)).per=m.t.co.per/\(m.t.co.Ka (u.who:Int)).unit=m.t.co.unit:=by unfold CoM.Ka;split<;>exact⟨rfl,rfl⟩
 unfold KH;dsimp only
 split
 ·exact h.put (Bx _) f a i (by dsimp only;omega) (fun j=>CI) h.st rfl rfl
 ·split
  ·split
   ·have hg:m.t.co.Lu (u.who:Int)<=1000000000001:=by unfold CoM.Lu;split<;>omega
    refine h.put (Bx _) f ⟨a.who,a.key,a.rough,a.ear,⟨a.ok.len,fun j v c=>?_,a.ok.op⟩,a.inn,?_,?_,?_,a.tld⟩ i ?_ (fun j=>by show(m.t.co.Ka _).per j=none↔_;rw[b.1]) (fun j pr=>by show(m.t.co.Ka _).per j=some pr->_;rw[b.1];exact h.st j pr) b.2 rfl
    ·by_cases e:j=(u.sent:Int)
     ·subst e;change J8 u.gr _ _ _=_ at c;rw[Ih]at c;obtain rfl:=AX c;exact⟨_,rfl,by unfold Gb;omega⟩
     ·change J8 u.gr _ _ _=_ at c;rw[Hw _ _ e]at c;exact hi.ok.gr j v c
    ·show u.sl.beg+(u.sl.wait++[d]).length<=_;have:=hi.nxt;unfold SdM.nxt at this;simp;omega
    ·show u.sent+1<=_;have:=hi.sent;omega
    ·show(if _ then u.grN else u.grN+1)<=_;have:=hi.grN
     grind
    ·show m.t.n+1+_<=_+u.told.length;omega
   ·obtain⟨o,p⟩:=Uv (m.t.co.Ka (u.who:Int)) (m.t.co.Lu (u.who:Int):Nat) 1 0 true;refine h.put (Bx _) f a i ?_ (fun j=>by show((m.t.co.Ka (u.who:Int)).Fx (m.t.co.Lu (u.who:Int):Nat) 1 0 true).m.per j=none↔_;rw[o,b.1]) (fun j pr=>by show((m.t.co.Ka (u.who:Int)).Fx (m.t.co.Lu (u.who:Int):Nat) 1 0 true).m.per j=some pr->_;rw[o,b.1];exact h.st j pr) (p.trans b.2) rfl
    show m.t.n+1+1+_<=_+u.told.length;omega
  ·refine h.put (Bx _) f a i ?_ (fun j=>by show(m.t.co.Ka _).per j=none↔_;rw[b.1]) (fun j pr=>by show(m.t.co.Ka _).per j=some pr->_;rw[b.1];exact h.st j pr) b.2 rfl
   show m.t.n+1+_<=_+u.told.length;omega
theorem Aad(L k:Nat)(i:1<=k/\k<=16):UInv L k (UsrM.new k)/\Bk (UsrM.new k).blk:=by
 have b:Bk (SendM.new 4):=by
  have e:∀j,(SendM.new 4).tat j=TryM.zero:=fun j=>by
   grind [SendM.tat,SendM.new]
  exact⟨SendM.XX (by omega) (by omega),fun j _ _=>by rw[e];rfl,by rw[e];rfl,fun h=>by rw[e]at h;cases h⟩
 refine⟨⟨rfl,?_,?_,fun x a=>(by cases a),⟨rfl,fun j v f=>(by cases f),fun j x a=>(by cases a)⟩,fun j n c=>(by cases c),Af _,Af _,Af _,fun d hd=>(by cases hd)⟩,b⟩
 ·show 1000*k+1<=_;omega
 ·exact Af _
theorem AiG(u:UsrM):u.Tp.nxt=u.sl.nxt:=by grind [UsrM.Tp,SdM.cf,SdM.Kv,SdM.nxt,SdM.Mp]
theorem Ajq{u:UsrM}(h:UInv L k u):UInv (L+1) k u.move/\Bk u.move.blk:=by
 have a:=h.mono (Bx L);refine⟨⟨h.who,?_,h.rough,fun x c=>(by cases c),⟨h.ok.len,h.ok.gr,h.ok.op⟩,fun j n b=>(by cases b),?_,a.sent,a.grN,a.tld⟩,(Aad L 1 (by omega)).2⟩
 ·show u.key+7<=_;have:=h.key;omega
 ·show u.Tp.nxt<=_;rw[AiG];exact a.nxt
theorem Zk{m:CoM}{k:Int}{t:PrM->Bool}{cs:List Int}{f:PrM->PrM}(b:∀p,p.st=1->(f p).st=1)(a:∀j pr,m.per j=some pr->pr.st=1):(∀j,(m.move k t cs f).m.per j=none↔m.per j=none)/\(∀j pr,(m.move k t cs f).m.per j=some pr->pr.st=1)/\(m.move k t cs f).m.unit=m.unit:=by
 unfold CoM.move
 split
 ·exact⟨fun j=>CI,a,rfl⟩
 ·next p hp=>
  split
  ·split
   ·refine⟨fun j=>?_,fun j pr c=>?_,rfl⟩
    ·grind [CoM.Nq]
    grind [CoM.Nq]
   ·exact⟨fun j=>CI,a,rfl⟩
  ·exact⟨fun j=>CI,a,rfl⟩
theorem NInv.hand{m:NtM}{u:UsrM}(h:NInv L m)(a:m.us k=some u)(c:Int)(pr:PrM):NInv (L+1) (m.put k (Mc (u,m.t) c pr).1):=by
 obtain⟨r,hi,j⟩:=h.us k u a;obtain⟨b,d,e⟩:=Zk (k:=(u.who:Int)) (t:=tAt (pr.cell:Int)) (cs:=[(pr.cell:Int),c]) (f:=fun p=>⟨p.quota,p.st,c.toNat⟩) (fun p o=>o) h.st;obtain⟨b1,i⟩:=Ajq hi;unfold Mc
 split
 ·exact h.put (Bx _) a b1 i (by show m.t.n+_<=_+u.told.length;omega) b d e rfl
 ·exact h.put (Bx _) a (hi.mono (Bx _)) j (by show m.t.n+_<=_+u.told.length;omega) b d e rfl
theorem QC{m:CoM}{k x:Int}(h:(m.join k x).err=0):(1<=k/\k<=16)/\m.per k=none/\((m.join k x).m.FV k 1).err=0/\((m.join k x).m.FV k 1).m.unit=m.unit/\∀j,((m.join k x).m.FV k 1).m.per j=if j=k then some ⟨x.toNat,1,1⟩ else m.per j:=by
 have b:m.Kx k x=0:=by
  unfold CoM.join at h
  grind
 have a:m.join k x=⟨m.put k ⟨x.toNat,0,0⟩,0⟩:=Ab b;have c:(m.put k ⟨x.toNat,0,0⟩).per k=some ⟨x.toNat,0,0⟩:=Ab rfl;have d:((m.join k x).m.FV k 1)=⟨(m.put k ⟨x.toNat,0,0⟩).put k ⟨x.toNat,1,1⟩,0⟩:=by
  rw[a];unfold CoM.FV CoM.move;dsimp only;rw[c];rfl
 grind [CoM.Kx,CoM.put,CoM.Nq]
def jnM (m:NtM)(k:Nat)(x:Int):NtM×Int:=if (m.t.co.join (k:Int) x).err=0 then (⟨P7 m.us k (some (UsrM.new k)),m.t.with ((m.t.co.join (k:Int) x).m.FV (k:Int) 1).m (m.t.n+1)⟩,0) else (⟨m.us,m.t.with (m.t.co.join (k:Int) x).m (m.t.n+1)⟩,(m.t.co.join (k:Int) x).err)
theorem AhQ{m:NtM}(b:m.us k=none)(t:NetM):∀j,LM ⟨P7 m.us k (some (UsrM.new k)),t⟩ j=LM m j:=by intro a;induction a<;>grind [LM,P7,UsrM.new,LJ]
theorem AkE(m:NtM)(t:NetM):∀j,LM ⟨m.us,t⟩ j=LM m j:=by intro a;induction a<;>grind [LM,LJ]
theorem NInv.join{L k:Nat}{m:NtM}(h:NInv L m)(x:Int):NInv (L+1) (jnM m k x).1:=by
 have f:=h.mono (Bx L);unfold jnM
 split
 ·next e=>
  obtain⟨s,r, -,p,o⟩:=QC e;have b:1<=k/\k<=16:=by omega
  have i:=(h.per k).1 r;refine⟨fun j u c=>?_,fun j=>?_,fun j pr d=>?_,p.trans h.unit,?_,f.tu⟩
  ·dsimp only at c
   by_cases a:j=k
   ·subst a;rw[I0]at c;obtain rfl:=AX c;exact⟨b,Aad _ _ b⟩
   ·rw[Hx _ _ a]at c;exact f.us j u c
  ·show(CoM.FV _ _ _).m.per _=none↔P7 _ _ _ j=none;rw[o]
   by_cases a:j=k
   ·subst a;rw[Ab rfl,I0];simp
   ·rw[Aa (by omega),Hx _ _ a];exact h.per j
  ·change (CoM.FV _ _ _).m.per _=_ at d;rw[o]at d
   split at d
   ·grind
   ·exact h.st j pr d
  ·rw[AhQ i]
   show m.t.n+1<=_;have:=h.n;omega
 ·next e=>
  have a:(m.t.co.join (k:Int) x).m=m.t.co:=by
   unfold CoM.join at e |-
   grind
  rw[a];refine⟨f.us,h.per,h.st,h.unit,?_,f.tu⟩;rw[AkE]
  show m.t.n+1<=_;have:=h.n;omega
theorem NtAt.cells{p:NtP}{m:NtM}(h:NtAt w0 S w E p m):w.rangeAt p.q.b 2 p.q.us:=fun j v a=>by
 rw[(h.net.box (j:=0) rfl).cell (2+j),show 2+j=j+1+1 by omega];exact a
theorem NtAt.ext{p:NtP}{m:NtM}(h:NtAt w0 S w E p m)(hg:102<g)(a:Hg w0 S w' (setG (Hn E p m) g O)):NtAt w0 S w' (setG E g O) p m:=by
 rw[T6 E p m (by omega)]at a;exact⟨a,h.us,by rw[Fo E (by omega)];exact h.e1,by rw[Fo E (by omega)];exact h.e2,by rw[Fo E (by omega)];exact h.e3⟩
theorem NtAt.AbY{p:NtP}{m:NtM}(h:NtAt w0 S w (setG E g O) p m)(hg:102<g):Hg w0 S w (setG (Hn E p m) g O):=by
 rw[T6 E p m (by omega)];exact h.hg
theorem NtAt.AoV{p:NtP}{m:NtM}{O':Nat->Option Cm}(h:NtAt w0 S w (setG E g O) p m)(hg:102<g)(d:Hg w0 S w' (setG (Hn E p m) g O')):NtAt w0 S w' (setG E g O') p m:=by
 have a:=h.e1;have b:=h.e2;have c:=h.e3;rw[Fo E (by omega)]at a b c;rw[T6 E p m (by omega)]at d;exact⟨d,h.us,by rw[Fo E (by omega)];exact a,by rw[Fo E (by omega)];exact b,by rw[Fo E (by omega)];exact c⟩
theorem Acf(a b:List UsM):Jp (a++b)=Jp a++Jp b:=by unfold Jp;rw[Bd]
theorem Ae0(us:List Value)(j:Nat)(v:Value)(a:j<17)(b:us[j]?=some v)(w:World):(Instr.index 45 (.agg us.toArray) (int i64 (j:Int))).run prog w=.ok v w:=Mv w 45 44 us.toArray 17 j v _ underlying45 underlying44 rfl (by kernel_rfl) a (by simpa using b) i64
theorem AgL{p:NtP}{m:NtM}(h:NtAt w0 S w E p m)(hE:E 103=fun _=>none)(hi:∀k u,m.us k=some u->(1<=k/\k<=16)/\u.who=k/\Bk u.blk):Calls prog 30 #[Fa p.q.b] w fun e w'=>∃a c,e=.returned (.slice a (waitTo m 17).length c)/\NtAt w0 S w' (setG E 103 (Jt (Ju 117 3 (.slice a (waitTo m 17).length c) (waitTo m 17).length (Jp (waitTo m 17))))) p m:=by
 have T:=h.cells;have U:p.q.us.length=17:=by rw[h.us];simp
 have ah:∀j:Nat,j<17->p.q.us[j]?=some (pointer (MP p m j)):=fun j hj=>h.at hj
 have h0:NtAt w0 S w (setG E 103 (Jt (Ju 117 3 (.slice none 0 0) 0 []))) p m:=by
  refine h.ext (by omega) ?_;have h1:Hg w0 S w (setG (Hn E p m) 103 fun _=>none):=by
   rw[<-hE,show E 103=Hn E p m 103 from rfl,Ig];exact h.hg
  exact h1.new 0 (Kept.refl _ w) (d:=Ju 117 3 (.slice none 0 0) 0 []) (L:=[]) ⟨rfl,0,Bj _ _ _ _⟩ (by simp)
 have H0:=hid h0;have HU:=hid ah;obtain⟨us,Z⟩:=E7 p.q.us;rw[<-Z]at T U HU;unfold Fa;clear h h0 ah Z hE;go_enter func30,ntmps30
 go_wp2_with(first | (refine wpList_load_mid rfl 45 (.tmp 8) rfl p.q.b 2 rfl us _ T underlying45 rfl (by rw[U];kernel_rfl) ?_))
 go_loopw [3,10] (fun v i wr=>∃j:Nat,j<=17/\i=int i64 (j:Int)/\∃a c,v=.slice a (waitTo m j).length c/\Hid (NtAt w0 S wr (setG E 103 (Jt (Ju 117 3 v (waitTo m j).length (Jp (waitTo m j))))) p m)) (fun _ i _=>17-(intOf i).toNat)
 case atStart=>exact⟨0,Af _,rfl,none,0,rfl,H0.out⟩
 case round=>
  obtain⟨j,hj,rfl,a,c,rfl,C⟩:=hrel;clear H0
  by_cases ae:j<17
  ·have an:(j:Int)<17:=by omega
   have hx:us[j]?=some (pointer (MP p m j)):=HU.out j ae;have M:=fun wz=>Ae0 us j (pointer (MP p m j)) ae hx wz
   have ad:=waitTo_len m j
   have V:Hid (waitTo m (j+1)=waitTo m j++match m.us j with
    | some u=>if u.SJ then [⟨j,1,1⟩] else []
    | none=>[]):=SI m j
   clear hx T U HU
   cases r:m.us j with
   | none=>
    rw[MQ r]at M;rw[r]at V;have f:Hid (waitTo m (j+1)=waitTo m j):=by rw[V.out];exact AA _
    obtain⟨l,el⟩:=E7 (waitTo m j);rw[<-el]at C f ad |-;have I:=hid (show l.length=l.length from rfl);clear V el;generalize G:l.length=n at*;have I:=hid G;clear G
    go_wp2_with fail;refine⟨⟨j+1,by omega,by go_num,a,c,?_⟩,by simp[intOf];omega⟩;rw[f.out,I.out];exact⟨rfl,C⟩
   | some u=>
    obtain⟨Q,ai,hB⟩:=hi j u r;rw[O5 r]at M;rw[r]at V;have f:Hid (waitTo m (j+1)=waitTo m j++if u.SJ then [⟨j,1,1⟩] else []):=V.out;obtain⟨l,el⟩:=E7 (waitTo m j);rw[<-el]at C f ad |-;clear V el;generalize G:l.length=n at*;have I:=hid G;have X:=hid r;clear G hi r;go_upto_region 5 with fail
    go_cut [33] (fun v wx=>v=.bool u.SJ/\Hid (NtAt w0 S wx (setG E 103 (Jt (Ju 117 3 (.slice a n c) n (Jp l)))) p m))
    case first=>
     have t:=C.out.J5 X.out Q;have c7:wr.cell? ⟨(p.P j).b,7,none⟩=some (pointer (some ⟨(p.P j).gb,0,none⟩)):=(t.box (j:=0) rfl).cell 7;obtain⟨F,bm, -,hP⟩:=t.get (j:=3) rfl;have Y:=hid (Pu hP);rw[hB.wait]at Y;have o:Hid (u.SJ=((u.blk.tat 0).busy || decide (0<u.snd.wait))):=rfl
     cases y:(u.blk.tat 0).busy with
     | true=>
      rw[y]at Y o;have s:=hid (show u.SJ=true from o.out);clear t hP y o
      go_wp2_with(go_at_call 57;refine Y.out.mono ?_;rintro e w1 ⟨qa,qc,rfl, -,K⟩)
      go_meet;exact⟨by rw[s.out],C.out.below K⟩
     | false=>
      rw[y]at Y o;have s:=hid (show u.SJ=decide (0<u.snd.wait)from o.out);obtain⟨N,eN⟩:=E7 u.snd.wait;have ag:=fun wz=>Ake (p.P j).ps u.snd wz
      rw[<-eN]at ag s;clear t hP y o eN
      go_wp2_with(first
       | (go_at_call 57;refine Y.out.mono ?_;rintro e w1 ⟨qa,qc,rfl, -,K⟩;have B:=hid (C.out.below K);have c5:w1.cell? ⟨(p.P j).b,5,none⟩=some (pointer (some (p.P j).ps)):=((B.out.J5 X.out Q).box (j:=0) rfl).cell 5)
       | (go_at_call 58;refine((B.out.J5 X.out Q).act (j:=1) rfl (ag w1)).mono ?_;rintro e w2 ⟨c',⟨rfl,rfl⟩,J⟩;rw[Kr rfl,Rw X.out Q]at J;have H2:=hid J;clear J))
      go_meet;exact⟨by rw[s.out],{B.out with hg:=H2.out}⟩
    case rest=>
     obtain⟨rfl,B⟩:=hcut;clear C M
     cases z:u.SJ with
     | false=>
      rw[z]at f;have H:Hid (waitTo m (j+1)=l):=by rw[f.out];exact AA _
      clear f z
      go_wp2_with fail;refine⟨⟨j+1,by omega,by go_num,a,c,?_⟩,by simp[intOf];omega⟩;rw[H.out,I.out];exact⟨rfl,B⟩
     | true=>
      rw[z]at f;have H:Hid (waitTo m (j+1)=l++[⟨j,1,1⟩]):=f.out;have c0:wc.cell? ⟨(p.P j).b,0,none⟩=some (int i64 (j:Int)):=by
       have:=((B.out.J5 X.out Q).box (j:=0) rfl).cell 0;rw[this,<-ai];rfl
      have J:=(B.out.AbY (by omega)).below ((Ad _ wc).alloc (Ac _) (.cells #[int i64 (j:Int),int i64 1,int i64 1] 117));obtain⟨B1,aj,af⟩:=J.lst (j:=0) rfl;have aa:=Fc wc 117 [int i64 (j:Int),int i64 1,int i64 1];have H2:=hid J;obtain⟨i0,hi,ak,al,am⟩:=As Tryz.Anq;clear f z J
      go_wp2_with(at_builtin;refine I3 (W:=wc.alloc (.cells #[int i64 (j:Int),int i64 1,int i64 1] 117)) B1 wc.heap.size underlying77 hi ak al am rfl (by omega) af rfl _ _ rfl rfl rfl (news:=[int i64 (j:Int),int i64 1,int i64 1]) rfl ?_ ?_ ?_ ?_ aj ?_)
      ·exact fun k u Q=>(aa.cell k).trans Q
      ·intro u r;simp only[Ar,Bt,BF]at r
       rcases r with rfl | rfl | rfl<;>rfl
      ·unfold maxLen;omega
      ·omega
      intro v' w4 R ac ab;have h5:=H2.out.AnK (j:=0) (v:=.slice a n c) rfl R ac (by rw[Ax];exact ab);obtain⟨a2,c2,rfl, -⟩:=Fg R;have H5:=hid h5;clear h5 R ac ab af aa H2
      go_wp2_with fail;refine⟨⟨j+1,by omega,by go_num,a2,c2,?_⟩,by simp[intOf];omega⟩;rw[H.out,Ai,I.out,Acf];refine⟨rfl,?_⟩;exact B.out.AoV (by omega) (H5.out.conv fun i=>by rcases i with _ | i<;>rfl)
  ·obtain rfl:j=17:=by omega
   have an:¬((17:Nat):Int)<17:=by omega
   generalize hl:waitTo m 17=l at*;generalize G:l.length=n at*;have HL:=hid hl;have I:=hid G;clear hl G
   go_wp2_with fail;go_ret;rw[HL.out,I.out];exact⟨a,c,rfl,C.out⟩
theorem AjN{T:TypeId}{n:Nat}{v:Value}{xs:List Value}(h:w'.ownsRow w.heap.size T k v n xs):(Ju T k v n xs).P w' v.ownBlock.toList/\∀x∈v.ownBlock.toList,w.heap.size<=x:=⟨⟨rfl,_,h⟩,fun x a=>(AB h x (by simpa using a)).1⟩
theorem Ao2(r f c:Nat)(t:TSt)(l:List UsM)(a:Option Addr)(w:World)(ht:t.Ok)(n:Usr w a l)(i:l.length=f)(o:f<=maxLen):YJ 29 #[pointer (some ⟨r,0,none⟩),.slice a f c,int i64 4] w (tuC r t.last t.opn t.cr) fun e x d=>∃a' k,e=.returned (.tuple #[.slice a' (t.J7 1 l 4).length k,int i64 (S0 l 4)])/\x=tuC r (t.next 1 l 4).last (t.next 1 l 4).opn (t.next 1 l 4).cr/\d=Ju 3 1 (.slice a' (t.J7 1 l 4).length k) (t.J7 1 l 4).length ((t.J7 1 l 4).map (Value.int i64)):=fun _ F _ ⟨e,h⟩=>by
 subst e;refine(Ag8 t l 4 1 f c r a w ht (by omega) n i o h).mono fun e w' ⟨v,p,j,s,u⟩=>?_
 obtain⟨a',k,rfl, -, -⟩:=OwnI.FC j;obtain⟨y,m⟩:=AjN j
 exact⟨_,_,⟨a',k,p,rfl,rfl⟩,u,[r],_,⟨rfl,s⟩,fun x b=> .inl b,y,fun x b=>⟨m x b,fun q=>by
  rw[AC]at q;have:=m x b;have:=FunAt.lt h
  omega⟩⟩
theorem NtAt.turn{p:NtP}{m:NtM}(h:NtAt w0 S w E p m){c0:Cm}(v:E 103=Jt c0){f:FuncId}{args:Array Value}{R:Ending->Cm->Cm->Prop}(H:YJ f args w (tuC p.q.r m.t.last m.t.opn m.t.cr) R):Calls prog f args w fun e w'=>∃c' d,R e c' d/\∀a:NetM,a.co=m.t.co->a.n=m.t.n->c'=tuC p.q.r a.last a.opn a.cr->NtAt w0 S w' (setG E 103 (Jt d)) p ⟨m.us,a⟩:=by
 refine(Hp.AbV h.hg (i:=(0,2)) (c:=tuC p.q.r m.t.last m.t.opn m.t.cr) rfl H (103,0)).mono ?_;rintro e w' ⟨c',d,y,b⟩;refine⟨c',d,y,fun a o s u=>⟨?_,h.us,by rw[Fo E (by omega)];exact h.e1,by rw[Fo E (by omega)];exact h.e2,by rw[Fo E (by omega)];exact h.e3⟩⟩;refine Hp.congr b fun⟨i,j⟩=>?_
 subst u;unfold FQ
 by_cases e1:i=103
 ·subst e1
  by_cases e2:j=0
  ·subst e2;rfl
  ·have n1:((103,j):Nat×Nat)≠(103,0):=fun q=>e2 (by simpa using q)
   have n2:((103,j):Nat×Nat)≠(0,2):=fun q=>by simp at q
   rw[Aa n1,Aa n2]
   show E 103 j=setG E 103 (Jt d) 103 j;rw[IW,v];unfold Jt;rw[Aa e2,Aa e2]
 ·have n1:((i,j):Nat×Nat)≠(103,0):=by grind
  rw[Aa n1]
  by_cases e2:i=0
  ·subst e2
   rcases j with _ | _ | _ | j
   ·rfl
   ·show some (coC _ _ _)=some (coC _ _ _);rw[o,s]
   ·rfl
   ·rfl
  ·have n2:((i,j):Nat×Nat)≠(0,2):=by grind
   rw[Aa n2];unfold Hn;dsimp only;rw[Aa e2,Aa e2]
   split
   ·rfl
   ·rw[Fo E e1]
structure SameB(p p':NtP):Prop where
 q:p'.q=p.q
 b:∀k,(p'.P k).b=(p.P k).b
theorem SameB.refl(p:NtP):SameB p p:=⟨rfl,fun _=>rfl⟩
theorem SameB.trans{a b c:NtP}(h:SameB a b)(k:SameB b c):SameB a c:=⟨k.q.trans h.q,fun i=>(k.b i).trans (h.b i)⟩
theorem SameB.put{p:NtP}{k:Nat}{x:UsrP}(h:x.b=(p.P k).b):SameB p (p.put k x):=⟨rfl,fun j=>by
 unfold NtP.put P7
 grind⟩
theorem NtAt.few{w0 w:World}{S:List Nat}{E:Nat->Nat->Option Cm}{p:NtP}{m:NtM}{L:Nat}(h:NtAt w0 S w E p m)(hi:NInv L m):∀j,LM m j<=16777216*j
 | 0=>Ac _
 | j+1=>by
  have e:=h.few hi j;have f:LJ m j<=16777216:=by
   unfold LJ
   split
   ·next u hu=>
    obtain⟨b,c, -⟩:=hi.us j u hu;obtain⟨F,d, -,a⟩:=(h.J5 hu b).get (j:=8) rfl;rw[c.ok.len];exact a.ok.few
   ·exact Af _
  show LM m j+LJ m j<=_;omega
theorem NtAt.n{w0 w:World}{S:List Nat}{E:Nat->Nat->Option Cm}{p:NtP}{m:NtM}{L:Nat}(h:NtAt w0 S w E p m)(hi:NInv L m)(a:L<=100000000):m.t.n<=900000000:=by
 have:=h.few hi 17;have:=hi.n;omega
end Go.Proofs.YtbjgfoiikhbonahGreatDoor
