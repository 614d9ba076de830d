import Derived.Test.YtbjgfoiikhbonahGreatDoorA34
import Derived.Test.YtbjgfoiikhbonahGreatDoorA16
import Derived.Test.YtbjgfoiikhbonahGreatDoorA18
import Derived.Lib.LaidTab
import Derived.Lib.ItoaNum
set_option linter.unusedVariables false
set_option linter.unusedSimpArgs false
set_option maxRecDepth 100000
set_option maxHeartbeats 4000000
namespace Go.Proofs.YtbjgfoiikhbonahGreatDoor
open Go.ChangeShapes Go.WideShapes Go.ChangeAt Go.RowKit Go.Maps Go.Proofs.Tryz
open Value renaming int->B
open Option renaming some->G,none->I
open Go renaming World->J
open Ending renaming returned->K
open IntKind renaming i64->M
variable {F F' S:List Nat}{T:TypeId}{args:Array Value}{b k t:Int}{cs:List Value}{f:Bool}{g j n:Nat}{i:Nat×Nat}{w w' w0:J}
theorem Xp{c:Nat}{m:CoM}{g:Int}(h:PCo w c F m n)(ht:Gb t)(hb:Gb b)(hn:n<Jf)(he:m.repErr g t b=0):Calls prog 134 #[Fa c,Kt g t b f] w (StepC w c F (m.Fx g t b f) (n+1)):=by
 obtain⟨N,rfl,h⟩:=h;have hR:m.Fx g t b f=⟨m.rep g b f,0⟩:=by unfold CoM.Fx;rw[Ab he]
 have bj:=h.ok.len;have bp:n<8796093022208:=hn;have hc:=CoM.Yh he;have bb:=hc.g1;have bc:=hc.g2;obtain⟨i,ei⟩:∃i:Nat,g=(i:Int)+1:=⟨g.toNat-1,by omega⟩;have hi:i<m.loans.length:=by omega
 obtain⟨gb,cur,C,s, -,bn,bo, -,g0,g1⟩:=h.AeI hi;have ag:m.loans.getD i .zero=m.at g:=by unfold CoM.at;rw[show g.toNat-1=i by omega]
 rw[ag]at g0 g1;obtain⟨⟨p,O⟩,bh,ba,bg⟩:=h.ok.ln (m.at g) (CoM.Ain ⟨bb,bc⟩);obtain⟨q1,q2,q3,q4,q5,q6,q7⟩:=h.ok.pr _ p O;have ak:Gb g:=by unfold Gb;omega
 obtain⟨a1,a2,a3⟩:=h.RX;obtain⟨b1,b2,b3,b4,b5,b6⟩:=a3 _ p O;obtain⟨ae,af⟩:=b5 _ C;have ae:N.ub (m.at g).who≠gb:=ae;have af:N.mb (m.at g).who≠gb:=af;have bk:=b6 _ p O;obtain⟨D,aq⟩:=RepN.of h.ok he O f;obtain⟨W, eW⟩ := E7 (w.alloc (.cells #[B M g, B M t, B M b,.bool f] 262));have be:Kept [] w W:=by rw[eW];exact(Kept.refl _ w).alloc _
 have y:At W w.heap.size 262 [B M g, B M t, B M b,.bool f]:=by rw[eW];exact Fc w _ [B M g, B M t, B M b,.bool f]
 have a8:Below w.heap.size w W.drew.drew:=by rw[eW];exact((Ad _ w).alloc (Ac _) _).drew.drew
 have u0:W.cell? ⟨w.heap.size,0,I⟩=G (B M g):=y.cell 0;have u1:W.cell? ⟨w.heap.size,1,I⟩=G (B M t):=y.cell 1;have u2:W.cell? ⟨w.heap.size,2,I⟩=G (B M b):=y.cell 2;have u3:W.cell? ⟨w.heap.size,3,I⟩=G (.bool f):=y.cell 3;have hW:=h.kept be (by simp);have c2:=hW.head.2.2;rw[C]at c2;have ap:=hW.kept (T:=[]) (Kept.refl _ W).drew.drew (by simp);have aj:=Tf (f:=f) ap hi ei C ak ht hb (by unfold Jf;omega);rw[he]at aj;have R:w.heap.size≠gb/\w.heap.size≠N.ub (m.at g).who/\w.heap.size≠N.mb (m.at g).who:=by
  have l1:=s.lt;have l2:=(h.ur _ p O).lt;have l3:=(h.op _ p O).lt;omega
 have HC:Hid (∀a,Below W.drew.drew.heap.size W.drew.drew a->a.cell? ⟨gb,i*2+1,I⟩=G (B M ((m.at g).turn:Nat))/\a.frozen? ⟨gb,i*2+1,I⟩=false/\a.cell? ⟨gb,i*2,I⟩=G (Fa (N.ub (m.at g).who))/\a.cell? ⟨w.heap.size,0,I⟩=G (B M g)/\a.cell? ⟨w.heap.size,1,I⟩=G (B M t)/\a.cell? ⟨w.heap.size,2,I⟩=G (B M b)/\a.cell? ⟨w.heap.size,3,I⟩=G (.bool f)/\
  ∀wz,Kept [] (a.setCell ⟨gb,i*2+1,I⟩ (B M t)) wz->Calls prog 174 #[Fa (N.ub (m.at g).who),Kt g t b f] wz fun e X=>e= K (.tuple #[])/\X.cell? ⟨gb,i*2,I⟩=G (Fa (N.ub (m.at g).who))/\X.cell? ⟨w.heap.size,0,I⟩=G (B M g)/\X.cell? ⟨w.heap.size,3,I⟩=G (.bool f)/\
   (f=false->∀wy,Kept [] X wy->StepC w c (coF c N m) (m.Fx g t b f) (n+1) (K (B M 0)) wy)/\
   (f=true->∀wy,Kept [] X wy->Calls prog 175 #[Fa (N.ub (m.at g).who), B M g] wy fun e w6=>e= K (.tuple #[])/\∀wx,Kept [] w6 wx->StepC w c (coF c N m) (m.Fx g t b f) (n+1) (K (B M 0)) wx)):=hid fun a A=>by
  have a7:=Fr a8 A;have q:Kept [] w a:=Kept.E5 a7;have h3:=h.kept q (by simp);have H:At a w.heap.size 262 _:=(y.kept (S:=[]) (Kept.refl _ W).drew.drew (by simp)).kept (Kept.E5 (S:=[]) A) (by simp);have aa:=s.kept q (by simp);refine⟨E8 q g1 (by simp),aa.free _,E8 q g0 (by simp),H.cell 0,H.cell 1,H.cell 2,H.cell 3,fun wz av=>?_⟩;have bd:Kept [gb] a (a.setCell ⟨gb,i*2+1,I⟩ (B M t)):=(Kept.refl _ a).setCell (by simp) _;have v:Kept [gb] a wz:=bd.trans (av.Fn (by simp));have az:At wz gb 310 (cur.set (i*2+1) (B M t)):=(aa.setCell (o:=i*2+1) (B M t)).kept av (by simp);have ay:=(h3.ur _ p O).kept v (by simpa using ae);have a5:=(h3.op _ p O).kept v (by simpa using af);have a6:=H.kept v (by simpa using R.1);have ad:=AjA (ls:=m.loans) hi ei;rw[ag,hc.op,Aa (by simp)]at ad;have a9:0<=b/\b<=(((m.at g).bytes-(m.at g).used:Nat):Int):=⟨hc.b0,hc.b1⟩;refine(Y3 ay a5 ak ad a9 (by omega) (by omega) (by omega) (by unfold maxLen;omega)).mono ?_;rintro e X ⟨rfl,am,an,al⟩;have ah:=az.kept al (by grind);have ao:=a6.kept al (by simpa using ⟨R.2.1,R.2.2⟩);have ac:Kept [gb,N.ub (m.at g).who,N.mb (m.at g).who] a X:=(v.Fn (by simp)).trans (al.Fn (by simp));have ai:X.cell? ⟨gb,i*2,I⟩=G (Fa (N.ub (m.at g).who)):=by
   rw[ah.cell,CV (by omega),<-s.cell];exact g0
  refine⟨rfl,ai,ao.cell 0,ao.cell 3,fun hf wy d=>?_,fun hf wy d=>?_⟩
  ·subst hf;simp only[Ct,AV]at D
   obtain⟨r1,r2,r3⟩:=h3.AeZ he O hi ei C aa (ac.trans (d.Fn (by simp))) (ah.kept d (by simp)) D (am.kept d (by simp)) (by
    have:=an.kept d (by simp)
    simpa using this)
   rw[hR];refine⟨rfl,(q.Fn (by simp)).trans r3,_,⟨N,rfl,r1⟩,fun x hx=>?_⟩
   rcases r2 x hx with r | r
   ·exact .inl r
   ·exact .inr (Ak q.size r)
  ·subst hf;simp only[AP]at D;have ax:=am.kept d (by simp);have a4:=an.kept d (by simp);have bf:(0:Int)<=(m.left (m.at g).who p:Nat)/\((m.left (m.at g).who p:Nat):Int)<=1000000000:=by unfold CoM.left;omega
   refine(Acb ax a4 ak (Ih _ _ _) ⟨by omega,by omega⟩ bf (by omega)).mono ?_;rintro e w6 ⟨rfl,aw,a0,au⟩;refine⟨rfl,fun wx ab=>?_⟩;have ar:Kept [gb,N.ub (m.at g).who,N.mb (m.at g).who] a wx:=((ac.trans (d.Fn (by simp))).trans (au.Fn (by simp))).trans (ab.Fn (by simp))
   obtain⟨r1,r2,r3⟩:=h3.AeZ he O hi ei C aa ar (((ah.kept d (by simp)).kept au (by grind)).kept ab (by simp)) D (aw.kept ab (by simp)) (by
    refine(a0.kept ab (by simp)).congr fun j=>?_
    simp only[AP];unfold J8
    grind)
   rw[hR];refine⟨rfl,(q.Fn (by simp)).trans r3,_,⟨N,rfl,r1⟩,fun x hx=>?_⟩
   rcases r2 x hx with r | r
   ·exact .inl r
   ·exact .inr (Ak q.size r)
 have bi:¬gb=w.heap.size:=fun e=>R.1 e.symm
 generalize StepC w c (coF c N m) (m.Fx g t b f) (n+1)=P at*;generalize m.loans.length=LL at*;generalize N.ub (m.at g).who=ub at*;generalize N.mb (m.at g).who=mb at*;generalize (m.at g).turn=T at*;have e1:¬g<1:=by omega
 have e2:¬(LL:Int)<g:=by omega
 have e3:g-1=(i:Int):=by omega
 clear h hR y hW ap C hb ht D hc O ag ei a1 a2 a3 b1 b2 b3 b4 b5 b6 he s bh ba bg q1 q2 q3 q4 q5 q6 q7 aq g0 g1 R;unfold Fa Kt at*
 cases f with
 | false=>
  go_enter func134,ntmps134;go_upto_region 1 with fail
  rw[<-eW];clear eW
  go_region;go_upto_region 3 with fail
  go_region;go_upto_region 8 with(go_at_call 173;refine aj.mono ?_;rintro e a ⟨rfl,A⟩;obtain⟨k1,k2,k3,k4,k5,k6,k7,hG⟩:=HC.out a A)
  go_region_with (go_at_call 174;refine(hG _ (by first | exact Kept.refl _ _ | exact(Kept.refl _ _).drew | exact(Kept.refl _ _).drewN _)).mono ?_;rintro e' X ⟨rfl,n0,n1,n2,hP, -⟩)
  all_goals
   go_wp2_with fail;exact hP (by trivial) _ (by first | exact Kept.refl _ _ | exact(Kept.refl _ _).drew | exact(Kept.refl _ _).drewN _)
 | true=>
  go_enter func134,ntmps134;go_upto_region 1 with fail
  rw[<-eW];clear eW
  go_region;go_upto_region 3 with fail
  go_region;go_upto_region 8 with(go_at_call 173;refine aj.mono ?_;rintro e a ⟨rfl,A⟩;obtain⟨k1,k2,k3,k4,k5,k6,k7,hG⟩:=HC.out a A)
  go_region_with (go_at_call 174;refine(hG _ (by first | exact Kept.refl _ _ | exact(Kept.refl _ _).drew | exact(Kept.refl _ _).drewN _)).mono ?_;rintro e' X ⟨rfl,n0,n1,n2, -,hP⟩)
  all_goals
   go_upto_region 10 with fail
   go_region_with (go_at_call 175;refine(hP (by trivial) _ (by first | exact Kept.refl _ _ | exact(Kept.refl _ _).drew | exact(Kept.refl _ _).drewN _)).mono ?_;rintro bl w6 ⟨rfl,bm⟩)
   all_goals
    go_wp2_with fail
    first | exact Kept.refl _ _ | exact(Kept.refl _ _).drew | exact(Kept.refl _ _).drewN _
theorem StepC.mono{w w':J}{c:Nat}{F:List Nat}{r:CoR}{n n':Nat}{e:Ending}(h:StepC w c F r n e w')(q:n<=n'):StepC w c F r n' e w':=by
 obtain⟨a,d,F',⟨N,m,o⟩,p⟩:=h;exact⟨a,d,F',⟨N,m,o.mono q⟩,p⟩
theorem Zr{c:Nat}{m:CoM}(n':Nat){g:Int}(h:PCo w c F m n)(hg:Gb g)(ht:Gb t)(p:Gb b)(q:n<Jf)(o:n<=n')(s:m.repErr g t b=0->n+1<=n'):Calls prog 134 #[Fa c,Kt g t b f] w (StepC w c F (m.Fx g t b f) n'):=by
 by_cases r:1<=g/\g<=(m.loans.length:Int)
 ·by_cases d:m.repErr g t b=0
  ·exact(Xp h ht p q d).mono fun e w' a=>a.mono (s d)
  ·exact(Zs h ht p q r d).mono fun e w' a=>a.mono o
 ·exact(Ts h hg r).mono fun e w' a=>a.mono o
def CoM.Lu(m:CoM)(k:Int):Nat:=if m.Gu k=0 then m.loans.length+1 else 0
def CoM.QF(m:CoM)(k:Int):Nat:=if m.Gu k=0 then m.Pn k else 0
def CoM.Ka(m:CoM)(k:Int):CoM:=if m.Gu k=0 then m.Mr k else m
def LendPost(w:J)(c:Nat)(F:List Nat)(m:CoM)(k:Int)(n:Nat):Ending->J->Prop:=fun e w'=>e= K (.tuple #[B M (m.Lu k:Nat), B M (m.QF k:Nat), B M (m.Gu k)])/\Kept F w w'/\∃F',PCo w' c F' (m.Ka k) n/\Ga w.heap.size F F'
theorem LendPost.bad{c:Nat}{N:CoN}{m:CoM}(h:PCore w c N m n)(a:m.Gu k≠0)(d:Below w.heap.size w w'):LendPost w c (coF c N m) m k (n+1) (K (.tuple #[B M 0, B M 0, B M (m.Gu k)])) w':=by
 unfold LendPost CoM.Lu CoM.QF CoM.Ka;rw[Aa a,Aa a,Aa a];exact⟨rfl,Kept.E5 d,_,⟨N,rfl,(h.kept (Kept.E5 (S:=[]) d) (by simp)).mono (by omega)⟩,fun x e=> .inl e⟩
theorem AfM{c:Nat}{m:CoM}(h:PCo w c F m n)(hk:Gb k)(hn:n<Jf):Calls prog 78 #[Fa c,.int M k] w (LendPost w c F m k (n+1)):=by
 obtain⟨N,rfl,h⟩:=h;have hi:=Aev 1 w;have R:Below w.heap.size w (w.alloc (.cells #[.int M 1] 158)):=(Ad _ w).alloc (Ac _) _;have hr:Rd M (w.alloc (.cells #[.int M 1] 158)) I []:=Rd.nil _ _ _;have aa:(w.alloc (.cells #[.int M 1] 158)).cell? ⟨w.heap.size,0,I⟩=G (.int M ((1:Nat):Int)):=ON w _ 1;have h2:=h.kept (Kept.E5 (S:=[]) R) (by simp);have ha:=Aiv (cc:=0) h2 hk (Aet (s:=1) aa) hr (by simp)
 by_cases hE:m.Fi k (tIs 1) []=0
 ·obtain⟨p,v,ae,ht⟩:=CoM.NV hE;have ai:p.st=1:=by simpa [tIs]using ht
  have hV:Gd N m k (tIs 1) []=Fa (N.ub k):=by unfold Gd;rw[Ab hE]
  rw[hV,hE]at ha;obtain⟨q1,q2,q3,q4,q5,q6,q7⟩:=h.ok.pr k p v;have au:m.left k p<=1000000000:=by unfold CoM.left;omega
  have av:m.left k p+m.It k<=1000000000:=by unfold CoM.left;omega
  have a5:=h.ok.u1;have HU:Hid (∀q,Below (w.alloc (.cells #[.int M 1] 158)).heap.size (w.alloc (.cells #[.int M 1] 158)) q->q.cell? ⟨N.ub k,0,I⟩=G (.int M (m.left k p:Nat))/\q.cell? ⟨c,0,I⟩=G (.int M (m.unit:Nat))/\Below w.heap.size w q):=hid fun q a=>by
   have hb:=Fr R a;have h3:=h.kept (Kept.E5 (S:=[]) hb) (by simp);exact⟨(h3.ur k p v).cell 0,h3.head.1,hb⟩
  by_cases hL:m.left k p=0
  ·have d:m.Gu k=11:=by unfold CoM.Gu;rw[v];simp[ai,hL]
   have HP:Hid (∀q,Below w.heap.size w q->LendPost w c (coF c N m) m k (n+1) (K (.tuple #[.int M 0,.int M 0,.int M 11])) q):=hid fun q a=>by
    have:=LendPost.bad h (by rw[d];simp) a
    rwa [d]at this
   rw[hL]at HU;generalize LendPost w c (coF c N m) m k (n+1)=P at*;generalize N.ub k=ub at*;clear h h2 hr aa hE v ae ht hV d hL au av;unfold Fa Jn at*;go_enter func78,ntmps78
   go_wp2_with(first
    | (go_at_call 73;refine hi.mono ?_;rintro e w1 ⟨rfl,rfl⟩)
    | (go_at_call 72;refine ha.mono ?_;rintro e q ⟨rfl,a⟩;obtain⟨u0,v0,W⟩:=HU.out q a))
   go_ret3;exact HP.out q W
  ·have d:m.Gu k=0:=by unfold CoM.Gu;rw[v];simp[ai,hL]
   obtain⟨X, eX⟩ := E7 (m.Pn k);have hX:X=min m.unit (m.left k p):=by rw[eX,CoM.Wc v]
   have O:Hid (∀q wz,Below w.heap.size w q->Kept [] q wz->Calls prog 130 #[Fa c,Fa (N.ub k)] wz fun e w'=>e= K (.int M ((m.loans.length+1:Nat):Int))/\w'.cell? ⟨N.ub k,0,I⟩=G (.int M (m.left k p:Nat))/\w'.cell? ⟨c,0,I⟩=G (.int M (m.unit:Nat))/\
    (∀H,Kept [] w' H->H.cell? ⟨N.ub k,0,I⟩=G (.int M (m.left k p:Nat))/\H.cell? ⟨N.ub k,1,I⟩=G (.int M (m.It k:Nat))/\H.cell? ⟨N.ub k,5,I⟩=G (.map (G (N.mb k)))/\H.frozen? ⟨N.ub k,0,I⟩=false/\H.frozen? ⟨N.ub k,1,I⟩=false/\
    ∃w6,(Instr.mapUpdate 89 (.map (G (N.mb k))) (.int M ((m.loans.length:Int)+1)) (.int M (X:Int))).run prog ((H.setCell ⟨N.ub k,0,I⟩ (.int M ((m.left k p:Nat)-(X:Int)))).setCell ⟨N.ub k,1,I⟩ (.int M ((m.It k:Nat)+(X:Int))))=.ok () w6/\LendPost w c (coF c N m) m k (n+1) (K (.tuple #[.int M ((m.loans.length:Int)+1),.int M (X:Int),.int M 0])) w6)):=hid fun q wz a ah=>by
    have h3:=h.kept (Kept.E5 (S:=[]) a) (by simp);have hz:=h3.kept ah (by simp);refine(Zj (ub:=N.ub k) hz hn).mono ?_;rintro e w' ⟨rfl,ga,gc,ab⟩;obtain⟨a1,a2,a3⟩:=hz.RX;obtain⟨b1,b2,b3,b4,b5,b6⟩:=a3 k p v;have af:∀y∈c::gaF N,y≠N.ub k/\y≠N.mb k:=fun y C=>by
     rw[Ar]at C
     rcases C with rfl | C
     ·exact⟨fun e=>b1 e.symm,fun e=>b3 e.symm⟩
     ·unfold gaF at C
      cases hg:N.ga with
      | none=>rw[hg]at C;simp at C
      | some z=>
       rw[hg]at C;have C:y=z.block:=by simpa using C
       rw[C];exact⟨fun e=>(b5 z hg).1 e.symm,fun e=>(b5 z hg).2 e.symm⟩
    have ad:=(hz.ur k p v).kept ab.kp (fun C=>(af _ C).1 rfl);have al:=(hz.op k p v).kept ab.kp (fun C=>(af _ C).2 rfl);refine⟨rfl,ad.cell 0,ab.hd.cell 0,fun H ac=>?_⟩;have D:=ad.kept ac (by simp);have ao:=al.kept ac (by simp);have aj:=(D.setCell (o:=0) (.int M ((m.left k p:Nat)-(X:Int)))).setCell (o:=1) (.int M ((m.It k:Nat)+(X:Int)));have ap:Kept [N.ub k,N.mb k] H ((H.setCell ⟨N.ub k,0,I⟩ (.int M ((m.left k p:Nat)-(X:Int)))).setCell ⟨N.ub k,1,I⟩ (.int M ((m.It k:Nat)+(X:Int)))):=((Kept.refl _ H).setCell (by simp) _).setCell (by simp) _;have am:=ao.kept (S:=[N.ub k]) (((Kept.refl _ H).setCell (p:=⟨N.ub k,0,I⟩) (by simp) (.int M ((m.left k p:Nat)-(X:Int)))).setCell (p:=⟨N.ub k,1,I⟩) (by simp) (.int M ((m.It k:Nat)+(X:Int)))) (by simpa using fun e=>b6 k p v e.symm);have ax:=h.ok.len;obtain⟨w6,A,an,ag⟩:=am.put (by unfold maxLen;unfold Jf at hn;omega) (k:=(m.loans.length:Int)+1) (by unfold Gb;unfold Jf at hn;omega) underlying89 (.int M (X:Int)) (n+1) (by split<;>omega);refine⟨D.cell 0,D.cell 1,D.cell 5,D.free 0,D.free 1,w6,A,?_⟩;have aq:Kept [N.ub k,N.mb k] w' w6:=((ac.Fn (by simp)).trans ap).trans (ag.Fn (by simp));have ak:=aj.kept ag (by simpa using b6 k p v);obtain⟨r1,r2,r3⟩:=h3.AoH v d eX ah ab aq ak an;unfold LendPost CoM.Lu CoM.QF CoM.Ka;rw[Ab d,Ab d,Ab d,d,<-eX];refine⟨?_,(Kept.E5 a).trans r3,_,⟨_,rfl,r1⟩,fun x hx=>?_⟩
    ·rw[show((m.loans.length+1:Nat):Int)=(m.loans.length:Int)+1 by omega]
    ·rcases r2 x hx with r | r
     ·exact .inl r
     ·exact .inr (Ak a.size r)
   have ay:min (m.unit:Int) ((m.left k p:Nat):Int)=(X:Int):=by rw[hX];omega
   have a0:(X:Int)<=((m.left k p:Nat):Int):=by omega
   have a4:=h.ok.len;unfold Jf at hn;generalize LendPost w c (coF c N m) m k (n+1)=P at*;generalize aw:N.ub k=ub at*;generalize ar:N.mb k=mb at*;generalize m.left k p=A0 at*;generalize m.It k=A1 at*;generalize m.unit=a6 at*;generalize m.loans.length=LL at*;clear h h2 hr aa hE v ae ht hV d hX eX aw ar q7 q6;unfold Fa Jn at*;rw[show((LL+1:Nat):Int)=(LL:Int)+1 by omega]at O
   by_cases az:(a6:Int)<=(A0:Int)
   ·obtain rfl:X=a6:=by omega
    go_enter func78,ntmps78
    go_upto_region 6 with(first
     | (go_at_call 73;refine hi.mono ?_;rintro e w1 ⟨rfl,rfl⟩)
     | (go_at_call 72;refine ha.mono ?_;rintro e q ⟨rfl,a⟩;obtain⟨u0,v0,W⟩:=HU.out q a))
    clear hi ha HU R
    go_region_with (go_at_call 130;refine(O.out _ _ W (by first | exact Kept.refl _ _ | exact(Kept.refl _ _).drew | exact(Kept.refl _ _).drewN _)).mono ?_;rintro e' w5 ⟨rfl,n0,n1,hG⟩)
    all_goals
     obtain⟨p0,p1,p5,g0,g1,w6,A,hP⟩:=hG _ (by first | exact Kept.refl _ _ | exact(Kept.refl _ _).drew | exact(Kept.refl _ _).drewN _)
     go_wp2_with fail
     go_ret3;exact hP
   ·obtain rfl:X=A0:=by omega
    go_enter func78,ntmps78
    go_upto_region 6 with(first
     | (go_at_call 73;refine hi.mono ?_;rintro e w1 ⟨rfl,rfl⟩)
     | (go_at_call 72;refine ha.mono ?_;rintro e q ⟨rfl,a⟩;obtain⟨u0,v0,W⟩:=HU.out q a))
    clear hi ha HU R
    go_region_with (go_at_call 130;refine(O.out _ _ W (by first | exact Kept.refl _ _ | exact(Kept.refl _ _).drew | exact(Kept.refl _ _).drewN _)).mono ?_;rintro e' w5 ⟨rfl,n0,n1,hG⟩)
    all_goals
     obtain⟨p0,p1,p5,g0,g1,w6,A,hP⟩:=hG _ (by first | exact Kept.refl _ _ | exact(Kept.refl _ _).drew | exact(Kept.refl _ _).drewN _);rw[Int.sub_self]at A
     go_wp2_with fail
     go_ret3;exact hP
 ·have hV:Gd N m k (tIs 1) []=.pointer I:=by unfold Gd;rw[Aa hE]
  have d:m.Gu k=m.Fi k (tIs 1) []:=by
   unfold CoM.Gu;unfold CoM.Fi at hE ⊢
   cases v:m.per k with
   | none=>rfl
   | some p=>
    rw[v]at hE
    by_cases e:p.st=1
    ·simp[tIs,e]at hE
    ·simp[tIs,e]
  rw[hV]at ha;have HF:Hid (∀q,Below (w.alloc (.cells #[.int M 1] 158)).heap.size (w.alloc (.cells #[.int M 1] 158)) q->LendPost w c (coF c N m) m k (n+1) (K (.tuple #[.int M 0,.int M 0,.int M (m.Fi k (tIs 1) [])])) q):=hid fun q a=>by
   have:=LendPost.bad h (by rw[d];exact hE) (Fr R a)
   rwa [d]at this
  generalize LendPost w c (coF c N m) m k (n+1)=P at*;generalize m.Fi k (tIs 1) []=E at*;clear h h2 hr aa hV d;unfold Fa Jn at*;go_enter func78,ntmps78
  go_wp2_with(first
   | (go_at_call 73;refine hi.mono ?_;rintro e w1 ⟨rfl,rfl⟩)
   | (go_at_call 72;refine ha.mono ?_;rintro e q ⟨rfl,a⟩))
  go_ret3;exact HF.out q a
theorem AlG:∀h:Fin 4,∀n:Fin 8, -1000<=Gr n.val h.val/\Gr n.val h.val<=1000:=by decide+kernel
theorem Ajg{h:Nat}(a:h<=3)(d:n<2 ^ h): -1000<=Gr n h/\Gr n h<=1000:=by
 have c:2 ^ h<=2 ^ 3:=BC (by omega) a;exact AlG ⟨h,by omega⟩ ⟨n,by omega⟩
theorem Y0{S:Setg}{s:ByteArray}(y:SetOk S s.size)(v:Nat):(Jo S s v).all Kn=true/\((Jo S s v).length:Int)*S.order=S.count:=by
 have hO:=y.order;have hC:=y.count;obtain⟨O,N⟩:∃O:Nat,S.order=O:=⟨S.order.toNat,by omega⟩;obtain⟨C,q⟩:∃C:Nat,S.count=C:=⟨S.count.toNat,by omega⟩;obtain⟨h,ho,R,d⟩:∃h,O=2*h/\1<=h/\h<=3:=⟨O / 2,by omega,by omega,by omega⟩;obtain⟨c, r⟩ := E7 (Xm S (QP S (SA (Fh s (8*s.size))) v));have X:c.length=C:=by rw[r,Ve,Uo,q,AN]
 have a:AllBits c:=by rw[r];exact VD _ _ _
 obtain⟨m, P⟩ := E7 (C / O);have A:C=m*O:=by
  rw[P]
  grind
 have eb:Jo S s v=NK h c O m:=by
  unfold Jo
  grind
 rw[eb];have hs:(NK h c O m).length=m:=by simp[NK]
 refine⟨AM.2 fun p D=>?_,?_⟩
 ·unfold NK at D;obtain⟨j,hj,rfl⟩:=Bb.1 D;have o:=Bv.1 hj;have aa:j*O+O<=C:=by
   rw[A];have h2:=BM O (show j+1<=m from o)
   grind
  have hl:(Tl c O j).length=2*h:=by
   unfold Tl
   grind
  have W:∀x∈Tl c O j,x=0\/x=1:=fun x H=>by
   unfold Tl at H;have:=a x (BQ (Cr H));omega
  obtain⟨n0,n1,e⟩:=Wq R d hl W;rw[e];exact Ag ⟨Ajg d n0,Ajg d n1⟩
 ·rw[hs,N,q,A,CE]
structure Cm where
 P:J->List Nat->Prop
 lt:∀w F,P w F->∀x∈F,x<w.heap.size
 kept:∀w w' F S,P w F->Kept S w w'->(∀x∈F,x∉S)->P w' F
def Oe:Nat:=12
structure Wd(w:J):Prop where
 es:∃te pe,w.var? prog "strconv.ErrSyntax" =G #[.iface te pe]
 er:∃te pe,w.var? prog "strconv.ErrRange" =G #[.iface te pe]
 mx:∃m,w.cell? ⟨0,0,I⟩=G (B M m)
 tab:Lib.TabIs prog w "internal/strconv.uint64pow10" .u64 Lib.pow10Tab
theorem UW(k:∀x,x<Oe->w'.heap[x]?=w.heap[x]?){n:String}(hg:prog.globalNamed n=G g)(a:g<Oe):w'.var? prog n=w.var? prog n:=by
 unfold World.var?
 grind
theorem Wd.kept(h:Wd w)(k:∀x,x<Oe->w'.heap[x]?=w.heap[x]?):Wd w':=by
 obtain⟨⟨t1,a,c1⟩,⟨d,c,c2⟩,⟨m,c3⟩,t⟩:=h;refine⟨⟨t1,a,(UW k (g:=1) (by kernel_rfl) (by decide+kernel)).trans c1⟩,⟨d,c,(UW k (g:=2) (by kernel_rfl) (by decide+kernel)).trans c2⟩,⟨m,(AF (k _ (by decide+kernel))).trans c3⟩,?_⟩;exact(UW k (g:=4) (by kernel_rfl) (by decide+kernel)).trans t
structure Tb(w:J):Prop where
 rd:ReadyL w
 ver:VerT w
 wd:Wd w
theorem Tb.kept{w w':J}{S:List Nat}(h:Tb w)(c:Kept S w w')(A:∀x∈S,Oe<=x):Tb w':=by
 have d:∀x,x<Oe->x∉S:=by grind
 have y:Oe<=w.heap.size:=h.rd.wor.lt;have hd:=h.wd.kept fun x a=>c.block x (by omega) (d x a)
 obtain⟨⟨⟨t1,p,e1⟩,⟨r,q,e2⟩,s,f3,e3⟩,⟨v,f4,m⟩, -⟩:=h;have k:∀x o,x<Oe->w.heap[x]?=G o->w'.heap[x]?=G o:=fun x o a e=>(c.block x (Array.getElem?_eq_some_iff.1 e).1 (d x a)).trans e
 exact⟨⟨⟨t1,p,k _ _ (by decide+kernel) e1⟩,⟨r,q,k _ _ (by decide+kernel) e2⟩,s,f3,k _ _ (by decide+kernel) e3⟩,⟨v,f4,k _ _ (by decide+kernel) m⟩,hd⟩
theorem Tb.lt{w:J}(h:Tb w):Oe<=w.heap.size:=h.rd.wor.lt
structure Hq(w0:J)(S:List Nat)(w:J)(C:Nat×Nat->Option Cm)(F:Nat×Nat->List Nat):Prop where
 kep:Kept S w0 w
 tb:Tb w
 lo:∀x∈S,Oe<=x
 hi:Oe<=w0.heap.size
 each:∀i c,C i=G c->c.P w (F i)/\Ga w0.heap.size S (F i)
 ap:∀i j,i≠j->C i≠I->C j≠I->∀x∈F i,x∉F j
def Hp (w0:J)(S:List Nat)(w:J)(C:Nat×Nat->Option Cm):Prop:=∃F,Hq w0 S w C F
def FQ {A:Type} [DecidableEq A](C:A->Option Cm)(i:A)(c:Option Cm):A->Option Cm:=fun j=>if j=i then c else C j
theorem Hp.congr{C a:Nat×Nat->Option Cm}(h:Hp w0 S w C)(e:∀i,C i=a i):Hp w0 S w a:=by
 have:C=a:=funext e;exact this▸h
theorem Hp.get{C:Nat×Nat->Option Cm}(h:Hp w0 S w C){c:Cm}(hi:C i=G c):∃F,c.P w F:=by
 obtain⟨F,h⟩:=h;exact⟨_,(h.each i c hi).1⟩
theorem Hp.tb{w0 w:J}{S:List Nat}{C:Nat×Nat->Option Cm}(h:Hp w0 S w C):Tb w:=by
 obtain⟨F,h⟩:=h;exact h.tb
theorem Hp.kep{w0 w:J}{S:List Nat}{C:Nat×Nat->Option Cm}(h:Hp w0 S w C):Kept S w0 w:=by
 obtain⟨F,h⟩:=h;exact h.kep
theorem Kept.Aeq(h:Kept S w0 w)(k:Kept F w w')(hg:Ga w0.heap.size S F):Kept S w0 w':=
 ⟨k.os.trans h.os,k.tape.trans h.tape,k.output.trans h.output,Ak h.size k.size,fun i hi a=>(k.block i (AI hi h.size) (fun e=>(hg i e).elim a (by omega))).trans (h.block i hi a)⟩
theorem Hq.Ao1{C:Nat×Nat->Option Cm}{F:Nat×Nat->List Nat}(h:Hq w0 S w C F){t:Nat×Nat}{c c':Cm}{d:Option Cm}{D:List Nat}(hi:C i=G c)(hk:Kept (F i) w w')(hP:c'.P w' F')(hg:Ga w.heap.size (F i) F')(hd:∀R,d=G R->R.P w' D/\∀x∈D,w.heap.size<=x/\x∉F'):Hp w0 S w' (FQ (FQ C i (G c')) t d):=by
 obtain⟨h0,A,r,h3,W,h5⟩:=h;have H:=(W i c hi).2;have ag:=h0.size;have hl:∀j p,C j=G p->∀x∈F j,x<w.heap.size:=fun j p o x s=>p.lt _ _ (W j p o).1 x s
 have aa:∀x∈F i,Oe<=x:=fun x s=>(H x s).elim (r x) (fun q=>Ak h3 q)
 refine⟨fun j=>if j=t then D else if j=i then F' else F j,h0.Aeq hk H,A.kept hk aa,r,h3,fun j p o=>?_,fun j k ae o af x s ah=>?_⟩
 ·unfold FQ at o
  by_cases N:j=t
  ·rw[Ab N]at o ⊢;obtain⟨q1,q2⟩:=hd p o;exact⟨q1,fun x s=> .inr (by have:=(q2 x s).1;omega)⟩
  ·rw[Aa N]at o ⊢
   by_cases v:j=i
   ·rw[Ab v]at o ⊢;obtain rfl:=AX o;refine⟨hP,fun x s=>?_⟩
    rcases hg x s with q | q
    ·exact H x q
    ·exact .inr (by omega)
   ·rw[Aa v]at o ⊢;refine⟨p.kept _ _ _ _ (W j p o).1 hk (h5 j i v (by rw[o];simp) (by rw[hi];simp)),(W j p o).2⟩
 ·have ad:∀y∈D,FQ (FQ C i (G c')) t d t≠I->w.heap.size<=y/\y∉F':=fun y X m=>by
   unfold FQ at m;rw[Ab rfl]at m;obtain⟨R,e⟩:=Option.ne_none_iff_exists'.1 m;exact(hd R e).2 y X
  have O:∀a,a≠t->a≠i->FQ (FQ C i (G c')) t d a=C a:=fun a A r=>by unfold FQ;rw[Aa A,Aa r]
  have ab:∀a,a≠t->a≠i->FQ (FQ C i (G c')) t d a≠I->(∀y∈F a,y<w.heap.size)/\∀y∈F a,y∉F i:=fun a A r m=>by
   rw[O a A r]at m;obtain⟨ca,e⟩:=Option.ne_none_iff_exists'.1 m
   grind
  have ac:∀a,a≠t->a≠i->FQ (FQ C i (G c')) t d a≠I->∀y∈F a,y∉F':=fun a A r m y X e=>by
   obtain⟨q1,q2⟩:=ab a A r m
   rcases hg y e with q | q
   ·exact q2 y X q
   ·have:=q1 y X;omega
  grind
theorem Hq.step{C:Nat×Nat->Option Cm}{F:Nat×Nat->List Nat}(h:Hq w0 S w C F){c c':Cm}(hi:C i=G c)(D:Kept (F i) w w')(hP:c'.P w' F')(hg:Ga w.heap.size (F i) F'):Hp w0 S w' (FQ C i (G c')):=by
 obtain⟨O,h1,R,W,r,X⟩:=h;have m:=(r i c hi).2;have ab:=O.size;have A:∀x∈F i,Oe<=x:=fun x s=>(m x s).elim (R x) (fun q=>Ak W q)
 have o:C i≠I:=by rw[hi];simp
 have hF:∀a,a≠i->C a≠I->∀y∈F a,y∉F':=fun a ha p y hy e=>by
  obtain⟨N,q⟩:=Option.ne_none_iff_exists'.1 p
  rcases hg y e with q2 | q2
  ·exact X a i ha p o y hy q2
  ·have:=N.lt _ _ (r a N q).1 y hy;omega
 refine⟨fun j=>if j=i then F' else F j,O.Aeq D m,h1.kept D A,R,W,fun j v d=>?_,fun j k aa d H x s ac=>?_⟩
 ·unfold FQ at d
  by_cases e:j=i
  ·rw[Ab e]at d ⊢;obtain rfl:=AX d;exact⟨hP,fun x s=>(hg x s).elim (m x) fun q=> .inr (by omega)⟩
  ·rw[Aa e]at d ⊢;exact⟨v.kept _ _ _ _ (r j v d).1 D (X j i e (by rw[d];simp) o),(r j v d).2⟩
 ·unfold FQ at d H
  grind
theorem Hp.AoE{C:Nat×Nat->Option Cm}(h:Hp w0 S w C)(a:Kept [] w w'):Hp w0 S w' C:=by
 obtain⟨F,m,o,p,q,d,r⟩:=h;exact⟨F,m.Aeq a (by intro x s;cases s),o.kept a (by simp),p,q,fun j c e=>⟨c.kept _ _ _ _ (d j c e).1 a (by simp),(d j c e).2⟩,r⟩
theorem Hp.below{C:Nat×Nat->Option Cm}(h:Hp w0 S w C)(a:Below w.heap.size w w'):Hp w0 S w' C:=h.AoE (Kept.E5 a)
theorem Hp.new{C:Nat×Nat->Option Cm}(h:Hp w0 S w C){t:Nat×Nat}{d:Cm}{D:List Nat}(p:Kept [] w w')(hd:d.P w' D)(A:∀x∈D,w.heap.size<=x):Hp w0 S w' (FQ C t (G d)):=by
 obtain⟨F,r,s,v,y,o,R⟩:=h;have N:=r.size;have W:∀j,C j≠I->∀x∈F j,x<w.heap.size:=fun j a x m=>by
  obtain⟨c,e⟩:=Option.ne_none_iff_exists'.1 a;exact c.lt _ _ (o j c e).1 x m
 refine⟨fun j=>if j=t then D else F j,r.Aeq p (by intro x m;cases m),s.kept p (by simp),v,y,fun j c a=>?_,fun j k H a q x m O=>?_⟩
 ·unfold FQ at a
  by_cases e:j=t
  ·rw[Ab e]at a ⊢;obtain rfl:=AX a;exact⟨hd,fun x m=> .inr (by have:=A x m;omega)⟩
  ·rw[Aa e]at a ⊢;exact⟨c.kept _ _ _ _ (o j c a).1 p (by simp),(o j c a).2⟩
 ·unfold FQ at a q
  grind
theorem Hp.drop{C:Nat×Nat->Option Cm}(h:Hp w0 S w C)(t:Nat×Nat):Hp w0 S w (FQ C t I):=by
 obtain⟨F,o,p,q,r,s,v⟩:=h;have e:∀j,FQ C t I j≠I->FQ C t I j=C j:=fun j a=>by
  unfold FQ at a ⊢
  grind
 refine⟨F,o,p,q,r,fun j c a=>s j c ((e j (by rw[a];simp)).symm.trans a),fun j k d a m x y=>v j k d (e j a▸a) (e k m▸m) x y⟩
def NS (f:FuncId)(args:Array Value)(w:J)(c:Cm)(R:Ending->Cm->Prop):Prop:=Tb w->∀F,(∀x∈F,Oe<=x)->c.P w F->Calls prog f args w fun e w'=>∃c',R e c'/\Kept F w w'/\∃F',c'.P w' F'/\Ga w.heap.size F F'
theorem Hp.act{C:Nat×Nat->Option Cm}(h:Hp w0 S w C){c:Cm}(hi:C i=G c){f:FuncId}{R:Ending->Cm->Prop}(H:NS f args w c R):Calls prog f args w fun e w'=>∃c',R e c'/\Hp w0 S w' (FQ C i (G c')):=by
 obtain⟨F,h⟩:=h;have p:=h.hi;refine(H h.tb (F i) (fun x o=>((h.each i c hi).2 x o).elim (h.lo x) (by omega)) (h.each i c hi).1).mono ?_;rintro e w' ⟨c',d,m,F',a,hg⟩;exact⟨c',d,h.step hi m a hg⟩
def YJ (f:FuncId)(args:Array Value)(w:J)(c:Cm)(R:Ending->Cm->Cm->Prop):Prop:=Tb w->∀F,(∀x∈F,Oe<=x)->c.P w F->Calls prog f args w fun e w'=>∃c' d,R e c' d/\Kept F w w'/\∃F' D,c'.P w' F'/\Ga w.heap.size F F'/\d.P w' D/\∀x∈D,w.heap.size<=x/\x∉F'
theorem Hp.AbV{C:Nat×Nat->Option Cm}(h:Hp w0 S w C){c:Cm}(hi:C i=G c){f:FuncId}{R:Ending->Cm->Cm->Prop}(H:YJ f args w c R)(t:Nat×Nat):Calls prog f args w fun e w'=>∃c' d,R e c' d/\Hp w0 S w' (FQ (FQ C i (G c')) t (G d)):=by
 obtain⟨F,h⟩:=h;have s:=h.hi;refine(H h.tb (F i) (fun x q=>((h.each i c hi).2 x q).elim (h.lo x) (by omega)) (h.each i c hi).1).mono ?_;rintro e w' ⟨c',d,o,p,F',D,m,hg,hd,a⟩;exact⟨c',d,o,h.Ao1 hi p m hg (fun r e=>by obtain rfl:=AX e;exact⟨hd,a⟩)⟩
theorem Hp.put{C:Nat×Nat->Option Cm}(h:Hp w0 S w C){c c':Cm}(hi:C i=G c)(H:∀F,c.P w F->Kept F w w'/\c'.P w' F):Hp w0 S w' (FQ C i (G c')):=by
 obtain⟨F,h⟩:=h;obtain⟨a,d⟩:=H _ (h.each i c hi).1;exact h.step hi a d fun x e=> .inl e
def JP (g:Nat)(T:TypeId)(cs:List Value):Cm:=⟨fun w F=>F=[g]/\At w g T cs,fun w F ⟨e,h⟩=>by subst e;exact fun x hx=>by rw[AC]at hx;subst hx;exact h.lt,fun w w' F S ⟨e,h⟩ hk hn=>by subst e;exact⟨rfl,h.kept hk (hn g (by simp))⟩⟩
def Hg (w0:J)(S:List Nat)(w:J)(D:Nat->Nat->Option Cm):Prop:=Hp w0 S w (fun i:Nat×Nat=>D i.1 i.2)
def setG (D:Nat->Nat->Option Cm)(g:Nat)(O:Nat->Option Cm):Nat->Nat->Option Cm:=fun k=>if k=g then O else D k
theorem IW(D:Nat->Nat->Option Cm)(g:Nat)(O:Nat->Option Cm):setG D g O g=O:=Ab rfl
theorem Ig(D:Nat->Nat->Option Cm)(g:Nat):setG D g (D g)=D:=funext fun k=>by unfold setG;split<;>simp_all
theorem Ahw(D:Nat->Nat->Option Cm)(g:Nat)(O O':Nat->Option Cm):setG (setG D g O) g O'=setG D g O':=funext fun k=>by unfold setG;split<;>simp_all
theorem JJ(D:Nat->Nat->Option Cm){k:Nat}(h:g≠k)(O O':Nat->Option Cm):setG (setG D g O) k O'=setG (setG D k O') g O:=funext fun x=>by unfold setG;split<;>split<;>simp_all
theorem Fo(D:Nat->Nat->Option Cm){k:Nat}(h:k≠g)(O:Nat->Option Cm):setG D g O k=D k:=Aa h
theorem JI(D:Nat->Nat->Option Cm)(g j:Nat)(O:Nat->Option Cm)(c:Option Cm):FQ (fun i:Nat×Nat=>setG D g O i.1 i.2) (g,j) c=fun i:Nat×Nat=>setG D g (FQ O j c) i.1 i.2:=funext fun⟨a,b⟩=>by
 unfold FQ setG
 by_cases d:a=g
 ·by_cases e:b=j
  ·simp[d,e]
  ·simp[d,e]
 ·simp[d]
theorem Hg.act{w0 w:J}{S:List Nat}{D:Nat->Nat->Option Cm}{g j:Nat}{O:Nat->Option Cm}(h:Hg w0 S w (setG D g O)){c:Cm}(hi:O j=G c){f:FuncId}{args:Array Value}{R:Ending->Cm->Prop}(H:NS f args w c R):Calls prog f args w fun e w'=>∃c',R e c'/\Hg w0 S w' (setG D g (FQ O j (G c'))):=by
 refine(Hp.act h (i:=(g,j)) (c:=c) (by show setG D g O g j=_;rw[IW];exact hi) H).mono ?_;rintro e w' ⟨c',d,a⟩;rw[JI]at a;exact⟨c',d,a⟩
theorem Hg.AbV{w0 w:J}{S:List Nat}{D:Nat->Nat->Option Cm}{g j:Nat}{O:Nat->Option Cm}(h:Hg w0 S w (setG D g O)){c:Cm}(hi:O j=G c){f:FuncId}{args:Array Value}{R:Ending->Cm->Cm->Prop}(H:YJ f args w c R)(t:Nat):Calls prog f args w fun e w'=>∃c' d,R e c' d/\Hg w0 S w' (setG D g (FQ (FQ O j (G c')) t (G d))):=by
 refine(Hp.AbV h (i:=(g,j)) (c:=c) (by show setG D g O g j=_;rw[IW];exact hi) H (g,t)).mono ?_;rintro e w' ⟨c',d,m,a⟩;rw[JI,JI]at a;exact⟨c',d,m,a⟩
theorem Hg.new{w0 w w':J}{S:List Nat}{D:Nat->Nat->Option Cm}{g:Nat}{O:Nat->Option Cm}(h:Hg w0 S w (setG D g O))(t:Nat){d:Cm}{L:List Nat}(e:Kept [] w w')(hd:d.P w' L)(c:∀x∈L,w.heap.size<=x):Hg w0 S w' (setG D g (FQ O t (G d))):=by
 have a:=Hp.new h (t:=(g,t)) e hd c;rw[JI]at a;exact a
theorem Hg.drop{w0 w:J}{S:List Nat}{D:Nat->Nat->Option Cm}{g:Nat}{O:Nat->Option Cm}(h:Hg w0 S w (setG D g O))(t:Nat):Hg w0 S w (setG D g (FQ O t I)):=by
 have a:=Hp.drop h (g,t);rw[JI]at a;exact a
theorem Hg.put{w0 w w':J}{S:List Nat}{D:Nat->Nat->Option Cm}{g j:Nat}{O:Nat->Option Cm}(h:Hg w0 S w (setG D g O)){c c':Cm}(hi:O j=G c)(H:∀F,c.P w F->Kept F w w'/\c'.P w' F):Hg w0 S w' (setG D g (FQ O j (G c'))):=by
 have a:=Hp.put h (i:=(g,j)) (c:=c) (by show setG D g O g j=_;rw[IW];exact hi) H;rw[JI]at a;exact a
theorem Hg.get{w0 w:J}{S:List Nat}{D:Nat->Nat->Option Cm}{g j:Nat}{O:Nat->Option Cm}(h:Hg w0 S w (setG D g O)){c:Cm}(hi:O j=G c):∃F,c.P w F:=Hp.get h (i:=(g,j)) (by show setG D g O g j=_;rw[IW];exact hi)
theorem Hg.box{D:Nat->Nat->Option Cm}{O:Nat->Option Cm}(h:Hg w0 S w (setG D g O)){b:Nat}(hi:O j=G (JP b T cs)):At w b T cs:=by
 obtain⟨F, -,h⟩:=h.get hi;exact h
theorem Hg.GK{D:Nat->Nat->Option Cm}{O:Nat->Option Cm}(h:Hg w0 S w (setG D g O)){b:Nat}(hi:O j=G (JP b T cs))(o:Nat)(v:Value):Hg w0 S (w.setCell ⟨b,o,I⟩ v) (setG D g (FQ O j (G (JP b T (cs.set o v))))):=
 h.put hi fun F ⟨e,a⟩=>by subst e;exact⟨(Kept.refl _ w).setCell (by simp) _,rfl,a.setCell v⟩
theorem Hg.Ii{D:Nat->Nat->Option Cm}{O:Nat->Option Cm}(h:Hg w0 S w (setG D g O))(t:Nat)(T:TypeId)(cs:List Value):Hg w0 S (w.alloc (.cells cs.toArray T)) (setG D g (FQ O t (G (JP w.heap.size T cs)))):=
 h.new t ((Kept.refl _ w).alloc _) (L:=[w.heap.size]) ⟨rfl,Fc w T cs⟩ (fun x a=>by rw[AC]at a;omega)
theorem Hg.below{w0 w w':J}{S:List Nat}{D:Nat->Nat->Option Cm}(h:Hg w0 S w D)(a:Below w.heap.size w w'):Hg w0 S w' D:=Hp.below h a
theorem Hg.tb{w0 w:J}{S:List Nat}{D:Nat->Nat->Option Cm}(h:Hg w0 S w D):Tb w:=Hp.tb h
end Go.Proofs.YtbjgfoiikhbonahGreatDoor
