import Derived.Test.YtbjgfoiikhbonahGreatDoorD26
set_option linter.unusedVariables false
set_option linter.unusedSimpArgs false
set_option maxRecDepth 100000
set_option maxHeartbeats 4000000
namespace Go.Proofs.YtbjgfoiikhbonahGreatDoor
open Go.ChangeShapes Go.WideShapes Go.ChangeAt Go.RowKit Go.Maps Go.Proofs.Tryz
open Value (int)
open IntKind (i64)
variable {F:List Nat}{b g k t:Int}{c n:Nat}{f:Bool}{w:World}
theorem Xp{m:CoM}(h:PCo w c F m n)(ht:Gb t)(hb:Gb b)(hn:n<Jf)(U:m.repErr g t b=0):Calls prog 134 #[Fa c,Kt g t b f] w (StepC w c F (m.Fx g t b f) (n+1)):=by
 obtain⟨N,rfl,h⟩:=h;have hR:m.Fx g t b f=⟨m.rep g b f,0⟩:=by unfold CoM.Fx;rw[Ab U]
 have a7:=h.ok.len;have bd:n<8796093022208:=hn;have Z:=CoM.Yh U;have aw:=Z.g1;have ax:=Z.g2;obtain⟨i,ei⟩:∃i:Nat,g=(i:Int)+1:=⟨g.toNat-1,by omega⟩;have hi:i<m.loans.length:=by omega
 obtain⟨gb,cur,y,q, -,bb,bc, -,g0,g1⟩:=h.AeI hi;have M:m.loans.getD i .zero=m.at g:=by unfold CoM.at;rw[show g.toNat-1=i by omega]
 rw[M]at g0 g1;obtain⟨⟨p,B⟩,a5,av,a4⟩:=h.ok.ln (m.at g) (CoM.Ain ⟨aw,ax⟩);obtain⟨q1,q2,q3,q4,q5,q6,q7⟩:=h.ok.pr _ p B;have V:Gb g:=by unfold Gb;omega
 obtain⟨a1,a2,a3⟩:=h.RX;obtain⟨b1,b2,b3,b4,b5,b6⟩:=a3 _ p B;obtain⟨J,K⟩:=b5 _ y;have J:N.ub (m.at g).who≠gb:=J;have K:N.mb (m.at g).who≠gb:=K;have a8:=b6 _ p B;obtain⟨z,ae⟩:=RepN.of h.ok U B f;obtain⟨W,L⟩:=E7 (w.alloc (.cells #[int i64 g,int i64 t,int i64 b,.bool f] 262));have az:Kept [] w W:=by rw[L];exact(Kept.refl _ w).alloc _
 have u:At W w.heap.size 262 [int i64 g,int i64 t,int i64 b,.bool f]:=by rw[L];exact Fc w _ [int i64 g,int i64 t,int i64 b,.bool f]
 have ar:Below w.heap.size w W.drew.drew:=by rw[L];exact((Ad _ w).alloc (Ac _) _).drew.drew
 have u0:W.cell? ⟨w.heap.size,0,none⟩=some (int i64 g):=u.cell 0;have u1:W.cell? ⟨w.heap.size,1,none⟩=some (int i64 t):=u.cell 1;have u2:W.cell? ⟨w.heap.size,2,none⟩=some (int i64 b):=u.cell 2;have u3:W.cell? ⟨w.heap.size,3,none⟩=some (.bool f):=u.cell 3;have hW:=h.kept az (by simp);have c2:=hW.head.2.2;rw[y]at c2;have ad:=hW.kept (T:=[]) (Kept.refl _ W).drew.drew (by simp);have R:=Tf (f:=f) ad hi ei y V ht hb (by unfold Jf;omega);rw[U]at R;have C:w.heap.size≠gb/\w.heap.size≠N.ub (m.at g).who/\w.heap.size≠N.mb (m.at g).who:=by
  have l1:=q.lt;have l2:=(h.ur _ p B).lt;have l3:=(h.op _ p B).lt;omega
 have HC:Hid (∀a,Below W.drew.drew.heap.size W.drew.drew a->a.cell? ⟨gb,i*2+1,none⟩=some (int i64 ((m.at g).turn:Nat))/\a.frozen? ⟨gb,i*2+1,none⟩=false/\a.cell? ⟨gb,i*2,none⟩=some (Fa (N.ub (m.at g).who))/\a.cell? ⟨w.heap.size,0,none⟩=some (int i64 g)/\a.cell? ⟨w.heap.size,1,none⟩=some (int i64 t)/\a.cell? ⟨w.heap.size,2,none⟩=some (int i64 b)/\a.cell? ⟨w.heap.size,3,none⟩=some (.bool f)/\
  ∀wz,Kept [] (a.setCell ⟨gb,i*2+1,none⟩ (int i64 t)) wz->Calls prog 174 #[Fa (N.ub (m.at g).who),Kt g t b f] wz fun e D=>e=.returned (.tuple #[])/\D.cell? ⟨gb,i*2,none⟩=some (Fa (N.ub (m.at g).who))/\D.cell? ⟨w.heap.size,0,none⟩=some (int i64 g)/\D.cell? ⟨w.heap.size,3,none⟩=some (.bool f)/\
   (f=false->∀Y,Kept [] D Y->StepC w c (coF c N m) (m.Fx g t b f) (n+1) (.returned (int i64 0)) Y)/\
   (f=true->∀Y,Kept [] D Y->Calls prog 175 #[Fa (N.ub (m.at g).who),int i64 g] Y fun e w6=>e=.returned (.tuple #[])/\∀wx,Kept [] w6 wx->StepC w c (coF c N m) (m.Fx g t b f) (n+1) (.returned (int i64 0)) wx)):=hid fun a v=>by
  have aq:=Fr ar v;have l:Kept [] w a:=Kept.E5 aq;have h3:=h.kept l (by simp);have A:At a w.heap.size 262 _:=(u.kept (S:=[]) (Kept.refl _ W).drew.drew (by simp)).kept (Kept.E5 (S:=[]) v) (by simp);have E:=q.kept l (by simp);refine⟨E8 l g1 (by simp),E.free _,E8 l g0 (by simp),A.cell 0,A.cell 1,A.cell 2,A.cell 3,fun wz ah=>?_⟩;have ay:Kept [gb] a (a.setCell ⟨gb,i*2+1,none⟩ (int i64 t)):=(Kept.refl _ a).setCell (by simp) _;have s:Kept [gb] a wz:=ay.trans (ah.Fn (by simp));have al:At wz gb 310 (cur.set (i*2+1) (int i64 t)):=(E.setCell (o:=i*2+1) (int i64 t)).kept ah (by simp);have ak:=(h3.ur _ p B).kept s (by simpa using J);have ao:=(h3.op _ p B).kept s (by simpa using K);have ap:=A.kept s (by simpa using C.1);have I:=AjA (ls:=m.loans) hi ei;rw[M,Z.op,Aa (by simp)]at I;have au:0<=b/\b<=(((m.at g).bytes-(m.at g).used:Nat):Int):=⟨Z.b0,Z.b1⟩;refine(Y3 ak ao V I au (by omega) (by omega) (by omega) (by unfold maxLen;omega)).mono ?_;rintro e D ⟨rfl,aa,ab,X⟩;have O:=al.kept X (by grind);have ac:=ap.kept X (by simpa using ⟨C.2.1,C.2.2⟩);have H:Kept [gb,N.ub (m.at g).who,N.mb (m.at g).who] a D:=(s.Fn (by simp)).trans (X.Fn (by simp));have Q:D.cell? ⟨gb,i*2,none⟩=some (Fa (N.ub (m.at g).who)):=by
   rw[O.cell,CV (by omega),<-q.cell];exact g0
  refine⟨rfl,Q,ac.cell 0,ac.cell 3,fun hf Y d=>?_,fun hf Y d=>?_⟩
  ·subst hf;simp only[Ct,AV]at z
   obtain⟨r1,r2,r3⟩:=h3.AeZ U B hi ei y E (H.trans (d.Fn (by simp))) (O.kept d (by simp)) z (aa.kept d (by simp)) (by
    have:=ab.kept d (by simp)
    simpa using this)
   rw[hR];refine⟨rfl,(l.Fn (by simp)).trans r3,_,⟨N,rfl,r1⟩,fun x hx=>?_⟩
   rcases r2 x hx with r | r
   ·exact .inl r
   ·exact .inr (Ak l.size r)
  ·subst hf;simp only[AP]at z;have aj:=aa.kept d (by simp);have an:=ab.kept d (by simp);have a0:(0:Int)<=(m.left (m.at g).who p:Nat)/\((m.left (m.at g).who p:Nat):Int)<=1000000000:=by unfold CoM.left;omega
   refine(Acb aj an V (Ih _ _ _) ⟨by omega,by omega⟩ a0 (by omega)).mono ?_;rintro e w6 ⟨rfl,ai,am,ag⟩;refine⟨rfl,fun wx G=>?_⟩;have af:Kept [gb,N.ub (m.at g).who,N.mb (m.at g).who] a wx:=((H.trans (d.Fn (by simp))).trans (ag.Fn (by simp))).trans (G.Fn (by simp))
   obtain⟨r1,r2,r3⟩:=h3.AeZ U B hi ei y E af (((O.kept d (by simp)).kept ag (by grind)).kept G (by simp)) z (ai.kept G (by simp)) (by
    refine(am.kept G (by simp)).congr fun j=>?_
    grind [J8])
   rw[hR];refine⟨rfl,(l.Fn (by simp)).trans r3,_,⟨N,rfl,r1⟩,fun x hx=>?_⟩
   rcases r2 x hx with r | r
   ·exact .inl r
   ·exact .inr (Ak l.size r)
 have a6:¬gb=w.heap.size:=fun e=>C.1 e.symm
 generalize StepC w c (coF c N m) (m.Fx g t b f) (n+1)=P at*;generalize m.loans.length=LL at*;generalize N.ub (m.at g).who=ub at*;generalize N.mb (m.at g).who=mb at*;generalize (m.at g).turn=T at*;have e1:¬g<1:=by omega
 have e2:¬(LL:Int)<g:=by omega
 have e3:g-1=(i:Int):=by omega
 clear h hR u hW ad y hb ht z Z B M ei a1 a2 a3 b1 b2 b3 b4 b5 b6 U q a5 av a4 q1 q2 q3 q4 q5 q6 q7 ae g0 g1 C;unfold Fa Kt at*
 cases f with
 | false=>
  go_enter func134,ntmps134;go_upto_region 1 with fail
  rw[<-L];clear L
  go_region;go_upto_region 3 with fail
  go_region;go_upto_region 8 with(go_at_call 173;refine R.mono ?_;rintro e a ⟨rfl,v⟩;obtain⟨k1,k2,k3,k4,k5,k6,k7,hG⟩:=HC.out a v)
  go_region_with (go_at_call 174;refine(hG _ (by first | exact Kept.refl _ _ | exact(Kept.refl _ _).drew | exact(Kept.refl _ _).drewN _)).mono ?_;rintro e' D ⟨rfl,n0,n1,n2,hP, -⟩)
  all_goals
   go_wp2_with fail;exact hP (by trivial) _ (by grind [Kept.refl])
 | true=>
  go_enter func134,ntmps134;go_upto_region 1 with fail
  rw[<-L];clear L
  go_region;go_upto_region 3 with fail
  go_region;go_upto_region 8 with(go_at_call 173;refine R.mono ?_;rintro e a ⟨rfl,v⟩;obtain⟨k1,k2,k3,k4,k5,k6,k7,hG⟩:=HC.out a v)
  go_region_with (go_at_call 174;refine(hG _ (by first | exact Kept.refl _ _ | exact(Kept.refl _ _).drew | exact(Kept.refl _ _).drewN _)).mono ?_;rintro e' D ⟨rfl,n0,n1,n2, -,hP⟩)
  all_goals
   go_upto_region 10 with fail
   go_region_with (go_at_call 175;refine(hP (by trivial) _ (by first | exact Kept.refl _ _ | exact(Kept.refl _ _).drew | exact(Kept.refl _ _).drewN _)).mono ?_;rintro a9 w6 ⟨rfl,ba⟩)
   all_goals
    go_wp2_with fail
    grind [Kept.refl]
theorem StepC.mono{w w':World}{c:Nat}{F:List Nat}{r:CoR}{n n':Nat}{e:Ending}(h:StepC w c F r n e w')(m:n<=n'):StepC w c F r n' e w':=by
 obtain⟨a,d,F',⟨N,i,j⟩,l⟩:=h;exact⟨a,d,F',⟨N,i,j.mono m⟩,l⟩
theorem Zr{m:CoM}(n':Nat)(h:PCo w c F m n)(hg:Gb g)(ht:Gb t)(j:Gb b)(l:n<Jf)(i:n<=n')(p:m.repErr g t b=0->n+1<=n'):Calls prog 134 #[Fa c,Kt g t b f] w (StepC w c F (m.Fx g t b f) n'):=by
 by_cases o:1<=g/\g<=(m.loans.length:Int)
 ·by_cases d:m.repErr g t b=0
  ·exact(Xp h ht j l d).mono fun e w' a=>a.mono (p d)
  ·exact(Zs h ht j l o d).mono fun e w' a=>a.mono i
 ·exact(Ts h hg o).mono fun e w' a=>a.mono i
def CoM.Lu(m:CoM)(k:Int):Nat:=if m.Gu k=0 then m.loans.length+1 else 0
def CoM.QF(m:CoM)(k:Int):Nat:=if m.Gu k=0 then m.Pn k else 0
def CoM.Ka(m:CoM)(k:Int):CoM:=if m.Gu k=0 then m.Mr k else m
def LendPost(w:World)(c:Nat)(F:List Nat)(m:CoM)(k:Int)(n:Nat):Ending->World->Prop:=fun e w'=>e=.returned (.tuple #[int i64 (m.Lu k:Nat),int i64 (m.QF k:Nat),int i64 (m.Gu k)])/\Kept F w w'/\∃F',PCo w' c F' (m.Ka k) n/\Ga w.heap.size F F'
theorem LendPost.bad{w':World}{N:CoN}{m:CoM}(h:PCore w c N m n)(a:m.Gu k≠0)(d:Below w.heap.size w w'):LendPost w c (coF c N m) m k (n+1) (.returned (.tuple #[int i64 0,int i64 0,int i64 (m.Gu k)])) w':=by
 unfold LendPost CoM.Lu CoM.QF CoM.Ka;rw[Aa a,Aa a,Aa a];exact⟨rfl,Kept.E5 d,_,⟨N,rfl,(h.kept (Kept.E5 (S:=[]) d) (by simp)).mono (by omega)⟩,fun x e=> .inl e⟩
theorem AfM{m:CoM}(h:PCo w c F m n)(hk:Gb k)(hn:n<Jf):Calls prog 78 #[Fa c,.int i64 k] w (LendPost w c F m k (n+1)):=by
 obtain⟨N,rfl,h⟩:=h;have hi:=Aev 1 w;have B:Below w.heap.size w (w.alloc (.cells #[.int i64 1] 158)):=(Ad _ w).alloc (Ac _) _;have hr:Rd i64 (w.alloc (.cells #[.int i64 1] 158)) none []:=Rd.nil _ _ _;have G:(w.alloc (.cells #[.int i64 1] 158)).cell? ⟨w.heap.size,0,none⟩=some (.int i64 ((1:Nat):Int)):=ON w _ 1;have h2:=h.kept (Kept.E5 (S:=[]) B) (by simp);have I:=Aiv (cc:=0) h2 hk (Aet (s:=1) G) hr (by simp)
 by_cases D:m.Fi k (tIs 1) []=0
 ·obtain⟨p,j,R,ht⟩:=CoM.NV D;have Y:p.st=1:=by simpa [tIs]using ht
  have M:Gd N m k (tIs 1) []=Fa (N.ub k):=by unfold Gd;rw[Ab D]
  rw[M,D]at I;obtain⟨q1,q2,q3,q4,q5,q6,q7⟩:=h.ok.pr k p j;have aj:m.left k p<=1000000000:=by unfold CoM.left;omega
  have ak:m.left k p+m.It k<=1000000000:=by unfold CoM.left;omega
  have ar:=h.ok.u1;have L:Hid (∀i,Below (w.alloc (.cells #[.int i64 1] 158)).heap.size (w.alloc (.cells #[.int i64 1] 158)) i->i.cell? ⟨N.ub k,0,none⟩=some (.int i64 (m.left k p:Nat))/\i.cell? ⟨c,0,none⟩=some (.int i64 (m.unit:Nat))/\Below w.heap.size w i):=hid fun i a=>by
   have hb:=Fr B a;have O:=h.kept (Kept.E5 (S:=[]) hb) (by simp);exact⟨(O.ur k p j).cell 0,O.head.1,hb⟩
  by_cases hL:m.left k p=0
  ·have d:m.Gu k=11:=by unfold CoM.Gu;rw[j];simp[Y,hL]
   have HP:Hid (∀i,Below w.heap.size w i->LendPost w c (coF c N m) m k (n+1) (.returned (.tuple #[.int i64 0,.int i64 0,.int i64 11])) i):=hid fun i a=>by
    have:=LendPost.bad h (by rw[d];simp) a
    rwa [d]at this
   rw[hL]at L;generalize LendPost w c (coF c N m) m k (n+1)=P at*;generalize N.ub k=ub at*;clear h h2 hr G D j R ht M d hL aj ak;unfold Fa Jn at*;go_enter func78,ntmps78
   go_wp2_with(first
    | (go_at_call 73;refine hi.mono ?_;rintro e w1 ⟨rfl,rfl⟩)
    | (go_at_call 72;refine I.mono ?_;rintro e i ⟨rfl,a⟩;obtain⟨u0,v0,C⟩:=L.out i a))
   go_ret3;exact HP.out i C
  ·have d:m.Gu k=0:=by unfold CoM.Gu;rw[j];simp[Y,hL]
   obtain⟨X,Z⟩:=E7 (m.Pn k);have hX:X=min m.unit (m.left k p):=by rw[Z,CoM.Wc j]
   have A:Hid (∀i wz,Below w.heap.size w i->Kept [] i wz->Calls prog 130 #[Fa c,Fa (N.ub k)] wz fun e w'=>e=.returned (.int i64 ((m.loans.length+1:Nat):Int))/\w'.cell? ⟨N.ub k,0,none⟩=some (.int i64 (m.left k p:Nat))/\w'.cell? ⟨c,0,none⟩=some (.int i64 (m.unit:Nat))/\
    (∀v,Kept [] w' v->v.cell? ⟨N.ub k,0,none⟩=some (.int i64 (m.left k p:Nat))/\v.cell? ⟨N.ub k,1,none⟩=some (.int i64 (m.It k:Nat))/\v.cell? ⟨N.ub k,5,none⟩=some (.map (some (N.mb k)))/\v.frozen? ⟨N.ub k,0,none⟩=false/\v.frozen? ⟨N.ub k,1,none⟩=false/\
    ∃K,(Instr.mapUpdate 89 (.map (some (N.mb k))) (.int i64 ((m.loans.length:Int)+1)) (.int i64 (X:Int))).run prog ((v.setCell ⟨N.ub k,0,none⟩ (.int i64 ((m.left k p:Nat)-(X:Int)))).setCell ⟨N.ub k,1,none⟩ (.int i64 ((m.It k:Nat)+(X:Int))))=.ok () K/\LendPost w c (coF c N m) m k (n+1) (.returned (.tuple #[.int i64 ((m.loans.length:Int)+1),.int i64 (X:Int),.int i64 0])) K)):=hid fun i wz a W=>by
    have O:=h.kept (Kept.E5 (S:=[]) a) (by simp);have hz:=O.kept W (by simp);refine(Zj (ub:=N.ub k) hz hn).mono ?_;rintro e w' ⟨rfl,ga,gc,H⟩;obtain⟨a1,a2,a3⟩:=hz.RX;obtain⟨b1,b2,b3,b4,b5,b6⟩:=a3 k p j;have T:∀y∈c::gaF N,y≠N.ub k/\y≠N.mb k:=fun y q=>by
     rw[Ar]at q
     rcases q with rfl | q
     ·exact⟨fun e=>b1 e.symm,fun e=>b3 e.symm⟩
     ·unfold gaF at q
      cases hg:N.ga with
      | none=>rw[hg]at q;simp at q
      | some z=>
       rw[hg]at q;have q:y=z.block:=by simpa using q
       rw[q];exact⟨fun e=>(b5 z hg).1 e.symm,fun e=>(b5 z hg).2 e.symm⟩
    have Q:=(hz.ur k p j).kept H.kp (fun q=>(T _ q).1 rfl);have ac:=(hz.op k p j).kept H.kp (fun q=>(T _ q).2 rfl);refine⟨rfl,Q.cell 0,H.hd.cell 0,fun v J=>?_⟩;have u:=Q.kept J (by simp);have af:=ac.kept J (by simp);have aa:=(u.setCell (o:=0) (.int i64 ((m.left k p:Nat)-(X:Int)))).setCell (o:=1) (.int i64 ((m.It k:Nat)+(X:Int)));have ag:Kept [N.ub k,N.mb k] v ((v.setCell ⟨N.ub k,0,none⟩ (.int i64 ((m.left k p:Nat)-(X:Int)))).setCell ⟨N.ub k,1,none⟩ (.int i64 ((m.It k:Nat)+(X:Int)))):=((Kept.refl _ v).setCell (by simp) _).setCell (by simp) _;have ad:=af.kept (S:=[N.ub k]) (((Kept.refl _ v).setCell (p:=⟨N.ub k,0,none⟩) (by simp) (.int i64 ((m.left k p:Nat)-(X:Int)))).setCell (p:=⟨N.ub k,1,none⟩) (by simp) (.int i64 ((m.It k:Nat)+(X:Int)))) (by simpa using fun e=>b6 k p j e.symm);have am:=h.ok.len;obtain⟨K,l,ae,V⟩:=ad.put (by unfold maxLen;unfold Jf at hn;omega) (k:=(m.loans.length:Int)+1) (by unfold Gb;unfold Jf at hn;omega) underlying89 (.int i64 (X:Int)) (n+1) (by split<;>omega);refine⟨u.cell 0,u.cell 1,u.cell 5,u.free 0,u.free 1,K,l,?_⟩;have ah:Kept [N.ub k,N.mb k] w' K:=((J.Fn (by simp)).trans ag).trans (V.Fn (by simp));have ab:=aa.kept V (by simpa using b6 k p j);obtain⟨r1,r2,r3⟩:=O.AoH j d Z W H ah ab ae;unfold LendPost CoM.Lu CoM.QF CoM.Ka;rw[Ab d,Ab d,Ab d,d,<-Z];refine⟨?_,(Kept.E5 a).trans r3,_,⟨_,rfl,r1⟩,fun x hx=>?_⟩
    ·rw[show((m.loans.length+1:Nat):Int)=(m.loans.length:Int)+1 by omega]
    ·rcases r2 x hx with r | r
     ·exact .inl r
     ·exact .inr (Ak a.size r)
   have an:min (m.unit:Int) ((m.left k p:Nat):Int)=(X:Int):=by rw[hX];omega
   have ap:(X:Int)<=((m.left k p:Nat):Int):=by omega
   have aq:=h.ok.len;unfold Jf at hn;generalize LendPost w c (coF c N m) m k (n+1)=P at*;generalize al:N.ub k=ub at*;generalize ai:N.mb k=mb at*;generalize m.left k p=A0 at*;generalize m.It k=A1 at*;generalize m.unit=U at*;generalize m.loans.length=LL at*;clear h h2 hr G D j R ht M d hX Z al ai q7 q6;unfold Fa Jn at*;rw[show((LL+1:Nat):Int)=(LL:Int)+1 by omega]at A
   by_cases ao:(U:Int)<=(A0:Int)
   ·obtain rfl:X=U:=by omega
    go_enter func78,ntmps78
    go_upto_region 6 with(first
     | (go_at_call 73;refine hi.mono ?_;rintro e w1 ⟨rfl,rfl⟩)
     | (go_at_call 72;refine I.mono ?_;rintro e i ⟨rfl,a⟩;obtain⟨u0,v0,C⟩:=L.out i a))
    clear hi I L B
    go_region_with (go_at_call 130;refine(A.out _ _ C (by first | exact Kept.refl _ _ | exact(Kept.refl _ _).drew | exact(Kept.refl _ _).drewN _)).mono ?_;rintro e' w5 ⟨rfl,n0,n1,hG⟩)
    all_goals
     obtain⟨p0,p1,p5,g0,g1,K,l,hP⟩:=hG _ (by first | exact Kept.refl _ _ | exact(Kept.refl _ _).drew | exact(Kept.refl _ _).drewN _)
     go_wp2_with fail
     go_ret3;exact hP
   ·obtain rfl:X=A0:=by omega
    go_enter func78,ntmps78
    go_upto_region 6 with(first
     | (go_at_call 73;refine hi.mono ?_;rintro e w1 ⟨rfl,rfl⟩)
     | (go_at_call 72;refine I.mono ?_;rintro e i ⟨rfl,a⟩;obtain⟨u0,v0,C⟩:=L.out i a))
    clear hi I L B
    go_region_with (go_at_call 130;refine(A.out _ _ C (by first | exact Kept.refl _ _ | exact(Kept.refl _ _).drew | exact(Kept.refl _ _).drewN _)).mono ?_;rintro e' w5 ⟨rfl,n0,n1,hG⟩)
    all_goals
     obtain⟨p0,p1,p5,g0,g1,K,l,hP⟩:=hG _ (by first | exact Kept.refl _ _ | exact(Kept.refl _ _).drew | exact(Kept.refl _ _).drewN _);rw[Int.sub_self]at l
     go_wp2_with fail
     go_ret3;exact hP
 ·have M:Gd N m k (tIs 1) []=.pointer none:=by unfold Gd;rw[Aa D]
  have d:m.Gu k=m.Fi k (tIs 1) []:=by
   unfold CoM.Gu;unfold CoM.Fi at D |-
   cases j:m.per k with
   | none=>rfl
   | some p=>
    rw[j]at D
    by_cases e:p.st=1
    ·simp[tIs,e]at D
    ·simp[tIs,e]
  rw[M]at I;have HF:Hid (∀i,Below (w.alloc (.cells #[.int i64 1] 158)).heap.size (w.alloc (.cells #[.int i64 1] 158)) i->LendPost w c (coF c N m) m k (n+1) (.returned (.tuple #[.int i64 0,.int i64 0,.int i64 (m.Fi k (tIs 1) [])])) i):=hid fun i a=>by
   have:=LendPost.bad h (by rw[d];exact D) (Fr B a)
   rwa [d]at this
  generalize LendPost w c (coF c N m) m k (n+1)=P at*;generalize m.Fi k (tIs 1) []=E at*;clear h h2 hr G M d;unfold Fa Jn at*;go_enter func78,ntmps78
  go_wp2_with(first
   | (go_at_call 73;refine hi.mono ?_;rintro e w1 ⟨rfl,rfl⟩)
   | (go_at_call 72;refine I.mono ?_;rintro e i ⟨rfl,a⟩))
  go_ret3;exact HF.out i a
end Go.Proofs.YtbjgfoiikhbonahGreatDoor
