import Derived.Test.YtbjgfoiikhbonahGreatDoorA19
set_option linter.unusedVariables false
set_option linter.unusedSimpArgs false
set_option maxRecDepth 100000
set_option maxHeartbeats 4000000
namespace Go.Proofs.YtbjgfoiikhbonahGreatDoor
open Go.ChangeShapes Go.WideShapes Go.ChangeAt Go.RowKit Go.Proofs.Tryz
open Value renaming slice->A,int->B
open Option renaming some->C,none->D
open IntKind renaming i64->F
variable {a:Option Addr}{b c e g gx i j n x y z:Nat}{p q:Int}{v:Value}{w:World}{xs:List Value}
theorem Xb(a:List Value)(b c:Array Value):a.toArray++b++c=(a++b.toList++c.toList).toArray:=by
 apply Array.ext';simp
theorem Fc(w:World)(T:TypeId)(cur:List Value):At (w.alloc (.cells cur.toArray T)) w.heap.size T cur:=Am w (.cells cur.toArray T)
theorem ZO(h:w.ownsRow 0 146 2 (A (C ⟨g,0,D⟩) n c) n xs)(af:∀u∈xs,u.oneCell'=true)(hb:n<=4000)(hX:At w gx 146 [B F p, B F q])(bl:gx≠g)(hi:i<n)(bk:c<n+1):
 Calls prog 210 #[A (C ⟨g,0,D⟩) n c, B F (i:Int), A (C ⟨gx,0,D⟩) 1 1] w (I7 w (C ⟨g,0,D⟩) (n+1) (xs.take (i*2)++([B F p, B F q]++xs.drop (i*2))) [g]):=by
 obtain⟨cur,hA, -,hn,hc,bi,bj,ao⟩:=F9 h;obtain⟨i0,a5,be,bf,ap⟩:=As Tryz.PS;obtain rfl:c=n:=by omega
 obtain⟨X, Z⟩ := E7 ([B F p,B F q]);have aa:X.length=2:=by rw[Z];rfl
 have ay:∀u∈X,u.oneCell'=true:=by rw[Z];exact On
 rw[<-Z]at hX ⊢;have ab:(xs.drop (i*2)).length=(c-i)*2:=by rw[AJ,ao];omega
 have bd:(xs.take (i*2)).length=i*2:=by rw[Ay,ao];omega
 have a2:∀t,t<(xs.drop (i*2)).length->(xs.drop (i*2))[t]?=cur[i*2+t]?:=by grind
 obtain⟨G, hG⟩ := E7 (grownCap w (c+1) c 146);have bh:c+1<=G:=by rw[hG];exact grownCap_ge w _ _ _
 have au:G<=maxLen:=by rw[hG];exact grownCap_le_maxLen w _ _ _ (by unfold maxLen;omega)
 have bm:G<=9223372036854775807:=by unfold maxLen at au;omega
 obtain⟨Z1, ak⟩ := E7 ((Builtin.zeroCells (Value.agg #[B F 0, B F 0]).cells (c+1-i)).toList);obtain⟨Z2, al⟩ := E7 ((Builtin.zeroCells (Value.agg #[B F 0, B F 0]).cells (G-(c+1))).toList);have a0:Z1.length=(c+1-i)*2:=by rw[ak,AH,Cj];rfl
 have a1:Z2.length=(G-(c+1))*2:=by rw[al,AH,Cj];rfl
 obtain⟨d, E⟩ := E7 (xs.take (i*2)++Z1++Z2);have am:d.length=G*2:=by
  grind
 obtain⟨S, W⟩ := E7 (w.drew.alloc (.cells d.toArray 146));have a6:i+(c+1-i)=c+1:=by omega
 have ba:∀(N:Int),N=((c+1-i:Nat):Int)->(Builtin.append_ #[141,3] 141 #[A (C ⟨g,0,D⟩) i c, B F N]).run prog w=.ok (A (C ⟨w.heap.size,0,D⟩) (c+1) G) S:=by
  rintro N rfl;have a9:(Builtin.firstCells i0.size i (A (C ⟨g,0,D⟩) i c)).run prog w.drew=.ok (xs.take (i*2)).toArray w.drew:=by
   rw[bf]
   exact run_firstCells_some w.drew 2 i ⟨g,0,D⟩ i c (xs.take (i*2)) bd ((show At w.drew g 146 cur from hA).src 0 (fun j hj=>by
    grind))
  have:=Lib.run_append_grow_zeros w 141 3 141 146 i0 _ F F underlying141 underlying3 a5 be (C ⟨g,0,D⟩) i c (xs.take (i*2)) a9 (c+1-i) (by omega) (by omega) (by omega) (by omega) (by rw[ap];omega) (by rw[ap,a6];exact DC (by omega) (by omega));rw[a6,<-hG]at this;rw[this,W,E,ak,al,Xb]
 have ah:At S w.heap.size 146 d:=by rw[W];exact Fc w.drew _ _
 have l:Kept [] w S:=by rw[W];exact(Kept.refl _ w).drew.trans (Kept.alloc (Kept.refl _ _) _)
 have az:At S gx 146 X:=hX.kept l (by simp);have aq:At S g 146 cur:=hA.kept l (by simp);have a4:g≠w.heap.size:=Nat.ne_of_lt hA.lt;have ac:i*2+X.length<=d.length:=by rw[am,aa];omega
 obtain⟨f, m⟩ := E7 (splice d (i*2) X);have an:f.length=G*2:=by rw[m];exact(BG _ _ _ ac).trans am
 obtain⟨W2, Y⟩ := E7 (S.setRow w.heap.size f.toArray);have bb:∀ty,(Builtin.copy_ #[141,140] ty #[A (C ⟨w.heap.size,i*2,D⟩) (c+1-i) (G-i), A (C ⟨gx,0,D⟩) 1 1]).run prog S=.ok (goInt 1) W2:=by
  intro ty;have s:Nat.min 1 (c+1-i)=1:=B8 (by omega);have:=Li (P:=prog) S 141 140 ty 146 146 2 w.heap.size (i*2) (c+1-i) (G-i) ⟨gx,0,D⟩ 1 1 d X underlying141 Tryz.AhJ ah (by rw[s,aa]) (az.src 0 (fun j _=>by rw[Ao])) ac ay
  grind
 have ai:At W2 w.heap.size 146 f:=by rw[Y];exact ah.set
 have ar:At W2.drew g 146 cur:=by
  show At W2 g _ cur;rw[Y];exact aq.other a4 _
 have ad:(i+1)*2+(xs.drop (i*2)).length<=f.length:=by rw[an,ab];omega
 obtain⟨r, o⟩ := E7 (splice f ((i+1)*2) (xs.drop (i*2)));have a7:r.length=G*2:=by rw[o];exact(BG _ _ _ ad).trans an
 obtain⟨W3, aj⟩ := E7 (W2.drew.setRow w.heap.size r.toArray);have bc:∀ty,(Builtin.copy_ #[141,141] ty #[A (C ⟨w.heap.size,(i+1)*2,D⟩) (c-i) (G-(i+1)), A (C ⟨g,i*2,D⟩) (c-i) (c-i)]).run prog W2.drew=.ok (goInt ((c-i:Nat):Int)) W3:=by
  intro ty;have s:Nat.min (c-i) (c-i)=c-i:=Nat.min_self _;have:=Li (P:=prog) W2.drew 141 141 ty 146 146 2 w.heap.size ((i+1)*2) (c-i) (G-(i+1)) ⟨g,i*2,D⟩ (c-i) (c-i) f (xs.drop (i*2)) underlying141 Tryz.AhJ ai (by rw[s,ab]) (ar.src _ a2) ad (fun v hv=>af v (BQ hv))
  grind
 have hk:Kept [g] w W3:=by
  have h2:Kept [w.heap.size] S W3:=by
   rw[aj,Y];exact((FO S _ _).trans (Kept.refl _ _).drew).trans (FO _ _ _)
  refine⟨h2.os.trans l.os,h2.tape.trans l.tape,h2.output.trans l.output,Ak l.size h2.size,fun k hk _=>?_⟩;rw[h2.block k (AI hk l.size) (by simp;omega),l.block k hk (by simp)]
 have ag:W3.ownsRow 0 146 2 (A (C ⟨w.heap.size,0,D⟩) (c+1) G) (c+1) (xs.take (i*2)++(X++xs.drop (i*2))):=by
  have a8:(xs.take (i*2)++(X++xs.drop (i*2))).length=(c+1)*2:=by
   grind
  have bg:At W3 w.heap.size 146 r:=by rw[aj];exact At.set (w:=W2.drew) ai
  refine At.row (T:=146) (cur:=r) bg a8 bh au a7 ?_;refine Bf fun t=>?_
  by_cases ht:t<(c+1)*2
  ·rw[A3 ht,o,JK ad,m,JK ac,aa,ab]
   grind
  grind
 have av:=hid ba;have aw:=hid bb;have ax:=hid bc;have ae:=hid (show I7 w (C ⟨g,0,D⟩) (c+1) (xs.take (i*2)++(X++xs.drop (i*2))) [g] (.returned (A (C ⟨w.heap.size,0,D⟩) (c+1) G)) W3 from⟨_,rfl,ag,fun g' a3=>by simp[Value.ownBlock]at a3;subst a3;exact .inr (Ac _),hk⟩);have bu:i<=c:=by omega
 have bt:¬(c=i):=by omega
 have bp:¬(G=i):=by omega
 have bn:¬(G=i+1):=by omega
 have bw:IntKind.i64.wrap ((i:Int)+1)=(i:Int)+1:=by rw[AO];omega
 have bx:IntKind.i64.wrap ((c:Int)+1)=(c:Int)+1:=by rw[AO];omega
 have bz:IntKind.i64.wrap ((c:Int)+1-(i:Int))=(c:Int)+1-(i:Int):=by rw[AO];omega
 have bq:(0:Int)<=(i:Int)+1:=by omega
 have bv:((i:Int)+1).toNat=i+1:=by omega
 have br:(i:Int)+1<=(c:Int)+1:=by omega
 have bs:(i:Int)<=(c:Int)+1:=by omega
 obtain⟨N, hN⟩ := E7 w.heap.size;rw[<-hN]at av aw ax ae;clear h hX af hA ah az aq ar ai ba bb bc hk l ag E m o am an a7 ac ad ab bd a2 bi bj ao Z aa ay W Y aj a5 be bf ap hG ak al a0 a1 a4 hN;go_enter func210,ntmps210;go_upto_region 10 with(at_builtin;refine IM _ rfl .append _ _ 141 3 rfl _ _ rfl rfl (GG (av.out _ (by omega))) ?_)
 have bo:=aw.out;go_upto_region 11 with fail
 go_region_law (refine KJ rfl .copy _ _ 141 141 rfl (A (C ⟨N,(i+1)*2,D⟩) (c-i) (G-(i+1))) (A (C ⟨g,i*2,D⟩) (c-i) (c-i)) (by simp[Act.eval,Act.put]) (by simp[Act.eval,Act.put]) (W8 (ax.out _)) ?_);go_wp2
 all_goals (go_ret;exact ae.out)
theorem AcO(h:w.ownsRow 0 146 2 (A a n c) n xs)(d:∀u∈xs,u.oneCell'=true)(l:n<=4000)(k:At w gx 146 [B F p, B F q])(f:∀y,a=C y->gx≠y.block)(hi:i<=n):
 Calls prog 210 #[A a n c, B F (i:Int), A (C ⟨gx,0,D⟩) 1 1] w (I7 w a (n+1) (xs.take (i*2)++([B F p, B F q]++xs.drop (i*2))) (A a n c).ownBlock.toList):=by
 by_cases e:i=n
 ·subst e;have o:=h.1;have:=AcP h l k;rw[Aw (by omega),Dd (by omega),AA];exact this
 ·obtain⟨g,rfl⟩:=Oz h (by omega)
  by_cases m:n+1<=c
  ·exact XI h d l k (f _ rfl) (by omega) m
  ·exact ZO h d l k (f _ rfl) (by omega) (by omega)
theorem Nj{m d:Nat}:Aib w (C ⟨g,0,D⟩) (A (C ⟨g,0,D⟩) m d):=fun h f=>by
 simp[Value.ownBlock]at f;subst f;exact .inl ⟨0,rfl⟩
theorem Yi(h:w.ownsRow 0 146 2 (A a n c) n xs)(f:∀u∈xs,u.oneCell'=true)(N:n<=4000)(E:At w gx 146 [B F p, B F q])(m:∀y,a=C y->gx≠y.block)(hi:i<=n):
 Calls prog 169 #[A a n c, B F (i:Int), B F (i:Int), A (C ⟨gx,0,D⟩) 1 1] w (I7 w a (n+1) (xs.take (i*2)++([B F p, B F q]++xs.drop (i*2))) (A a n c).ownBlock.toList):=by
 have d:=AcO h f N E m hi;obtain⟨x,cc,e,W,T,S⟩:=Fg h;simp only[Aq]at e;obtain⟨rfl, -,rfl⟩:=e;have P:i<=c:=by omega
 obtain⟨l, t⟩ := E7 (I7 w a (n+1) (xs.take (i*2)++([B F p, B F q]++xs.drop (i*2))) (A a n c).ownBlock.toList);have k:∀e w',l e w'->∃v',e=.returned v':=fun e w' h=>by
  rw[t]at h;obtain⟨v',G, -⟩:=h;exact⟨v',G⟩
 rw[<-t]at d ⊢;clear h f E m S t
 cases a with
 | none=>
  go_enter func169,ntmps169
  go_wp2_with(go_at_call 210;refine d.mono ?_;intro e w1 r;obtain⟨v',rfl⟩:=k _ _ r)
  all_goals exact r
 | some y=>
  obtain⟨b,o,s⟩:=y;go_enter func169,ntmps169
  go_wp2_with(go_at_call 210;refine d.mono ?_;intro e w1 r;obtain⟨v',rfl⟩:=k _ _ r)
  all_goals exact r
theorem AaX(h:w.ownsRow 0 146 2 (A (C ⟨g,0,D⟩) n c) n xs)(hX:At w gx 146 [B F p, B F q])(hb:n<=4000)(hi:i<n):
 Calls prog 169 #[A (C ⟨g,0,D⟩) n c, B F (i:Int), B F (n:Int), A (C ⟨gx,0,D⟩) 1 1] w (I7 w (C ⟨g,0,D⟩) (i+1) (xs.take (i*2)++[B F p, B F q]) [g]):=by
 obtain⟨cur,hA, -,hn,hc,m,am,aj⟩:=F9 h;obtain⟨i0,W,ak,Z,ap⟩:=As Tryz.PS;have ax:c<=9223372036854775807:=by unfold maxLen at hc;omega
 obtain⟨X, N⟩ := E7 ([B F p,B F q]);have r:X.length=2:=by rw[N];rfl
 have ah:∀u∈X,u.oneCell'=true:=by rw[N];exact On
 rw[<-N]at hX ⊢;have ai:(xs.take (i*2)).length=i*2:=by rw[Ay,aj];omega
 have S:i*2+X.length<=cur.length:=by rw[m,r];omega
 obtain⟨f, d⟩ := E7 (splice cur (i*2) X);have Y:f.length=cur.length:=by rw[d];exact BG _ _ _ S
 obtain⟨W1, G⟩ := E7 (w.setRow g f.toArray);have ae:(Builtin.append_ #[141,140] 141 #[A (C ⟨g,0,D⟩) i c, A (C ⟨gx,0,D⟩) 1 1]).run prog w=.ok (A (C ⟨g,0,D⟩) (i+1) c) W1:=by
  have:=run_append_room (P:=prog) w 141 141 146 i0 underlying141 W g i c cur.toArray hA ⟨gx,0,D⟩ 1 1 X (by rw[Z,r]) (hX.src 0 (fun j _=>by rw[Ao])) ah (by omega) (by rw[Z];simpa using S);rw[Pw w underlying141 underlying140 W,this,G,d,Z];simp[splice]
 have s:At W1 g 146 f:=by rw[G];exact hA.set
 have ad:Kept [g] w W1:=by rw[G];exact FO _ _ _
 have o:(xs.take (i*2)++X).length=(i+1)*2:=by rw[Ai,ai,r];omega
 have af:f.take ((i+1)*2)=xs.take (i*2)++X:=by
  refine Bf fun t=>?_
  by_cases ht:t<(i+1)*2
  ·rw[A3 ht,d,JK S,r]
   grind
  grind
 by_cases he:i+1<n
 ·have al:(Builtin.zeroCells (Value.agg #[B F 0, B F 0]).cells (n-(i+1))).toList.length=(n-(i+1))*2:=by rw[AH,Cj];rfl
  have ac:(i+1)*2+(n-(i+1))*2<=f.length:=by rw[Y,m];omega
  obtain⟨aa, k⟩ := E7 (splice f ((i+1)*2) (Builtin.zeroCells (Value.agg #[B F 0, B F 0]).cells (n-(i+1))).toList);have an:aa.length=cur.length:=by rw[k];exact(BG _ _ _ (by rw[al];exact ac)).trans Y
  obtain⟨W2, ab⟩ := E7 (W1.setRow g aa.toArray);have ao:∀ty,(Builtin.clear_ #[141] ty #[A (C ⟨g,(i+1)*2,D⟩) (n-(i+1)) (c-(i+1))]).run prog W1=.ok (.tuple #[]) W2:=by
   intro ty;rw[ab,k]
   exact Nt _ 141 146 ty 146 i0 _ underlying141 W ak g _ _ _ f s (by omega) ac (fun v hv=>by
    have:=OJ hv;simp[Value.cells]at this;subst this
    rfl)
  have l:I7 w (C ⟨g,0,D⟩) (i+1) (xs.take (i*2)++X) [g] (.returned (A (C ⟨g,0,D⟩) (i+1) c)) W2:=by
   refine⟨_,rfl,At.row (T:=146) (cur:=aa) (by rw[ab];exact s.set) o (by omega) hc (by rw[an,m]) ?_,Nj,by rw[ab];exact ad.trans (FO _ _ _)⟩;rw[k,SD (by rw[al];exact ac) _ (Ac _),af]
  have ag:=hid ae;have aq:=hid ao;have E:=hid l;have hz:¬((i:Int)=(n:Int)):=by omega
  have ar:i<=c:=by omega
  have au:i<=n:=by omega
  have av:(i:Int)+1<(n:Int):=by omega
  have ay:¬(c=i+1):=by omega
  have aw:((i:Int)+1).toNat=i+1:=by omega
  clear h hX hA s ae ao l ad d k Y an S ac al o af ai m am aj N r ah G ab W ak Z ap;go_enter func169,ntmps169;go_upto_region 6 with(at_builtin;refine IM _ rfl .append _ _ 141 140 rfl _ _ rfl rfl (GG ag.out) ?_)
  have m:=aq.out;go_wp2
  all_goals (go_ret;exact E.out)
 ·have l:I7 w (C ⟨g,0,D⟩) (i+1) (xs.take (i*2)++X) [g] (.returned (A (C ⟨g,0,D⟩) (i+1) c)) W1:=⟨_,rfl,s.row o (by omega) hc (by rw[Y,m]) af,Nj,ad⟩;have ag:=hid ae;have E:=hid l;have hz:¬((i:Int)=(n:Int)):=by omega
  have ar:i<=c:=by omega
  have au:i<=n:=by omega
  have av:¬((i:Int)+1<(n:Int)):=by omega
  clear h hX hA s ae l ad d Y S o af ai m am aj N r ah G W ak Z ap;go_enter func169,ntmps169;go_upto_region 6 with(at_builtin;refine IM _ rfl .append _ _ 141 140 rfl _ _ rfl rfl (GG ag.out) ?_)
  go_wp2
  all_goals (go_ret;exact E.out)
theorem AaY(h:w.ownsRow 0 146 2 (A (C ⟨g,0,D⟩) n c) n xs)(ab:∀u∈xs,u.oneCell'=true)(hX:At w gx 146 [B F p, B F q])(a5:gx≠g)(hb:n<=4000)(hi:i<j)(hj:j<n):
 Calls prog 169 #[A (C ⟨g,0,D⟩) n c, B F (i:Int), B F (j:Int), A (C ⟨gx,0,D⟩) 1 1] w (I7 w (C ⟨g,0,D⟩) (i+1+(n-j)) (xs.take (i*2)++([B F p, B F q]++xs.drop (j*2))) [g]):=by
 obtain⟨cur,hA, -,hn,hc,l,ao,aj⟩:=F9 h;obtain⟨i0,ap,av,a3,a4⟩:=As Tryz.PS;have be:c<=9223372036854775807:=by unfold maxLen at hc;omega
 obtain⟨X, S⟩ := E7 ([B F p,B F q]);have o:X.length=2:=by rw[S];rfl
 have al:∀u∈X,u.oneCell'=true:=by rw[S];exact On
 rw[<-S]at hX ⊢;obtain⟨T, hT⟩ := E7 (i+1+(n-j));rw[<-hT];have bc:T<=n:=by omega
 have a2:(xs.take (i*2)).length=i*2:=by rw[Ay,aj];omega
 have W:(xs.drop (j*2)).length=(n-j)*2:=by rw[AJ,aj];omega
 have r:i*2+X.length<=cur.length:=by rw[l,o];omega
 obtain⟨d, k⟩ := E7 (splice cur (i*2) X);have ah:d.length=cur.length:=by rw[k];exact BG _ _ _ r
 obtain⟨W1, ad⟩ := E7 (w.drew.setRow g d.toArray);have aq:∀ty,(Builtin.copy_ #[141,140] ty #[A (C ⟨g,i*2,D⟩) (T-i) (c-i), A (C ⟨gx,0,D⟩) 1 1]).run prog w.drew=.ok (goInt 1) W1:=by
  intro ty;have E:Nat.min 1 (T-i)=1:=B8 (by omega);have:=Li (P:=prog) w.drew 141 140 ty 146 146 2 g (i*2) (T-i) (c-i) ⟨gx,0,D⟩ 1 1 cur X underlying141 Tryz.AhJ hA (by rw[E,o]) (At.src (w:=w.drew) hX 0 (fun j _=>by rw[Ao])) r al
  grind
 have G:At W1 g 146 d:=by rw[ad];exact At.set (w:=w.drew) hA
 have am:∀t,t<(xs.drop (j*2)).length->(xs.drop (j*2))[t]?=d[j*2+t]?:=fun t ht=>by
  rw[Dc,k,JK r,o,Aa (by omega),<-ao,A3 (by omega)]
 have Y:(i+1)*2+(xs.drop (j*2)).length<=d.length:=by rw[ah,l,W];omega
 obtain⟨f, m⟩ := E7 (splice d ((i+1)*2) (xs.drop (j*2)));have Z:f.length=cur.length:=by rw[m];exact(BG _ _ _ Y).trans ah
 obtain⟨W2, ae⟩ := E7 (W1.drew.setRow g f.toArray);have ar:∀ty,(Builtin.copy_ #[141,141] ty #[A (C ⟨g,(i+1)*2,D⟩) (T-(i+1)) (c-(i+1)), A (C ⟨g,j*2,D⟩) (n-j) (c-j)]).run prog W1.drew=.ok (goInt ((n-j:Nat):Int)) W2:=by
  intro ty;have E:Nat.min (n-j) (T-(i+1))=n-j:=B8 (by omega);have:=Li (P:=prog) W1.drew 141 141 ty 146 146 2 g ((i+1)*2) (T-(i+1)) (c-(i+1)) ⟨g,j*2,D⟩ (n-j) (c-j) d (xs.drop (j*2)) underlying141 Tryz.AhJ G (by rw[E,W]) (At.src (w:=W1.drew) G _ am) Y (fun v hv=>ab v (BQ hv))
  grind
 have N:At W2 g 146 f:=by rw[ae];exact At.set (w:=W1.drew) G
 have ag:Kept [g] w W2:=by
  rw[ae,ad];exact(((Kept.refl _ w).drew.trans (FO _ g _)).trans (Kept.refl _ _).drew).trans (FO _ g _)
 have s:(xs.take (i*2)++(X++xs.drop (j*2))).length=T*2:=by
  grind
 have ai:f.take (T*2)=xs.take (i*2)++(X++xs.drop (j*2)):=by
  refine Bf fun t=>?_
  by_cases ht:t<T*2
  ·rw[A3 ht,m,JK Y,k,JK r,o,W]
   grind
  grind
 obtain⟨W3,au,ac⟩:∃W3,(∀ty (a':Option Addr),(¬(c=T)->a'=C ⟨g,T*2,D⟩)->(Builtin.clear_ #[141] ty #[A a' (n-T) (c-T)]).run prog W2=.ok (.tuple #[]) W3)/\I7 w (C ⟨g,0,D⟩) T (xs.take (i*2)++(X++xs.drop (j*2))) [g] (.returned (A (C ⟨g,0,D⟩) T c)) W3:=by
  by_cases he:n-T=0
  ·refine⟨W2,fun ty a' _=>by rw[he];exact LC _ _ _ _ underlying141 _ _,_,rfl,N.row s (by omega) hc (by rw[Z,l]) ai,Nj,ag⟩
  ·have aw:(Builtin.zeroCells (Value.agg #[B F 0, B F 0]).cells (n-T)).toList.length=(n-T)*2:=by rw[AH,Cj];rfl
   have af:T*2+(n-T)*2<=f.length:=by rw[Z,l];omega
   refine⟨W2.setRow g (splice f (T*2) (Builtin.zeroCells (Value.agg #[B F 0, B F 0]).cells (n-T)).toList).toArray,fun ty a' az=>?_,_,rfl,?_,Nj,ag.trans (FO _ _ _)⟩
   ·rw[az (by omega)]
    exact Nt _ 141 146 ty 146 i0 _ underlying141 ap av g _ _ _ f N (by omega) af (fun v hv=>by
     have:=OJ hv;simp[Value.cells]at this;subst this
     rfl)
   ·refine At.row (T:=146) N.set s (by omega) hc ?_ ?_
    ·rw[BG _ _ _ (by rw[aw];exact af),Z,l]
    ·rw[SD (by rw[aw];exact af) _ (Ac _),ai]
 have ax:=hid aq;have ay:=hid ar;have ak:=hid au;have aa:=hid ac;have bn:IntKind.i64.wrap ((i:Int)+1)=(i:Int)+1:=by rw[AO];omega
 have bo:IntKind.i64.wrap ((i:Int)+1+((n-j:Nat):Int))=(T:Int):=by rw[AO];omega
 have ba:¬((j:Int)=(n:Int)):=by omega
 have bj:i<=j:=by omega
 have bk:j<=c:=by omega
 have bl:j<=n:=by omega
 have bi:i<=c:=by omega
 have bg:¬(c=j):=by omega
 have bf:¬(c=i):=by omega
 have a7:¬(c=i+1):=by omega
 have bb:¬((c:Int)<(T:Int)):=by omega
 have a6:T<=c:=by omega
 have bh:i<=T:=by omega
 have a8:(i:Int)+1<=(T:Int):=by omega
 have bd:(0:Int)<=(i:Int)+1:=by omega
 have bm:((i:Int)+1).toNat=i+1:=by omega
 have a9:(i:Int)+1<=(j:Int):=by omega
 clear h hX ab hA G N aq ar au ac ag k m ah Z r Y s ai a2 W am l ao aj S o al ad ae ap av a3 a4 hT;go_enter func169,ntmps169;go_upto_region 9 with fail
 go_region;have an:=ax.out;go_upto_region 18 with fail
 clear an
 go_region_law (refine KJ rfl .copy _ _ 141 141 rfl (A (C ⟨g,(i+1)*2,D⟩) (T-(i+1)) (c-(i+1))) (A (C ⟨g,j*2,D⟩) (n-j) (c-j)) (by simp[Act.eval,Act.put]) (by simp[Act.eval,Act.put]) (W8 (ay.out _)) ?_)
 by_cases a0:c=T
 ·have a1:n=T:=by omega
  subst a1;subst a0;have l:∀ty,(Builtin.clear_ #[141] ty #[A (C ⟨g,0,D⟩) 0 0]).run prog W2=.ok (.tuple #[]) W3:=fun ty=>by
   have:=ak.out ty (C ⟨g,0,D⟩) (fun h=>absurd rfl h)
   rwa [Bm]at this
  go_wp2
  all_goals (go_ret;exact aa.out)
 ·have l:∀ty,(Builtin.clear_ #[141] ty #[A (C ⟨g,T*2,D⟩) (n-T) (c-T)]).run prog W2=.ok (.tuple #[]) W3:=fun ty=>ak.out ty _ (fun _=>rfl)
  go_wp2
  all_goals (go_ret;exact aa.out)
theorem AaW(h:w.ownsRow 0 146 2 (A a n c) n xs)(d:∀u∈xs,u.oneCell'=true)(l:n<=4000)(k:At w gx 146 [B F p, B F q])(f:∀y,a=C y->gx≠y.block)(hi:i<=j)(m:j<=n):
 Calls prog 169 #[A a n c, B F (i:Int), B F (j:Int), A (C ⟨gx,0,D⟩) 1 1] w (I7 w a (i+1+(n-j)) (xs.take (i*2)++([B F p, B F q]++xs.drop (j*2))) (A a n c).ownBlock.toList):=by
 by_cases e:i=j
 ·subst e;rw[show i+1+(n-i)=n+1 by omega];exact Yi h d l k f m
 ·obtain⟨g,rfl⟩:=Oz h (by omega)
  by_cases e2:j=n
  ·subst e2;have o:=h.1;rw[Bm,Bh,Dd (by omega),AA];exact AaX h k l (by omega)
  ·exact AaY h d k (f _ rfl) l (by omega) (by omega)
abbrev Sps:=List (Nat×Nat)
def inS (l:Sps)(i:Nat):Prop:=∃q∈l,q.1<=i/\i<q.2
def Srt (l:Sps):Prop:=(∀q∈l,q.1<q.2)/\l.Pairwise fun p q=>p.2<q.1
def Qe (l:Sps)(e:Nat):Prop:=∀q∈l,q.2<=e
theorem Srt.nil:Srt []:=⟨fun _ h=>absurd h Bt,.nil⟩
theorem GT(i:Nat):¬inS [] i:=fun⟨_,h,_⟩=>absurd h Bt
theorem Gc(q:Nat×Nat)(l:Sps)(i:Nat):inS (q::l) i↔(q.1<=i/\i<q.2)\/inS l i:=by simp[inS]
theorem OV(l r:Sps)(i:Nat):inS (l++r) i↔inS l i\/inS r i:=by simp_all[Sps,inS];grind
theorem Srt.KX{q:Nat×Nat}{l:Sps}(h:Srt (q::l)):Srt l:=⟨fun p d=>h.1 p (AU _ d),(CN.1 h.2).2⟩
theorem Srt.head{q:Nat×Nat}{l:Sps}(h:Srt (q::l)):q.1<q.2/\∀p∈l,q.2<p.1:=⟨h.1 q AL,(CN.1 h.2).1⟩
theorem Srt.len{l:Sps}(h:Srt l):∀{lo e:Nat},(∀q∈l,lo<=q.1)->Qe l e->lo<=e->l.length<=e-lo:=by
 induction l with
 | nil=>intros;simp
 | cons q l ih=>
  intro lo e m k s;have r:=h.head;have o:=m q AL;have d:=k q AL;have:=ih h.KX (lo:=q.2) (e:=e) (fun p f=>by have:=r.2 p f;omega) (fun p f=>k p (AU _ f)) d;rw[AE];omega
theorem Srt.few{l:Sps}(h:Srt l)(d:Qe l e):l.length<=e:=by
 have:=h.len (lo:=0) (e:=e) (fun _ _=>Af _) d (Af _);omega
theorem Srt.AeF{l:Sps}(h:Srt l)(d:i<j)(f:j<l.length):(l.getD i (0,0)).2<(l.getD j (0,0)).1:=by
 have:=List.pairwise_iff_getElem.1 h.2 i j (by omega) f d
 grind
theorem Srt.XC{l:Sps}(h:Srt l)(d:j<l.length):(l.getD j (0,0)).1<(l.getD j (0,0)).2:=by simp_all[Sps,Srt];grind
theorem Rp{l:Sps}(d:j<l.length):l.getD j (0,0)∈l:=by grind
theorem Agv{l:Sps}{q:Nat×Nat}(h:q∈l.take b):∃k,k<b/\k<l.length/\q=l.getD k (0,0):=by
 obtain⟨k,d,e⟩:=List.mem_iff_getElem.1 h;rw[Ay]at d;rw[List.getElem_take]at e;refine⟨k,by omega,by omega,?_⟩
 grind
theorem Agu{l:Sps}{q:Nat×Nat}(h:q∈l.drop b):∃k,b<=k/\k<l.length/\q=l.getD k (0,0):=by
 obtain⟨k,d,e⟩:=List.mem_iff_getElem.1 h;rw[AJ]at d;rw[D8]at e;refine⟨b+k,by omega,by omega,?_⟩
 grind
structure Joins(l:Sps)(a z b e x y:Nat):Prop where
 be:b<=e
 el:e<=l.length
 ahead:∀k,k<b->(l.getD k (0,0)).2<a
 from_:∀k,b<=k->k<l.length->a<=(l.getD k (0,0)).2
 lo:x<=a
 hi:z<=y
 aheadX:∀k,k<b->(l.getD k (0,0)).2<x
 mem:∀i,(x<=i/\i<y)↔((a<=i/\i<z)\/inS ((l.drop b).take (e-b)) i)
theorem Joins.SF{l:Sps}{a:Nat}(r:b<=l.length)(f:∀k,k<b->(l.getD k (0,0)).2<a)(o:Srt l)(m:b<l.length->a<=(l.getD b (0,0)).2):Joins l a z b b a z:=by
 refine⟨Ac _,r,f,fun k s d=>?_,Ac _,Ac _,f,fun i=>?_⟩
 ·rcases DR s with e | e
  ·subst e;exact m d
  ·have:=m (by omega);have t:=o.AeF e d;have u:=o.XC d;omega
 ·rw[Bm,C0]
  constructor
  ·exact .inl
  ·rintro(h | h)
   ·exact h
   ·exact absurd h (GT i)
theorem Joins.step{l:Sps}{a:Nat}(h:Joins l a z b e x y)(t:Srt l)(f:a<z)(d:e<l.length)(N:(l.getD e (0,0)).1<=y):Joins l a z b (e+1) (min x (l.getD e (0,0)).1) (max y (l.getD e (0,0)).2):=by
 have m:=h.be;have G:=h.from_ e h.be d;have s:=h.lo;have o:=h.hi;refine⟨by omega,by omega,h.ahead,h.from_,by omega,by omega,fun k r=>?_,fun i=>?_⟩
 ·have u:=h.aheadX k r;have E:=t.AeF (show k<e by omega) d;omega
 ·have e1:(l.drop b).take (e+1-b)=(l.drop b).take (e-b)++[l.getD e (0,0)]:=by
   rw[show e+1-b=(e-b)+1 by omega,Br,Dc,show b+(e-b)=e by omega,Ap d,Au,Ap d];rfl
  have e2:inS [l.getD e (0,0)] i↔(l.getD e (0,0)).1<=i/\i<(l.getD e (0,0)).2:=by
   rw[Gc]
   constructor
   ·rintro(h | h)
    ·exact h
    ·exact absurd h (GT i)
   ·exact .inl
  rw[e1,OV,<-or_assoc,<-h.mem i,e2];omega
theorem Joins.done{l:Sps}{a:Nat}(h:Joins l a z b e x y)(f:Srt l)(u:a<z)(s:e<l.length->y<(l.getD e (0,0)).1):Srt (l.take b++(x,y)::l.drop e)/\(∀i,inS (l.take b++(x,y)::l.drop e) i↔inS l i\/(a<=i/\i<z))/\(l.take b++(x,y)::l.drop e).length=b+1+(l.length-e):=by
 have E:=h.be;have G:=h.el;have P:=h.lo;have N:=h.hi;have t:∀q∈l.drop e,y<q.1:=fun q d=>by
  obtain⟨k,m,r,rfl⟩:=Agu d
  rcases DR m with o | o
  ·subst o;exact s r
  ·have T:=f.AeF o r;have W:=f.XC (show e<l.length by omega);have X:=s (by omega);omega
 have Y:∀q∈l.take b,q.2<x:=fun q d=>by
  obtain⟨k,m,r,rfl⟩:=Agv d;exact h.aheadX k m
 refine⟨⟨fun q d=>?_,?_⟩,fun i=>?_,?_⟩
 ·rw[BH,Ar]at d
  rcases d with d | rfl | d
  ·exact f.1 q (Cr d)
  ·show x<y;omega
  ·exact f.1 q (BQ d)
 ·rw[List.pairwise_append,CN];refine⟨f.2.sublist (List.take_sublist _ _),⟨t,f.2.sublist (List.drop_sublist _ _)⟩,fun p Z q d=>?_⟩
  grind
 ·have e1:l=l.take b++((l.drop b).take (e-b)++l.drop e):=by
   have m:l.drop b=(l.drop b).take (e-b)++l.drop e:=by
    have:=(Cs (e-b) (l.drop b)).symm
    rwa [List.drop_drop,show b+(e-b)=e by omega]at this
   rw[<-m,Cs]
  have e2:inS l i↔inS (l.take b) i\/(inS ((l.drop b).take (e-b)) i\/inS (l.drop e) i):=by
   conv=>lhs;rw[e1]
   rw[OV,OV]
  rw[e2,OV,Gc];have S:=h.mem i
  show _\/((x<=i/\i<y)\/_)↔_;rw[S]
  constructor
  ·grind
  grind
 grind
def F7 (hi:Nat):Nat->Sps->Sps
 | lo,[]=>if lo<hi then [(lo,hi)] else []
 | lo,y::r=>(if lo<min hi y.1 then [(lo,min hi y.1)] else [])++F7 hi (max lo y.2) r
theorem OS{hi lo:Nat}(h:hi<=lo):∀r,F7 hi lo r=[]
 | []=>by unfold F7;rw[Aa (by omega)]
 | y::r=>by
  unfold F7;rw[Aa (by omega),OS (by omega:hi<=max lo y.2) r];rfl
theorem VY{hi:Nat}:∀{l:Sps} {lo:Nat},Srt l->∀i,inS (F7 hi lo l) i↔lo<=i/\i<hi/\¬inS l i
 | [],lo,_,i=>by
  unfold F7
  split
  ·rw[Gc]
   constructor
   ·rintro(h | h)
    ·exact⟨h.1,h.2,GT i⟩
    ·exact absurd h (GT i)
   grind
  ·constructor
   ·intro h;exact absurd h (GT i)
   ·rintro⟨d,f,_⟩;omega
 | y::r,lo,hs,i=>by
  unfold F7;have m:=hs.head;have o:=VY (hi:=hi) (l:=r) (lo:=max lo y.2) hs.KX i;have e1:inS (if lo<min hi y.1 then [(lo,min hi y.1)] else []) i↔lo<=i/\i<min hi y.1:=by
   split
   ·rw[Gc]
    constructor
    ·rintro(h | h)
     ·exact h
     ·exact absurd h (GT i)
    ·exact .inl
   ·constructor
    ·intro h;exact absurd h (GT i)
    ·rintro⟨d,f⟩;omega
  rw[OV,e1,o,Gc]
  constructor
  ·rintro(⟨d,f⟩ | ⟨d,f,s⟩)
   ·refine⟨d,by omega,?_⟩;rintro(h | ⟨q,k,t,u⟩)
    ·omega
    ·have:=m.2 q k;omega
   grind
  grind
theorem VZ{hi:Nat}:∀{l:Sps} {lo:Nat} (q:Nat×Nat),q∈F7 hi lo l->lo<=q.1/\q.1<q.2/\q.2<=hi
 | [],lo,q,h=>by
  unfold F7 at h
  grind
 | y::r,lo,q,h=>by
  unfold F7 at h;rw[BH]at h
  rcases h with h | h
  ·grind
  ·have:=VZ q h;omega
theorem OR{hi:Nat}:∀{l:Sps} {lo:Nat},(F7 hi lo l).length<=l.length+1
 | [],lo=>by unfold F7;split<;>simp
 | y::r,lo=>by
  unfold F7;have:=OR (hi:=hi) (l:=r) (lo:=max lo y.2)
  grind
theorem K8{p:Nat->Bool}(e:Nat):Fv p e e=e:=IQ (Ac _) (fun k d f=>by omega)
theorem RD{p:Nat->Bool}{e:Nat}:∀{l:Sps} {f i:Nat},Srt l->l.length<f->i<=e->(∀k,i<=k->k<e->(p k=true↔¬inS l k))->MS p e f i=F7 e i l
 | [],f,i,_,u,hie,hp=>by
  obtain⟨f,rfl⟩:∃f',f=f'+1:=⟨f-1,by simp at u;omega⟩;have s:∀k,i<=k->k<e->p k=true:=fun k m o=>(hp k m o).2 (GT k)
  unfold MS F7
  by_cases h:i<e
  ·have e1:Fv p i e=i:=Ge (Ac _) hie (fun j m o=>by omega) (fun h=>s i (Ac _) h);have e2:Fv (fun k=>!p k) i e=e:=IQ hie (fun k m o=>by rw[s k m o];rfl);rw[e1,e2,Ab h,Ab h]
   cases f with
   | zero=>rfl
   | succ f=>unfold MS;rw[K8,Aa (Bp _)]
  ·have:i=e:=by omega
   subst this;rw[K8,Aa (Bp _),Aa (Bp _)]
 | y::r,f,i,hs,u,hie,hp=>by
  obtain⟨f,rfl⟩:∃f',f=f'+1:=⟨f-1,by simp at u;omega⟩;have T:=hs.head;have P:r.length<f:=by simp at u;omega
  have S:∀k,y.2<=k->(inS (y::r) k↔inS r k):=fun k hk=>by
   rw[Gc]
   grind
  have skip:∀f,r.length<f->∀d,i<=d->y.1<=d->d<=e->MS p e f d=F7 e (max d y.2) r:=by
   intro f u d X Z G
   by_cases o:e<=y.2
   ·rw[OS (by omega)];obtain⟨f,rfl⟩:∃f',f=f'+1:=⟨f-1,by omega⟩
    have e1:Fv p d e=e:=IQ G (fun k t E=>by
     rw[<-Ed,hp k (by omega) E,Ee,Gc]
     exact .inl ⟨by omega,by omega⟩)
    unfold MS;rw[e1,Aa (Bp _)]
   ·have ih:=RD (p:=p) (e:=e) (l:=r) (f:=f) (i:=max d y.2) hs.KX u (by omega) (fun k t E=>by grind);rw[<-ih];obtain⟨f,rfl⟩:∃f',f=f'+1:=⟨f-1,by omega⟩;have e1:Fv p d e=Fv p (max d y.2) e:=by
     refine Ge ?_ ?_ ?_ ?_
     ·have:=PN p (max d y.2) e;omega
     ·exact Nb p (by omega)
     ·intro j t E
      by_cases W:j<max d y.2
      ·rw[<-Ed,hp j (by omega) (by omega),Ee,Gc];exact .inl ⟨by omega,by omega⟩
      ·exact L9 (by omega) E
     ·intro t;exact TF t
    unfold MS;rw[e1]
  unfold F7
  by_cases h:i<min e y.1
  ·rw[Ab h]
   have N:∀k,i<=k->k<min e y.1->p k=true:=fun k m o=>(hp k m (by omega)).2 (by
    rw[Gc];rintro(h | ⟨q,Y,E,W⟩)
    ·omega
    ·have:=T.2 q Y
     omega)
   have e1:Fv p i e=i:=Ge (Ac _) hie (fun j m o=>by omega) (fun _=>N i (Ac _) h)
   have e2:Fv (fun k=>!p k) i e=min e y.1:=Ge (by omega) (by omega) (fun j m o=>by rw[N j m o];rfl) (fun t=>by
    have:min e y.1=y.1:=by omega
    rw[this]
    show(!p y.1)=true;rw[DO,<-Ed,hp y.1 (by omega) (by omega),Ee,Gc]
    exact .inl ⟨Ac _,T.1⟩)
   unfold MS;rw[e1,e2,Ab (by omega)]
   show _::_=_::_
   congr 1
   by_cases t:y.1<e
   ·rw[show min e y.1=y.1 by omega,skip f P y.1 (by omega) (Ac _) (by omega)]
    congr 1
    omega
   ·rw[show min e y.1=e by omega,OS (by omega)]
    cases f with
    | zero=>rfl
    | succ f=>unfold MS;rw[K8,Aa (Bp _)];rfl
  ·rw[Aa h]
   show _=[]++_;rw[AK]
   by_cases t:e<=y.1
   ·have:i=e:=by omega
    subst this;rw[OS (by omega)];unfold MS;rw[K8,Aa (Bp _)]
   grind
def G8 (l:Sps):Nat:=(l.getLastD (0,0)).2
theorem AeA{l:Sps}(d:l≠[]):G8 l=(l.getD (l.length-1) (0,0)).2:=by unfold G8;grind
theorem Srt.Tz{l:Sps}(h:Srt l):Qe l (G8 l):=fun q m=>by
 have d:l≠[]:=by rintro rfl;cases m
 obtain⟨k,t,e⟩:=List.mem_iff_getElem.1 m;have o:q=l.getD k (0,0):=by grind
 rw[AeA d]
 rcases AS k (l.length-1)with f | f
 ·have r:=h.AeF f (by omega);have s:=h.XC (show l.length-1<l.length by omega);rw[o];omega
 grind
theorem Srt.AmK{l:Sps}(h:Srt l)(d:0<G8 l):inS l (G8 l-1):=by simp_all[Sps,Srt,G8,inS];grind
theorem XH{l:Sps}(h:Srt l)(hi:inS l i):i<G8 l:=by
 obtain⟨q,d,f,k⟩:=hi;have:=h.Tz q d;omega
theorem Alq{l:Sps}(h:Srt l)(f:∀i,inS l i->i<e)(k:0<e->inS l (e-1)):G8 l=e:=by
 rcases Ea (G8 l) e with d | d | d
 ·have:=XH h (k (by omega));omega
 ·exact d
 ·have:=f _ (h.AmK (by omega));omega
def FD (l:Sps):List Value:=l.flatMap fun q=>[B F (q.1:Int), B F (q.2:Int)]
theorem Zb(l:Sps):(FD l).length=l.length*2:=by
 induction l with
 | nil=>rfl
 | cons q l ih=>simp only[FD,Do,Ai,AE,Bs]at ih ⊢;omega
theorem R7(l:Sps):∀u∈FD l,u.oneCell'=true:=by
 intro u d;simp only[FD,Ce]at d;obtain⟨q,_,h⟩:=d;simp at h
 rcases h with rfl | rfl<;>rfl
theorem Za(l r:Sps):FD (l++r)=FD l++FD r:=by simp[FD]
theorem Xd(l:Sps):∀i,(FD l).take (i*2)=FD (l.take i):=by
 induction l with
 | nil=>intro i;simp[FD]
 | cons q l ih=>
  intro i
  cases i with
  | zero=>simp[FD]
  | succ i=>
   have e:FD (q::l)= B F (q.1:Int):: B F (q.2:Int)::FD l:=rfl;have d:FD (q::l.take i)= B F (q.1:Int):: B F (q.2:Int)::FD (l.take i):=rfl
   grind
theorem Qp(l:Sps):∀i,(FD l).drop (i*2)=FD (l.drop i):=by
 induction l with
 | nil=>intro i;simp[FD]
 | cons q l ih=>
  intro i
  cases i with
  | zero=>simp
  | succ i=>
   have e:FD (q::l)= B F (q.1:Int):: B F (q.2:Int)::FD l:=rfl
   grind
theorem Ace(l:Sps):∀i,i<l.length->(FD l)[i*2]?=C (B F ((l.getD i (0,0)).1:Int))/\(FD l)[i*2+1]?=C (B F ((l.getD i (0,0)).2:Int)):=by
 induction l with
 | nil=>intro i h;simp at h
 | cons q l ih=>
  intro i h;have e:FD (q::l)= B F (q.1:Int):: B F (q.2:Int)::FD l:=rfl
  grind
def OwnSp(w:World)(v:Value)(l:Sps):Prop:=w.ownsRow 0 146 2 v l.length (FD l)
theorem OwnSp.nil(w:World):OwnSp w (A D 0 0) []:=Bj _ _ _ _
theorem OwnSp.kept{w':World}{l:Sps}{S:List Nat}(h:OwnSp w v l)(d:Kept S w w')(f:∀g,v.ownBlock=C g->g∉S):OwnSp w' v l:=FY h d f
theorem OwnSp.FC{l:Sps}(h:OwnSp w v l):∃a c,v= A a l.length c/\l.length<=c/\c<=maxLen/\(∀x,a=C x->∃g,x=⟨g,0,D⟩/\v.ownBlock=C g):=Fg h
theorem OwnSp.lt{l:Sps}(h:OwnSp w v l)(hg:v.ownBlock=C g):g<w.heap.size:=(AB h g hg).2
theorem OwnSp.at{l:Sps}(h:OwnSp w (A a n c) l)(hi:i<l.length):∃g,a=C ⟨g,0,D⟩/\g<w.heap.size/\∀k,k<l.length->w.cell? ⟨g,k*2,D⟩=C (B F ((l.getD k (0,0)).1:Int))/\w.cell? ⟨g,k*2+1,D⟩=C (B F ((l.getD k (0,0)).2:Int)):=by
 have r:=O6 h;subst r;obtain⟨g,rfl⟩:=Oz h (by omega);obtain⟨cur,d, -, -, -, -,f,s⟩:=F9 h;refine⟨g,rfl,d.lt,fun k o=>?_⟩;have m:=Ace l k o;rw[d.cell,d.cell,<-m.1,<-m.2,<-f,A3 (by omega),A3 (by omega)];exact⟨rfl,rfl⟩
theorem WF{l:Sps}(h:OwnSp w (A a n c) l)(r:l.length<=4000):
 Calls prog 121 #[A a n c] w fun e w'=>e=.returned (B F ((G8 l:Nat):Int))/\w'=w:=by
 have t:=O6 h;subst t
 by_cases d:l.length=0
 ·have e:l=[]:=Cp d;subst e;clear h r d;go_enter func121,ntmps121;go_wp2
  all_goals (go_ret;exact⟨rfl,rfl⟩)
 ·obtain⟨g,rfl, -,o⟩:=h.at (i:=0) (by omega);have k:=(o (l.length-1) (by omega)).2;have s:=hid (AeA (l:=l) (by rintro rfl;simp at d));obtain⟨N,f⟩:∃N,l.length=N+1:=⟨l.length-1,by omega⟩;rw[f,DD]at k;rw[f]at r d ⊢;have m:Hid (G8 l=(l.getD N (0,0)).2):=by
   grind
  have u:IntKind.i64.wrap ((N:Int)+1-1)=(N:Int):=by rw[AO];omega
  generalize (l.getD N (0,0)).2=E at*;clear h s o f;go_enter func121,ntmps121;go_wp2
  all_goals (go_ret;exact⟨by rw[m.out];rfl,rfl⟩)
end Go.Proofs.YtbjgfoiikhbonahGreatDoor
