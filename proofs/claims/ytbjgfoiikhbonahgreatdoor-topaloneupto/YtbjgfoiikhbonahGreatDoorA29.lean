import Derived.Test.YtbjgfoiikhbonahGreatDoorA28
set_option linter.unusedVariables false
set_option linter.unusedSimpArgs false
set_option maxRecDepth 100000
set_option maxHeartbeats 4000000
namespace Go.Proofs.YtbjgfoiikhbonahGreatDoor
open Go.ChangeShapes Go.WideShapes Go.ChangeAt Go.RowKit Go.Proofs.Tryz
open Value renaming int->A,string->G
open Option renaming none->C,some->E
open Bool renaming false->D
open Ending renaming returned->H
open IntKind renaming i64->I
variable {F:List Nat}{b bg c i q size u win:Nat}{m:OutM}{p:Addr}{r:Sps}{s:ByteArray}{ua:Option Addr}{us:List UnP}{w:World}{x:UnP}
def Lw (x:UnP):Bool:=!x.dn && decide (x.sent<x.text.size)
def YL (w:World)(b win bg:Nat)(ua:Option Addr)(c:Nat)(us:List UnP)(i a z:Nat)(tx:ByteArray):Ending->World->Prop:=fun e w'=>e= H (.tuple #[LB ((bg+i) % 64) a (decide (z=tx.size)) (tx.extract a z), A I 0])/\Kept (F0 b ua us) w w'/\PSnd w' b win bg ua c (us.set i {us.getD i .zero with sent:=z})
theorem Ahz(h:PSnd w b win bg ua c us)(bm:bg<64)(hl:us.length<=4000)(an:UsOk us)(h1:1<=size)(h2:size<=1500)(bh:win<=32)(a3:∀j,j<us.length->(us.getD j .zero).al=[])(bn:i<min win us.length)(a4:∀j,j<i->Lw (us.getD j .zero)=D)(V:Lw (us.getD i .zero)=true):
 Calls prog 107 #[.pointer (E ⟨b,0,C⟩), A I (size:Int)] w (YL w b win bg ua c us i (us.getD i .zero).sent (min ((us.getD i .zero).sent+size) (us.getD i .zero).text.size) (us.getD i .zero).text):=by
 have ak:Kept [] w (w.alloc (.cells #[A I 0, A I 0,.bool D, G {data:=#[]}] 216)):=(Kept.refl _ w).alloc _;have hA:=Fc w 216 [A I 0, A I 0,.bool D, G {data:=#[]}];have hP:=h.kept ak (by simp);have ao:(w.alloc (.cells #[A I 0, A I 0,.bool D, G {data:=#[]}] 216)).heap.size=w.heap.size+1:=Ax _ _;have Z:=h.lt;obtain⟨c0, -,c2⟩:=hP.head;have a0:i<us.length:=by omega
 obtain⟨b1,b2⟩:(us.getD i .zero).dn=D/\(us.getD i .zero).sent<(us.getD i .zero).text.size:=by
  unfold Lw at V
  grind
 have bu:=an.size i a0;obtain⟨z, ez⟩ := E7 (min ((us.getD i .zero).sent+size) (us.getD i .zero).text.size);rw[<-ez];generalize hQ:YL w b win bg ua c us i (us.getD i .zero).sent z (us.getD i .zero).text=Post;obtain⟨N, hN⟩ := E7 us.length;obtain⟨M, hM⟩ := E7 (min win us.length);rw[<-hN]at c2 hl a0;rw[<-hM]at bn;have mM:(if N<win then (N:Int) else (win:Int))=(M:Int):=by rw[hM,<-hN];split<;>omega
 have b4:(if (N:Int)<(win:Int) then (N:Int) else (win:Int))=(M:Int):=by rw[hM,<-hN];split<;>omega
 have HP:=hid hP;have bc:=hid a3;have HN:=hid hN;have HA:=hid hA;have ar:=hid ak;have t:=hid Z;have bf:=hid ao;have bd:=hid a4;have aw:=hid V;have HQ:=hid hQ;have EZ:=hid ez;have ac:=hid an;clear hP a3 hN hA ak Z an h hQ ez hM a4 V;have bz:¬((size:Int)<1):=by omega
 have b0:¬(1500<(size:Int)):=by omega
 go_enter func107,ntmps107
 go_wp2_with fail
 go_loopw [23] (fun vi wr=>∃k:Nat,k<=N/\vi= A I k/\Hid (wr=w.alloc (.cells #[A I 0, A I 0,.bool D, G {data:=#[]}] 216))) (fun vi _=>N-(intOf vi).toNat)
 case atStart=>exact⟨0,by omega,rfl,hid rfl⟩
 case round=>
  obtain⟨k,hk,rfl,hw⟩:=hrel;have HW:=hw;have hw:=hw.out;rw[<-hw]at c0 c2 ao;rw[<-hw]at HP HA ar bf;clear hw
  by_cases bp:k<N
  ·obtain⟨d,ap,a9,g⟩:=HP.out.un (i:=k) (by rw[<-HN.out];omega);subst ap;have c3:=g.c2;obtain⟨ad,cc,af, -, -, -⟩:=g.ag.FC;rw[bc.out k (by rw[<-HN.out];exact bp)]at af;rw[af]at c3;clear g af
   go_wp2_with fail;exact⟨⟨k+1,by omega,by go_num,HW⟩,by simp[intOf];omega⟩
  ·skip
   go_upto_region 10 with fail
   go_quiet (fail)
   go_wp2_with fail
   go_loopw [57] (fun vi w5=>∃k:Nat,k<=i/\vi= A I k/\∃n,w5=wr.drewN n) (fun vi _=>N-(intOf vi).toNat)
   case atStart=>exact⟨0,by omega,rfl,_,rfl⟩
   case round=>
    obtain⟨k,hk,rfl,n,rfl⟩:=hrel;have bq:k<N:=by omega
    have Y:PSnd (wr.drewN n) b win bg ua c us:=HP.out.kept ((Kept.refl [] _).drewN n) (by simp);obtain⟨d,ap,a9,g⟩:=Y.un (i:=k) (by rw[<-HN.out];omega);subst ap;have l:=Aam g (by have:=ac.out.size k (by rw[<-HN.out];omega);omega) (by have:=ac.out.sent k (by rw[<-HN.out];omega);have:=ac.out.size k (by rw[<-HN.out];omega);omega);have d2:(wr.drewN n).cell? ⟨b,2,C⟩=E (.slice (E ⟨d,0,C⟩) N c):=c2
    by_cases Z:k<i
    ·have hf:=bd.out k Z;unfold Lw at hf;rw[hf]at l;have bo:k<M:=by omega
     clear g Y hf
     go_wp2_with(go_at_call 156;refine l.mono ?_;rintro e w6 ⟨rfl,n2,aq⟩;rw[aq,El]);exact⟨⟨k+1,by omega,by go_num,_,rfl⟩,by simp[intOf];omega⟩
    ·obtain rfl:k=i:=by omega
     have hf:=aw.out;unfold Lw at hf;rw[hf]at l;have u0:=g.c0;have u1:=g.c1;have uf:=g.fr (k*4+1);have bo:k<M:=by omega
     have bx:=hid g;have bw:=hid Y;clear hf g Y;have br:∀q,(wr.drewN q).cell? ⟨d,k*4,C⟩=E (G (us.getD k .zero).text):=fun q=>u0
     have bs:∀q,(wr.drewN q).cell? ⟨d,k*4+1,C⟩=E (A I ((us.getD k .zero).sent:Int)):=fun q=>u1
     have am:∀q,Kept [] (wr.drewN n) ((wr.drewN q).alloc (.cells #[A I 0, A I 0] 146)):=fun q=>⟨rfl,rfl,rfl,by simp,fun j hj _=>Bc (wr.drewN q) _ j hj⟩
     have bi:∀q,((wr.drewN q).alloc (.cells #[A I 0, A I 0] 146)).cell? ⟨d,k*4,C⟩=E (G (us.getD k .zero).text):=fun q=>E8 (am q) u0 (by simp)
     have bj:∀q,((wr.drewN q).alloc (.cells #[A I 0, A I 0] 146)).cell? ⟨d,k*4+1,C⟩=E (A I ((us.getD k .zero).sent:Int)):=fun q=>E8 (am q) u1 (by simp)
     have bt:∀q,(wr.drewN q).frozen? ⟨d,k*4+1,C⟩=D:=fun q=>uf
     generalize a7:(us.getD k .zero).sent=st at*;generalize a8:(us.getD k .zero).text=tx at*;have be:=hid a7;have ae:=hid a8;clear a7 a8 u0 u1 uf am;have b5:(if (tx.size:Int)<(st:Int)+(size:Int) then (tx.size:Int) else (st:Int)+(size:Int))=(z:Int):=by rw[EZ.out];split<;>omega
     have b3:IntKind.i64.wrap ((st:Int)+(size:Int))=(st:Int)+(size:Int):=by rw[AO];omega
     go_upto_region 15 with(go_at_call 156;refine l.mono ?_;rintro e w6 ⟨rfl,n2,aq⟩;rw[aq,El])
     go_region;have f1:Kept [] wr ((wr.drewN (n+n2+1)).alloc (.cells #[A I (st:Int), A I (z:Int)] 146)):=((Kept.refl _ wr).drewN _).alloc _;have f2:At ((wr.drewN (n+n2+1)).alloc (.cells #[A I (st:Int), A I (z:Int)] 146)) (w.heap.size+1) 146 [A I (st:Int), A I (z:Int)]:=by
      rw[<-ao];exact Fc (wr.drewN (n+n2+1)) _ _
     generalize ((wr.drewN (n+n2+1)).alloc (.cells #[A I (st:Int), A I (z:Int)] 146))=X at*;have o:k<us.length:=by rw[<-HN.out];exact bq
     have ah:PSnd X b win bg (E ⟨d,0,C⟩) c us:=HP.out.kept f1 (by simp);have ax:=HA.out.kept f1 (by simp);obtain⟨b6,bl, -,T⟩:=ah.un o
     cases bl;have v1:=T.c1;have vf:=T.fr (k*4+1);rw[be.out]at v1;have x0:X.cell? ⟨w.heap.size+1,0,C⟩=E (A I (st:Int)):=f2.cell 0;have x1:X.cell? ⟨w.heap.size+1,1,C⟩=E (A I (z:Int)):=f2.cell 1;have bv:d<w.heap.size:=t.out _ (IK (y:=⟨d,0,C⟩) rfl);have ai:PSnd (X.setCell ⟨d,k*4+1,C⟩ (A I (z:Int))) b win bg (E ⟨d,0,C⟩) c (us.set k {us.getD k .zero with sent:=z}):=ah.upd o (f:=1) (by omega) (PtrPost.store (Kept.refl [] X) (by simp)) (by simp) rfl (T.ag.kept (FT _ _ _ _) (fun g' aj=>by simpa using T.sep g' aj)) (fun g' aj=> .inl aj);have a2:Kept (F0 b (E ⟨d,0,C⟩) us) w (X.setCell ⟨d,k*4+1,C⟩ (A I (z:Int))):=Kept.setCell (p:=⟨d,k*4+1,C⟩) ((ar.out.trans f1).Fn (by simp)) (IK (y:=⟨d,0,C⟩) rfl) _;have ay:=ax.MU ⟨d,k*4+1,C⟩ (A I (z:Int)) (by show w.heap.size≠d;omega);have B:=Wm (i:=k) (a:=st) (z:=z) ai (by rw[An];exact o) (by omega) bm (by rw[EZ.out];omega) (by rw[FL o];show z<=(us.getD k .zero).text.size;rw[ae.out,EZ.out];omega) (by rw[FL o];show(us.getD k .zero).text.size<=1500;rw[ae.out];omega);rw[FL o]at B;have B:Calls prog 154 #[.pointer (E ⟨b,0,C⟩), A I (k:Int),.agg #[A I (st:Int), A I (z:Int)]] (X.setCell ⟨d,k*4+1,C⟩ (A I (z:Int))) fun e w'=>e= H (LB ((bg+k) % 64) st (decide (z=tx.size)) (tx.extract st z))/\Below (X.setCell ⟨d,k*4+1,C⟩ (A I (z:Int))).heap.size (X.setCell ⟨d,k*4+1,C⟩ (A I (z:Int))) w':=by
      have:=B;dsimp only at this;rw[ae.out]at this;exact this
     have aa:Hid (∀w2,Kept (F0 b (E ⟨d,0,C⟩) us) w w2->PSnd w2 b win bg (E ⟨d,0,C⟩) c (us.set k {us.getD k .zero with sent:=z})->Post (H (.tuple #[LB ((bg+k) % 64) st (decide (z=tx.size)) (tx.extract st z), A I 0])) w2):=hid fun w2 q1 q2=>by
      rw[<-HQ.out];exact⟨rfl,q1,q2⟩
     have ab:Hid (∀x∈F0 b (E ⟨d,0,C⟩) (us.set k {us.getD k .zero with sent:=z}),x<w.heap.size):=hid fun x hx=>by
      rcases J4 hx with rfl | ⟨y,hy,rfl⟩ | ⟨j,hj,e⟩
      ·exact t.out _ (KU _ _ _)
      ·exact t.out _ (IK hy)
      ·rw[An]at hj
       by_cases a1:j=k
       ·subst a1;rw[FL hj]at e;exact t.out _ (Jy hj e)
       ·rw[GH (fun e'=>a1 e'.symm)]at e;exact t.out _ (Jy hj e)
     have av:=hid ai;have au:=hid a2;have bb:=hid ay;generalize a5:LB ((bg+k) % 64) st (decide (z=tx.size)) (tx.extract st z)=PV at*;have a6:∃v0 v1 v2 v3,PV=.agg #[A I v0, A I v1,.bool v2, G v3]:=⟨_,_,_,_,a5.symm⟩;obtain⟨v0,ba,v2,v3,bk⟩:=a6;subst bk;clear a5 f1 f2 ah ax T ai a2 ay br bs bt bi bj l
     go_wp2_with(go_at_call 154;refine B.mono ?_;rintro e w2 ⟨rfl,az⟩;have t5:=bb.out.kept (S:=[]) (Kept.E5 az) (by simp);have y0:w2.cell? ⟨w.heap.size,0,C⟩=E (A I 0):=t5.cell 0;have y1:w2.cell? ⟨w.heap.size,1,C⟩=E (A I 0):=t5.cell 1;have y2:w2.cell? ⟨w.heap.size,2,C⟩=E (.bool D):=t5.cell 2;have y3:w2.cell? ⟨w.heap.size,3,C⟩=E (G {data:=#[]}):=t5.cell 3;have z0:=t5.free 0;have z1:=t5.free 1;have z2:=t5.free 2;have z3:=t5.free 3);obtain⟨e1,e2⟩:=Wn (v0:= A I v0) (v1:= A I ba) (v2:=.bool v2) (v3:= G v3) av.out au.out ab.out az
     (try simp only[Exit.inBlock,Exit.then])
     refine Ah (v:=.tuple #[.agg #[A I v0, A I ba,.bool v2, G v3], A I 0]) ?_ rfl (aa.out _ e1 e2);rw[AD rfl];clear e1 e2 aa ab av au B HP
     go_simp
theorem AdP(h:PSnd w b win bg ua c us)(hl:us.length<=4000)(aa:UsOk us)(h1:1<=size)(h2:size<=1500)(Z:∀j,j<us.length->(us.getD j .zero).al=[])(t:∀j,j<min win us.length->Lw (us.getD j .zero)=D):
 Calls prog 107 #[.pointer (E ⟨b,0,C⟩), A I (size:Int)] w fun e w'=>e= H (.tuple #[OI, A I 6])/\Below w.heap.size w w':=by
 have Y:Kept [] w (w.alloc (.cells #[A I 0, A I 0,.bool D, G {data:=#[]}] 216)):=(Kept.refl _ w).alloc _;have hA:=Fc w 216 [A I 0, A I 0,.bool D, G {data:=#[]}];have hP:=h.kept Y (by simp);have T:Below w.heap.size w (w.alloc (.cells #[A I 0, A I 0,.bool D, G {data:=#[]}] 216)):=(Ad _ w).alloc (Ac _) _;obtain⟨c0, -,c2⟩:=hP.head;obtain⟨N, V⟩ := E7 us.length;obtain⟨M, hM⟩ := E7 (min win us.length);rw[<-V]at c2 hl;rw[<-hM]at t;have ak:M<=N:=by omega
 have mM:(if N<win then (N:Int) else (win:Int))=(M:Int):=by rw[hM,<-V];split<;>omega
 have ap:(if (N:Int)<(win:Int) then (N:Int) else (win:Int))=(M:Int):=by rw[hM,<-V];split<;>omega
 have HP:=hid hP;have ae:=hid Z;have B:=hid V;have d:=hid hA;have g:=hid T;have af:=hid t;have l:=hid aa;clear hP Z V hA Y aa h hM t T;have am:¬((size:Int)<1):=by omega
 have an:¬(1500<(size:Int)):=by omega
 go_enter func107,ntmps107
 go_wp2_with fail
 go_loopw [23] (fun z wr=>∃k:Nat,k<=N/\z= A I k/\Hid (wr=w.alloc (.cells #[A I 0, A I 0,.bool D, G {data:=#[]}] 216))) (fun z _=>N-(intOf z).toNat)
 case atStart=>exact⟨0,by omega,rfl,hid rfl⟩
 case round=>
  obtain⟨k,hk,rfl,S⟩:=hrel;have HW:=S;have S:=S.out;rw[<-S]at c0 c2;rw[<-S]at HP d g;clear S
  by_cases ah:k<N
  ·obtain⟨ug,y,ab,a⟩:=HP.out.un (i:=k) (by rw[<-B.out];omega);subst y;have c3:=a.c2;obtain⟨ad,cc,o, -, -, -⟩:=a.ag.FC;rw[ae.out k (by rw[<-B.out];exact ah)]at o;rw[o]at c3;clear a o
   go_wp2_with fail;exact⟨⟨k+1,by omega,by go_num,HW⟩,by simp[intOf];omega⟩
  ·go_upto_region 10 with fail
   go_quiet (fail)
   go_wp2_with fail
   go_loopw [57] (fun z w5=>∃k:Nat,k<=M/\z= A I k/\∃n,w5=wr.drewN n) (fun z _=>N-(intOf z).toNat)
   case atStart=>exact⟨0,by omega,rfl,_,rfl⟩
   case round=>
    obtain⟨k,hk,rfl,n,rfl⟩:=hrel
    by_cases ai:k<M
    ·have ao:k<N:=by omega
     have X:PSnd (wr.drewN n) b win bg ua c us:=HP.out.kept ((Kept.refl [] _).drewN n) (by simp);obtain⟨ug,y,ab,a⟩:=X.un (i:=k) (by rw[<-B.out];omega);subst y;have f:=Aam a (by have:=l.out.size k (by rw[<-B.out];omega);omega) (by have:=l.out.sent k (by rw[<-B.out];omega);have:=l.out.size k (by rw[<-B.out];omega);omega);have d2:(wr.drewN n).cell? ⟨b,2,C⟩=E (.slice (E ⟨ug,0,C⟩) N c):=c2;have hf:=af.out k ai;unfold Lw at hf;rw[hf]at f;clear a X hf
     go_wp2_with(go_at_call 156;refine f.mono ?_;rintro e w6 ⟨rfl,n2,aj⟩;rw[aj,El]);exact⟨⟨k+1,by omega,by go_num,_,rfl⟩,by simp[intOf];omega⟩
    ·have y0:(wr.drewN n).cell? ⟨w.heap.size,0,C⟩=E (A I 0):=d.out.cell 0;have y1:(wr.drewN n).cell? ⟨w.heap.size,1,C⟩=E (A I 0):=d.out.cell 1;have y2:(wr.drewN n).cell? ⟨w.heap.size,2,C⟩=E (.bool D):=d.out.cell 2;have y3:(wr.drewN n).cell? ⟨w.heap.size,3,C⟩=E (G {data:=#[]}):=d.out.cell 3;have z0:(wr.drewN n).frozen? ⟨w.heap.size,0,C⟩=D:=d.out.free 0;have z1:(wr.drewN n).frozen? ⟨w.heap.size,1,C⟩=D:=d.out.free 1;have z2:(wr.drewN n).frozen? ⟨w.heap.size,2,C⟩=D:=d.out.free 2;have z3:(wr.drewN n).frozen? ⟨w.heap.size,3,C⟩=D:=d.out.free 3;have ac:=hid (JO g.out n);clear g d
     go_wp2_with fail
     (try simp only[Exit.inBlock,Exit.then])
     refine Ah (v:=.tuple #[OI, A I 6]) ?_ rfl ⟨rfl,?_⟩
     ·rw[AD rfl];unfold OI
      go_simp
     ·exact(((ac.out.setCell (Ac _) _).setCell (Ac _) _).setCell (Ac _) _).setCell (Ac _) _
def Il (us:List UnP)(s:ByteArray):Int:=if s.size=0 then 1 else if 1500<s.size then 2 else if 64<=GF us then 7 else 0
theorem AdV(h:PSnd w b win bg ua c us)(t:us.length<=1000000)(n:s.size<=maxLen)(l:Il us s≠0):
 Calls prog 132 #[.pointer (E ⟨b,0,C⟩), G s] w fun e w'=>e= H (A I (Il us s))/\w'=w:=by
 have g:=OG h (by omega);have o:s.size<=9223372036854775807:=by unfold maxLen at n;omega
 clear h
 by_cases a:s.size=0
 ·have d:=hid (show Il us s=1 by unfold Il;rw[Ab a]);have f:s.toList.isEmpty=true:=by
   rw[Cc];have:s.data.toList.length=0:=by rw[AH];exact a
   grind
  generalize Il us s=V at*;go_enter func132,ntmps132
  go_wp2_with fail;go_ret;exact⟨by rw[d.out];rfl,rfl⟩
 ·have f:s.toList.isEmpty=D:=Ty a
  by_cases j:1500<s.size
  ·have d:=hid (show Il us s=2 by unfold Il;rw[Aa a,Ab j]);generalize Il us s=V at*;go_enter func132,ntmps132
   go_wp2_with fail;go_ret;exact⟨by rw[d.out];rfl,rfl⟩
  ·by_cases k:64<=GF us
   ·have d:=hid (show Il us s=7 by unfold Il;rw[Aa a,Aa j,Ab k]);generalize Il us s=V at*;generalize GF us=q at*;go_enter func132,ntmps132
    go_wp2_with(go_at_call 58;refine g.mono ?_;rintro e w1 ⟨rfl,rfl⟩);go_ret;exact⟨by rw[d.out];rfl,rfl⟩
   ·exact absurd (show Il us s=0 by unfold Il;rw[Aa a,Aa j,Aa k]) l
structure UnR(m:OutM)(u:Nat)(x:UnP):Prop where
 tx:x.text=m.t u
 dn:x.dn=m.done u
 lo:0<x.text.size
 hi:x.text.size<=1500
 sn:x.sent<=x.text.size
 mks:∀t,t<x.text.size->(m.mark u t=0↔x.sent<=t)/\m.mark u t<=2
 srt:Srt x.al
 ag:∀t,inS x.al t↔t<x.text.size/\m.mark u t=2
 dal:x.dn=true->x.al=[]
structure SndM(m:OutM)(us:List UnP):Prop where
 w1:1<=m.win
 w2:m.win<=32
 bn:m.beg<=m.n
 len:us.length=m.n-m.beg
 un:∀i,i<us.length->UnR m (m.beg+i) (us.getD i .zero)
 old:∀u,u<m.beg->m.done u=true
 fresh:∀u,m.n<=u->m.done u=D/\∀t,m.mark u t=0
 pre:∀i,i<us.length->0<(us.getD i .zero).sent->i<m.win/\∀j,j<i->0<(us.getD j .zero).sent
 dsn:∀i,i<us.length->(us.getD i .zero).dn=true->0<(us.getD i .zero).sent
 few:GF us<=64
def Snd (w:World)(p:Addr)(F:List Nat)(m:OutM):Prop:=∃b ua c us,p=⟨b,0,C⟩/\F=F0 b ua us/\PSnd w b m.win (m.beg % 64) ua c us/\SndM m us
theorem SndM.AkK(h:SndM m us):UsOk us:=
 ⟨fun i hi=>(h.un i hi).srt,fun i hi=>(h.un i hi).sn,fun i hi=>(h.un i hi).hi,fun i hi t ht=>by
  have d:=h.un i hi;have e:=(d.ag t).1 ht
  rcases AS t (us.getD i .zero).sent with a | a
  ·exact a
  ·have:=(d.mks t e.1).1.2 a
   omega⟩
theorem Aef(us:List UnP):∀k,(∀i,i<us.length->k<=i->(us.getD i .zero).dn=D)->us.length<=GF us+k:=by
 induction us with
 | nil=>intro k _;simp
 | cons x us ih=>
  intro k a
  cases k with
  | zero=>
   have d:x.dn=D:=a 0 (by simp) (by omega);have:=ih 0 (fun i hi _=>a (i+1) (by simp;omega) (by omega));have e:GF (x::us)=GF us+1:=by simp[GF,d]
   rw[e,AE];omega
  | succ k=>
   have:=ih k (fun i hi f=>a (i+1) (by simp;omega) (by omega));have e:GF us<=GF (x::us):=by
    unfold GF
    grind
   rw[AE];omega
theorem SndM.short(h:SndM m us):us.length<=96:=by
 have:=Aef us 32 (fun i hi a=>by
  cases hd:(us.getD i .zero).dn with
  | false=>rfl
  | true=>
   have:=(h.pre i hi (h.dsn i hi hd)).1;have:=h.w2
   omega)
 have:=h.few;omega
theorem R9(d:Nat->Bool):∀(k n:Nat),(∀u,u<k->d u=true)->((List.range (k+n)).filter fun u=>!d u).length=((List.range n).filter fun i=>!d (k+i)).length
 | k,0,h=>by
  simp only[Bh,List.range_zero,List.filter_nil,Bs];rw[DN,Dm]
  grind
 | k,n+1,h=>by
  have a:=R9 d k n h;rw[<-BZ,Az,Az,BS,BS,Ai,Ai,a]
  grind
theorem KO(us:List UnP):GF us=((List.range us.length).filter fun i=>!(us.getD i .zero).dn).length:=by
 have key:∀k,k<=us.length->GF (us.take k)=((List.range k).filter fun i=>!(us.getD i .zero).dn).length:=by
  intro k
  induction k with
  | zero=>intro _;rfl
  | succ k ih=>
   intro a;rw[AmU (by omega),NB,ih (by omega),Az,BS,Ai]
   grind
 grind
theorem SndM.wait{m:OutM}{us:List UnP}(h:SndM m us):m.wait=GF us:=by
 unfold OutM.wait;have e:m.n=m.beg+us.length:=by have:=h.len;have:=h.bn;omega
 rw[e,R9 m.done m.beg us.length h.old,KO]
 congr 1
 refine List.filter_congr fun i hi=>?_
 rw[(h.un i (Bv.1 hi)).dn]
theorem SndM.new{k:Nat}(a:1<=k)(d:k<=32):SndM (OutM.new k) []:=by
 refine⟨a,d,Ac _,rfl,?_,?_,?_,?_,?_,?_⟩
 ·intro i hi;simp at hi
 ·intro u e;exact absurd e (CG _)
 ·intro u _;exact⟨rfl,fun _=>rfl⟩
 ·intro i hi;simp at hi
 ·intro i hi;simp at hi
 ·simp[GF]
theorem AnZ(h:u<m.n):({m with text:=m.text++[s]}:OutM).t u=m.t u:=by grind [OutM.t,OutM.n]
theorem An0:({m with text:=m.text++[s]}:OutM).t m.n=s:=by grind [OutM.t,OutM.n]
theorem SndM.app(h:SndM m us)(l:0<s.size)(o:s.size<=1500)(v:GF us<64):SndM {m with text:=m.text++[s]} (us++[KM s]):=by
 have k:({m with text:=m.text++[s]}:OutM).n=m.n+1:=by unfold OutM.n;simp
 have f:=h.bn;have j:=h.len;refine⟨h.w1,h.w2,by rw[k];exact Nat.le_succ_of_le f,?_,fun i hi=>?_,h.old,fun u a=>?_,fun i hi d=>?_,fun i hi hd=>?_,?_⟩
 ·grind
 ·rw[Ai]at hi;have hi:i<us.length+1:=hi
  show UnR _ (m.beg+i) _
  by_cases e:i=us.length
  ·subst e;rw[JE,show m.beg+us.length=m.n by omega];have g:=h.fresh m.n (Ac _);refine⟨An0.symm,g.1.symm,l,o,Af _,fun t _=>?_,Srt.nil,fun t=>?_,fun hd=>rfl⟩
   ·show(m.mark m.n t=0↔0<=t)/\m.mark m.n t<=2
    grind
   ·show inS [] t↔_/\m.mark m.n t=2;rw[g.2 t];exact⟨fun h=>absurd h (GT t),fun h=>by have:=h.2;omega⟩
  ·rw[Kl (by omega)];have a:=h.un i (by omega);exact⟨by rw[AnZ (by omega)];exact a.tx,a.dn,a.lo,a.hi,a.sn,a.mks,a.srt,a.ag,a.dal⟩
 ·rw[k]at a;exact h.fresh u (by omega)
 ·rw[Ai]at hi;have hi:i<us.length+1:=hi
  by_cases e:i=us.length
  ·subst e;rw[JE]at d;exact absurd d (Bp _)
  ·rw[Kl (by omega)]at d;obtain⟨y,z⟩:=h.pre i (by omega) d
   grind
 ·rw[Ai]at hi;have hi:i<us.length+1:=hi
  by_cases e:i=us.length
  ·subst e;rw[JE]at hd
   cases hd
  ·rw[Kl (by omega)]at hd ⊢;exact h.dsn i (by omega) hd
 ·rw[NB]
  show GF us+1<=64;omega
theorem AnU(h:Snd w p F m):∀x∈F,x<w.heap.size:=by
 obtain⟨b,ua,c,us,rfl,rfl,a, -⟩:=h;exact a.lt
theorem Akq{w':World}{T:List Nat}(h:Snd w p F m)(e:Kept T w w')(hd:∀x∈F,x∉T):Snd w' p F m:=by
 obtain⟨b,ua,c,us,rfl,rfl,a,d⟩:=h;exact⟨b,ua,c,us,rfl,rfl,a.kept e hd,d⟩
theorem Amj(k:Int)(w:World)(d:1<=k)(f:k<=32):Calls prog 126 #[A I k] w fun e w'=>∃p F,e= H (.tuple #[.pointer (E p), A I 0])/\Snd w' p F (OutM.new k.toNat)/\(∀x∈F,w.heap.size<=x)/\Below w.heap.size w w':=by
 obtain⟨n,rfl⟩:∃n:Nat,k=(n:Int):=⟨k.toNat,by omega⟩;refine(T7 w (k:=n) (by omega) (by omega)).mono ?_;rintro e w' ⟨rfl,rfl⟩;refine⟨_,F0 w.heap.size C [],rfl,⟨w.heap.size,C,0,[],rfl,rfl,PSnd.new w n,?_⟩,fun x a=>by simp[F0]at a;omega,(Ad _ w).alloc (Ac _) _⟩;exact SndM.new (by omega) (by omega)
theorem Akt(h:Snd w p F m):Calls prog 58 #[.pointer (E p)] w fun e w'=>e= H (A I (m.wait:Nat))/\Kept F w w'/\∃F',Snd w' p F' m/\Ga w.heap.size F F':=by
 obtain⟨b,ua,c,us,rfl,rfl,d,a⟩:=h;refine(OG d (by have:=a.short;omega)).mono ?_;rintro e w' ⟨rfl,rfl⟩;exact⟨by rw[a.wait],Kept.refl _ _,F0 b ua us,⟨b,ua,c,us,rfl,rfl,d,a⟩,fun x f=> .inl f⟩
theorem AdO(s:ByteArray)(h:Snd w p F m)(B:s.size<=maxLen):Calls prog 132 #[.pointer (E p), G s] w fun e w'=>e= H (A I (m.KW s).err)/\Kept F w w'/\∃F',Snd w' p F' (m.KW s).m/\Ga w.heap.size F F':=by
 obtain⟨b,ua,c,us,rfl,rfl,g,f⟩:=h;have M:=f.short;have n:=f.wait
 by_cases a:Il us s=0
 ·unfold Il at a
  split at a
  ·simp at a
  ·split at a
   ·simp at a
   ·split at a
    ·simp at a
    ·rename_i S T V;have k:m.KW s=⟨{m with text:=m.text++[s]},0⟩:=by
      unfold OutM.KW;rw[Aa S,Aa T,n,Aa V]
     rw[k];refine(Aby g (by omega) (by omega) (by omega) (by omega)).mono ?_;rintro e w' ⟨rfl,t,d,c',z,v⟩;refine⟨rfl,t,F0 b d (us++[KM s]),⟨b,d,c',us++[KM s],rfl,rfl,z,f.app (by omega) (by omega) (by omega)⟩,fun x l=>?_⟩
     rcases J4 l with rfl | ⟨y,N,rfl⟩ | ⟨i,hi,e⟩
     ·exact .inl (KU _ _ _)
     ·rcases v y N with j | j
      ·exact .inl (IK j)
      ·exact .inr j
     ·rw[Ai]at hi;have hi:i<us.length+1:=hi
      by_cases o:i=us.length
      ·subst o;rw[JE]at e;simp[KM,Value.ownBlock]at e
      ·rw[Kl (by omega)]at e;exact .inl (Jy (by omega) e)
 ·have k:m.KW s=⟨m,Il us s⟩:=by
   unfold OutM.KW Il;rw[n];unfold Il at a
   grind
  rw[k];refine(AdV g (by omega) B a).mono ?_;rintro e w' ⟨rfl,rfl⟩;exact⟨rfl,Kept.refl _ _,F0 b ua us,⟨b,ua,c,us,rfl,rfl,g,f⟩,fun x l=> .inl l⟩
theorem UnR.sz{m:OutM}{u:Nat}{x:UnP}(h:UnR m u x):m.sz u=x.text.size:=by unfold OutM.sz;rw[h.tx]
theorem SndM.Agx(h:SndM m us):m.n=m.beg+us.length:=by have:=h.len;have:=h.bn;omega
theorem UnR.Aog(h:UnR m u x):m.can 2 u=!KF x:=by
 unfold OutM.can KF
 cases a:x.al with
 | nil=>
  have:m.hit 2 u=m.sz u:=by
   unfold OutM.hit;refine IQ (Af _) fun t _ ht=>?_
   have d:=(h.ag t);rw[a]at d;rw[Cb];intro e;exact GT t (d.2 ⟨by rw[<-h.sz];exact ht,e⟩)
  simp[this]
 | cons q r=>
  have f:=h.srt;rw[a]at f;have j:=(h.ag q.1).1 (by rw[a];exact⟨q,AL,Ac _,f.head.1⟩);have:m.hit 2 u<m.sz u:=by
   unfold OutM.hit;have g:=Acv (p:=fun i=>m.mark u i==2) (lo:=0) (hi:=m.sz u) (k:=q.1) (Af _) (by simpa using j.2);rw[h.sz]at g ⊢;omega
  simp[this]
theorem UnR.Aof(h:UnR m u x):m.can 0 u=Lw x:=by
 unfold OutM.can Lw;rw[<-h.dn];have:m.hit 0 u=x.sent:=by
  unfold OutM.hit;refine Ge (Af _) (by rw[h.sz];exact h.sn) (fun t _ ht=>?_) (fun a=>?_)
  ·rw[Cb];intro e;have:=(h.mks t (by have:=h.sn;omega)).1.1 e;omega
  ·rw[beq_iff_eq];exact(h.mks _ (by rw[<-h.sz];exact a)).1.2 (Ac _)
 rw[this,h.sz,Bool.and_comm];simp
theorem UnR.AoA(h:UnR m u x):m.hit 0 u=x.sent:=by
 unfold OutM.hit;refine Ge (Af _) (by rw[h.sz];exact h.sn) (fun t _ ht=>?_) (fun a=>?_)
 ·rw[Cb];intro e;have:=(h.mks t (by have:=h.sn;omega)).1.1 e;omega
 ·rw[beq_iff_eq];exact(h.mks _ (by rw[<-h.sz];exact a)).1.2 (Ac _)
theorem UnR.Apk(h:UnR m u x):m.cut 0 u size=min (x.sent+size) x.text.size:=by
 unfold OutM.cut;rw[h.AoA,h.sz];have d:=h.sn;rw[IQ (by omega) (fun t a e=>?_)]
 ·omega
 ·have:=(h.mks t (by omega)).1.2 a;simp[this]
theorem UnR.AoB{p:Nat}(h:UnR m u x)(d:x.al=(p,q)::r):m.hit 2 u=p:=by
 have f:=h.srt;rw[d]at f;have a:=h.ag;rw[d]at a;have k:=(a p).1 ⟨(p,q),AL,Ac _,f.head.1⟩;unfold OutM.hit;refine Ge (Af _) (by rw[h.sz];omega) (fun t _ ht=>?_) (fun _=>by simpa using k.2);rw[Cb];intro e;obtain⟨y,g,j,l⟩:=(a t).2 ⟨by omega,e⟩;rw[Ar]at g
 rcases g with rfl | g
 ·have:p<=t:=j;omega
 ·have:=f.head.2 y g;have:=f.head.1;omega
theorem UnR.Apl{p:Nat}(h:UnR m u x)(d:x.al=(p,q)::r)(v:1<=size):m.cut 2 u size=min q (p+size):=by
 have k:=h.srt;rw[d]at k;have a:=h.ag;rw[d]at a;have o:p<q:=k.head.1;have M:=(a (q-1)).1 ⟨(p,q),AL,by show p<=q-1;omega,by show q-1<q;omega⟩;unfold OutM.cut;rw[h.AoB d,h.sz];refine Ge (by omega) (by omega) (fun t l z=>?_) (fun g=>?_)
 ·have:=(a t).1 ⟨(p,q),AL,l,by show t<q;omega⟩;simp[this.2]
 ·have j:min q (p+size)=q:=by omega
  rw[j]at g ⊢;rw[DI];intro e;obtain⟨y,f,B,n⟩:=(a q).2 ⟨by omega,e⟩;rw[Ar]at f
  rcases f with rfl | f
  ·have:q<q:=n;omega
  ·have:=k.head.2 y f;have:q<y.1:=this;omega
theorem UnR.other{a v:Nat}(h:UnR m v x)(d:v≠u):UnR (m.sent u a b) v x:=by
 have e:∀t,(m.sent u a b).mark v t=m.mark v t:=fun t=>by
  show(if v=u/\a<=t/\t<b then 1 else m.mark v t)=_;rw[Aa (fun h=>d h.1)]
 exact⟨h.tx,h.dn,h.lo,h.hi,h.sn,fun t ht=>by rw[e t];exact h.mks t ht,h.srt,fun t=>by rw[e t];exact h.ag t,h.dal⟩
theorem UnR.NC{p:Nat}{v':Value}(h:UnR m u x)(d:x.al=(p,q)::r)(N:1<=size):UnR (m.sent u p (min q (p+size))) u {x with av:=v',al:=if q<=p+size then r else (p+size,q)::r}:=by
 have k:=h.srt;rw[d]at k;have f:=h.ag;rw[d]at f;have n:∀y∈r,q<y.1:=k.head.2;have e:∀t,(m.sent u p (min q (p+size))).mark u t=if p<=t/\t<min q (p+size) then 1 else m.mark u t:=fun t=>by
  show(if u=u/\p<=t/\t<_ then 1 else m.mark u t)=_;simp
 have v:∀t,p<=t->t<q->t<x.text.size/\m.mark u t=2:=fun t a b=>(f t).1 ⟨(p,q),AL,a,b⟩
 refine⟨h.tx,h.dn,h.lo,h.hi,h.sn,fun t ht=>?_,?_,fun t=>?_,fun hd=>?_⟩
 ·rw[e t]
  show(_↔x.sent<=t)/\_
  by_cases l:p<=t/\t<min q (p+size)
  ·rw[Ab l];have z:=v t l.1 (by omega);have S:=(h.mks t z.1).1
   grind
  ·rw[Aa l];exact h.mks t ht
 ·show Srt (if q<=p+size then r else (p+size,q)::r)
  split
  ·exact k.KX
  ·refine⟨fun y g=>?_,CN.2 ⟨n,k.KX.2⟩⟩;rw[Ar]at g
   rcases g with rfl | g
   ·show p+size<q;omega
   ·exact k.KX.1 y g
 ·show inS (if q<=p+size then r else (p+size,q)::r) t↔t<x.text.size/\_;rw[e t];have j:=f t;rw[Gc]at j;have o:inS r t->q<t:=fun⟨y,g,a,_⟩=>by have:=n y g;omega
  split
  ·grind
  ·rename_i B;have M:min q (p+size)=p+size:=by omega
   rw[M,Gc]
   grind
 ·have:=h.dal hd;rw[d]at this
  cases this
theorem UnR.first(h:UnR m u x)(g:x.al=[])(k:1<=size):UnR (m.sent u x.sent (min (x.sent+size) x.text.size)) u {x with sent:=min (x.sent+size) x.text.size}:=by
 have e:∀t,(m.sent u x.sent (min (x.sent+size) x.text.size)).mark u t=if x.sent<=t/\t<min (x.sent+size) x.text.size then 1 else m.mark u t:=fun t=>by
  show(if u=u/\_<=t/\t<_ then 1 else m.mark u t)=_;simp
 have d:=h.ag;refine⟨h.tx,h.dn,h.lo,h.hi,by grind,fun t ht=>?_,h.srt,fun t=>?_,h.dal⟩
 ·rw[e t];have f:t<x.text.size:=ht;have l:=h.mks t f
  grind
 ·rw[e t]
  show inS x.al t↔t<x.text.size/\_;rw[d t]
  by_cases a:x.sent<=t/\t<min (x.sent+size) x.text.size
  ·rw[Ab a];refine⟨fun j=>?_,fun j=>by omega⟩;have:=(h.mks t j.1).1.2 a.1;omega
  ·rw[Aa a]
theorem SndM.Apy(h:SndM m us):m.who 2=m.beg+GC KF us:=by
 have g:=h.Agx;have f:=K9 KF us;unfold OutM.who OutM.Xu;rw[Ab rfl];refine Ge (by omega) (by omega) (fun j d e=>?_) (fun a=>?_)
 ·have:=Kz (p:=KF) (us:=us) (k:=j-m.beg) (by omega);have l:=(h.un (j-m.beg) (by omega)).Aog
  grind
 ·have:=OW (p:=KF) (us:=us) (by omega);rw[(h.un _ (by omega)).Aog,this];rfl
theorem SndM.Ao9(h:SndM m us)(hi:i<=min m.win us.length)(f:∀j,j<i->Lw (us.getD j .zero)=D)(a:i<min m.win us.length->Lw (us.getD i .zero)=true):m.who 0=m.beg+i/\m.Xu 0=m.beg+min m.win us.length:=by
 have l:=h.Agx;have d:m.Xu 0=m.beg+min m.win us.length:=by
  unfold OutM.Xu;rw[Aa (by decide)];omega
 refine⟨?_,d⟩;unfold OutM.who;rw[d];refine Ge (by omega) (by omega) (fun j g k=>?_) (fun e=>?_)
 ·have n:=(h.un (j-m.beg) (by omega)).Aof
  grind
 ·rw[(h.un i (by omega)).Aof];exact a (by omega)
theorem SndM.set{m y:OutM}{us:List UnP}{i a b:Nat}{x':UnP}(h:SndM m us)(hi:i<us.length)(M:y=m.sent (m.beg+i) a b)(S:UnR y (m.beg+i) x')(hd:x'.dn=(us.getD i .zero).dn)(V:(us.getD i .zero).sent<=x'.sent)(z:0<x'.sent->i<m.win/\∀j,j<i->0<(us.getD j .zero).sent):SndM y (us.set i x'):=by
 subst M;have T:=h.Agx;refine⟨h.w1,h.w2,h.bn,by rw[An];exact h.len,fun j d=>?_,h.old,fun u N=>?_,fun j d f=>?_,fun j d g=>?_,?_⟩
 ·rw[An]at d
  by_cases e:j=i
  ·subst e;rw[FL d];exact S
  ·rw[GH (fun l=>e l.symm)];exact(h.un j d).other (by show m.beg+j≠m.beg+i;omega)
 ·have v:m.n<=u:=N;have B:=h.fresh u v;refine⟨B.1,fun t=>?_⟩
  show(if u=m.beg+i/\a<=t/\t<b then 1 else m.mark u t)=0
  grind
 ·rw[An]at d;have key:∀k,0<(us.getD k .zero).sent->0<((us.set i x').getD k .zero).sent:=by grind
  by_cases e:j=i
  ·subst e;rw[FL d]at f;exact⟨(z f).1,fun k o=>key k ((z f).2 k o)⟩
  ·rw[GH (fun l=>e l.symm)]at f;exact⟨(h.pre j d f).1,fun k o=>key k ((h.pre j d f).2 k o)⟩
 ·rw[An]at d
  by_cases e:j=i
  ·subst e;rw[FL d]at g ⊢;rw[hd]at g;have:=h.dsn j d g;omega
  ·rw[GH (fun l=>e l.symm)]at g ⊢;exact h.dsn j d g
 ·have:GF (us.set i x')=GF us:=by
   rw[KO,KO,An]
   grind
  rw[this];exact h.few
theorem Abr{x':UnP}{B:Nat}(hi:i<us.length)(a:∀g,x'.av.ownBlock=E g->(us.getD i .zero).av.ownBlock=E g):Ga B (F0 b ua us) (F0 b ua (us.set i x')):=by grind [Ga,F0]
theorem Ru(a i:Nat):(a % 64+i) % 64=(a+i) % 64:=by omega
theorem Akr(size:Int)(h:Snd w p F m):Calls prog 107 #[.pointer (E p), A I size] w fun e w'=>e= H (.tuple #[(m.next size).p.val, A I (m.next size).err])/\Kept F w w'/\∃F',Snd w' p F' (m.next size).m/\Ga w.heap.size F F':=by
 obtain⟨b,ua,c,us,rfl,rfl,Y,a⟩:=h;have ag:=a.short;have hn:=a.Agx;have t:∀w',Below w.heap.size w w'->Kept (F0 b ua us) w w'/\∃F',Snd w' ⟨b,0,C⟩ F' m/\Ga w.heap.size (F0 b ua us) F':=fun w' V=>⟨Kept.E5 V,F0 b ua us,⟨b,ua,c,us,rfl,rfl,Y.kept (Kept.E5 (S:=[]) V) (by simp),a⟩,fun x hx=> .inl hx⟩
 by_cases X:size<1\/1500<size
 ·have T:m.next size=⟨m,.zero,1⟩:=by unfold OutM.next;rw[Ab X]
  rw[T];refine(Ahy X).mono ?_;rintro e w' ⟨rfl,V⟩;exact⟨rfl,t w' V⟩
 ·obtain⟨k,rfl⟩:∃k:Nat,size=(k:Int):=⟨size.toNat,by omega⟩;have d:1<=k:=by omega
  have M:k<=1500:=by omega
  have ah:=a.Apy;have af:m.Xu 2=m.n:=by unfold OutM.Xu;rw[Ab rfl]
  by_cases N:GC KF us<us.length
  ·have T:m.next (k:Int)=m.Mw 2 (m.beg+GC KF us) k:=by
    unfold OutM.next
    grind
   have l:=a.un _ N;have ac:=OW (p:=KF) (us:=us) N;obtain⟨q,r,v⟩:∃q r,(us.getD (GC KF us) .zero).al=q::r:=by
    cases e:(us.getD (GC KF us) .zero).al with
    | nil=>
     have z:(us.getD (GC KF us) .zero).al.isEmpty=D:=ac;rw[e]at z
     cases z
    | cons q r=>exact⟨q,r,rfl⟩
   obtain⟨pp,qq⟩:=q;rw[T];unfold OutM.Mw;rw[l.AoB v,l.Apl v d];refine(Abs Y (AZ _ (by omega)) (by omega) a.AkK d M rfl N v).mono ?_;rintro e w' ⟨rfl,hk,v',Z,hv⟩;rw[FL N,B9]at Z;refine⟨?_,hk,_,⟨b,ua,c,_,rfl,rfl,Z,?_⟩,Abr N hv⟩
   ·unfold OutM.AjU LB PieceM.val;rw[Ru,l.sz,l.tx]
   ·exact a.set N rfl (l.NC v d) rfl (Ac _) (fun h=>a.pre _ N h)
  ·have o:∀j,j<us.length->(us.getD j .zero).al=[]:=fun j hj=>by
    have:=Kz (p:=KF) (us:=us) (k:=j) (by omega);unfold KF at this;exact List.isEmpty_iff.1 this
   by_cases ab:∃i,i<min m.win us.length/\Lw (us.getD i .zero)=true/\∀j,j<i->Lw (us.getD j .zero)=D
   ·obtain⟨i,hi,B,f⟩:=ab;obtain⟨ae,aa⟩:=a.Ao9 (i:=i) (by omega) f (fun _=>B);have y:i<us.length:=by omega
    have l:=a.un i y;have T:m.next (k:Int)=m.Mw 0 (m.beg+i) k:=by
     unfold OutM.next
     grind
    rw[T];unfold OutM.Mw;rw[l.AoA,l.Apk];refine(Ahz Y (AZ _ (by omega)) (by omega) a.AkK d M a.w2 o hi f B).mono ?_;rintro e w' ⟨rfl,hk,Z⟩;refine⟨?_,hk,_,⟨b,ua,c,_,rfl,rfl,Z,?_⟩,Abr y (fun g hg=>hg)⟩
    ·unfold OutM.AjU LB PieceM.val;rw[Ru,l.sz,l.tx]
    ·refine a.set y rfl (l.first (o i y) d) rfl (by show _<=min _ _;have:=l.sn;omega) (fun _=>⟨by omega,fun j hj=>?_⟩);have h3:=f j hj;unfold Lw at h3;have ad:=a.un j (by omega)
     cases hd:(us.getD j .zero).dn with
     | true=>exact a.dsn j (by omega) hd
     | false=>
      rw[hd,Bool.not_false,Bool.true_and,DM]at h3;have:=ad.lo;omega
   ·have f:∀j,j<min m.win us.length->Lw (us.getD j .zero)=D:=by
     intro j
     induction j using Nat.strongRecOn with
     | ind j ih=>
      grind
    obtain⟨ae,aa⟩:=a.Ao9 (i:=min m.win us.length) (Ac _) f (fun h=>absurd h (Bp _));have T:m.next (k:Int)=⟨m,.zero,6⟩:=by
     unfold OutM.next
     grind
    rw[T];refine(AdP Y (by omega) a.AkK d M o f).mono ?_;rintro e w' ⟨rfl,V⟩;exact⟨rfl,t w' V⟩
theorem Kb(k:Int)(b:Nat):E9 k (b % 64)=E9 k b:=by
 unfold E9;rw[Nat.mod_mod]
theorem SndM.Ys(h:SndM m us)(d:Nat):m.Ys d=decide (d<=GC GR us):=by
 have v:=h.Agx;have t:=K9 GR us;have l:∀i,i<us.length->(m.mark (m.beg+i) 0≠0↔0<(us.getD i .zero).sent):=fun i hi=>by
  have j:=h.un i hi;have:=(j.mks 0 j.lo).1
  constructor
  ·intro a
   rcases DF (us.getD i .zero).sent with e | e
   ·exact absurd (this.2 (by omega)) a
   ·exact e
  ·intro a e;have:=this.1 e;omega
 by_cases hd:d<=GC GR us
 ·rw[Ag hd];refine AM.2 fun i hi=>?_
  have hi:=Bv.1 hi;have a:=Kz (p:=GR) (us:=us) (k:=i) (by omega);rw[BD,Bq,DI];exact⟨by omega,(l i (by omega)).2 (AQ a)⟩
 ·rw[Ae hd];refine Bool.eq_false_iff.2 fun f=>?_
  have a:=AM.1 f (GC GR us) (Bv.2 (by omega));rw[BD,Bq,DI]at a;have n:=OW (p:=GR) (us:=us) (by omega);have o:=(l _ (by omega)).1 a.2;have g:GR (us.getD (GC GR us) .zero)=true:=Ag o;rw[n]at g
  cases g
theorem SndM.TH{m:OutM}{us:List UnP}(h:SndM m us){d:Nat}(hd:d<=us.length)(g:GapM):JV (m.beg % 64) d us g=m.TH d g:=by
 unfold JV OutM.TH;rw[Kb]
 by_cases a:E9 g.num m.beg<d
 ·rw[(h.un _ (by omega)).sz]
 ·rw[Ae a];simp
theorem SndM.repErr{m:OutM}{us:List UnP}(h:SndM m us)(r:ReportM):(m.take r).err=repErr (m.beg % 64) us r/\(Go.Proofs.YtbjgfoiikhbonahGreatDoor.repErr (m.beg % 64) us r≠0->(m.take r).m=m)/\(Go.Proofs.YtbjgfoiikhbonahGreatDoor.repErr (m.beg % 64) us r=0->(m.take r).m=m.taken (E9 r.next m.beg) r.miss):=by
 unfold OutM.take Go.Proofs.YtbjgfoiikhbonahGreatDoor.repErr;rw[Kb,h.Ys]
 by_cases d:r.next<0\/63<r.next
 ·rw[Ab d,Ab d];exact⟨rfl,fun _=>rfl,fun h=>absurd h (by decide)⟩
 ·rw[Aa d,Aa d]
  by_cases f:GC GR us<E9 r.next m.beg
  ·rw[Ab f,Ae (by omega),Ab rfl];exact⟨rfl,fun _=>rfl,fun h=>absurd h (by decide)⟩
  ·rw[Aa f,Ag (by omega),Aa (by simp)];have hd:E9 r.next m.beg<=us.length:=by have:=K9 GR us;omega
   have a:r.miss.all (JV (m.beg % 64) (E9 r.next m.beg) us)=r.miss.all (m.TH (E9 r.next m.beg)):=by
    congr 1
    funext g
    exact h.TH hd g
   rw[a]
   by_cases e:r.miss.all (m.TH (E9 r.next m.beg))=true
   ·rw[Ab e,Aa (by rw[e];simp)];exact⟨rfl,fun h=>absurd rfl h,fun _=>rfl⟩
   ·rw[Aa e,Ab (by simpa using e)];exact⟨rfl,fun _=>rfl,fun h=>absurd h (by decide)⟩
theorem V6(beg:Nat)(gs:List GapM)(i:Nat):XE beg gs (beg+i)=LQ (beg % 64) gs i:=by grind [XE,LQ,GapM.of,E9]
theorem Alw(beg:Nat)(gs:List GapM)(i t:Nat):ZN beg gs (beg+i) t=true↔Rn (beg % 64) gs i t:=by grind [ZN,Rn,GapM.of,Kb]
theorem Aae{l:Sps}(h:Srt l)(a:∀t,¬inS l t):l=[]:=by
 cases l with
 | nil=>rfl
 | cons q l=>exact absurd ⟨q,AL,Ac _,h.head.1⟩ (a q.1)
theorem UnR.taken{m:OutM}{d i:Nat}{gs:List GapM}{x x':UnP}(h:UnR m (m.beg+i) x)(ht:TkR d (LQ (m.beg % 64) gs) (Rn (m.beg % 64) gs) i x x'):UnR (m.taken d gs) (m.beg+i) x':=by
 obtain⟨e1,e2,e3,n,y,o⟩:=ht;have a:∀t,(m.taken d gs).mark (m.beg+i) t=m.Wg d gs (m.beg+i) t:=fun _=>rfl
 have f:∀t,m.Wg d gs (m.beg+i) t=if i<d then (if LQ (m.beg % 64) gs i=true then (if ZN m.beg gs (m.beg+i) t=true/\m.mark (m.beg+i) t=1/\m.done (m.beg+i)=D then 2 else m.mark (m.beg+i) t) else (if m.mark (m.beg+i) t=2 then 1 else m.mark (m.beg+i) t)) else (if m.mark (m.beg+i) t=1/\m.done (m.beg+i)=D then 2 else m.mark (m.beg+i) t):=fun t=>by
  unfold OutM.Wg;rw[Aa (by omega),V6]
  grind
 have g:x'.text.size=x.text.size:=by rw[e1]
 refine⟨by rw[e1];exact h.tx,?_,by rw[e1];exact h.lo,by rw[e1];exact h.hi,by rw[e1,e2];exact h.sn,fun t ht=>?_,n,fun t=>?_,fun hd=>?_⟩
 ·rw[e3,h.dn]
  show _=m.N9 d gs (m.beg+i);unfold OutM.N9;rw[V6]
  grind
 ·rw[g]at ht;rw[a t,f t,e2];have z:=h.mks t ht
  grind
 ·rw[o t,a t,f t,g,h.ag t,h.dn];have k:t<x.text.size->(t<x.sent↔m.mark (m.beg+i) t≠0):=fun ht=>by
   have z:=(h.mks t ht).1
   grind
  have N:=h.sn
  by_cases ht:t<x.text.size
  ·have B:=(h.mks t ht).2;have M:=k ht
   by_cases hd:i<d
   ·rw[Ab hd,Ab hd]
    by_cases v:LQ (m.beg % 64) gs i=true
    ·rw[Ab v,Ab v,<-Alw,M]
     grind
    grind
   grind
  grind
 ·cases l:x.dn with
  | false=>exact y hd l
  | true=>
   have j:=h.dal l;refine Aae n fun t ht=>?_
   have:=(o t).1 ht;rw[j,l]at this
   split at this
   ·split at this
    ·rcases this with e | e
     ·exact GT t e
     ·cases e.1
    ·exact this
   ·rcases this with e | e
    ·exact GT t e
    ·cases e.1
end Go.Proofs.YtbjgfoiikhbonahGreatDoor
