import Derived.Test.YtbjgfoiikhbonahGreatDoorA38
set_option linter.unusedVariables false
set_option linter.unusedSimpArgs false
set_option maxRecDepth 100000
set_option maxHeartbeats 4000000
namespace Go.Proofs.YtbjgfoiikhbonahGreatDoor
open Go.ChangeShapes Go.WideShapes Go.ChangeAt Go.RowKit Go.Proofs.Tryz
open Option renaming none->A,some->E
open Value renaming pointer->G,int->I,string->J,bool->M
open IntKind renaming i64->U
variable {D:Nat->Nat->Option Cm}{N O:Nat->Option Cm}{S:List Nat}{T:TypeId}{b g k:Nat}{c:Cm}{cs:List Value}{o:Oper}{p:UsrP}{pr:PrM}{q:NetP}{w w0:World}{x:Operand}{ρ:Operand->Value}
theorem Uj(s:ByteArray):∀(f p:Nat) (l:List ItemM),Gg s f p=E l->∀x∈l,x.data.size<=s.size
 | 0,p,l,h,x,a=>by
  unfold Gg at h
  cases h
  cases a
 | f+1,p,l,h,x,a=>by
  unfold Gg at h
  split at h
  ·split at h
   ·cases h
   ·split at h
    ·cases h
    ·cases e:Gg s f (p+3+Gh s p)with
     | none=>rw[e]at h;cases h
     | some l'=>
      rw[e]at h
      cases h
      rcases Ar.1 a with rfl | a
      ·unfold Id;simp only[CF];omega
      ·exact Uj s f _ l' e x a
  ·cases h
   cases a
theorem AgY(t:ByteArray):(Yc t).1.data.size<=t.size:=by
 unfold Yc
 split
 ·exact Af _
 ·simp only[CF];omega
theorem Ado(s:ByteArray):(Hr s).1.data.size<=s.size:=by
 unfold Hr
 split
 ·next x e=>
  split
  ·refine Ak (AgY _) ?_;unfold KV at e
   split at e
   ·cases e
   ·split at e
    ·cases e
    ·next l hl=>
     split at e
     ·cases e;exact Uj s _ _ _ hl x AL
     ·cases e
  ·exact Af _
 ·exact Af _
def InOk (r:InM):Prop:=∀u n,r.len u=E n->n<=1500
theorem InOk.put{r:InM}(h:InOk r)(u:Nat){p:PieceM}(e:p.bad=false):InOk (r.put u p):=fun v n a=>by
 unfold InM.put at a;dsimp only at a
 split at a
 ·cases a;obtain⟨-, -, -, -,d, -⟩:=O3 e;exact d
 ·exact h v n a
theorem AbC(r:InM)(u:Nat):(r.RP u).size=(r.len u).getD 0:=by
 unfold InM.RP;simp[ByteArray.size]
theorem InOk.take{r:InM}(h:InOk r)(p:PieceM):InOk (r.take p).m/\∀j,((r.take p).out.getD j ByteArray.empty).size<=1500:=by
 have d:∀j,(([]:List ByteArray).getD j ByteArray.empty).size<=1500:=fun j=>Af _
 unfold InM.take
 split
 ·exact⟨h,d⟩
 ·next hb=>
  split
  ·exact⟨h,d⟩
  ·split
   ·exact⟨h,d⟩
   ·have f:=h.put (r.fst+E9 p.num r.fst) (p:=p) (by simpa using hb);generalize r.put (r.fst+E9 p.num r.fst) p=a at*;refine⟨f,fun j=>?_⟩;unfold InM.Ad2;dsimp only
    by_cases i:j<a.upto-a.fst
    ·rw[Au,A9,Ch i];simp only[Cx,Ei,AbC]
     cases e:a.len (a.fst+j)with
     | none=>exact Af _
     | some n=>exact f _ n e
    ·rw[Au,AY (by simp;omega)];exact Af _
structure UOk(u:UsrM):Prop where
 len:u.told.length=u.op.fst
 gr:GrOk u.gr
 op:OpOk u.op
theorem Adi(m:GcM)(p:PktM):(m.take p).fst=m.fst+(m.out p).length:=by
 unfold GcM.take GcM.out
 split
 ·rw[Ny];rfl
 ·rfl
theorem AbB:∀(l:List ByteArray) (s:UsrM×NetM),(JL s l).1.op=s.1.op/\(JL s l).1.rcv=s.1.rcv
 | [],_=>⟨rfl,rfl⟩
 | d::l,s=>AbB l (Jk s d)
structure OpKeep(s s':UsrM×NetM):Prop where
 ok:UOk s'.1
 n:s'.2.n+s.1.told.length=s.2.n+s'.1.told.length
 le:s.1.told.length<=s'.1.told.length
theorem OpKeep.refl{s:UsrM×NetM}(h:UOk s.1):OpKeep s s:=⟨h,rfl,Ac _⟩
theorem OpKeep.trans{a b c:UsrM×NetM}(h:OpKeep a b)(k:OpKeep b c):OpKeep a c:=⟨k.ok,by have:=h.n;have:=k.n;have:=h.le;have:=k.le;omega,Ak h.le k.le⟩
theorem X6{s:UsrM×NetM}(h:UOk s.1)(t:ByteArray):OpKeep s (PU s t):=by
 unfold PU
 split
 ·obtain⟨d,e,f⟩:=RO (s.1.op.out (LR t).1) ({s.1 with op:=s.1.op.take (LR t).1},s.2);have a:=(AbB (s.1.op.out (LR t).1) ({s.1 with op:=s.1.op.take (LR t).1},s.2)).1;have e1:=d;have e2:=e;generalize JL ({s.1 with op:=s.1.op.take (LR t).1},s.2) (s.1.op.out (LR t).1)=z at*;change z.1.told.length=s.1.told.length+_ at e1;change z.2.n=s.2.n+_ at e2;refine⟨⟨?_,f h.gr,?_⟩,?_,?_⟩
  ·rw[e1,a,Adi,h.len]
  ·rw[a];exact h.op.take _
  ·omega
  ·omega
 ·exact .refl h
def Ry (s:UsrM×NetM)(l:List ByteArray):UsrM×NetM:=l.foldl PU s
theorem AgQ(s:UsrM×NetM)(l:List ByteArray)(j:Nat)(h:j<l.length):Ry s (l.take (j+1))=PU (Ry s (l.take j)) (l.getD j ByteArray.empty):=by
 unfold Ry;rw[Br,Ap h,Cf,Au,Ap h];rfl
theorem X5:∀(l:List ByteArray) {s:UsrM×NetM},UOk s.1->OpKeep s (Ry s l)
 | [],_,h=> .refl h
 | d::l,_,h=>(X6 h d).trans (X5 l (X6 h d).ok)
theorem Hp.ren{C l:Nat×Nat->Option Cm}(h:Hp w0 S w C)(f:Nat×Nat->Nat×Nat)(m:∀i,l i≠A->l i=C (f i))(t:∀i j,l i≠A->l j≠A->i≠j->f i≠f j):Hp w0 S w l:=by
 obtain⟨F,a,b,c,d,e,k⟩:=h;exact⟨fun i=>F (f i),a,b,c,d,fun i x s=>e (f i) x ((m i (by rw[s];simp)).symm.trans s),fun i j n hi r=>k (f i) (f j) (t i j hi r n) (m i hi▸hi) (m j r▸r)⟩
def Jt (c:Cm):Nat->Option Cm:=fun j=>if j=0 then E c else A
theorem Hg.Al1{t:Nat}(h:Hg w0 S w (setG (setG D 0 N) g (FQ O t (E c))))(n:O t=A)(k:Nat)(j:k≠0)(l:k≠g):Hg w0 S w (setG (setG (setG D k (Jt c)) 0 N) g O):=by
 refine Hp.ren h (fun i=>if i.1=k then (g,t) else i) (fun⟨a,b⟩ hi=>?_) (fun⟨a,b⟩ ⟨a',m⟩ hi f d=>?_)
 ·unfold setG Jt at hi ⊢;unfold FQ
  by_cases e:a=k
  ·subst e
   grind
  ·by_cases e2:a=g
   ·subst e2;simp only[e,AV,AP]at hi ⊢
    grind
   ·simp[e,e2]
 ·unfold setG Jt at hi f
  grind
theorem Hg.UV(h:Hg w0 S w (setG (setG (setG D k (Jt c)) 0 N) g O))(l:D k=fun _=>A)(e:k≠0)(f:k≠g):Hg w0 S w (setG (setG D 0 N) g O):=by
 refine Hp.ren h id (fun⟨a,b⟩ hi=>?_) (fun i j _ _ d=>d);unfold setG at hi ⊢
 grind
theorem Hg.Adm{X:Nat->Option Cm}(h:Hg w0 S w (setG (setG (setG D k X) 0 N) g O))(a:k≠0)(d:k≠g):Hg w0 S w (setG (setG (setG D 0 N) g O) k X):=by
 rw[JJ D a,JJ _ d]at h;exact h
def Vu (s:UsrM×NetM)(b:ByteArray):UsrM×NetM:=if (Hr b).2 then Ry ({s.1 with rcv:=(s.1.rcv.take (Hr b).1).m},s.2) (s.1.rcv.take (Hr b).1).out else s
theorem Aaf{s:UsrM×NetM}(t:ByteArray)(h:Hg w0 S w (setG (setG D 0 (FK q s.2)) g (usO p s.1)))(aj:g≠0)(ab:100≠g)(hD:D 100=fun _=>A)(ht:t.size<=65535)(hu:UOk s.1)(hr:InOk s.1.rcv)(hn:s.2.n<=900000000000):Calls prog 114 #[Fa q.b,Fa p.b, J t] w fun e w'=>∃vt,e=.returned (.tuple #[])/\Hg w0 S w' (setG (setG D 0 (FK q (Vu s t).2)) g (usO {p with vt:=vt} (Vu s t).1)):=by
 have l:=fun wz=>Aaz t wz ht
 have hz:=Ado t;obtain⟨P, eP⟩ := E7 (Hr t);have HM:Hid (Vu s t=if P.2 then Ry ({s.1 with rcv:=(s.1.rcv.take P.1).m},s.2) (s.1.rcv.take P.1).out else s):=by rw[eP];rfl
 rw[<-eP]at l hz;clear eP;obtain⟨⟨pn,Y,pl,X⟩,ok⟩:=P;unfold PieceM.val at l;dsimp only at l hz HM;unfold Fa;have h1:=fun wz (hb:Below w.heap.size w wz)=>(h.below hb).Ii 11 216 [I U pn, I U Y, M pl, J X]
 have H:=hid h
 cases ok with
 | false=>
  clear h h1;go_enter func114,ntmps114
  go_wp2_with(go_at_call 166;refine(l _).mono ?_;rintro e w1 ⟨rfl,R⟩)
  try simp only[Exit.inBlock,Exit.then]
  refine Ah (Cd rfl _ _ _) rfl ?_;refine⟨p.vt,rfl,?_⟩;rw[HM.out];exact H.out.below (Fr R ((Ad _ w1).alloc (Ac _) _))
 | true=>
  clear h;go_enter func114,ntmps114;go_upto_region 2 with(go_at_call 166;refine(l _).mono ?_;rintro e w1 ⟨rfl,R⟩)
  have v:=h1 w1 R;change Hg w0 S (w1.alloc (.cells #[I U pn, I U Y, M pl, J X] 216)) _ at v;obtain⟨r, ae⟩ := E7 w1.heap.size;rw[<-ae]at v ⊢;generalize (w1.alloc (.cells #[I U pn, I U Y, M pl, J X] 216))=w3 at*;clear R h1 H l ae;have c6:w3.cell? ⟨p.b,6,A⟩=E (G (E p.pr)):=(v.box (j:=0) rfl).cell 6;have y0:w3.cell? ⟨r,0,A⟩=E (I U pn):=(v.box (j:=11) rfl).cell 0;have y1:w3.cell? ⟨r,1,A⟩=E (I U Y):=(v.box (j:=11) rfl).cell 1;have y2:w3.cell? ⟨r,2,A⟩=E (M pl):=(v.box (j:=11) rfl).cell 2;have y3:w3.cell? ⟨r,3,A⟩=E (J X):=(v.box (j:=11) rfl).cell 3;have HT:=hid ((v.below ((Ad _ w3).drew)).AbV (j:=2) rfl (AoU p.pr s.1.rcv ⟨pn,Y,pl,X⟩ w3.drew (by unfold Wf;dsimp only;omega)) 12);unfold PieceM.val at HT;obtain⟨an,ac⟩:=hr.take ⟨pn,Y,pl,X⟩;generalize ai:s.1.rcv.take ⟨pn,Y,pl,X⟩=RT at*;obtain⟨rm,L,te⟩:=RT;dsimp only at HT ac HM;clear v an ai
  go_region_held3 (fun w'=>w'.cell? ⟨p.b,6,A⟩=E (G (E p.pr))/\w'.cell? ⟨r,0,A⟩=E (I U pn)/\w'.cell? ⟨r,1,A⟩=E (I U Y)/\w'.cell? ⟨r,2,A⟩=E (M pl)/\w'.cell? ⟨r,3,A⟩=E (J X)) (first | exact⟨c6,y0,y1,y2,y3⟩ | exact q1 | go_keep) (first | (go_at_call 167;refine HT.out.mono ?_;rintro e w4 ⟨c',d',⟨a,k,rfl,ak,rfl,rfl⟩,h4⟩;have H4:=hid h4;have q1:w4.cell? ⟨p.b,6,A⟩=E (G (E p.pr))/\w4.cell? ⟨r,0,A⟩=E (I U pn)/\w4.cell? ⟨r,1,A⟩=E (I U Y)/\w4.cell? ⟨r,2,A⟩=E (M pl)/\w4.cell? ⟨r,3,A⟩=E (J X):=⟨(h4.box (j:=0) rfl).cell 6,(h4.box (j:=11) rfl).cell 0,(h4.box (j:=11) rfl).cell 1,(h4.box (j:=11) rfl).cell 2,(h4.box (j:=11) rfl).cell 3⟩;clear h4));clear q1 y0 y1 y2 y3 c6 HT;have ag:=hid ac;obtain⟨s0, u⟩ := E7 (({s.1 with rcv:=rm},s.2):UsrM×NetM);rw[<-u]at HM;have HM:=hid (HM.out.trans (Ab trivial));have z:=(H4.out.drop 11).conv (O':=FQ (usO p s0.1) 12 (E (Ju 9 1 (.slice a L.length k) L.length (L.map Value.string)))) fun j=>by
   rw[u]
   rcases j with _ | _ | _ | _ | _ | _ | _ | _ | _ | _ | _ | _ | _ | j<;>rfl
  have e2:s.2=s0.2:=by rw[u]
  have ah:=hid (show UOk s0.1 by rw[u];exact⟨hu.len,hu.gr,hu.op⟩);have av:s0.2.n<=900000000000:=by rw[<-e2];exact hn
  rw[e2]at z;obtain⟨nL,aa⟩:∃n,n=L.length:=⟨_,rfl⟩;rw[<-aa]at z ak ⊢;have ad:=hid aa;have z:=z.Al1 rfl 100 (by omega) ab;clear u H4 hu hn e2 aa ac
  go_wp2_with fail
  go_loopw [31] (fun i wr=>∃j:Nat,j<=nL/\i= I U (j:Int)/\∃vt,Hid (Hg w0 S wr (setG (setG (setG D 100 (Jt (Ju 9 1 (.slice a nL k) nL (L.map Value.string)))) 0 (FK q (Ry s0 (L.take j)).2)) g (usO {p with vt:=vt} (Ry s0 (L.take j)).1)))) (fun i _=>nL-(intOf i).toNat)
  case atStart=>exact⟨0,Af _,rfl,p.vt,z⟩
  case round=>
   obtain⟨j,hj,rfl,vt,HR⟩:=hrel;clear z
   by_cases al:j<nL
   ·have af:j<L.length:=by rw[<-ad.out];exact al
    have f:=X5 (L.take j) ah.out;have HS:=hid (AgQ s0 L j af);have aq:=ag.out j;obtain⟨B, -,ho⟩:=(HR.out.Adm (by omega) ab).lst (j:=0) rfl;obtain⟨ga,ca,ea⟩:=Lh ho (by omega);simp only[Aq]at ea;obtain⟨rfl, -,rfl⟩:=ea;have ap:wr.cell? ⟨ga,j,A⟩=E (J (L.getD j ByteArray.empty)):=by
     rw[CX ho j (by omega),A9,Au,Ap af];rfl
    generalize Ry s0 (L.take j)=sj at*;generalize L.getD j ByteArray.empty=d at*;have ar:sj.1.op.fst<=16777216:=by
     obtain⟨F,bm, -,hP⟩:=HR.out.get (j:=8) rfl;exact hP.ok.few
    have am:sj.2.n<=1000000000000:=by
     have h1:=f.n;have v:=f.ok.len;omega
    have au:(j:Int)<(nL:Int):=by omega
    have hO:=hid (AgF d HR.out aj (by omega) f.ok.len f.ok.gr f.ok.op am);unfold Fa at hO;clear HR ho f
    go_wp2_with(go_at_call 168;refine hO.out.mono ?_;rintro e w5 ⟨ao,rfl,z⟩;have H5:=hid z;clear z);refine⟨⟨j+1,by omega,by go_num,ao,?_⟩,by simp[intOf];omega⟩;rw[HS.out];exact H5.out
   ·obtain rfl:j=nL:=by omega
    go_wp2_with fail
    go_end0;have h9:=HR.out.UV hD (by omega) ab;rw[Aw (by rw[<-ad.out];exact Ac _),<-HM.out]at h9;exact⟨_,rfl,h9⟩
theorem Hg.Mt(h:Hg w0 S w (setG (setG (setG D k (Jt (JP b T cs))) 0 N) g O))(a:k≠0)(d:k≠g):At w b T cs:=(h.Adm a d).box (j:=0) rfl
theorem Hg.Apr(h:Hg w0 S w (setG (setG (setG D k (Jt (JP b T cs))) 0 N) g O))(a:k≠0)(d:k≠g)(o:Nat)(v:Value):Hg w0 S (w.setCell ⟨b,o,A⟩ v) (setG (setG (setG D k (Jt (JP b T (cs.set o v)))) 0 N) g O):=by
 have e:=((h.Adm a d).GK (j:=0) rfl o v).conv (O':=Jt (JP b T (cs.set o v))) fun j=>by
  unfold FQ Jt
  split<;>rfl
 rw[JJ _ (Ck d),JJ _ (Ck a)]at e;exact e
theorem Wv(S:Setg)(s:List Int)(ps:List (Int×Int))(v:Int):(Kw S 20 s ps v).data.size<=20:=by
 unfold Kw
 split
 ·exact Af _
 ·split
  ·exact Af _
  ·split
   ·exact Af _
   ·unfold Mk
    split
    ·dsimp only;rw[BP,Lb,Ay];omega
    ·exact Af _
def UsrM.AnT(u:UsrM)(v:Nat)(fg:Bool)(d:ByteArray):ShotM:=⟨0,(v:Int),fg,(u.heard v fg d).data⟩
def UsrM.tk(u:UsrM)(v:Nat)(fg:Bool)(d:ByteArray):TookM:=u.sht.J7 (u.AnT v fg d) (u.heard v fg d).ok
def UsrM.tkn(u:UsrM)(v:Nat)(fg:Bool)(d:ByteArray):UsrM:={u.Agd v fg d with sht:=u.sht.next (u.AnT v fg d) (u.heard v fg d).ok}
def Vd (s:UsrM×NetM)(v:Nat)(fg:Bool)(d:ByteArray):UsrM×NetM:=if (s.1.tk v fg d).fresh then Vu (s.1.tkn v fg d,s.2) (s.1.tk v fg d).data else (s.1.tkn v fg d,s.2)
theorem Amt(u:UsrM)(v:Nat)(a:Bool)(d:ByteArray):(u.tk v a d).data.size<=20:=by
 have h:(u.AnT v a d).data.size<=20:=Wv _ _ _ _;unfold UsrM.tk RecvM.J7
 split
 ·exact Af _
 ·split
  ·exact Af _
  ·split
   ·exact Af _
   ·split
    ·exact h
    ·exact Af _
theorem Agy{s:UsrM×NetM}(v:Nat)(a:Bool)(d:ByteArray)(h:Hg w0 S w (setG (setG D 0 (FK q s.2)) g (usO p s.1)))(af:g≠0)(ag:100≠g)(f:101≠g)(ac:D 100=fun _=>A)(ad:D 101=fun _=>A)(hw:s.1.who<=16)(hd:d.size=20)(hv:v<=3)(hr:s.1.air.rough<=9223372036854775807)(he:∀x,s.1.ear=E x->EarOk s.1.who x.sums)(hu:UOk s.1)(hi:InOk s.1.rcv)(hn:s.2.n<=900000000000):Calls prog 61 #[Fa q.b,Fa p.b,.agg #[I U 0, I U (v:Int), M a, J d]] w fun e w'=>∃eb vt,e=.returned (M (s.1.tk v a d).yes)/\Hg w0 S w' (setG (setG D 0 (FK q (Vd s v a d).2)) g (usO {p with eb:=eb,vt:=vt} (Vd s v a d).1)):=by
 have X:=(h.Ii 11 127 [I U 0, I U (v:Int), M a, J d]).Al1 rfl 101 (by omega) f;change Hg w0 S (w.alloc (.cells #[I U 0, I U (v:Int), M a, J d] 127)) _ at X;obtain⟨i, l⟩ := E7 w.heap.size;rw[<-l]at X;have HG:=hid l;have ah:=Amt s.1 v a d;have HM:Hid (Vd s v a d=if (s.1.tk v a d).fresh then Vu (s.1.tkn v a d,s.2) (s.1.tk v a d).data else (s.1.tkn v a d,s.2)):=rfl;have HK:Hid (s.1.tkn v a d={s.1.Agd v a d with sht:=s.1.sht.next ⟨0,(v:Int),a,(s.1.heard v a d).data⟩ (s.1.heard v a d).ok}):=rfl;have L:Hid (UOk (s.1.tkn v a d)/\InOk (s.1.tkn v a d).rcv):=⟨⟨hu.len,hu.gr,hu.op⟩,hi⟩;have R:Hid (s.1.tk v a d=s.1.sht.J7 ⟨0,(v:Int),a,(s.1.heard v a d).data⟩ (s.1.heard v a d).ok):=rfl;have ae:(s.1.heard v a d).data.size<=20:=Wv _ _ _ _;have ab:Hid ((s.1.Agd v a d).sht=s.1.sht):=rfl;have HH:=hid (fun wz hz=>AhW (w:=wz) v a d (D:=setG (setG D 101 (Jt (JP i 127 [I U 0, I U (v:Int), M a, J d]))) 0 (FK q s.2)) (S:=S) (w0:=w0) (g:=g) (p:=p) (u:=s.1) hz hw hd hv hr he);unfold Fa at*;generalize s.1.tk v a d=K at*;generalize s.1.tkn v a d=uk at*;generalize s.1.heard v a d=T at*;generalize s.1.Agd v a d=uh at*;obtain⟨z,ai,te⟩:=T;dsimp only at HK R ae HH;clear h l;go_enter func61,ntmps61;go_upto_region 1 with fail
 rw[<-HG.out];generalize (w.alloc (.cells #[I U 0, I U (v:Int), M a, J d] 127))=w1 at*;have Y:=X.Mt (by omega) f;have y0:w1.cell? ⟨i,0,A⟩=E (I U 0):=Y.cell 0;have y1:w1.cell? ⟨i,1,A⟩=E (I U (v:Int)):=Y.cell 1;have y2:w1.cell? ⟨i,2,A⟩=E (M a):=Y.cell 2;have y3:w1.cell? ⟨i,3,A⟩=E (J d):=Y.cell 3;have F:=hid (HH.out w1 X);clear HH X Y;go_upto_region 2 with(go_at_call 112;refine F.out.mono ?_;rintro e w2 ⟨eb,rfl,h2⟩)
 have k3:w2.cell? ⟨i,3,A⟩=E (J d):=(h2.Mt (by omega) f).cell 3;have l3:=(h2.Mt (by omega) f).free 3;have m:=h2.Apr (by omega) f 3 (J z);clear y0 y1 y2 y3 F h2;go_upto_region 3 with fail
 generalize (w2.setCell ⟨i,3,A⟩ (J z))=t at*;clear k3 l3;have y0:t.cell? ⟨i,0,A⟩=E (I U 0):=(m.Mt (by omega) f).cell 0;have y1:t.cell? ⟨i,1,A⟩=E (I U (v:Int)):=(m.Mt (by omega) f).cell 1;have y2:t.cell? ⟨i,2,A⟩=E (M a):=(m.Mt (by omega) f).cell 2;have y3:t.cell? ⟨i,3,A⟩=E (J z):=(m.Mt (by omega) f).cell 3;have c8:t.cell? ⟨p.b,8,A⟩=E (G (E ⟨p.gs,0,A⟩)):=(m.box (j:=0) rfl).cell 8;have P:=hid ((m.below ((Ad _ t).drew)).act (j:=4) rfl (Aoy p.gs uh.sht (v:Int) a z ai t.drew (Ag (by omega)) (by omega)));rw[ab.out,<-R.out]at P;unfold ShotM.val TookM.val at P;clear m;obtain⟨kd,kf,ky,ke⟩:=K;dsimp only at P ah HM
 go_region_held3 (fun w'=>w'.cell? ⟨p.b,8,A⟩=E (G (E ⟨p.gs,0,A⟩))/\w'.cell? ⟨i,0,A⟩=E (I U 0)/\w'.cell? ⟨i,1,A⟩=E (I U (v:Int))/\w'.cell? ⟨i,2,A⟩=E (M a)/\w'.cell? ⟨i,3,A⟩=E (J z)) (first | exact⟨c8,y0,y1,y2,y3⟩ | exact q1 | go_keep) (first | (go_at_call 113;refine P.out.mono ?_;rintro e w4 ⟨c',⟨rfl,rfl⟩,r⟩;have H4:=hid r;have q1:w4.cell? ⟨p.b,8,A⟩=E (G (E ⟨p.gs,0,A⟩))/\w4.cell? ⟨i,0,A⟩=E (I U 0)/\w4.cell? ⟨i,1,A⟩=E (I U (v:Int))/\w4.cell? ⟨i,2,A⟩=E (M a)/\w4.cell? ⟨i,3,A⟩=E (J z):=⟨(r.box (j:=0) rfl).cell 8,(r.Mt (by omega) f).cell 0,(r.Mt (by omega) f).cell 1,(r.Mt (by omega) f).cell 2,(r.Mt (by omega) f).cell 3⟩;clear r));clear q1 y0 y1 y2 y3 c8 P;have h5:=(H4.out.UV ad (by omega) f).conv (O':=usO {p with eb:=eb} uk) fun j=>by
  rw[HK.out]
  rcases j with _ | _ | _ | _ | _ | _ | _ | _ | _ | _ | _ | j<;>rfl
 clear H4
 cases kf with
 | true=>
  have aa:=hid (Aaf (s:=(uk,s.2)) kd h5 af ag ac (by omega) L.out.1 L.out.2 hn);unfold Fa at aa;clear h5
  go_wp2_with(go_at_call 114;refine aa.out.mono ?_;rintro e w6 ⟨vt,rfl,h6⟩;have H6:=hid h6;clear h6);go_ret;refine⟨rfl,eb,vt,?_⟩;rw[HM.out];exact H6.out
 | false=>
  go_wp2_with fail;go_ret;refine⟨rfl,eb,p.vt,?_⟩;rw[HM.out];exact h5
structure UFix(a b:UsrM):Prop where
 who:b.who=a.who
 key:b.key=a.key
 air:b.air=a.air
 snd:b.snd=a.snd
 blk:b.blk=a.blk
 sl:b.sl=a.sl
 sent:b.sent=a.sent
theorem UFix.refl(a:UsrM):UFix a a:=⟨rfl,rfl,rfl,rfl,rfl,rfl,rfl⟩
theorem UFix.trans{a b c:UsrM}(h:UFix a b)(k:UFix b c):UFix a c:=⟨k.1.trans h.1,k.2.trans h.2,k.3.trans h.3,k.4.trans h.4,k.5.trans h.5,k.6.trans h.6,k.7.trans h.7⟩
theorem WK:∀(l:List ByteArray) (s:UsrM×NetM),UFix s.1 (JL s l).1
 | [],_=> .refl _
 | d::l,s=>UFix.trans (b:=(Jk s d).1) ⟨rfl,rfl,rfl,rfl,rfl,rfl,rfl⟩ (WK l (Jk s d))
theorem AjG(s:UsrM×NetM)(t:ByteArray):UFix s.1 (PU s t).1:=by
 unfold PU
 split
 ·have h:=WK (s.1.op.out (LR t).1) ({s.1 with op:=s.1.op.take (LR t).1},s.2);exact⟨h.1,h.2,h.3,h.4,h.5,h.6,h.7⟩
 ·exact .refl _
theorem Aan:∀(l:List ByteArray) (s:UsrM×NetM),UFix s.1 (Ry s l).1
 | [],_=> .refl _
 | d::l,s=>(AjG s d).trans (Aan l (PU s d))
theorem AbG(s:UsrM×NetM)(t:ByteArray):UFix s.1 (Vu s t).1:=by
 unfold Vu
 split
 ·have h:=Aan (s.1.rcv.take (Hr t).1).out ({s.1 with rcv:=(s.1.rcv.take (Hr t).1).m},s.2);exact⟨h.1,h.2,h.3,h.4,h.5,h.6,h.7⟩
 ·exact .refl _
theorem AiE(s:UsrM×NetM)(v:Nat)(a:Bool)(d:ByteArray):UFix s.1 (Vd s v a d).1:=by
 unfold Vd
 split
 ·have h:=AbG (s.1.tkn v a d,s.2) (s.1.tk v a d).data;exact⟨h.1,h.2,h.3,h.4,h.5,h.6,h.7⟩
 ·exact⟨rfl,rfl,rfl,rfl,rfl,rfl,rfl⟩
theorem AkO(t:Nat):0<=PA t/\PA t<=3:=by grind [PA]
def UsrM.ver(u:UsrM):Nat:=(PA (u.blk.tat 0).tries).toNat
def UsrM.I5(u:UsrM):UsrM:={u with blk:=u.blk.set 0 (u.blk.tat 0).tried}
def SS (s:UsrM×NetM):UsrM×NetM:=if s.1.air.lost then (s.1.I5,s.2) else Vd (s.1.I5,s.2) s.1.ver (s.1.blk.tat 0).flag (s.1.blk.tat 0).data
def UsrM.yes(u:UsrM):Bool:=!u.air.lost && (u.I5.tk u.ver (u.blk.tat 0).flag (u.blk.tat 0).data).yes
def P8 (s:UsrM×NetM):UsrM×NetM:=if s.1.Hj.2=0 then ({(SS (s.1.Hj.1,s.2)).1 with blk:=(s.1.Hj.1.I5.blk).set 0 (s.1.Hj.1.I5.blk.GI 0 (s.1.Hj.1.yes && !s.1.air.deaf))},(SS (s.1.Hj.1,s.2)).2) else (s.1.Hj.1,s.2)
theorem AeV{u:UsrM}(h:Bk u.blk)(f:u.Hj.2=0):Bk u.Hj.1.blk/\(u.Hj.1.blk.tat 0).busy=true:=by
 unfold UsrM.Hj at f ⊢
 split
 ·next hb=>exact⟨h,hb⟩
 ·next hb=>
  rw[Aa hb]at f
  split
  ·next he=>
   obtain⟨a,b,l,d,e,hd⟩:=T9 he;have ht:=SendM.Lf h.ok.len (k:=0) (by omega) ((u.blk.tat 0).Sf (YZ (u.snd.next 12).p));refine⟨⟨h.ok.set (by omega) (Sg h.ok _ _),fun k i j=>?_,?_,fun _=>?_⟩,?_⟩
   ·show((u.blk.set 0 _).tat k).busy=false;rw[ht,Aa (by omega)];exact h.idle k i j
   ·show((u.blk.set 0 _).tat 0).opn=false;rw[ht,Ab rfl];rfl
   ·show((u.blk.set 0 _).tat 0).data.size=20;rw[ht,Ab rfl,e];exact(VH a b l d hd).1
   ·show((u.blk.set 0 _).tat 0).busy=true;rw[ht,Ab rfl];rfl
  grind
theorem AaI(u:UsrM):u.Hj.1.who=u.who/\u.Hj.1.air=u.air/\u.Hj.1.rcv=u.rcv/\u.Hj.1.ear=u.ear/\u.Hj.1.told=u.told/\u.Hj.1.op=u.op/\u.Hj.1.gr=u.gr:=by grind [UsrM.Hj]
theorem Abm{u:UsrM}(h:Bk u.blk)(a:(u.blk.tat 0).busy=true):u.I5.blk.Ok/\(u.I5.blk.tat 0).busy=true/\(u.I5.blk.tat 0).opn=true:=by
 have ht:=SendM.Lf h.ok.len (k:=0) (by omega) (u.blk.tat 0).tried 0;rw[Ab rfl]at ht;exact⟨h.ok.set (by omega) (SH h.ok (by omega) a h.opn),by show((u.blk.set 0 _).tat 0).busy=true;rw[ht];exact a,by show((u.blk.set 0 _).tat 0).opn=true;rw[ht];rfl⟩
theorem Aho(w:World){s:Nat}(a:o.op=.fieldAddr 91 x 3)(h:ρ x= G (E ⟨g,s,A⟩)):(execOp ρ o).run prog w=.ok (.value (G (E ⟨g,s+5,A⟩))) w:=by
 unfold execOp;simp only[a,h];simp[go_sem]
theorem Ahn(w:World){s:Nat}(a:o.op=.fieldAddr 86 x 2)(h:ρ x= G (E ⟨g,s,A⟩)):(execOp ρ o).run prog w=.ok (.value (G (E ⟨g,s+2,A⟩))) w:=by
 unfold execOp;simp only[a,h];simp[go_sem]
theorem Aj8(w:World){j:Nat}{v:Value}(d:o.op=.load 82 x)(h:ρ x= G (E ⟨g,j,A⟩))(a:w.cell? ⟨g,j,A⟩=E v):(execOp ρ o).run prog w=.ok (.value v) w:=by
 unfold execOp;simp only[d,h];simp[go_sem,a]
theorem Ajw{s:UsrM×NetM}(h:Hg w0 S w (setG (setG D 0 (FK q s.2)) g (usO p s.1)))(ao:g≠0)(ap:100≠g)(aq:101≠g)(l:102≠g)(am:D 100=fun _=>A)(an:D 101=fun _=>A)(ai:D 102=fun _=>A)(hB:Bk s.1.blk)(hw:s.1.who<=16)(hr:s.1.air.rough<=9223372036854775807)(he:∀x,s.1.ear=E x->EarOk s.1.who x.sums)(hu:UOk s.1)(hi:InOk s.1.rcv)(hn:s.2.n<=900000000000):Calls prog 31 #[Fa q.b,Fa p.b] w fun e w'=>e=.returned (.tuple #[])/\∃eb vt,Hg w0 S w' (setG (setG D 0 (FK q (P8 s).2)) g (usO {p with eb:=eb,vt:=vt} (P8 s).1)):=by
 have HP:=hid (AhZ h hB);have X:=AeV hB;obtain⟨x1,x2,x3,x4,x5,x6,x7⟩:=AaI s.1;have L:Hid (s.1.Hj.2=0->P8 s=({(SS (s.1.Hj.1,s.2)).1 with blk:=(s.1.Hj.1.I5.blk).set 0 (s.1.Hj.1.I5.blk.GI 0 (s.1.Hj.1.yes && !s.1.Hj.1.air.deaf))},(SS (s.1.Hj.1,s.2)).2)):=fun e=>by unfold P8;rw[Ab e,x2]
 have P:Hid (¬s.1.Hj.2=0->P8 s=(s.1.Hj.1,s.2)):=fun e=>by unfold P8;rw[Aa e]
 generalize s.1.Hj=R at*;obtain⟨u1,e0⟩:=R;dsimp only at HP X x1 x2 x3 x4 x5 x6 x7 L P;unfold Fa at*;clear h hB
 by_cases h0:e0=0
 ·subst h0;obtain⟨hB,aa⟩:=X rfl;clear X;rw[<-x2]at hr;have HM:=hid (L.out rfl);rw[<-x1]at hw he;rw[<-x4]at he;have af:UOk u1:=⟨by rw[x5,x6];exact hu.len,by rw[x7];exact hu.gr,by rw[x6];exact hu.op⟩;rw[<-x3]at hi;clear L P x1 x2 x3 x4 x5 x6 x7 hu;go_enter func31,ntmps31;go_upto_region 2 with(go_at_call 59;refine HP.out.mono ?_;rintro e w1 ⟨rfl,h1⟩)
  clear HP;have c7:w1.cell? ⟨p.b,7,A⟩=E (G (E ⟨p.gb,0,A⟩)):=(h1.box (j:=0) rfl).cell 7;have HN:=hid (h1.act (j:=3) rfl (Aod p.gb u1.blk w1 aa hB.opn));obtain⟨av,aw⟩:=AkO (u1.blk.tat 0).tries;have ak:PA (u1.blk.tat 0).tries=(u1.ver:Int):=by unfold UsrM.ver;omega
  have au:u1.ver<=3:=by unfold UsrM.ver;omega
  rw[ak]at HN;have ar:=hB.len aa;have ag:=hid (Abm hB aa);have z:Hid (u1.yes=(!u1.air.lost && (u1.I5.tk u1.ver (u1.blk.tat 0).flag (u1.blk.tat 0).data).yes)):=rfl;have r:Hid (SS (u1,s.2)=if u1.air.lost then (u1.I5,s.2) else Vd (u1.I5,s.2) u1.ver (u1.blk.tat 0).flag (u1.blk.tat 0).data):=rfl;generalize (u1.blk.tat 0).flag=fg at*;generalize (u1.blk.tat 0).data=d at*;generalize u1.ver=v at*;clear av aw ak h1 aa hB;go_upto_region 3 with(go_at_call 60;refine HN.out.mono ?_;rintro e w2 ⟨c',⟨rfl,rfl⟩,h2⟩)
  have F:=((h2.conv (O':=usO p u1.I5) fun j=>by rcases j with _ | _ | _ | _ | _ | _ | _ | _ | _ | _ | _ | j<;>rfl).Ii 11 127 [I U 0, I U (v:Int), M fg, J d]).Al1 rfl 102 (by omega) l;change Hg w0 S (w2.alloc (.cells #[I U 0, I U (v:Int), M fg, J d] 127)) _ at F;obtain⟨gx, ah⟩ := E7 w2.heap.size;rw[<-ah]at F ⊢;generalize (w2.alloc (.cells #[I U 0, I U (v:Int), M fg, J d] 127))=w3 at*;clear h2 HN c7 ah;have a2:w3.cell? ⟨p.b,2,A⟩=E (M u1.air.lost):=(F.box (j:=0) rfl).cell 2;have y0:w3.cell? ⟨gx,0,A⟩=E (I U 0):=(F.Mt (by omega) l).cell 0;have y1:w3.cell? ⟨gx,1,A⟩=E (I U (v:Int)):=(F.Mt (by omega) l).cell 1;have y2:w3.cell? ⟨gx,2,A⟩=E (M fg):=(F.Mt (by omega) l).cell 2;have y3:w3.cell? ⟨gx,3,A⟩=E (J d):=(F.Mt (by omega) l).cell 3
  go_cut [8] (fun x wx=>x= M u1.yes/\∃eb vt,Hg w0 S wx (setG (setG D 0 (FK q (SS (u1,s.2)).2)) g (usO {p with eb:=eb,vt:=vt} (SS (u1,s.2)).1)))
  case first=>
   cases hL:u1.air.lost with
   | true=>
    rw[hL]at a2 z r
    go_wp2_with fail
    go_meet;refine⟨by rw[z.out];rfl,p.eb,p.vt,?_⟩;rw[r.out];exact F.UV ai (by omega) l
   | false=>
    rw[hL]at a2 z r;have hC:=hid (Agy (s:=(u1.I5,s.2)) v fg d F ao ap aq (by rw[Fo _ (by omega)];exact am) (by rw[Fo _ (by omega)];exact an) hw ar au hr he ⟨af.len,af.gr,af.op⟩ hi hn);unfold Fa at hC;clear F
    go_wp2_with(go_at_call 61;refine hC.out.mono ?_;rintro e w4 ⟨eb,vt,rfl,h4⟩;have H4:=hid h4;clear h4)
    go_meet;refine⟨by rw[z.out];rfl,eb,vt,?_⟩;rw[r.out];exact H4.out.UV ai (by omega) l
  case rest=>
   obtain⟨rfl,eb,vt,h4⟩:=hcut;have t:UFix u1.I5 (SS (u1,s.2)).1:=by
    rw[r.out]
    split
    ·exact .refl _
    ·exact AiE (u1.I5,s.2) v fg d
   have u:=HM.out;generalize SS (u1,s.2)=f at*;have c7:wc.cell? ⟨p.b,7,A⟩=E (G (E ⟨p.gb,0,A⟩)):=(h4.box (j:=0) rfl).cell 7;have c3:wc.cell? ⟨p.b,3,A⟩=E (M f.1.air.deaf):=(h4.box (j:=0) rfl).cell 3;obtain⟨z1,z2,z3⟩:=ag.out;have HA:=hid (fun wz (hb:Below wc.heap.size wc wz)=>(h4.below hb).act (j:=3) rfl (Apg p.gb f.1.blk (u1.yes && !f.1.air.deaf) wz (by rw[t.blk];exact z1) (by rw[t.blk];exact z2) (by rw[t.blk];exact z3)));have u:=hid (show P8 s=({f.1 with blk:=f.1.blk.set 0 (f.1.blk.GI 0 (u1.yes && !f.1.air.deaf))},f.2)by rw[u,t.blk,show f.1.air.deaf=u1.air.deaf by rw[t.air];rfl]);generalize u1.yes=Y at*;obtain⟨De, ad⟩ := E7 f.1.air.deaf;have al:=hid ad;rw[<-ad]at c3 HA u;clear ad;clear HM ag z r t F h4 a2 y0 y1 y2 y3 z1 z2 z3
   have ab:∀w5,Hg w0 S w5 (setG (setG D 0 (FK q f.2)) g (FQ (usO {p with eb:=eb,vt:=vt} f.1) 3 (E (S9 p.gb (f.1.blk.set 0 (f.1.blk.GI 0 (Y && !De)))))))->∃eb vt,Hg w0 S w5 (setG (setG D 0 (FK q (P8 s).2)) g (usO {p with eb:=eb,vt:=vt} (P8 s).1)):=fun w5 h=>⟨eb,vt,by
    rw[u.out]
    exact h.conv fun j=>by rcases j with _ | _ | _ | _ | _ | _ | _ | _ | _ | _ | _ | j<;>rfl⟩
   have HE:=hid ab;clear ab u
   cases Y with
   | true=>
    go_upto_region 4 with fail
    go_region_held3 (fun w'=>w'.cell? ⟨p.b,7,A⟩=E (G (E ⟨p.gb,0,A⟩))/\w'.cell? ⟨p.b,3,A⟩=E (M De)) (first | exact⟨c7,c3⟩ | exact q1 | go_keep) (first | (go_at_call 62;refine(HA.out _ ((Ad _ wc).drew)).mono ?_;rintro e w6 ⟨c',⟨rfl,rfl⟩,h6⟩;have H6:=hid h6;have q1:w6.cell? ⟨p.b,7,A⟩=E (G (E ⟨p.gb,0,A⟩))/\w6.cell? ⟨p.b,3,A⟩=E (M De):=⟨(h6.box (j:=0) rfl).cell 7,by rw[al.out];exact(h6.box (j:=0) rfl).cell 3⟩;clear h6))
    go_wp2_with fail
    go_end0;exact⟨rfl,HE.out _ H6.out⟩
   | false=>
    go_upto_region 4 with fail
    have aj:prog.follows .mixedOrders=true:=by kernel_rfl
    refine Bi (Nr (Q:=fun e a' w'=>e=.normal/\a'=({tmps:=(_:List Value).toArray,defers:=[]}:Act)/\Hg w0 S w' (setG (setG D 0 (FK q f.2)) g (FQ (usO {p with eb:=eb,vt:=vt} f.1) 3 (E (S9 p.gb (f.1.blk.set 0 (f.1.blk.GI 0 (false && !De)))))))) 15 38 (G (E ⟨p.b,0,A⟩)) [(39, G (E ⟨p.b,0,A⟩)),(40, G (E ⟨p.b,0+5,A⟩)),(41, G (E ⟨p.b,0+5+2,A⟩)),(42, G (E ⟨p.gb,0,A⟩)),(43, I U 0),(44, M false),(45, M false),(46,undef),(47,undef),(48,undef),(49,undef),(50,undef),(51,undef),(52, M false)]
     [[1],[38],[39],[40],[41],[4],[8],[44],[1,45],[46,45],[47,45],[48,45],[49,45],[50,45],[45,51]] [1,2,3,4,15,15,7,14,9,10,11,12,13,14,15] wc aj rfl rfl (show([38,39,40,41,42,43,44,45,46,47,48,49,50,51,52]:List Nat).Nodup by decide) (by kernel_rfl) (by kernel_rfl) (by kernel_rfl) (by kernel_rfl) (by kernel_rfl) (fun m ax ac wd ae a Q K i=>by
     have h9:m=0\/m=1\/m=2\/m=3\/m=4\/m=5\/m=6\/m=7\/m=8\/m=9\/m=10\/m=11\/m=12\/m=13\/m=14:=by omega
     rcases h9 with rfl | rfl | rfl | rfl | rfl | rfl | rfl | rfl | rfl | rfl | rfl | rfl | rfl | rfl | rfl
     ·exact E6 rfl rfl (Fd wd rfl (a 1 (by decide))) (i wd (Fb wd))
     ·exact E6 rfl rfl (Ie wd rfl (a 38 (by decide))) (i wd (Fb wd))
     ·exact E6 rfl rfl (Aho wd rfl (a 39 (by decide))) (i wd (Fb wd))
     ·exact E6 rfl rfl (Ahn wd rfl (a 40 (by decide))) (i wd (Fb wd))
     ·exact E6 rfl rfl (Aj8 wd rfl (a 41 (by decide)) ((ae.cell (Aj wc _ c7)).trans c7)) (i wd (Fb wd))
     ·exact E6 rfl rfl (Fd wd rfl (a 4 (by decide))) (i wd (Fb wd))
     ·exact E6 rfl rfl (Fd wd rfl (a 8 (by decide))) (i wd (Fb wd))
     ·exact E6 rfl rfl (Fd wd rfl (a 44 (by decide))) (i wd (Fb wd))
     ·exact IH (want:=true) rfl rfl rfl rfl (a 45 (by decide)) (i wd (Fb wd))
     ·exact IH (want:=true) rfl rfl rfl rfl (a 45 (by decide)) (i wd (Fb wd))
     ·exact IH (want:=true) rfl rfl rfl rfl (a 45 (by decide)) (i wd (Fb wd))
     ·exact IH (want:=true) rfl rfl rfl rfl (a 45 (by decide)) (i wd (Fb wd))
     ·exact IH (want:=true) rfl rfl rfl rfl (a 45 (by decide)) (i wd (Fb wd))
     ·exact IH (want:=true) rfl rfl rfl rfl (a 45 (by decide)) (i wd (Fb wd))
     ·exact E6 rfl rfl (RC wd rfl (a 45 (by decide)) rfl) (i wd (Fb wd)))
     (fun wd ae=>by
      refine FM rfl rfl rfl (enters_of func62 (by kernel_rfl) rfl) (Z5 (Fj 42 (show([38,39,40,41,42,43,44,45,46,47,48,49,50,51,52]:List Nat).Nodup by decide) (by kernel_rfl)) (Fj 43 (show([38,39,40,41,42,43,44,45,46,47,48,49,50,51,52]:List Nat).Nodup by decide) (by kernel_rfl)) (Fj 52 (show([38,39,40,41,42,43,44,45,46,47,48,49,50,51,52]:List Nat).Nodup by decide) (by kernel_rfl))) (HA.out wd ae) fun e w' ⟨c',⟨he,hc⟩,hh⟩=>?_
      subst hc
      exact⟨_,he,rfl,G4 _ _ _,hh⟩)) ?_
    rintro e a' w6 ⟨rfl,rfl,h6⟩;have H6:=hid h6;clear h6;dsimp only[Ft,List.set,List.append_nil,List.cons_append,List.nil_append]
    go_wp2_with fail
    go_end0;exact⟨rfl,HE.out _ H6.out⟩
 ·have HM:=hid (P.out h0);have ay:(e0 !=0)=true:=by simpa using h0
  clear L P X;go_enter func31,ntmps31
  go_wp2_with(go_at_call 59;refine HP.out.mono ?_;rintro e w1 ⟨rfl,h1⟩;have H1:=hid h1;clear h1)
  try simp only[Exit.inBlock,Exit.then]
  refine Ah (Cd rfl _ _ _) rfl ?_;refine⟨rfl,p.eb,p.vt,?_⟩;rw[HM.out];exact H1.out
theorem Agz{t:NetM}(k:Nat)(v:Option Addr)(h:Hg w0 S w (setG D 0 (FK q t)))(m:k<=9223372036854775807)(f:k<17->q.us[k]?=E (.pointer v))(a:17<=k->v=A):Calls prog 18 #[Fa q.b, I U (k:Int)] w fun e w'=>e=.returned (.pointer v)/\w'=w:=by
 unfold Fa
 by_cases d:17<=k
 ·obtain rfl:=a d;have hi:(17:Int)<=(k:Int):=by omega
  clear h f a;go_enter func18,ntmps18
  go_wp2_with fail;go_ret;exact⟨rfl,rfl⟩
 ·have hi:¬(17:Int)<=(k:Int):=by omega
  have i:(k:Int)<17:=by omega
  have l:w.cell? ⟨q.b,2+k,A⟩=E (.pointer v):=by
   rw[(h.box (j:=0) rfl).cell (2+k),show 2+k=k+1+1 by omega];exact f (by omega)
  clear h f a;go_enter func18,ntmps18
  go_wp2_with fail;go_ret;exact⟨rfl,rfl⟩
theorem Hg.net(h:Hg w0 S w (setG (setG D k N) g O))(hg:g≠k):Hg w0 S w (setG (setG D g O) k N):=by
 rw[JJ D (Ck hg)]at h;exact h
theorem Wh{u:UsrM}{t:NetM}(h:Hg w0 S w (setG (setG D 0 (FK q t)) g (usO p u)))(i:g≠0)(Y:u.who<=16)(z:t.co.per (u.who:Int)=E pr)(R:pr.st=1):Calls prog 82 #[Fa q.b,Fa p.b] w fun e w'=>e=.returned (I U (pr.cell:Int))/\Below w.heap.size w w':=by
 have c0:w.cell? ⟨q.b,0,A⟩=E (G (E ⟨q.c,0,A⟩)):=((h.net i).box (j:=0) rfl).cell 0;have n:w.cell? ⟨p.b,0,A⟩=E (I U (u.who:Int)):=(h.box (j:=0) rfl).cell 0;obtain⟨F,s⟩:=(((h.net i).below ((Ad _ w).drew))).get (j:=1) rfl;have m:=hid (AfS s (k:=(u.who:Int)) ⟨by omega,by omega⟩);have l:t.co.Uh (u.who:Int)=[(pr.cell:Int)]:=by unfold CoM.Uh;rw[z];simp[R]
 unfold Iv at m;rw[l]at m;unfold Fa at*;generalize t.co.QN (u.who:Int)=pe at*;clear s h z l;go_enter func82,ntmps82;go_upto_region 1 with fail
 go_region_held3 (fun w'=>w'.cell? ⟨q.b,0,A⟩=E (G (E ⟨q.c,0,A⟩))/\w'.cell? ⟨p.b,0,A⟩=E (I U (u.who:Int))) (first | exact⟨c0,n⟩ | exact L | go_keep) (first | (go_at_call 136;refine m.out.mono ?_;rintro e w1 ⟨a,cc,rfl,v,d⟩;have L:w1.cell? ⟨q.b,0,A⟩=E (G (E ⟨q.c,0,A⟩))/\w1.cell? ⟨p.b,0,A⟩=E (I U (u.who:Int)):=⟨(d.cell (Aj w.drew _ c0)).trans c0,(d.cell (Aj w.drew _ n)).trans n⟩));have f:w1.ownsRow w.drew.heap.size 3 1 (.slice a 1 cc) 1 [I U (pr.cell:Int)]:=v;obtain⟨ga,X,r⟩:=Lh f (by omega);simp only[Aq]at r;obtain⟨rfl, -,rfl⟩:=r;have x0:w1.cell? ⟨ga,0,A⟩=E (I U (pr.cell:Int)):=(CX f 0 (by omega)).trans rfl;have P:=hid d;clear v f d L m
 go_wp2_with fail;go_ret;exact⟨rfl,Fr ((Ad _ w).drew) P.out⟩
def NetM.with(t:NetM)(m:CoM)(n:Nat):NetM:={t with co:=m,n:=n}
def Mc (s:UsrM×NetM)(c:Int)(pr:PrM):(UsrM×NetM)×Int:=if (s.2.co.hand (s.1.who:Int) (pr.cell:Int) c).err=0 then ((s.1.move,s.2.with (s.2.co.hand (s.1.who:Int) (pr.cell:Int) c).m s.2.n),0) else ((s.1,s.2.with (s.2.co.hand (s.1.who:Int) (pr.cell:Int) c).m s.2.n),(s.2.co.hand (s.1.who:Int) (pr.cell:Int) c).err)
theorem AgA{s:UsrM×NetM}(c:Int)(h:Hg w0 S w (setG (setG D 0 (FK q s.2)) g (usO p s.1)))(d:g≠0)(hw:s.1.who<=16)(hp:s.2.co.per (s.1.who:Int)=E pr)(hs:pr.st=1)(L:s.1.key<=2147483640):Calls prog 38 #[Fa q.b,Fa p.b, I U c] w fun e w'=>∃l,l.b=p.b/\e=.returned (I U (Mc s c pr).2)/\Hg w0 S w' (setG (setG D 0 (FK q (Mc s c pr).1.2)) g (usO l (Mc s c pr).1.1)):=by
 have c0:w.cell? ⟨q.b,0,A⟩=E (G (E ⟨q.c,0,A⟩)):=((h.net d).box (j:=0) rfl).cell 0;have i:w.cell? ⟨p.b,0,A⟩=E (I U (s.1.who:Int)):=(h.box (j:=0) rfl).cell 0;have hd:=h.below ((Ad _ w).drew);have P:=hid (Wh hd d hw hp hs);have r:=hid (fun wz (hb:Below w.drew.heap.size w.drew wz)=>((hd.below hb).net d).act (j:=1) rfl (Alh (fun F hP=>Aiw (pr.cell:Int) c hP (k:=(s.1.who:Int)) ⟨by omega,by omega⟩)));have t:Hid (Mc s c pr=if (s.2.co.hand (s.1.who:Int) (pr.cell:Int) c).err=0 then ((s.1.move,s.2.with (s.2.co.hand (s.1.who:Int) (pr.cell:Int) c).m s.2.n),0) else ((s.1,s.2.with (s.2.co.hand (s.1.who:Int) (pr.cell:Int) c).m s.2.n),(s.2.co.hand (s.1.who:Int) (pr.cell:Int) c).err)):=rfl;unfold Fa at*;generalize s.2.co.hand (s.1.who:Int) (pr.cell:Int) c=R at*;obtain⟨rm,re⟩:=R;dsimp only at r t;clear hd h hp;go_enter func38,ntmps38;go_upto_region 1 with fail
 go_region_held3 (fun w'=>w'.cell? ⟨q.b,0,A⟩=E (G (E ⟨q.c,0,A⟩))/\w'.cell? ⟨p.b,0,A⟩=E (I U (s.1.who:Int))) (first | exact⟨c0,i⟩ | exact q1 | exact q2 | go_keep) (first
  | (go_at_call 82;refine P.out.mono ?_;rintro e w1 ⟨rfl,a⟩;have q1:w1.cell? ⟨q.b,0,A⟩=E (G (E ⟨q.c,0,A⟩))/\w1.cell? ⟨p.b,0,A⟩=E (I U (s.1.who:Int)):=⟨(a.cell (Aj w.drew _ c0)).trans c0,(a.cell (Aj w.drew _ i)).trans i⟩)
  | (go_at_call 81;refine(r.out w1 a).mono ?_;rintro e w2 ⟨c',⟨rfl,rfl⟩,u⟩;have f:=hid ((u.conv (O':=FK q (s.2.with rm s.2.n)) fun j=>by rcases j with _ | _ | _ | j<;>rfl).net (Ck d));have q2:w2.cell? ⟨q.b,0,A⟩=E (G (E ⟨q.c,0,A⟩))/\w2.cell? ⟨p.b,0,A⟩=E (I U (s.1.who:Int)):=⟨(u.box (j:=0) rfl).cell 0,(f.out.box (j:=0) rfl).cell 0⟩;clear u))
 clear r P q1 q2 a c0 i
 by_cases z:re=0
 ·subst z;have X:=hid (AhX f.out L);unfold Fa at X;clear f
  go_wp2_with(go_at_call 83;refine X.out.mono ?_;rintro e w3 ⟨l,v, -,rfl,Y⟩;have H3:=hid Y;clear Y);go_ret;refine⟨l,v,?_⟩;rw[t.out];exact⟨rfl,H3.out⟩
 ·have aa:(re !=0)=true:=by simpa using z
  go_wp2_with fail;go_ret;refine⟨p,rfl,?_⟩;have e1:=t.out.trans (Aa z);rw[e1];exact⟨rfl,f.out⟩
end Go.Proofs.YtbjgfoiikhbonahGreatDoor
