import Derived.Test.YtbjgfoiikhbonahGreatDoorA40
set_option linter.unusedVariables false
set_option linter.unusedSimpArgs false
set_option maxRecDepth 100000
set_option maxHeartbeats 4000000
namespace Go.Proofs.YtbjgfoiikhbonahGreatDoor
open Go.ChangeShapes Go.WideShapes Go.ChangeAt Go.RowKit Go.Proofs.Tryz
open Option renaming some->B,none->C
open Value renaming pointer->D
variable {A:Type}{E:Nat->Nat->Option Cm}{L g k:Nat}{O:Nat->Option Cm}{S:List Nat}{w w' w0:World}{x:UsrP}
structure NtM where
 us:Nat->Option UsrM
 t:NetM
structure NtP where
 q:NetP
 P:Nat->UsrP
def P7 {A:Type}(f:Nat->A)(k:Nat)(x:A):Nat->A:=fun j=>if j=k then x else f j
theorem I0(f:Nat->A)(k:Nat)(x:A):P7 f k x k=x:=Ab rfl
theorem Hx(f:Nat->A){j:Nat}(x:A)(h:j≠k):P7 f k x j=f j:=Aa h
def NtM.put(m:NtM)(k:Nat)(s:UsrM×NetM):NtM:=⟨P7 m.us k (B s.1),s.2⟩
def NtP.put(p:NtP)(k:Nat)(x:UsrP):NtP:=⟨p.q,P7 p.P k x⟩
def MP (p:NtP)(m:NtM)(k:Nat):Option Addr:=match m.us k with
 | some _=>B ⟨(p.P k).b,0,C⟩
 | none=>C
def usG (p:NtP)(m:NtM)(k:Nat):Nat->Option Cm:=match m.us k with
 | some u=>usO (p.P k) u
 | none=>fun _=>C
def Hn (E:Nat->Nat->Option Cm)(p:NtP)(m:NtM):Nat->Nat->Option Cm:=fun g=>if g=0 then FK p.q m.t else if g<=16 then usG p m g else E g
structure NtAt(w0:World)(S:List Nat)(w:World)(E:Nat->Nat->Option Cm)(p:NtP)(m:NtM):Prop where
 hg:Hg w0 S w (Hn E p m)
 us:p.q.us=(List.range 17).map fun k=> D (MP p m k)
 e1:E 100=fun _=>C
 e2:E 101=fun _=>C
 e3:E 102=fun _=>C
theorem Ajr(E:Nat->Nat->Option Cm)(p:NtP)(m:NtM):setG (Hn E p m) 0 (FK p.q m.t)=Hn E p m:=Ig (Hn E p m) 0
theorem Rw{p:NtP}{m:NtM}{u:UsrM}(b:m.us k=B u)(a:1<=k/\k<=16):setG (setG (Hn E p m) 0 (FK p.q m.t)) k (usO (p.P k) u)=Hn E p m:=by grind [setG,Hn,FK,usO,usG]
theorem T6(E:Nat->Nat->Option Cm)(p:NtP)(m:NtM)(h:16<g)(O:Nat->Option Cm):setG (Hn E p m) g O=Hn (setG E g O) p m:=by grind [setG,Hn]
theorem Ajs(E:Nat->Nat->Option Cm)(p:NtP)(m:NtM)(b:1<=k/\k<=16)(x:UsrP)(s:UsrM×NetM):setG (setG (Hn E p m) 0 (FK p.q s.2)) k (usO x s.1)=Hn E (p.put k x) (m.put k s):=funext fun j=>by
 unfold setG Hn usG NtM.put NtP.put
 by_cases e:j=k
 ·subst e;rw[Ab rfl,Aa (by omega),Ab b.2];simp only[I0]
 ·rw[Aa e];simp only[Hx _ _ e]
  by_cases a:j=0
  ·rw[Ab a,Ab a]
  ·simp only[a,AV]
theorem NtAt.J5{p:NtP}{m:NtM}{u:UsrM}(h:NtAt w0 S w E p m)(b:m.us k=B u)(a:1<=k/\k<=16):Hg w0 S w (setG (setG (Hn E p m) 0 (FK p.q m.t)) k (usO (p.P k) u)):=by
 rw[Rw b a];exact h.hg
theorem NtAt.net{p:NtP}{m:NtM}(h:NtAt w0 S w E p m):Hg w0 S w (setG (Hn E p m) 0 (FK p.q m.t)):=by
 rw[Ajr];exact h.hg
theorem AaJ{p:NtP}{m:NtM}{u:UsrM}(a:m.us k=B u)(c:x.b=(p.P k).b)(s:UsrM×NetM)(j:Nat):MP (p.put k x) (m.put k s) j=MP p m j:=by
 unfold MP NtM.put NtP.put
 by_cases e:j=k
 ·subst e;simp only[I0,a,c]
 ·simp only[Hx _ _ e]
theorem NtAt.put{p:NtP}{m:NtM}{u:UsrM}(h:NtAt w0 S w E p m)(d:m.us k=B u)(c:1<=k/\k<=16){s:UsrM×NetM}(e:x.b=(p.P k).b)(a:Hg w0 S w' (setG (setG (Hn E p m) 0 (FK p.q s.2)) k (usO x s.1))):NtAt w0 S w' E (p.put k x) (m.put k s):=by
 rw[Ajs E p m c]at a;refine⟨a,?_,h.e1,h.e2,h.e3⟩;rw[funext (fun j=>congrArg D (AaJ d e s j))];exact h.us
theorem NtAt.below{w0 w w':World}{S:List Nat}{E:Nat->Nat->Option Cm}{p:NtP}{m:NtM}(h:NtAt w0 S w E p m)(a:Below w.heap.size w w'):NtAt w0 S w' E p m:=⟨h.hg.below a,h.us,h.e1,h.e2,h.e3⟩
theorem NtAt.at{p:NtP}{m:NtM}(h:NtAt w0 S w E p m)(a:k<17):p.q.us[k]?=B (D (MP p m k)):=by
 rw[h.us,A9,Ch a];rfl
theorem O5{p:NtP}{m:NtM}{u:UsrM}(h:m.us k=B u):MP p m k=B ⟨(p.P k).b,0,C⟩:=by unfold MP;rw[h]
theorem MQ{p:NtP}{m:NtM}(h:m.us k=C):MP p m k=C:=by unfold MP;rw[h]
structure UInv(L k:Nat)(u:UsrM):Prop where
 who:u.who=k
 key:u.key<=16001+7*L
 rough:u.air.rough<=9223372036854775807
 ear:∀x,u.ear=B x->EarOk u.who x.sums
 ok:UOk u
 inn:InOk u.rcv
 nxt:u.sl.nxt<=L
 sent:u.sent<=L
 grN:u.grN<=L
 tld:∀d∈u.told,d.size<=500
structure NFix(s s':UsrM×NetM):Prop where
 n:s'.2.n+s.1.told.length=s.2.n+s'.1.told.length
 per:s'.2.co.per=s.2.co.per
 unit:s'.2.co.unit=s.2.co.unit
 tu:s'.2.last=s.2.last/\s'.2.opn=s.2.opn/\s'.2.cr=s.2.cr
structure TFix(s s':UsrM×NetM):Prop where
 ear:s'.1.ear=s.1.ear
 rcv:s'.1.rcv=s.1.rcv
 grN:s'.1.grN<=s.1.grN
 per:s'.2.co.per=s.2.co.per
 unit:s'.2.co.unit=s.2.co.unit
 tu:s'.2.last=s.2.last/\s'.2.opn=s.2.opn/\s'.2.cr=s.2.cr
theorem TFix.refl(s:UsrM×NetM):TFix s s:=⟨rfl,rfl,Ac _,rfl,rfl,rfl,rfl,rfl⟩
theorem TFix.trans{a b c:UsrM×NetM}(h:TFix a b)(k:TFix b c):TFix a c:=⟨k.ear.trans h.ear,k.rcv.trans h.rcv,Ak k.grN h.grN,k.per.trans h.per,k.unit.trans h.unit,k.tu.1.trans h.tu.1,k.tu.2.1.trans h.tu.2.1,k.tu.2.2.trans h.tu.2.2⟩
theorem Uv(m:CoM)(g t b:Int)(f:Bool):(m.Fx g t b f).m.per=m.per/\(m.Fx g t b f).m.unit=m.unit:=by
 unfold CoM.Fx
 split<;>exact⟨rfl,rfl⟩
theorem AhK(s:UsrM×NetM)(d:ByteArray):TFix s (Jk s d):=by
 obtain⟨a,b⟩:=Uv s.2.co (grI s.1.gr (s.1.told.length:Int)) 1 (d.size:Int) true;exact⟨rfl,rfl,Nat.sub_le _ _,a,b,rfl,rfl,rfl⟩
theorem Ae7:∀(l:List ByteArray) (s:UsrM×NetM),TFix s (JL s l)
 | [],_=> .refl _
 | d::l,s=>(AhK s d).trans (Ae7 l (Jk s d))
theorem AnB(s:UsrM×NetM)(t:ByteArray):TFix s (PU s t):=by
 unfold PU
 split
 ·have h:=Ae7 (s.1.op.out (LR t).1) ({s.1 with op:=s.1.op.take (LR t).1},s.2);exact⟨h.ear,h.rcv,h.grN,h.per,h.unit,h.tu⟩
 ·exact .refl _
theorem AjF:∀(l:List ByteArray) (s:UsrM×NetM),TFix s (Ry s l)
 | [],_=> .refl _
 | d::l,s=>(AnB s d).trans (AjF l (PU s d))
theorem Ad4:∀(l:List ByteArray) (s:UsrM×NetM),(JL s l).1.told=s.1.told++l:=by intro a;induction a<;>grind [JL,Jk]
theorem AjH{s:UsrM×NetM}(h:UOk s.1)(ht:∀d∈s.1.told,d.size<=500)(t:ByteArray):∀d∈(PU s t).1.told,d.size<=500:=by
 unfold PU
 split
 ·rw[Ad4];intro d hd
  rcases BH.1 hd with q | q
  ·exact ht d q
  ·obtain⟨j,a,rfl⟩:=A5 q;have:=h.op.out (LR t).1 j
   grind
 ·exact ht
theorem Aao:∀(l:List ByteArray) {s:UsrM×NetM},UOk s.1->(∀d∈s.1.told,d.size<=500)->∀d∈(Ry s l).1.told,d.size<=500
 | [],_,_,ht=>ht
 | d::l,_,h,ht=>Aao l (X6 h d).ok (AjH h ht d)
theorem NFix.refl(s:UsrM×NetM):NFix s s:=⟨rfl,rfl,rfl,rfl,rfl,rfl⟩
theorem Amz{s:UsrM×NetM}(h:UInv L k s.1)(b:ByteArray):UInv L k (Vu s b).1/\NFix s (Vu s b):=by
 have a:=AbG s b;unfold Vu at a ⊢
 split
 ·next hp=>
  rw[Ab hp]at a;have c:=AjF (s.1.rcv.take (Hr b).1).out ({s.1 with rcv:=(s.1.rcv.take (Hr b).1).m},s.2);have d:=X5 (s.1.rcv.take (Hr b).1).out (s:=({s.1 with rcv:=(s.1.rcv.take (Hr b).1).m},s.2)) ⟨h.ok.len,h.ok.gr,h.ok.op⟩;have e:=(h.inn.take (Hr b).1).1;have f:=Aao (s.1.rcv.take (Hr b).1).out (s:=({s.1 with rcv:=(s.1.rcv.take (Hr b).1).m},s.2)) ⟨h.ok.len,h.ok.gr,h.ok.op⟩ h.tld;generalize Ry ({s.1 with rcv:=(s.1.rcv.take (Hr b).1).m},s.2) (s.1.rcv.take (Hr b).1).out=z at*;refine⟨⟨a.who.trans h.who,by rw[a.key];exact h.key,by rw[a.air];exact h.rough,?_,d.ok,?_,by rw[a.sl];exact h.nxt,by rw[a.sent];exact h.sent,Ak c.grN h.grN,f⟩,⟨d.n,c.per,c.unit,c.tu⟩⟩
  ·rw[c.ear,a.who];exact h.ear
  ·rw[c.rcv];exact e
 ·exact⟨h,.refl _⟩
theorem Alm{s:UsrM×NetM}(h:UInv L k s.1)(i:k<=16)(v:Nat)(c:Bool)(d:ByteArray):UInv L k (Vd s v c d).1/\NFix s (Vd s v c d):=by
 have f:=Ae6 (by rw[h.who];exact i) h.ear c
 have e:UInv L k (s.1.tkn v c d,s.2).1:=⟨h.who,h.key,h.rough,fun x j=>by
  obtain rfl:=AX j
  exact⟨by rw[Tx];exact f.len,Xt f.soft⟩,⟨h.ok.len,h.ok.gr,h.ok.op⟩,h.inn,h.nxt,h.sent,h.grN,h.tld⟩
 unfold Vd
 split
 ·obtain⟨a,b⟩:=Amz e (s.1.tk v c d).data;exact⟨a,b.n,b.per,b.unit,b.tu⟩
 ·exact⟨e,rfl,rfl,rfl,rfl,rfl,rfl⟩
theorem AjV{u:UsrM}(h:UInv L k u):UInv L k u.Hj.1:=by
 unfold UsrM.Hj
 split
 ·exact h
 ·split<;>exact⟨h.who,h.key,h.rough,h.ear,⟨h.ok.len,h.ok.gr,h.ok.op⟩,h.inn,h.nxt,h.sent,h.grN,h.tld⟩
theorem Al3{u:UsrM}(a:u.Hj.2≠0):u.Hj.1.blk=u.blk:=by grind [UsrM.Hj]
theorem AmE{s:UsrM×NetM}(h:UInv L k s.1)(v:k<=16)(m:Bk s.1.blk):UInv L k (P8 s).1/\Bk (P8 s).1.blk/\NFix s (P8 s):=by
 have c:=AjV h;have ht:=(AaI s.1).2.2.2.2.1;unfold P8
 split
 ·next e=>
  obtain⟨d,f⟩:=AeV m e;generalize s.1.Hj.1=u at*;obtain⟨p,F,H⟩:=Abm d f;have t:∀y,Bk (u.I5.blk.set 0 (u.I5.blk.GI 0 y)):=fun y=>by
   have l:=SendM.Lf p.len (k:=0) (by omega) (u.I5.blk.GI 0 y);refine⟨p.set (by omega) (NU _ _ _),fun j q r=>?_,?_,fun _=>?_⟩
   ·rw[l,Aa (by omega)]
    show((u.blk.set 0 _).tat j).busy=false;rw[SendM.Lf d.ok.len (by omega),Aa (by omega)];exact d.idle j q r
   ·rw[l,Ab rfl];rfl
   ·rw[l,Ab rfl]
    show((u.blk.set 0 _).tat 0).data.size=20;rw[SendM.Lf d.ok.len (by omega),Ab rfl];exact d.len f
  have i:UInv L k u.I5:=⟨c.who,c.key,c.rough,c.ear,⟨c.ok.len,c.ok.gr,c.ok.op⟩,c.inn,c.nxt,c.sent,c.grN,c.tld⟩;have z:UInv L k (SS (u,s.2)).1/\NFix (u,s.2) (SS (u,s.2)):=by
   unfold SS
   split
   ·exact⟨i,rfl,rfl,rfl,rfl,rfl,rfl⟩
   ·obtain⟨a,b⟩:=Alm (s:=(u.I5,s.2)) i v u.ver (u.blk.tat 0).flag (u.blk.tat 0).data;exact⟨a,b.n,b.per,b.unit,b.tu⟩
  obtain⟨x,y⟩:=z;exact⟨⟨x.who,x.key,x.rough,x.ear,⟨x.ok.len,x.ok.gr,x.ok.op⟩,x.inn,x.nxt,x.sent,x.grN,x.tld⟩,t _,by rw[<-ht];exact y.n,y.per,y.unit,y.tu⟩
 ·next e=>exact⟨c,by rw[Al3 e];exact m,by show _+_=_+_;rw[ht],rfl,rfl,rfl,rfl,rfl⟩
def Afe (l:List Int):Prop:=∀x∈l,0<=x/\x<=16
theorem Abj(fits:Nat->Int)(E4:Nat):∀(f:Nat) (s:SlM),s.last<=16->Afe s.out->Afe (F8 fits E4 f s).out
 | 0,_,_,h=>h
 | f+1,s,hl,h=>by
  unfold F8
  split
  ·split
   ·exact h
   ·refine Abj fits E4 f (s.Ls fits) hl fun x a=>?_
    rcases BH.1 a with q | q
    ·exact h x q
    ·rw[AC]at q;omega
  ·exact h
theorem AkQ{q:Int}{fits:Nat->Int}{E4:Nat}{s:SlM}(c:s.Ok E4)(h:Afe s.out):Afe (Fu q fits E4 s).out:=by
 have b:=(MG c).2;have hg:(s.Fq.gain q (!s.opn)).last=s.Fq.last/\(s.Fq.gain q (!s.opn)).out=s.out:=by unfold SlM.gain;split<;>exact⟨rfl,rfl⟩
 unfold Fu
 split
 ·have a:=Abj fits E4 (E4+1) (s.Fq.gain q (!s.opn)) (by rw[hg.1];exact b) (by rw[hg.2];exact h);unfold SlM.IG
  split<;>exact a
 ·exact h
theorem Ame{t:TSt}(h:t.Ok)(l:List UsM):Afe (t.J7 1 l 4):=by
 unfold TSt.J7
 split
 ·next hb=>
  have b:=MW.1 hb;obtain⟨c, -, -⟩:=Abq (q:=1) (fits:=byF UsM.fit l) (E4:=4) (by omega) (fun s=>Afe s.out) (fun s b _ hi _ _=>AkQ b hi) _ (t.s0 l) (Ac _) (h.s0 b.2 4) (Anc b.2 (Only.SF l)) (fun x a=>by cases a);intro x a;unfold MJ at a
  rcases BH.1 a with q | q
  ·exact c x q
  ·rw[(List.mem_replicate.1 q).2];omega
 ·intro x a
  cases a
def UsrM.SJ(u:UsrM):Bool:=(u.blk.tat 0).busy || decide (0<u.snd.wait)
def Afb (m:NtM)(k:Nat):List UsM:=match m.us k with
 | some u=>if u.SJ then [⟨k,1,1⟩] else []
 | none=>[]
def waitTo(m:NtM)(j:Nat):List UsM:=(List.range j).flatMap (Afb m)
theorem SI(m:NtM)(j:Nat):waitTo m (j+1)=waitTo m j++Afb m j:=by
 unfold waitTo;rw[Az,Bd,D6]
theorem waitTo_len(m:NtM):∀j,(waitTo m j).length<=j
 | 0=>Ac _
 | j+1=>by
  rw[SI,Ai];have a:=waitTo_len m j;have b:(Afb m j).length<=1:=by
   unfold Afb
   split
   ·split<;>simp
   ·simp
  omega
def NetM.tst(t:NetM):TSt:=⟨t.last,t.opn,t.cr⟩
def NetM.Abp(t:NetM)(l:List UsM):NetM:={t with last:=(t.tst.next 1 l 4).last,opn:=(t.tst.next 1 l 4).opn,cr:=(t.tst.next 1 l 4).cr}
def AmD (m:NtM)(k:Nat):NtM:=match m.us k with
 | some u=>m.put k (P8 (u,m.t))
 | none=>m
def useL (m:NtM)(l:List Int):NtM:=l.foldl (fun m x=>AmD m x.toNat) m
def Al7 (m:NtM)(k:Nat):NtM:=match m.us k with
 | some u=>if u.air.lost then m else m.put k ({u with snd:=(u.snd.take u.rcv.Fx).m},m.t)
 | none=>m
def repTo(m:NtM)(j:Nat):NtM:=(List.range j).foldl Al7 m
def AbD (m:NtM):NtM:=repTo (useL ⟨m.us,m.t.Abp (waitTo m 17)⟩ (m.t.tst.J7 1 (waitTo m 17) 4)) 17
theorem Ah0(m:NtM)(l:List Int)(j:Nat)(h:j<l.length):useL m (l.take (j+1))=AmD (useL m (l.take j)) (l.getD j 0).toNat:=by
 unfold useL;rw[Br,Ap h,Cf,Au,Ap h];rfl
theorem Uu(m:NtM)(j:Nat):repTo m (j+1)=Al7 (repTo m j) j:=by
 unfold repTo;rw[Az,Cf];rfl
def LJ (m:NtM)(k:Nat):Nat:=match m.us k with
 | some u=>u.told.length
 | none=>0
def LM (m:NtM):Nat->Nat
 | 0=>0
 | j+1=>LM m j+LJ m j
theorem WO(m:NtM){k:Nat}{u:UsrM}(a:m.us k=B u)(s:UsrM×NetM):∀j,LM (m.put k s) j+(if k<j then u.told.length else 0)=LM m j+if k<j then s.1.told.length else 0
 | 0=>by simp[LM]
 | j+1=>by
  have b:=WO m a s j
  show LM (m.put k s) j+LJ (m.put k s) j+_=LM m j+LJ m j+_
  by_cases e:j=k
  ·subst e;have e1:LJ (m.put j s) j=s.1.told.length:=by unfold LJ NtM.put;simp only[I0]
   have e2:LJ m j=u.told.length:=by unfold LJ;rw[a]
   grind
  ·have e1:LJ (m.put k s) j=LJ m j:=by unfold LJ NtM.put;simp only[Hx _ _ e]
   grind
structure NInv(L:Nat)(m:NtM):Prop where
 us:∀k u,m.us k=B u->(1<=k/\k<=16)/\UInv L k u/\Bk u.blk
 per:∀k:Nat,m.t.co.per (k:Int)=C↔m.us k=C
 st:∀k pr,m.t.co.per k=B pr->pr.st=1
 unit:m.t.co.unit=100
 n:m.t.n<=4*L+LM m 17
 tu:m.t.tst.Ok
theorem UInv.mono{a:Nat}{u:UsrM}(h:UInv L k u)(b:L<=a):UInv a k u:=⟨h.who,by have:=h.key;omega,h.rough,h.ear,h.ok,h.inn,by have:=h.nxt;omega,by have:=h.sent;omega,by have:=h.grN;omega,h.tld⟩
theorem NInv.mono{L b:Nat}{m:NtM}(h:NInv L m)(c:L<=b):NInv b m:=⟨fun k u a=>⟨(h.us k u a).1,(h.us k u a).2.1.mono c,(h.us k u a).2.2⟩,h.per,h.st,h.unit,by have:=h.n;omega,h.tu⟩
theorem NInv.put{L b k:Nat}{m:NtM}{u:UsrM}{s:UsrM×NetM}(h:NInv L m)(i:L<=b)(c:m.us k=B u)(hi:UInv b k s.1)(r:Bk s.1.blk)(y:s.2.n+u.told.length<=m.t.n+4*(b-L)+s.1.told.length)(l:∀j,s.2.co.per j=C↔m.t.co.per j=C)(p:∀j pr,s.2.co.per j=B pr->pr.st=1)(f:s.2.co.unit=m.t.co.unit)(ht:s.2.tst=m.t.tst):NInv b (m.put k s):=by
 have v:=(h.us k u c).1;refine⟨fun j x a=>?_,fun j=>?_,p,f.trans h.unit,?_,?_⟩
 ·unfold NtM.put at a;dsimp only at a
  by_cases e:j=k
  ·subst e;rw[I0]at a
   grind
  ·rw[Hx _ _ e]at a;exact(h.mono i).us j x a
 ·show s.2.co.per j=C↔P7 m.us k (B s.1) j=C;rw[l]
  by_cases e:j=k
  ·subst e;rw[I0,h.per,c];simp
  ·rw[Hx _ _ e];exact h.per j
 ·have d:=WO m c s 17;rw[Ab (by omega),Ab (by omega)]at d;have q:=h.n
  show s.2.n<=_;omega
 ·show s.2.tst.Ok;rw[ht];exact h.tu
theorem NInv.use{m:NtM}(h:NInv L m):NInv L (AmD m k):=by
 unfold AmD
 split
 ·next u hu=>
  obtain⟨e,hi,d⟩:=h.us k u hu;obtain⟨a,b,c⟩:=AmE (s:=(u,m.t)) hi e.2 d;refine h.put (Ac _) hu a b ?_ (fun j=>by rw[c.per]) (fun j pr=>by rw[c.per];exact h.st j pr) c.unit ?_
  ·have:=c.n;dsimp only at this;omega
  ·unfold NetM.tst;rw[c.tu.1,c.tu.2.1,c.tu.2.2]
 ·exact h
theorem NInv.useL{L:Nat}:∀(l:List Int) {m:NtM},NInv L m->NInv L (useL m l)
 | [],_,h=>h
 | _::l,_,h=>NInv.useL l h.use
theorem NInv.Abp{m:NtM}(h:NInv L m)(l:List UsM):NInv L ⟨m.us,m.t.Abp l⟩:=⟨h.us,h.per,h.st,h.unit,h.n,h.tu.next (by omega) l 4⟩
theorem NInv.rep{m:NtM}(h:NInv L m):NInv L (Al7 m k):=by
 unfold Al7
 split
 ·next u hu=>
  obtain⟨b,hi,a⟩:=h.us k u hu
  split
  ·exact h
  ·exact h.put (Ac _) hu ⟨hi.who,hi.key,hi.rough,hi.ear,⟨hi.ok.len,hi.ok.gr,hi.ok.op⟩,hi.inn,hi.nxt,hi.sent,hi.grN,hi.tld⟩ a (by grind) (fun j=>CI) h.st rfl rfl
 ·exact h
theorem NInv.repTo{L:Nat}{m:NtM}(h:NInv L m):∀j,NInv L (repTo m j)
 | 0=>h
 | j+1=>by rw[Uu];exact(h.repTo j).rep
theorem NInv.Apu{m:NtM}(h:NInv L m):NInv L (AbD m):=((h.Abp _).useL _).repTo 17
theorem NInv.Mw{m:NtM}{u:UsrM}(h:NInv L m)(f:m.us k=B u)(d:ByteArray)(q:m.t.co.loans.length<=1000000000000):NInv (L+1) (m.put k (KH (u,m.t) d).1):=by
 obtain⟨r,hi,i⟩:=h.us k u f;have a:=hi.mono (Bx L);have b:(m.t.co.Ka (u.who:Int)).per=m.t.co.per/\(m.t.co.Ka (u.who:Int)).unit=m.t.co.unit:=by unfold CoM.Ka;split<;>exact⟨rfl,rfl⟩
 unfold KH;dsimp only
 split
 ·exact h.put (Bx _) f a i (by dsimp only;omega) (fun j=>CI) h.st rfl rfl
 ·split
  ·split
   ·have hg:m.t.co.Lu (u.who:Int)<=1000000000001:=by unfold CoM.Lu;split<;>omega
    refine h.put (Bx _) f ⟨a.who,a.key,a.rough,a.ear,⟨a.ok.len,fun j v c=>?_,a.ok.op⟩,a.inn,?_,?_,?_,a.tld⟩ i ?_ (fun j=>by show(m.t.co.Ka _).per j=C↔_;rw[b.1]) (fun j pr=>by show(m.t.co.Ka _).per j=B pr->_;rw[b.1];exact h.st j pr) b.2 rfl
    ·by_cases e:j=(u.sent:Int)
     ·subst e;change J8 u.gr _ _ _=_ at c;rw[Ih]at c;obtain rfl:=AX c;exact⟨_,rfl,by unfold Gb;omega⟩
     ·change J8 u.gr _ _ _=_ at c;rw[Hw _ _ e]at c;exact hi.ok.gr j v c
    ·show u.sl.beg+(u.sl.wait++[d]).length<=_;have:=hi.nxt;unfold SdM.nxt at this;simp;omega
    ·show u.sent+1<=_;have:=hi.sent;omega
    ·show(if _ then u.grN else u.grN+1)<=_;have:=hi.grN
     grind
    ·show m.t.n+1+_<=_+u.told.length;omega
   ·obtain⟨l,p⟩:=Uv (m.t.co.Ka (u.who:Int)) (m.t.co.Lu (u.who:Int):Nat) 1 0 true;refine h.put (Bx _) f a i ?_ (fun j=>by show((m.t.co.Ka (u.who:Int)).Fx (m.t.co.Lu (u.who:Int):Nat) 1 0 true).m.per j=C↔_;rw[l,b.1]) (fun j pr=>by show((m.t.co.Ka (u.who:Int)).Fx (m.t.co.Lu (u.who:Int):Nat) 1 0 true).m.per j=B pr->_;rw[l,b.1];exact h.st j pr) (p.trans b.2) rfl
    show m.t.n+1+1+_<=_+u.told.length;omega
  ·refine h.put (Bx _) f a i ?_ (fun j=>by show(m.t.co.Ka _).per j=C↔_;rw[b.1]) (fun j pr=>by show(m.t.co.Ka _).per j=B pr->_;rw[b.1];exact h.st j pr) b.2 rfl
   show m.t.n+1+_<=_+u.told.length;omega
theorem Aad(L k:Nat)(i:1<=k/\k<=16):UInv L k (UsrM.new k)/\Bk (UsrM.new k).blk:=by
 have b:Bk (SendM.new 4):=by
  have e:∀j,(SendM.new 4).tat j=TryM.zero:=fun j=>by
   simp only[SendM.tat,SendM.new,List.getD,DA]
   split<;>rfl
  exact⟨SendM.XX (by omega) (by omega),fun j _ _=>by rw[e];rfl,by rw[e];rfl,fun h=>by rw[e]at h;cases h⟩
 refine⟨⟨rfl,?_,?_,fun x a=>(by cases a),⟨rfl,fun j v f=>(by cases f),fun j x a=>(by cases a)⟩,fun j n c=>(by cases c),Af _,Af _,Af _,fun d hd=>(by cases hd)⟩,b⟩
 ·show 1000*k+1<=_;omega
 ·exact Af _
theorem AiG(u:UsrM):u.Tp.nxt=u.sl.nxt:=by grind [UsrM.Tp,SdM.cf,SdM.Kv,SdM.nxt,SdM.Mp]
theorem Ajq{u:UsrM}(h:UInv L k u):UInv (L+1) k u.move/\Bk u.move.blk:=by
 have a:=h.mono (Bx L);refine⟨⟨h.who,?_,h.rough,fun x c=>(by cases c),⟨h.ok.len,h.ok.gr,h.ok.op⟩,fun j n b=>(by cases b),?_,a.sent,a.grN,a.tld⟩,(Aad L 1 (by omega)).2⟩
 ·show u.key+7<=_;have:=h.key;omega
 ·show u.Tp.nxt<=_;rw[AiG];exact a.nxt
theorem Zk{m:CoM}{k:Int}{t:PrM->Bool}{cs:List Int}{f:PrM->PrM}(c:∀p,p.st=1->(f p).st=1)(a:∀j pr,m.per j=B pr->pr.st=1):(∀j,(m.move k t cs f).m.per j=C↔m.per j=C)/\(∀j pr,(m.move k t cs f).m.per j=B pr->pr.st=1)/\(m.move k t cs f).m.unit=m.unit:=by
 unfold CoM.move
 split
 ·exact⟨fun j=>CI,a,rfl⟩
 ·next p hp=>
  split
  ·split
   ·refine⟨fun j=>?_,fun j pr b=>?_,rfl⟩
    ·rw[CoM.Nq]
     grind
    ·rw[CoM.Nq]at b
     grind
   ·exact⟨fun j=>CI,a,rfl⟩
  ·exact⟨fun j=>CI,a,rfl⟩
theorem NInv.hand{m:NtM}{u:UsrM}(h:NInv L m)(a:m.us k=B u)(c:Int)(pr:PrM):NInv (L+1) (m.put k (Mc (u,m.t) c pr).1):=by
 obtain⟨q,hi,j⟩:=h.us k u a;obtain⟨b,d,e⟩:=Zk (k:=(u.who:Int)) (t:=tAt (pr.cell:Int)) (cs:=[(pr.cell:Int),c]) (f:=fun p=>⟨p.quota,p.st,c.toNat⟩) (fun p l=>l) h.st;obtain⟨b1,i⟩:=Ajq hi;unfold Mc
 split
 ·exact h.put (Bx _) a b1 i (by show m.t.n+_<=_+u.told.length;omega) b d e rfl
 ·exact h.put (Bx _) a (hi.mono (Bx _)) j (by show m.t.n+_<=_+u.told.length;omega) b d e rfl
theorem QC{m:CoM}{k x:Int}(h:(m.join k x).err=0):(1<=k/\k<=16)/\m.per k=C/\((m.join k x).m.FV k 1).err=0/\((m.join k x).m.FV k 1).m.unit=m.unit/\∀j,((m.join k x).m.FV k 1).m.per j=if j=k then B ⟨x.toNat,1,1⟩ else m.per j:=by
 have a:m.Kx k x=0:=by
  unfold CoM.join at h
  grind
 have c:m.join k x=⟨m.put k ⟨x.toNat,0,0⟩,0⟩:=Ab a;have d:(m.put k ⟨x.toNat,0,0⟩).per k=B ⟨x.toNat,0,0⟩:=Ab rfl;have b:((m.join k x).m.FV k 1)=⟨(m.put k ⟨x.toNat,0,0⟩).put k ⟨x.toNat,1,1⟩,0⟩:=by
  rw[c];unfold CoM.FV CoM.move;dsimp only;rw[d];rfl
 unfold CoM.Kx at a
 split at a
 ·next hb=>
  split at a
  ·next hn=>
   refine⟨⟨hb.1,hb.2.1⟩,hn,by rw[b],by rw[b];rfl,fun j=>?_⟩;rw[b]
   show(CoM.put _ k _).per j=_;rw[CoM.Nq,CoM.Nq]
   split<;>rfl
  ·cases a
 ·cases a
def jnM (m:NtM)(k:Nat)(x:Int):NtM×Int:=if (m.t.co.join (k:Int) x).err=0 then (⟨P7 m.us k (B (UsrM.new k)),m.t.with ((m.t.co.join (k:Int) x).m.FV (k:Int) 1).m (m.t.n+1)⟩,0) else (⟨m.us,m.t.with (m.t.co.join (k:Int) x).m (m.t.n+1)⟩,(m.t.co.join (k:Int) x).err)
theorem AhQ{m:NtM}(b:m.us k=C)(t:NetM):∀j,LM ⟨P7 m.us k (B (UsrM.new k)),t⟩ j=LM m j:=by intro a;induction a<;>grind [LM,P7,UsrM.new,LJ]
theorem AkE(m:NtM)(t:NetM):∀j,LM ⟨m.us,t⟩ j=LM m j:=by intro a;induction a<;>grind [LM,LJ]
theorem NInv.join{L k:Nat}{m:NtM}(h:NInv L m)(x:Int):NInv (L+1) (jnM m k x).1:=by
 have f:=h.mono (Bx L);unfold jnM
 split
 ·next e=>
  obtain⟨r,q, -,p,l⟩:=QC e;have b:1<=k/\k<=16:=by omega
  have i:=(h.per k).1 q;refine⟨fun j u c=>?_,fun j=>?_,fun j pr d=>?_,p.trans h.unit,?_,f.tu⟩
  ·dsimp only at c
   by_cases a:j=k
   ·subst a;rw[I0]at c;obtain rfl:=AX c;exact⟨b,Aad _ _ b⟩
   ·rw[Hx _ _ a]at c;exact f.us j u c
  ·show(CoM.FV _ _ _).m.per _=C↔P7 _ _ _ j=C;rw[l]
   by_cases a:j=k
   ·subst a;rw[Ab rfl,I0];simp
   ·rw[Aa (by omega),Hx _ _ a];exact h.per j
  ·change (CoM.FV _ _ _).m.per _=_ at d;rw[l]at d
   split at d
   ·grind
   ·exact h.st j pr d
  ·rw[AhQ i]
   show m.t.n+1<=_;have:=h.n;omega
 ·next e=>
  have a:(m.t.co.join (k:Int) x).m=m.t.co:=by
   unfold CoM.join at e ⊢
   grind
  rw[a];refine⟨f.us,h.per,h.st,h.unit,?_,f.tu⟩;rw[AkE]
  show m.t.n+1<=_;have:=h.n;omega
theorem NtAt.cells{p:NtP}{m:NtM}(h:NtAt w0 S w E p m):w.rangeAt p.q.b 2 p.q.us:=fun j v a=>by
 rw[(h.net.box (j:=0) rfl).cell (2+j),show 2+j=j+1+1 by omega];exact a
theorem NtAt.ext{p:NtP}{m:NtM}(h:NtAt w0 S w E p m)(hg:102<g)(a:Hg w0 S w' (setG (Hn E p m) g O)):NtAt w0 S w' (setG E g O) p m:=by
 rw[T6 E p m (by omega)]at a;exact⟨a,h.us,by rw[Fo E (by omega)];exact h.e1,by rw[Fo E (by omega)];exact h.e2,by rw[Fo E (by omega)];exact h.e3⟩
theorem NtAt.AbY{p:NtP}{m:NtM}(h:NtAt w0 S w (setG E g O) p m)(hg:102<g):Hg w0 S w (setG (Hn E p m) g O):=by
 rw[T6 E p m (by omega)];exact h.hg
theorem NtAt.AoV{p:NtP}{m:NtM}{O':Nat->Option Cm}(h:NtAt w0 S w (setG E g O) p m)(hg:102<g)(d:Hg w0 S w' (setG (Hn E p m) g O')):NtAt w0 S w' (setG E g O') p m:=by
 have a:=h.e1;have b:=h.e2;have c:=h.e3;rw[Fo E (by omega)]at a b c;rw[T6 E p m (by omega)]at d;exact⟨d,h.us,by rw[Fo E (by omega)];exact a,by rw[Fo E (by omega)];exact b,by rw[Fo E (by omega)];exact c⟩
theorem Acf(a b:List UsM):Jp (a++b)=Jp a++Jp b:=by unfold Jp;rw[Bd]
theorem Ae0(us:List Value)(j:Nat)(v:Value)(a:j<17)(b:us[j]?=B v)(w:World):(Instr.index 45 (.agg us.toArray) (.int .i64 (j:Int))).run prog w=.ok v w:=Mv w 45 44 us.toArray 17 j v _ underlying45 underlying44 rfl (by kernel_rfl) a (by simpa using b) .i64
theorem AgL{p:NtP}{m:NtM}(h:NtAt w0 S w E p m)(hE:E 103=fun _=>C)(hi:∀k u,m.us k=B u->(1<=k/\k<=16)/\u.who=k/\Bk u.blk):Calls prog 30 #[Fa p.q.b] w fun e w'=>∃a c,e=.returned (.slice a (waitTo m 17).length c)/\NtAt w0 S w' (setG E 103 (Jt (Ju 117 3 (.slice a (waitTo m 17).length c) (waitTo m 17).length (Jp (waitTo m 17))))) p m:=by
 have ae:=h.cells;have af:p.q.us.length=17:=by rw[h.us];simp
 have ao:∀j:Nat,j<17->p.q.us[j]?=B (D (MP p m j)):=fun j hj=>h.at hj
 have h0:NtAt w0 S w (setG E 103 (Jt (Ju 117 3 (.slice C 0 0) 0 []))) p m:=by
  refine h.ext (by omega) ?_;have h1:Hg w0 S w (setG (Hn E p m) 103 fun _=>C):=by
   rw[<-hE,show E 103=Hn E p m 103 from rfl,Ig];exact h.hg
  exact h1.new 0 (Kept.refl _ w) (d:=Ju 117 3 (.slice C 0 0) 0 []) (L:=[]) ⟨rfl,0,Bj _ _ _ _⟩ (by simp)
 have H0:=hid h0;have HU:=hid ao;obtain⟨us, ag⟩ := E7 p.q.us;rw[<-ag]at ae af HU;unfold Fa;clear h h0 ao ag hE;go_enter func30,ntmps30
 go_wp2_with(first | (refine wpList_load_mid rfl 45 (.tmp 8) rfl p.q.b 2 rfl us _ ae underlying45 rfl (by rw[af];kernel_rfl) ?_))
 go_loopw [3,10] (fun v i wr=>∃j:Nat,j<=17/\i=.int .i64 (j:Int)/\∃a c,v=.slice a (waitTo m j).length c/\Hid (NtAt w0 S wr (setG E 103 (Jt (Ju 117 3 v (waitTo m j).length (Jp (waitTo m j))))) p m)) (fun _ i _=>17-(intOf i).toNat)
 case atStart=>exact⟨0,Af _,rfl,C,0,rfl,H0.out⟩
 case round=>
  obtain⟨j,hj,rfl,a,c,rfl,T⟩:=hrel;clear H0
  by_cases al:j<17
  ·have aw:(j:Int)<17:=by omega
   have hx:us[j]?=B (D (MP p m j)):=HU.out j al;have ac:=fun wz=>Ae0 us j (D (MP p m j)) al hx wz
   have ak:=waitTo_len m j
   have HK:Hid (waitTo m (j+1)=waitTo m j++match m.us j with
    | some u=>if u.SJ then [⟨j,1,1⟩] else []
    | none=>[]):=SI m j
   clear hx ae af HU
   cases s:m.us j with
   | none=>
    rw[MQ s]at ac;rw[s]at HK;have f:Hid (waitTo m (j+1)=waitTo m j):=by rw[HK.out];exact AA _
    obtain⟨l, el⟩ := E7 (waitTo m j);rw[<-el]at T f ak ⊢;have HN:=hid (show l.length=l.length from rfl);clear HK el;generalize hn:l.length=n at*;have HN:=hid hn;clear hn
    go_wp2_with fail;refine⟨⟨j+1,by omega,by go_num,a,c,?_⟩,by simp[intOf];omega⟩;rw[f.out,HN.out];exact⟨rfl,T⟩
   | some u=>
    obtain⟨hk,ap,hB⟩:=hi j u s;rw[O5 s]at ac;rw[s]at HK;have f:Hid (waitTo m (j+1)=waitTo m j++if u.SJ then [⟨j,1,1⟩] else []):=HK.out;obtain⟨l, el⟩ := E7 (waitTo m j);rw[<-el]at T f ak ⊢;clear HK el;generalize hn:l.length=n at*;have HN:=hid hn;have HH:=hid s;clear hn hi s;go_upto_region 5 with fail
    go_cut [33] (fun v wx=>v=.bool u.SJ/\Hid (NtAt w0 S wx (setG E 103 (Jt (Ju 117 3 (.slice a n c) n (Jp l)))) p m))
    case first=>
     have y:=T.out.J5 HH.out hk;have c7:wr.cell? ⟨(p.P j).b,7,C⟩=B (D (B ⟨(p.P j).gb,0,C⟩)):=(y.box (j:=0) rfl).cell 7;obtain⟨F,bm, -,hP⟩:=y.get (j:=3) rfl;have HW:=hid (Pu hP);rw[hB.wait]at HW;have r:Hid (u.SJ=((u.blk.tat 0).busy || decide (0<u.snd.wait))):=rfl
     cases z:(u.blk.tat 0).busy with
     | true=>
      rw[z]at HW r;have t:=hid (show u.SJ=true from r.out);clear y hP z r
      go_wp2_with(go_at_call 57;refine HW.out.mono ?_;rintro e w1 ⟨qa,qc,rfl, -,ab⟩)
      go_meet;exact⟨by rw[t.out],T.out.below ab⟩
     | false=>
      rw[z]at HW r;have t:=hid (show u.SJ=decide (0<u.snd.wait)from r.out);obtain⟨ax, eN⟩ := E7 u.snd.wait;have an:=fun wz=>Ake (p.P j).ps u.snd wz
      rw[<-eN]at an t;clear y hP z r eN
      go_wp2_with(first
       | (go_at_call 57;refine HW.out.mono ?_;rintro e w1 ⟨qa,qc,rfl, -,ab⟩;have R:=hid (T.out.below ab);have c5:w1.cell? ⟨(p.P j).b,5,C⟩=B (D (B (p.P j).ps)):=((R.out.J5 HH.out hk).box (j:=0) rfl).cell 5)
       | (go_at_call 58;refine((R.out.J5 HH.out hk).act (j:=1) rfl (an w1)).mono ?_;rintro e w2 ⟨c',⟨rfl,rfl⟩,h2⟩;rw[Kr rfl,Rw HH.out hk]at h2;have H2:=hid h2;clear h2))
      go_meet;exact⟨by rw[t.out],{R.out with hg:=H2.out}⟩
    case rest=>
     obtain⟨rfl,R⟩:=hcut;clear T ac
     cases H:u.SJ with
     | false=>
      rw[H]at f;have aa:Hid (waitTo m (j+1)=l):=by rw[f.out];exact AA _
      clear f H
      go_wp2_with fail;refine⟨⟨j+1,by omega,by go_num,a,c,?_⟩,by simp[intOf];omega⟩;rw[aa.out,HN.out];exact⟨rfl,R⟩
     | true=>
      rw[H]at f;have aa:Hid (waitTo m (j+1)=l++[⟨j,1,1⟩]):=f.out;have c0:wc.cell? ⟨(p.P j).b,0,C⟩=B (.int .i64 (j:Int)):=by
       have:=((R.out.J5 HH.out hk).box (j:=0) rfl).cell 0;rw[this,<-ap];rfl
      have h2:=(R.out.AbY (by omega)).below ((Ad _ wc).alloc (Ac _) (.cells #[.int .i64 (j:Int),.int .i64 1,.int .i64 1] 117));obtain⟨B1,aq,am⟩:=h2.lst (j:=0) rfl;have ah:=Fc wc 117 [.int .i64 (j:Int),.int .i64 1,.int .i64 1];have H2:=hid h2;obtain⟨i0,hi,ar,au,av⟩:=As Tryz.Anq;clear f H h2
      go_wp2_with(at_builtin;refine I3 (W:=wc.alloc (.cells #[.int .i64 (j:Int),.int .i64 1,.int .i64 1] 117)) B1 wc.heap.size underlying77 hi ar au av rfl (by omega) am rfl _ _ rfl rfl rfl (news:=[.int .i64 (j:Int),.int .i64 1,.int .i64 1]) rfl ?_ ?_ ?_ ?_ aq ?_)
      ·exact fun k u hk=>(ah.cell k).trans hk
      ·intro u s;simp only[Ar,Bt,BF]at s
       rcases s with rfl | rfl | rfl<;>rfl
      ·unfold maxLen;omega
      ·omega
      intro v' w4 ad aj ai;have h5:=H2.out.AnK (j:=0) (v:=.slice a n c) rfl ad aj (by rw[Ax];exact ai);obtain⟨a2,c2,rfl, -⟩:=Fg ad;have H5:=hid h5;clear h5 ad aj ai am ah H2
      go_wp2_with fail;refine⟨⟨j+1,by omega,by go_num,a2,c2,?_⟩,by simp[intOf];omega⟩;rw[aa.out,Ai,HN.out,Acf];refine⟨rfl,?_⟩;exact R.out.AoV (by omega) (H5.out.conv fun i=>by rcases i with _ | i<;>rfl)
  ·obtain rfl:j=17:=by omega
   have aw:¬((17:Nat):Int)<17:=by omega
   generalize hl:waitTo m 17=l at*;generalize hn:l.length=n at*;have HL:=hid hl;have HN:=hid hn;clear hl hn
   go_wp2_with fail;go_ret;rw[HL.out,HN.out];exact⟨a,c,rfl,T.out⟩
theorem AjN{T:TypeId}{n:Nat}{v:Value}{xs:List Value}(h:w'.ownsRow w.heap.size T k v n xs):(Ju T k v n xs).P w' v.ownBlock.toList/\∀x∈v.ownBlock.toList,w.heap.size<=x:=⟨⟨rfl,_,h⟩,fun x a=>(AB h x (by simpa using a)).1⟩
theorem Ao2(r f c:Nat)(t:TSt)(l:List UsM)(a:Option Addr)(w:World)(ht:t.Ok)(n:Usr w a l)(i:l.length=f)(p:f<=maxLen):YJ 29 #[D (B ⟨r,0,C⟩),.slice a f c,.int .i64 4] w (tuC r t.last t.opn t.cr) fun e x d=>∃a' k,e=.returned (.tuple #[.slice a' (t.J7 1 l 4).length k,.int .i64 (S0 l 4)])/\x=tuC r (t.next 1 l 4).last (t.next 1 l 4).opn (t.next 1 l 4).cr/\d=Ju 3 1 (.slice a' (t.J7 1 l 4).length k) (t.J7 1 l 4).length ((t.J7 1 l 4).map (Value.int .i64)):=fun _ F _ ⟨e,h⟩=>by
 subst e;refine(Ag8 t l 4 1 f c r a w ht (by omega) n i p h).mono fun e w' ⟨v,s,j,u,y⟩=>?_
 obtain⟨a',k,rfl, -, -⟩:=OwnI.FC j;obtain⟨z,m⟩:=AjN j
 exact⟨_,_,⟨a',k,s,rfl,rfl⟩,y,[r],_,⟨rfl,u⟩,fun x b=> .inl b,z,fun x b=>⟨m x b,fun q=>by
  rw[AC]at q;have:=m x b;have:=FunAt.lt h
  omega⟩⟩
theorem NtAt.turn{p:NtP}{m:NtM}(h:NtAt w0 S w E p m){c0:Cm}(v:E 103=Jt c0){f:FuncId}{args:Array Value}{R:Ending->Cm->Cm->Prop}(H:YJ f args w (tuC p.q.r m.t.last m.t.opn m.t.cr) R):Calls prog f args w fun e w'=>∃c' d,R e c' d/\∀a:NetM,a.co=m.t.co->a.n=m.t.n->c'=tuC p.q.r a.last a.opn a.cr->NtAt w0 S w' (setG E 103 (Jt d)) p ⟨m.us,a⟩:=by
 refine(Hp.AbV h.hg (i:=(0,2)) (c:=tuC p.q.r m.t.last m.t.opn m.t.cr) rfl H (103,0)).mono ?_;rintro e w' ⟨c',d,y,b⟩;refine⟨c',d,y,fun a l s u=>⟨?_,h.us,by rw[Fo E (by omega)];exact h.e1,by rw[Fo E (by omega)];exact h.e2,by rw[Fo E (by omega)];exact h.e3⟩⟩;refine Hp.congr b fun⟨i,j⟩=>?_
 subst u;unfold FQ
 by_cases e1:i=103
 ·subst e1
  by_cases e2:j=0
  ·subst e2;rfl
  ·have n1:((103,j):Nat×Nat)≠(103,0):=fun q=>e2 (by simpa using q)
   have n2:((103,j):Nat×Nat)≠(0,2):=fun q=>by simp at q
   rw[Aa n1,Aa n2]
   show E 103 j=setG E 103 (Jt d) 103 j;rw[IW,v];unfold Jt;rw[Aa e2,Aa e2]
 ·have n1:((i,j):Nat×Nat)≠(103,0):=fun q=>e1 (by simpa using congrArg Prod.fst q)
  rw[Aa n1]
  by_cases e2:i=0
  ·subst e2
   rcases j with _ | _ | _ | j
   ·rfl
   ·show B (coC _ _ _)=B (coC _ _ _);rw[l,s]
   ·rfl
   ·rfl
  ·have n2:((i,j):Nat×Nat)≠(0,2):=fun q=>e2 (by simpa using congrArg Prod.fst q)
   rw[Aa n2];unfold Hn;dsimp only;rw[Aa e2,Aa e2]
   split
   ·rfl
   ·rw[Fo E e1]
structure SameB(p p':NtP):Prop where
 q:p'.q=p.q
 b:∀k,(p'.P k).b=(p.P k).b
theorem SameB.refl(p:NtP):SameB p p:=⟨rfl,fun _=>rfl⟩
theorem SameB.trans{a b c:NtP}(h:SameB a b)(k:SameB b c):SameB a c:=⟨k.q.trans h.q,fun i=>(k.b i).trans (h.b i)⟩
theorem SameB.put{p:NtP}{k:Nat}{x:UsrP}(h:x.b=(p.P k).b):SameB p (p.put k x):=⟨rfl,fun j=>by
 unfold NtP.put P7;dsimp only
 split
 ·next e=>rw[e,h]
 ·rfl⟩
theorem NtAt.few{w0 w:World}{S:List Nat}{E:Nat->Nat->Option Cm}{p:NtP}{m:NtM}{L:Nat}(h:NtAt w0 S w E p m)(hi:NInv L m):∀j,LM m j<=16777216*j
 | 0=>Ac _
 | j+1=>by
  have e:=h.few hi j;have f:LJ m j<=16777216:=by
   unfold LJ
   split
   ·next u hu=>
    obtain⟨b,c, -⟩:=hi.us j u hu;obtain⟨F,d, -,a⟩:=(h.J5 hu b).get (j:=8) rfl;rw[c.ok.len];exact a.ok.few
   ·exact Af _
  show LM m j+LJ m j<=_;omega
theorem NtAt.n{w0 w:World}{S:List Nat}{E:Nat->Nat->Option Cm}{p:NtP}{m:NtM}{L:Nat}(h:NtAt w0 S w E p m)(hi:NInv L m)(a:L<=100000000):m.t.n<=900000000:=by
 have:=h.few hi 17;have:=hi.n;omega
end Go.Proofs.YtbjgfoiikhbonahGreatDoor
