import Derived.Test.YtbjgfoiikhbonahGreatDoorD02
import Derived.BigRegion
import Derived.Deep.LoopGhost
set_option linter.unusedVariables false
set_option linter.unusedSimpArgs false
set_option maxRecDepth 100000
set_option maxHeartbeats 4000000
namespace Go.Proofs.YtbjgfoiikhbonahGreatDoor
open Go.ChangeShapes Go.WideShapes Go.ChangeAt Go.RowKit Go.Proofs.Tryz
open Value (int)
open IntKind (i64)
variable {E4 N a c g i j k last n ob r sb:Nat}{S S':List Nat}{T:TypeId}{b w w':World}{bw cr fits ft wf:Nat->Int}{f f':Nat->Value}{opn:Bool}{out:List Int}{q wt:Int}{v:Value}
def Fw (f:Nat->Int)(a:Nat)(x:Int):Nat->Int:=fun b=>if b=a then x else f b
theorem Hy(f:Nat->Int)(a:Nat)(x:Int):Fw f a x a=x:=Ab rfl
theorem Ja(f:Nat->Int){b:Nat}(x:Int)(h:b≠a):Fw f a x b=f b:=Aa h
structure SlM where
 last:Nat
 opn:Bool
 cr:Nat->Int
 bw:Nat->Int
 out:List Int
def SlM.Ls(fits:Nat->Int)(s:SlM):SlM:=⟨s.last,s.opn,Fw s.cr s.last (s.cr s.last-fits s.last),Fw s.bw s.last (max (s.bw s.last-fits s.last) 0),s.out++[(s.last:Int)]⟩
def F8 (fits:Nat->Int)(E4:Nat):Nat->SlM->SlM
 | 0,s=>s
 | f+1,s=>if 0<s.bw s.last/\fits s.last<=s.cr s.last then (if s.out.length=E4 then {s with opn:=true} else F8 fits E4 f (s.Ls fits)) else s
def FF (last:Nat):Nat:=if 16<last+1 then 1 else last+1
def SlM.Fq(s:SlM):SlM:=⟨if s.opn=true then s.last else FF s.last,false,s.cr,s.bw,s.out⟩
def SlM.gain(q:Int)(gains:Bool)(s:SlM):SlM:=if gains=true then {s with cr:=Fw s.cr s.last (s.cr s.last+q)} else s
def SlM.MN(s:SlM):SlM:={s with cr:=Fw s.cr s.last 0}
def SlM.IG(s:SlM):SlM:=if s.bw s.last=0 then s.MN else s
def Fu (q:Int)(fits:Nat->Int)(E4:Nat)(s:SlM):SlM:=if 0<s.Fq.bw s.Fq.last then (F8 fits E4 (E4+1) (s.Fq.gain q (!s.opn))).IG else s.Fq.MN
def Pc (bw:Nat->Int):Bool:=(List.range 16).any fun a=>decide (0<bw (a+1))
def GB (bw:Nat->Int):Nat:=(((List.range 16).find? fun a=>decide (0<bw (a+1))).getD 0)+1
theorem Zz(h:Pc bw=true):1<=GB bw/\GB bw<=16/\0<bw (GB bw):=by
 unfold Pc at h;unfold GB
 cases d:(List.range 16).find? fun a=>decide (0<bw (a+1))with
 | none=>
  grind
 | some a=>
  grind
def PB (last a:Nat):Nat:=if last<a then a-last else a+16-last
def SlM.mu(E4:Nat)(s:SlM):Nat:=(E4-s.out.length)*400000+(10000-s.cr (GB s.bw)).toNat*17+(if s.opn=true then 17 else PB s.last (GB s.bw))
structure SlM.Ok(E4:Nat)(s:SlM):Prop where
 last:s.last<=16
 opn:s.opn=true->1<=s.last
 cr:∀a,0<=s.cr a
 bw:∀a,0<=s.bw a
 out:s.out.length<=E4
structure FitOk(fits bw:Nat->Int):Prop where
 pos:∀a,0<bw a->1<=fits a/\fits a<=10000
theorem FitOk.Ac2{d:Nat->Int}(h:FitOk fits bw)(l:∀a,0<d a->0<bw a):FitOk fits d:=⟨fun a e=>h.pos a (l a e)⟩
theorem AeG{s:SlM}(h:s.Ok E4)(d:fits s.last<=s.cr s.last)(l:s.out.length<E4):(s.Ls fits).Ok E4:=by
 refine⟨h.last,h.opn,fun a=>?_,fun a=>?_,?_⟩
 ·show 0<=Fw s.cr s.last (s.cr s.last-fits s.last) a
  by_cases e:a=s.last
  ·rw[e,Hy];omega
  ·rw[Ja _ _ e];exact h.cr a
 ·show 0<=Fw s.bw s.last (max (s.bw s.last-fits s.last) 0) a
  by_cases e:a=s.last
  ·rw[e,Hy];omega
  ·rw[Ja _ _ e];exact h.bw a
 ·show(s.out++[(s.last:Int)]).length<=E4;simp;omega
theorem UJ(fits:Nat->Int)(E4:Nat):∀(f:Nat) (s:SlM),s.Ok E4->FitOk fits s.bw->(F8 fits E4 f s).last=s.last/\(F8 fits E4 f s).Ok (E4)\/s.last=0
 | 0,s,h,_=> .inl ⟨rfl,h⟩
 | f+1,s,h,hf=>by
  by_cases p:s.last=0
  ·exact .inr p
  ·left;unfold F8
   by_cases m:0<s.bw s.last/\fits s.last<=s.cr s.last
   ·rw[Ab m]
    by_cases t:s.out.length=E4
    ·rw[Ab t];exact⟨rfl,h.last,fun _=>by show 1<=s.last;omega,h.cr,h.bw,h.out⟩
    ·rw[Aa t];have x:=h.out;have o:FitOk fits (s.Ls fits).bw:=hf.Ac2 fun a u=>by
      have l:0<Fw s.bw s.last (max (s.bw s.last-fits s.last) 0) a:=u
      by_cases e:a=s.last
      ·rw[e];exact m.1
      ·rwa [Ja _ _ e]at l
     rcases UJ fits E4 f (s.Ls fits) (AeG h m.2 (by omega)) o with d | d
     ·exact d
     ·exact absurd d p
   grind
theorem Ww(fits:Nat->Int)(E4:Nat):∀(f:Nat) (s:SlM),s.out.length<=(F8 fits E4 f s).out.length
 | 0,s=>Ac _
 | f+1,s=>by
  unfold F8
  split
  ·split
   ·exact Ac _
   ·refine Ak ?_ (Ww fits E4 f (s.Ls fits))
    show s.out.length<=(s.out++[(s.last:Int)]).length;simp
  ·exact Ac _
theorem Nx{f:Nat}{s:SlM}(h:¬(0<s.bw s.last/\fits s.last<=s.cr s.last)):F8 fits E4 f s=s:=by
 cases f with
 | zero=>rfl
 | succ f=>unfold F8;rw[Aa h]
theorem UI{f:Nat}{s:SlM}(h:0<s.bw s.last/\fits s.last<=s.cr s.last)(d:s.out.length=E4):F8 fits E4 (f+1) s={s with opn:=true}:=by
 unfold F8;rw[Ab h,Ab d]
theorem P3{f:Nat}{s:SlM}(h:0<s.bw s.last/\fits s.last<=s.cr s.last)(d:s.out.length≠E4):F8 fits E4 (f+1) s=F8 fits E4 f (s.Ls fits):=by
 rw[F8,Ab h,Aa d]
theorem AdM{f:Nat}{s:SlM}(h:0<s.bw s.last/\fits s.last<=s.cr s.last)(d:s.out.length<E4):s.out.length+1<=(F8 fits E4 (f+1) s).out.length:=by
 rw[P3 h (by omega)];refine Ak ?_ (Ww fits E4 f (s.Ls fits))
 show s.out.length+1<=(s.out++[(s.last:Int)]).length;simp
theorem T8(h:last<=16):1<=FF last/\FF last<=16:=by unfold FF;split<;>omega
theorem MG{s:SlM}(h:s.Ok E4):1<=s.Fq.last/\s.Fq.last<=16:=by
 show 1<=(if s.opn=true then s.last else FF s.last)/\(if s.opn=true then s.last else FF s.last)<=16
 by_cases e:s.opn=true
 ·rw[Ab e];exact⟨h.opn e,h.last⟩
 ·rw[Aa e];exact T8 h.last
theorem SV{s:SlM}(h:s.Ok E4):s.Fq.Ok E4:=⟨(MG h).2,fun e=>(by cases e),h.cr,h.bw,h.out⟩
theorem Xz{s:SlM}(d:0<=q)(g:Bool)(h:s.Ok E4):(s.gain q g).Ok E4/\(s.gain q g).last=s.last/\(s.gain q g).bw=s.bw/\(s.gain q g).out=s.out/\(s.gain q g).opn=s.opn:=by
 unfold SlM.gain
 by_cases e:g=true
 ·rw[Ab e];refine⟨⟨h.last,h.opn,fun a=>?_,h.bw,h.out⟩,rfl,rfl,rfl,rfl⟩
  show 0<=Fw s.cr s.last (s.cr s.last+q) a;have:=h.cr s.last
  by_cases e:a=s.last
  ·rw[e,Hy];omega
  ·rw[Ja _ _ e];exact h.cr a
 grind
theorem AeR{s:SlM}(h:s.Ok E4):s.MN.Ok E4:=by
 refine⟨h.last,h.opn,fun a=>?_,h.bw,h.out⟩
 show 0<=Fw s.cr s.last 0 a
 by_cases e:a=s.last
 ·rw[e,Hy];omega
 ·rw[Ja _ _ e];exact h.cr a
theorem Ajf{s:SlM}(h:s.Ok E4):s.IG.Ok E4:=by
 unfold SlM.IG
 split
 ·exact AeR h
 ·exact h
theorem OF{s:SlM}(o:0<=q)(m:FitOk fits s.bw)(h:s.Ok E4):(Fu q fits E4 s).Ok E4:=by
 unfold Fu
 split
 ·obtain⟨d,e,l,_,_⟩:=Xz o (!s.opn) (SV h);refine Ajf ?_
  rcases UJ fits E4 (E4+1) _ d (by rw[l];exact m)with h4 | h4
  ·exact h4.2
  ·rw[e]at h4;have:=(MG h).1;omega
 ·exact AeR (SV h)
theorem Af3(bw:Nat->Int):1<=GB bw/\GB bw<=16:=by
 unfold GB
 cases d:(List.range 16).find? fun a=>decide (0<bw (a+1))with
 | none=>simp
 | some a=>
  grind
theorem AoJ{s:SlM}(h:s.Ok E4):s.mu E4<=(E4-s.out.length)*400000+170032:=by
 unfold SlM.mu;have d:=h.cr (GB s.bw)
 grind [Af3,GB,PB]
theorem AkT(h:last<=16)(e:1<=a/\a<=16)(d:FF last≠a):PB (FF last) a+1=PB last a:=by grind [FF,PB]
theorem Apf(e:last<=16)(d:1<=a/\a<=16):1<=PB last a:=by unfold PB;split<;>omega
theorem WT(e:1<=last)(d:1<=a/\a<=16):PB last a<=16:=by unfold PB;split<;>omega
theorem Rf{s:SlM}(Y:1<=q)(L:FitOk fits s.bw)(h:s.Ok E4)(U:s.out.length<E4)(V:Pc s.bw=true):(Fu q fits E4 s).mu E4<s.mu E4:=by
 obtain⟨z,H,I⟩:=Zz V;obtain⟨c1,c2⟩:=MG h;have G:=OF (E4:=E4) (by omega:0<=q) L h;have other:∀m:SlM,m.last=s.Fq.last->m.opn=false->m.bw=s.bw->m.out=s.out->s.Fq.last≠GB s.bw->m.cr (GB s.bw)=s.cr (GB s.bw)->m.mu E4<s.mu E4:=by
  intro m e1 e2 e3 A o Q;unfold SlM.mu;rw[e1,e2,e3,A,Q,Aa (by decide)]
  by_cases d:s.opn=true
  ·grind [WT,GB]
  ·rw[Aa d];have R:s.Fq.last=FF s.last:=Aa d;rw[R]at o |-;have:=AkT h.last ⟨z,H⟩ o;omega
 by_cases B:0<s.Fq.bw s.Fq.last
 ·have p:Fu q fits E4 s=(F8 fits E4 (E4+1) (s.Fq.gain q (!s.opn))).IG:=Ab B;obtain⟨g1,g2,u,x,K⟩:=Xz (E4:=E4) (by omega:0<=q) (!s.opn) (SV h)
  by_cases y:0<(s.Fq.gain q (!s.opn)).bw (s.Fq.gain q (!s.opn)).last/\fits (s.Fq.gain q (!s.opn)).last<=(s.Fq.gain q (!s.opn)).cr (s.Fq.gain q (!s.opn)).last
  ·have O:=AdM (f:=E4) y (by rw[x];exact U);have D:∀t:SlM,t.IG.out=t.out:=fun t=>by unfold SlM.IG;split<;>rfl
   have W:=AoJ G;have X:s.out.length+1<=(Fu q fits E4 s).out.length:=by
    rw[p,D];rw[x]at O;exact O
   grind [SlM.mu]
  ·rw[Nx y]at p;have C:¬(s.Fq.gain q (!s.opn)).bw (s.Fq.gain q (!s.opn)).last=0:=by
    rw[g2,u];omega
   have F:Fu q fits E4 s=s.Fq.gain q (!s.opn):=by
    rw[p];unfold SlM.IG;rw[Aa C]
   rw[F]
   by_cases l:s.Fq.last=GB s.bw
   ·have M:=L.pos (GB s.bw) I;rw[g2,u]at y;unfold SlM.mu;rw[g2,u,x,K];have J:s.Fq.bw=s.bw:=rfl;have e1:s.Fq.out=s.out:=rfl;have e2:s.Fq.opn=false:=rfl;rw[J,e1,e2,Aa (by decide)];rw[l,J]at y;rw[l];have P:=WT (last:=GB s.bw) (a:=GB s.bw) z ⟨z,H⟩
    by_cases d:s.opn=true
    ·have e3:s.Fq.gain q (!s.opn)=s.Fq:=by unfold SlM.gain;rw[d];rfl
     rw[e3,Ab d];have A:s.Fq.cr=s.cr:=rfl;rw[A];omega
    ·have E:s.opn=false:=by simpa using d
     have e3:(s.Fq.gain q (!s.opn)).cr (GB s.bw)=s.cr (GB s.bw)+q:=by
      unfold SlM.gain;rw[E]
      show Fw s.Fq.cr s.Fq.last (s.Fq.cr s.Fq.last+q) (GB s.bw)=_;rw[<-l,Hy];rfl
     grind
   ·refine other _ g2 K (by rw[u];rfl) (by rw[x];rfl) l ?_;unfold SlM.gain
    split
    ·exact Ja _ _ (fun e=>l e.symm)
    ·rfl
 ·have p:Fu q fits E4 s=s.Fq.MN:=Aa B;have l:s.Fq.last≠GB s.bw:=fun e=>B (by rw[e];exact I)
  rw[p];refine other _ rfl rfl rfl rfl l ?_;exact Ja _ _ (fun e=>l e.symm)
def Q0 (q:Int)(fits:Nat->Int)(E4:Nat):Nat->SlM->SlM
 | 0,s=>s
 | f+1,s=>if s.out.length<E4/\Pc s.bw=true then Q0 q fits E4 f (Fu q fits E4 s) else s
theorem OT(s:SlM)(l:0<s.bw s.last):∀a,0<(s.Ls fits).bw a->0<s.bw a:=fun a h=>by
 have d:0<Fw s.bw s.last (max (s.bw s.last-fits s.last) 0) a:=h
 by_cases e:a=s.last
 ·rw[e];exact l
 ·rwa [Ja _ _ e]at d
theorem AdL(fits:Nat->Int)(E4:Nat):∀(f:Nat) (s:SlM) (a:Nat),0<(F8 fits E4 f s).bw a->0<s.bw a:=by intro a;induction a<;>grind [F8,OT]
theorem NA{s:SlM}(a:Nat)(h:0<(Fu q fits E4 s).bw a):0<s.bw a:=by
 unfold Fu at h
 split at h
 ·have e:∀t:SlM,t.IG.bw=t.bw:=fun t=>by unfold SlM.IG;split<;>rfl
  rw[e]at h;have d:=AdL fits E4 _ _ a h;have hg:(s.Fq.gain q (!s.opn)).bw=s.bw:=by unfold SlM.gain;split<;>rfl
  rwa [hg]at d
 ·exact h
theorem Akb(t:1<=q):∀(m:Nat) (s:SlM),s.mu E4<=m->s.Ok E4->FitOk fits s.bw->∀f f',s.mu E4<f->s.mu E4<f'->Q0 q fits E4 f s=Q0 q fits E4 f' s:=by
 intro m
 induction m using Nat.strongRecOn with
 | ind m ih=>
  intro s u h l f f' p o;obtain⟨g,rfl⟩:∃g,f=g+1:=⟨f-1,by omega⟩;obtain⟨e,rfl⟩:∃e,f'=e+1:=⟨f'-1,by omega⟩
  show(if s.out.length<E4/\Pc s.bw=true then _ else s)=(if s.out.length<E4/\Pc s.bw=true then _ else s)
  by_cases d:s.out.length<E4/\Pc s.bw=true
  ·rw[Ab d,Ab d];have hd:=Rf t l h d.1 d.2;exact ih _ (by omega) (Fu q fits E4 s) (Ac _) (OF (by omega) l h) (l.Ac2 NA) g e (by omega) (by omega)
  ·rw[Aa d,Aa d]
def J3 (q:Int)(fits:Nat->Int)(E4:Nat)(s:SlM):SlM:=Q0 q fits E4 (s.mu E4+1) s
theorem RH{s:SlM}(d:¬(s.out.length<E4/\Pc s.bw=true)):J3 q fits E4 s=s:=Aa d
theorem WC{s:SlM}(m:1<=q)(l:FitOk fits s.bw)(h:s.Ok E4)(d:s.out.length<E4/\Pc s.bw=true):J3 q fits E4 s=J3 q fits E4 (Fu q fits E4 s):=by
 have e:J3 q fits E4 s=Q0 q fits E4 (s.mu E4) (Fu q fits E4 s):=Ab d;rw[e];have hd:=Rf m l h d.1 d.2;exact Akb m _ (Fu q fits E4 s) (Ac _) (OF (by omega) l h) (l.Ac2 NA) _ _ hd (Nat.lt_succ_self _)
theorem Abq(l:1<=q)(I:SlM->Prop)(o:∀s,s.Ok E4->FitOk fits s.bw->I s->s.out.length<E4->Pc s.bw=true->I (Fu q fits E4 s)):
 ∀(m:Nat) (s:SlM),s.mu E4<=m->s.Ok E4->FitOk fits s.bw->I s->I (J3 q fits E4 s)/\(J3 q fits E4 s).Ok E4/\¬((J3 q fits E4 s).out.length<E4/\Pc (J3 q fits E4 s).bw=true):=by
 intro m
 induction m using Nat.strongRecOn with
 | ind m ih=>
  intro s p h e hi
  by_cases d:s.out.length<E4/\Pc s.bw=true
  ·rw[WC l e h d];have hd:=Rf l e h d.1 d.2;exact ih _ (by omega) (Fu q fits E4 s) (Ac _) (OF (by omega) e h) (e.Ac2 NA) (o s h e hi d.1 d.2)
  ·rw[RH d];exact⟨hi,h,d⟩
structure UsM where
 who:Int
 byt:Int
 fit:Int
def UsM.zero:UsM:=⟨0,0,0⟩
def Usr (w:World)(a:Option Addr)(l:List UsM):Prop:=l≠[]->∃b o,a=some ⟨b,o,none⟩/\∀i,i<l.length->w.cell? ⟨b,o+i*3,none⟩=some (int i64 (l.getD i .zero).who)/\w.cell? ⟨b,o+i*3+1,none⟩=some (int i64 (l.getD i .zero).byt)/\w.cell? ⟨b,o+i*3+2,none⟩=some (int i64 (l.getD i .zero).fit)
theorem Usr.at{w:World}{a:Option Addr}{l:List UsM}(h:Usr w a l){i:Nat}(hi:i<l.length):∃b o,a=some ⟨b,o,none⟩/\∀i,i<l.length->w.cell? ⟨b,o+i*3,none⟩=some (int i64 (l.getD i .zero).who)/\w.cell? ⟨b,o+i*3+1,none⟩=some (int i64 (l.getD i .zero).byt)/\w.cell? ⟨b,o+i*3+2,none⟩=some (int i64 (l.getD i .zero).fit):=h (by rintro rfl;simp at hi)
theorem Tg(d:Below w.heap.size w w'){a:Addr}(h:w.cell? a=some v):w'.cell? a=some v:=(d.cell (Aj w _ h)).trans h
theorem Usr.below{a:Option Addr}{l:List UsM}(h:Usr w a l)(d:Below w.heap.size w w'):Usr w' a l:=by grind [Usr,Tg]
def UsM.ok(before:Int)(u:UsM):Bool:=decide ((1<=u.who/\u.who<=16/\before<u.who)/\(0<=u.byt/\u.byt<=1000000)/\(1<=u.fit/\u.fit<=10000))
def YU (l:List UsM)(i:Nat):Int:=if i=0 then 0 else (l.getD (i-1) .zero).who
def Aag (l:List UsM)(k:Nat):Prop:=∀i,i<k->(l.getD i .zero).ok (YU l i)=true
def OkU (l:List UsM):Prop:=Aag l l.length
theorem OkU.at{l:List UsM}(h:OkU l)(hi:i<l.length):(1<=(l.getD i .zero).who/\(l.getD i .zero).who<=16)/\(0<=(l.getD i .zero).byt/\(l.getD i .zero).byt<=1000000)/\(1<=(l.getD i .zero).fit/\(l.getD i .zero).fit<=10000):=by
 have:=AQ (h i hi)
 grind
theorem OkU.Ama{l:List UsM}(h:OkU l):∀(d i:Nat),i+d+1<l.length->(l.getD i .zero).who<(l.getD (i+d+1) .zero).who
 | 0,i,hi=>by
  have:=AQ (h (i+1) hi);have e:=this.1.2.2;unfold YU at e
  grind
 | d+1,i,hi=>by
  have m:=OkU.Ama h d i (by omega);have:=AQ (h (i+d+1+1) (by omega));have e:=this.1.2.2;unfold YU at e
  grind
theorem OkU.inj{l:List UsM}(h:OkU l)(hi:i<l.length)(m:j<l.length)(e:(l.getD i .zero).who=(l.getD j .zero).who):i=j:=by
 rcases Ea i j with d | d | d
 ·have:=h.Ama (j-i-1) i (by omega)
  grind
 ·exact d
 ·have:=h.Ama (i-j-1) j (by omega)
  grind
def byF (f:UsM->Int)(l:List UsM)(a:Nat):Int:=match l.find? fun u=>u.who==(a:Int)with
 | some u=>f u
 | none=>0
theorem Ab6{f:UsM->Int}{l:List UsM}(h:OkU l)(hi:i<l.length):byF f l (l.getD i .zero).who.toNat=f (l.getD i .zero):=by
 have x:=(h.at hi).1;have s:((l.getD i .zero).who.toNat:Int)=(l.getD i .zero).who:=by omega
 unfold byF;rw[s];have d:∃u,l.find? (fun u=>u.who==(l.getD i .zero).who)=some u:=by
  rw[<-Option.isSome_iff_exists,List.find?_isSome]
  grind
 obtain⟨u,e⟩:=d;rw[e];have t:=List.find?_some e;obtain⟨j,p,rfl⟩:=A5 (List.mem_of_find?_eq_some e);have m:l.getD j .zero=l[j]:=by simp[List.getD,p]
 have o:l[j].who=(l.getD i .zero).who:=by simpa using t
 rw[<-m]at o;have:=h.inj p hi o;subst this;simp only;rw[m]
theorem Qo{f:UsM->Int}{l:List UsM}(h:∀i,i<l.length->(l.getD i .zero).who≠(a:Int)):byF f l a=0:=by
 unfold byF;have:l.find? (fun u=>u.who==(a:Int))=none:=by
  rw[EP];intro u d;obtain⟨j,e,rfl⟩:=A5 d
  grind
 rw[this]
def Only (l:List UsM)(bw:Nat->Int):Prop:=∀a:Nat,(∀i,i<l.length->(l.getD i .zero).who≠(a:Int))->bw a=0
theorem Only.SF(l:List UsM):Only l (byF UsM.byt l):=fun _ h=>Qo h
theorem Anc{l:List UsM}(h:OkU l)(o:Only l bw):FitOk (byF UsM.fit l) bw:=⟨fun a p=>by
 by_cases d:∃i,i<l.length/\(l.getD i .zero).who=(a:Int)
 ·obtain⟨i,hi,e⟩:=d;have m:=Ab6 (f:=UsM.fit) h hi;rw[e,AN]at m;rw[m];exact(h.at hi).2.2
 ·have:=o a fun i hi e=>d ⟨i,hi,e⟩
  omega⟩
theorem Tryz.Anq:(prog.info? 117).map (fun i=>(i.zero,i.size,i.bytes))=some (some (.agg #[int i64 0,int i64 0,int i64 0]),3,24):=by kernel_rfl
def UsM.cells(t:UsM):List Value:=[int i64 t.who,int i64 t.byt,int i64 t.fit]
def Jp (l:List UsM):List Value:=l.flatMap UsM.cells
theorem VQ:∀(l:List UsM) (i k:Nat),i<l.length->k<3->(Jp l)[i*3+k]?=(l.getD i .zero).cells[k]?
 | [],i,k,h,_=>by simp at h
 | x::l,0,k,_,hk=>by
  grind [Jp,UsM.cells]
 | x::l,i+1,k,h,hk=>by
  have e:Jp (x::l)=x.cells++Jp l:=rfl;have m:=VQ l i k (by simpa using h) hk;have d:x.cells.length=3:=rfl
  grind
def OwnU (w:World)(B:Nat)(v:Value)(l:List UsM):Prop:=w.ownsRow B 117 3 v l.length (Jp l)
theorem OwnU.at{B:Nat}{l:List UsM}(h:OwnU w B v l)(y:0<l.length):∃gb c,v=.slice (some ⟨gb,0,none⟩) l.length c/\B<=gb/\gb<w.heap.size/\∀i,i<l.length->
 (w.cell? ⟨gb,i*3,none⟩=some (int i64 (l.getD i .zero).who)/\w.cell? ⟨gb,i*3+1,none⟩=some (int i64 (l.getD i .zero).byt)/\w.cell? ⟨gb,i*3+2,none⟩=some (int i64 (l.getD i .zero).fit))/\w.frozen? ⟨gb,i*3+1,none⟩=false:=by
 rcases h.2 with⟨o,x⟩ | ⟨g,e,cur,o,p,hg,u,_,s,ht⟩
 ·omega
 ·refine⟨g,e,o,p,(Array.getElem?_eq_some_iff.1 hg).1,fun i hi=>?_⟩;have m:=fun k t=>VQ l i k hi t
  have d:∀j,j<l.length*3->cur[j]?=(Jp l)[j]?:=by grind
  refine⟨⟨?_,?_,?_⟩,Bz _ _ _ _ _ hg⟩
  ·rw[Al _ _ _ _ _ _ hg,d _ (by omega)];exact m 0 (by omega)
  ·rw[Al _ _ _ _ _ _ hg,d _ (by omega)];exact m 1 (by omega)
  ·rw[Al _ _ _ _ _ _ hg,d _ (by omega)];exact m 2 (by omega)
def MJ (out:List Int)(E4:Nat):List Int:=out++List.replicate (E4-out.length) 0
theorem Na(h:out.length<=E4):(MJ out E4).length=E4:=by unfold MJ;simp;omega
theorem AfY(h:out.length<E4)(x:Int):(MJ out E4).set out.length x=MJ (out++[x]) E4:=by
 unfold MJ;obtain⟨m,d⟩:∃m,E4-out.length=m+1:=⟨E4-out.length-1,by omega⟩
 grind
def CrB (s:SlM):Prop:=∀a,s.cr a<10000\/(s.opn=true/\a=s.last/\s.cr a<20000)
theorem CrB.le{s:SlM}(h:CrB s)(a:Nat):s.cr a<20000:=by rcases h a with h | h<;>omega
structure CrV(s:SlM):Prop where
 own:s.cr s.last<20000
 low:∀a,a≠s.last->s.cr a<10000
theorem CrV.MN{s:SlM}(h:∀a,a≠s.last->s.cr a<10000):CrB s.MN:=fun a=>by
 left
 show Fw s.cr s.last 0 a<10000
 by_cases e:a=s.last
 ·rw[e,Hy];omega
 ·rw[Ja _ _ e];exact h a e
theorem CrV.AmQ{fits:Nat->Int}{E4:Nat}:∀(f:Nat) (s:SlM),E4<f+s.out.length->s.out.length<=E4->(∀a,0<=s.bw a)->FitOk fits s.bw->CrV s->CrB (F8 fits E4 f s).IG
 | 0,s,hf,ho,_,_,_=>by omega
 | f+1,s,hf,ho,hb,hF,h=>by
  by_cases d:0<s.bw s.last/\fits s.last<=s.cr s.last
  ·by_cases l:s.out.length=E4
   ·rw[UI d l];unfold SlM.IG;have m:¬({s with opn:=true}:SlM).bw ({s with opn:=true}:SlM).last=0:=by show ¬s.bw s.last=0;omega
    rw[Aa m];intro a
    by_cases e:a=s.last
    ·exact .inr ⟨rfl,e,by rw[e];exact h.own⟩
    ·exact .inl (h.low a e)
   ·rw[P3 d l];have o:=hF.pos s.last d.1;refine CrV.AmQ f (s.Ls fits) ?_ ?_ ?_ (hF.Ac2 (OT s d.1)) ⟨?_,?_⟩
    ·show E4<f+(s.out++[(s.last:Int)]).length;simp;omega
    ·show(s.out++[(s.last:Int)]).length<=E4;simp;omega
    ·intro a
     show 0<=Fw s.bw s.last (max (s.bw s.last-fits s.last) 0) a
     by_cases e:a=s.last
     ·rw[e,Hy];omega
     ·rw[Ja _ _ e];exact hb a
    ·show Fw s.cr s.last (s.cr s.last-fits s.last) s.last<20000;rw[Hy];have:=h.own;omega
    ·intro a e
     show Fw s.cr s.last (s.cr s.last-fits s.last) a<10000;rw[Ja _ _ (show a≠s.last from e)];exact h.low a e
  ·rw[Nx d];unfold SlM.IG
   by_cases p:s.bw s.last=0
   ·rw[Ab p];exact CrV.MN h.low
   ·rw[Aa p];intro a
    left
    by_cases e:a=s.last
    ·have t:0<s.bw s.last:=by have:=hb s.last;omega
     have:=hF.pos s.last t;rw[e];omega
    ·exact h.low a e
theorem CrB.Afa{s:SlM}(x:0<=q/\q<=10000)(h:CrB s)(l:s.Ok E4)(hF:FitOk fits s.bw):CrB (Fu q fits E4 s):=by
 have d:∀a,a≠s.Fq.last->s.cr a<10000:=fun a e=>by
  rcases h a with m | ⟨t,u,_⟩
  ·exact m
  ·exact absurd (u.trans (show s.last=s.Fq.last from(Ab t).symm)) e
 unfold Fu
 split
 ·refine CrV.AmQ _ _ ?_ ?_ ?_ ?_ ⟨?_,?_⟩
  ·grind
  ·have e:(s.Fq.gain q (!s.opn)).out=s.out:=by unfold SlM.gain;split<;>rfl
   rw[e];exact l.out
  ·have e:(s.Fq.gain q (!s.opn)).bw=s.bw:=by unfold SlM.gain;split<;>rfl
   rw[e];exact l.bw
  ·have e:(s.Fq.gain q (!s.opn)).bw=s.bw:=by unfold SlM.gain;split<;>rfl
   rw[e];exact hF
  ·unfold SlM.gain
   by_cases o:s.opn=true
   ·rw[o];exact h.le _
   ·have p:s.opn=false:=by simpa using o
    rw[p]
    show Fw s.cr s.Fq.last (s.cr s.Fq.last+q) s.Fq.last<20000;rw[Hy]
    rcases h s.Fq.last with m | m
    ·omega
    ·exact absurd m.1 o
  ·intro a e;have e2:(s.Fq.gain q (!s.opn)).last=s.Fq.last:=by unfold SlM.gain;split<;>rfl
   rw[e2]at e;unfold SlM.gain
   split
   ·show Fw s.cr s.Fq.last (s.cr s.Fq.last+q) a<10000;rw[Ja _ _ e];exact d a e
   ·exact d a e
 ·exact CrV.MN d
theorem Only.Afa{l:List UsM}{s:SlM}(h:Only l s.bw)(d:(Fu q fits E4 s).Ok E4):Only l (Fu q fits E4 s).bw:=fun a m=>by
 have o:=h a m;have p:=d.bw a
 rcases Int.lt_or_le 0 ((Fu q fits E4 s).bw a)with e | e
 ·have:=NA a e;omega
 ·omega
def FunAt(T:TypeId)(N:Nat)(w:World)(g:Nat)(f:Nat->Value):Prop:=w.heap[g]?=some (.cells ((List.range N).map f).toArray T (0,0))
theorem FunAt.lt(h:FunAt T N w g f):g<w.heap.size:=(Array.getElem?_eq_some_iff.1 h).1
theorem FunAt.cell(h:FunAt T N w g f)(d:j<N):w.cell? ⟨g,j,none⟩=some (f j):=by
 rw[Al _ _ _ _ _ _ h,Eb,A9,Ch d];rfl
theorem FunAt.free(h:FunAt T N w g f)(j:Nat):w.frozen? ⟨g,j,none⟩=false:=Bz w g j _ T h
theorem FunAt.congr(h:FunAt T N w g f)(e:∀i,i<N->f' i=f i):FunAt T N w g f':=by
 unfold FunAt;rw[show(List.range N).map f'=(List.range N).map f from Du fun i hi=>e i (Bv.1 hi)];exact h
theorem FunAt.set(h:FunAt T N w g f)(e:∀i,i<N->f' i=if i=j then v else f i):FunAt T N (w.setCell ⟨g,j,none⟩ v) g f':=by
 refine FunAt.congr (f:=fun i=>if i=j then v else f i) ?_ e;have d:=BK w g j _ _ v h;refine d.trans ?_;rw[EQ]
 congr 3
 refine AW (by simp) fun i d l=>?_
 grind
theorem FunAt.other(h:FunAt T N w g f)(p:Addr)(x:Value)(d:g≠p.block):FunAt T N (w.setCell p x) g f:=(Co w p g x d).trans h
theorem FunAt.below(h:FunAt T N w g f)(d:Below w.heap.size w w'):FunAt T N w' g f:=(d.block g h.lt).trans h
theorem FunAt.kept(h:FunAt T N w g f)(d:Kept S w w')(hg:g∉S):FunAt T N w' g f:=(d.block g h.lt hg).trans h
def ptF (q:Int)(last:Nat)(opn:Bool)(cr:Nat->Int)(j:Nat):Value:=if j=0 then int i64 q else if j<=17 then int i64 (cr (j-1)) else if j=18 then int i64 (last:Int) else .bool opn
def PTurn(w:World)(r:Nat)(q:Int)(last:Nat)(opn:Bool)(cr:Nat->Int):Prop:=FunAt 67 20 w r (ptF q last opn cr)
theorem PTurn.head(h:PTurn w r q last opn cr):w.cell? ⟨r,0,none⟩=some (int i64 q)/\w.cell? ⟨r,18,none⟩=some (int i64 (last:Int))/\w.cell? ⟨r,19,none⟩=some (.bool opn):=⟨FunAt.cell h (by omega),FunAt.cell h (by omega),FunAt.cell h (by omega)⟩
theorem PTurn.Tr(h:PTurn w r q last opn cr)(d:a<=16):w.cell? ⟨r,1+a,none⟩=some (int i64 (cr a)):=by grind [PTurn,ptF,FunAt.cell]
theorem PTurn.Amg(h:PTurn w r q last opn cr)(x:Nat):PTurn (w.setCell ⟨r,18,none⟩ (int i64 (x:Int))) r q x opn cr:=by grind [PTurn,ptF,FunAt.set]
theorem PTurn.UM(h:PTurn w r q last opn cr)(b:Bool):PTurn (w.setCell ⟨r,19,none⟩ (.bool b)) r q last b cr:=by grind [PTurn,ptF,FunAt.set]
theorem PTurn.Ae2(h:PTurn w r q last opn cr)(d:a<=16)(x:Int):PTurn (w.setCell ⟨r,1+a,none⟩ (int i64 x)) r q last opn (Fw cr a x):=by grind [PTurn,Fw,ptF,FunAt.set]
def slF (wf bw ft:Nat->Int)(wt:Int)(ob n g:Nat)(j:Nat):Value:=if j<51 then (if j % 3=0 then int i64 (wf (j / 3)) else if j % 3=1 then int i64 (bw (j / 3)) else int i64 (ft (j / 3))) else if j=51 then int i64 wt else if j=52 then .slice (some ⟨ob,0,none⟩) n n else int i64 (g:Int)
def PSlot(w:World)(sb:Nat)(wf bw ft:Nat->Int)(wt:Int)(ob n g:Nat):Prop:=FunAt 120 54 w sb (slF wf bw ft wt ob n g)
theorem PSlot.J5(h:PSlot w sb wf bw ft wt ob n g)(d:a<=16):w.cell? ⟨sb,a*3,none⟩=some (int i64 (wf a))/\w.cell? ⟨sb,a*3+1,none⟩=some (int i64 (bw a))/\w.cell? ⟨sb,a*3+2,none⟩=some (int i64 (ft a)):=by grind [PSlot,slF,FunAt.cell]
theorem PSlot.KX(h:PSlot w sb wf bw ft wt ob n g):w.cell? ⟨sb,51,none⟩=some (int i64 wt)/\w.cell? ⟨sb,52,none⟩=some (.slice (some ⟨ob,0,none⟩) n n)/\w.cell? ⟨sb,53,none⟩=some (int i64 (g:Int)):=⟨FunAt.cell h (by omega),FunAt.cell h (by omega),FunAt.cell h (by omega)⟩
theorem PSlot.AnR(h:PSlot w sb wf bw ft wt ob n g)(d:a<=16)(x:Int):PSlot (w.setCell ⟨sb,a*3,none⟩ (int i64 x)) sb (Fw wf a x) bw ft wt ob n g:=by grind [PSlot,Fw,slF,FunAt.set]
theorem PSlot.AmR(h:PSlot w sb wf bw ft wt ob n g)(d:a<=16)(x:Int):PSlot (w.setCell ⟨sb,a*3+1,none⟩ (int i64 x)) sb wf (Fw bw a x) ft wt ob n g:=by grind [PSlot,Fw,slF,FunAt.set]
theorem PSlot.AoY(h:PSlot w sb wf bw ft wt ob n g)(d:a<=16)(x:Int):PSlot (w.setCell ⟨sb,a*3+2,none⟩ (int i64 x)) sb wf bw (Fw ft a x) wt ob n g:=by grind [PSlot,Fw,slF,FunAt.set]
theorem PSlot.AmS(h:PSlot w sb wf bw ft wt ob n g)(x:Int):PSlot (w.setCell ⟨sb,51,none⟩ (int i64 x)) sb wf bw ft x ob n g:=by grind [PSlot,slF,FunAt.set]
theorem PSlot.setG(h:PSlot w sb wf bw ft wt ob n g)(x:Nat):PSlot (w.setCell ⟨sb,53,none⟩ (int i64 (x:Int))) sb wf bw ft wt ob n x:=by grind [PSlot,slF,FunAt.set]
def M9 (bw:Nat->Int):Nat:=((List.range 16).filter fun a=>decide (0<bw (a+1))).length
theorem Alk(bw:Nat->Int):decide ((0:Int)<(M9 bw:Nat))=Pc bw:=by simp_all[M9,Pc];grind
theorem TD(p:Nat->Bool)(k:Nat):([k].filter p).length=if p k=true then 1 else 0:=by
 by_cases h:p k=true<;>simp[h]
theorem TE(bw:Nat->Int)(c:Nat)(x:Int):∀(k:Nat),((List.range k).filter fun a=>decide (0<Fw bw c x (a+1))).length+(if 1<=c/\c<=k/\0<bw c then 1 else 0)=((List.range k).filter fun a=>decide (0<bw (a+1))).length+(if 1<=c/\c<=k/\0<x then 1 else 0)
 | 0=>by
  grind
 | k+1=>by
  have d:=TE bw c x k;rw[Az,BS,BS,Ai,Ai,TD,TD]
  by_cases e:c=k+1
  ·grind [Hy]
  grind [Ja]
theorem Aex(d:1<=c)(e:c<=16)(x:Int):M9 (Fw bw c x)+(if 0<bw c then 1 else 0)=M9 bw+(if 0<x then 1 else 0):=by
 have:=TE bw c x 16;have e1:(1<=c/\c<=16/\0<bw c)↔0<bw c:=by omega
 have e2:(1<=c/\c<=16/\0<x)↔0<x:=by omega
 simp only[e1,e2]at this;exact this
theorem Aew(bw:Nat->Int):M9 bw<=16:=by
 unfold M9
 grind
theorem Ahe(w:World)(q:Int):PTurn (w.alloc (.cells #[int i64 q,int i64 0,int i64 0,int i64 0,int i64 0,int i64 0,int i64 0,int i64 0,int i64 0,int i64 0,int i64 0,int i64 0,int i64 0,int i64 0,int i64 0,int i64 0,int i64 0,int i64 0,int i64 0,.bool false] 67)) w.heap.size q 0 false (fun _=>0):=Am w _
theorem AhP(q:Int)(w:World)(d:1<=q)(h:q<=10000):Calls prog 13 #[int i64 q] w fun e w'=>e=.returned (.tuple #[.pointer (some ⟨w.heap.size,0,none⟩),int i64 0])/\PTurn w' w.heap.size q 0 false (fun _=>0)/\Below w.heap.size w w':=by
 have l:decide (q<1)=false:=Ae (by omega);have m:decide (10000<q)=false:=Ae (by omega);clear d h;go_enter func13,ntmps13;go_wp2
 go_ret2;exact⟨rfl,Ahe w q,(Ad _ w).alloc (Ac _) _⟩
theorem ZX(sb ob n g:Nat)(wf bw ft:Nat->Int)(wt:Int)(w:World)(d:PSlot w sb wf bw ft wt ob n g):Calls prog 55 #[.pointer (some ⟨sb,0,none⟩)] w fun e w'=>e=.returned (.bool (decide (g<n)))/\Below w.heap.size w w':=by
 obtain⟨-,h,l⟩:=d.KX;clear d;go_enter func55,ntmps55;go_upto_region 1 with fail
 go_region;go_wp2;go_ret;exact⟨by first | rfl | simp,(Ad _ w).drew⟩
theorem PL(who byt fit q:Int)(r last:Nat)(opn:Bool)(cr:Nat->Int)(w:World)(s:PTurn w r q last opn cr)(o:0<byt->0<=who/\who<=16):Calls prog 105 #[.pointer (some ⟨r,0,none⟩),.agg #[int i64 who,int i64 byt,int i64 fit]] w fun e w'=>e=.returned (.bool (decide (0<byt/\fit<=cr who.toNat)))/\Below w.heap.size w w':=by
 have d:Below w.heap.size w (w.alloc (.cells #[int i64 who,int i64 byt,int i64 fit] 117)):=(Ad _ w).alloc (Ac _) _
 by_cases l:0<byt
 ·obtain⟨a,rfl⟩:∃a:Nat,who=(a:Int):=⟨who.toNat,by have:=o l;omega⟩;have u:=o l;have A:=PTurn.Tr (FunAt.below s d) (a:=a) (by omega);rw[AN];have m:decide (0<byt/\fit<=cr a)=decide (fit<=cr a):=by simp[l]
  rw[m];have x:(0:Int)<=(a:Int):=by omega
  have y:(a:Int)<17:=by omega
  have t:decide (0<byt)=true:=Ag l;have p:=hid d;generalize cr a=z at*;clear l o m s u d;go_enter func105,ntmps105;go_upto_region 1 with fail
  go_region;go_wp2;go_ret;exact⟨rfl,p.out.drew⟩
 ·have m:decide (0<byt/\fit<=cr who.toNat)=false:=Ae fun h=>l h.1
  rw[m];have t:decide (0<byt)=false:=Ae l;have p:=hid d;clear l o m s d;go_enter func105,ntmps105;go_upto_region 1 with fail
  go_region;go_wp2;go_ret;exact⟨rfl,p.out.drew⟩
theorem Ab2(q:Int)(r last:Nat)(cr:Nat->Int)(w:World)(d:PTurn w r q last true cr):Calls prog 104 #[.pointer (some ⟨r,0,none⟩)] w fun e w'=>e=.returned (.tuple #[])/\w=w':=by
 obtain⟨-, -,h⟩:=d.head;clear d;go_enter func104,ntmps104;go_wp2
 go_end0;exact⟨rfl,rfl⟩
theorem Ajt(h:last<=16):last % 16+1=FF last:=by unfold FF;split<;>omega
theorem Ab1(q:Int)(r last:Nat)(cr:Nat->Int)(w:World)(l:PTurn w r q last false cr)(p:last<=16)(y:0<=q/\q<=10000)(t:0<=cr (FF last)/\cr (FF last)<=1000000):Calls prog 104 #[.pointer (some ⟨r,0,none⟩)] w fun e w'=>e=.returned (.tuple #[])/\PTurn w' r q (FF last) false (Fw cr (FF last) (cr (FF last)+q))/\Kept [r] w w':=by
 obtain⟨-,H,I⟩:=l.head;have F:=FunAt.free l 18;have o:=(T8 p).2;have d:=PTurn.Amg l (FF last);have h:=d.Ae2 o (cr (FF last)+q);obtain⟨G,g1, -⟩:=d.head;have gc:=d.Tr o;have gf:=FunAt.free d (1+FF last);have m:=hid h;have s:Hid (Kept [r] w ((w.setCell ⟨r,18,none⟩ (int i64 ((FF last:Nat):Int))).setCell ⟨r,1+FF last,none⟩ (int i64 (cr (FF last)+q)))):=((Kept.refl [r] w).setCell (by simp) _).setCell (by simp) _;have e1:((last:Int) % 16+1)=((FF last:Nat):Int):=by
  rw[<-Ajt p];omega
 generalize FF last=A at*;generalize cr A=z at*;have D:(0:Int)<=(A:Int):=by omega
 have E:(A:Int)<17:=by omega
 obtain⟨B,C⟩:=y;obtain⟨u,x⟩:=t;clear l d h;go_enter func104,ntmps104;go_upto_region 2 with fail
 go_region;go_wp2
 go_end0;exact⟨rfl,m.out,s.out.drew⟩
theorem AhO(sb ob n g a:Nat)(wf bw ft:Nat->Int)(wt:Int)(L:List Int)(w:World)(P:PSlot w sb wf bw ft wt ob n g)(O:ArrAt i64 3 w ob L)(V:L.length=n)(u:sb≠ob)(R:a<=16)(hg:g<n)(W:n<=100)(Y:0<=bw a/\bw a<=1000000)(hf:0<=ft a/\ft a<=10000)(hw:0<=wt/\wt<=16):
 Calls prog 106 #[.pointer (some ⟨sb,0,none⟩),int i64 (a:Int)] w fun e w'=>e=.returned (.tuple #[])/\PSlot w' sb wf (Fw bw a (max (bw a-ft a) 0)) ft (if max (bw a-ft a) 0=0 then wt-1 else wt) ob n (g+1)/\ArrAt i64 3 w' ob (L.set g (a:Int))/\Kept [sb,ob] w w':=by
 have U:max (bw a-ft a) 0=if bw a-ft a<0 then 0 else bw a-ft a:=by split<;>omega
 rw[U];clear U;obtain⟨h0,h1,h2⟩:=P.KX;obtain⟨X,af⟩:∃X,w.cell? ⟨ob,g,none⟩=some (int i64 X):=⟨_,O.cell (by omega)⟩;have ag:=O.free g;have x:=O.set g (a:Int);have l:PSlot (w.setCell ⟨ob,g,none⟩ (int i64 (a:Int))) sb wf bw ft wt ob n g:=FunAt.other P _ _ u;have C:=(Kept.refl [sb,ob] w).setCell (p:=⟨ob,g,none⟩) (by simp) (int i64 (a:Int));obtain⟨-, -,p2⟩:=l.KX;have p3:=FunAt.free l 53;have h:=l.setG (g+1);have m:=x.other ⟨sb,53,none⟩ (int i64 ((g+1:Nat):Int)) (fun e=>u e.symm);have s:=C.setCell (p:=⟨sb,53,none⟩) (by simp) (int i64 ((g+1:Nat):Int));rw[show((g+1:Nat):Int)=(g:Int)+1 by omega]at h m s;obtain⟨-,q1,q2⟩:=h.J5 R;have q3:=FunAt.free h (a*3+1);have d:=h.AmR R ((if bw a-ft a<0 then 0 else bw a-ft a));have o:=m.other ⟨sb,a*3+1,none⟩ (int i64 ((if bw a-ft a<0 then 0 else bw a-ft a))) (fun e=>u e.symm);have t:=s.setCell (p:=⟨sb,a*3+1,none⟩) (by simp) (int i64 ((if bw a-ft a<0 then 0 else bw a-ft a)));obtain⟨-,r1, -⟩:=d.J5 R;rw[Hy]at r1;obtain⟨r2, -, -⟩:=d.KX;have r3:=FunAt.free d 51;have B:=d.AmS (wt-1);have A:=o.other ⟨sb,51,none⟩ (int i64 (wt-1)) (fun e=>u e.symm);have D:=t.setCell (p:=⟨sb,51,none⟩) (by simp) (int i64 (wt-1));have K:=hid d;have G:=hid o;have I:=hid t;have M:=hid B;have H:=hid A;have J:=hid D;have a0:(0:Int)<=(a:Int):=by omega
 have a1:(a:Int)<17:=by omega
 obtain⟨Z,aa⟩:=Y;obtain⟨ac,ad⟩:=hf;obtain⟨ah,ai⟩:=hw;have ab: -20000<=bw a-ft a/\bw a-ft a<=1000000:=by omega
 have ae:g<100:=by omega
 by_cases E:(if bw a-ft a<0 then 0 else bw a-ft a)=0
 ·rw[Ab E];have xz:((if bw a-ft a<0 then 0 else bw a-ft a)==0)=true:=by rw[E];rfl
  generalize Fw bw a ((if bw a-ft a<0 then 0 else bw a-ft a))=Q at*;generalize bw a=z at*;generalize ft a=F at*;clear P O x l C h m s d o t B A D E K G I V W;go_enter func106,ntmps106;go_upto_region 1 with fail
  go_region;go_upto_region 3 with fail
  go_big_region;generalize (if z-F<0 then 0 else z-F)=y at*;go_wp2
  go_end0;exact⟨rfl,M.out,H.out,J.out.drew.drew⟩
 ·rw[Aa E];have xz:((if bw a-ft a<0 then 0 else bw a-ft a)==0)=false:=DE E;generalize Fw bw a ((if bw a-ft a<0 then 0 else bw a-ft a))=Q at*;generalize bw a=z at*;generalize ft a=F at*;clear P O x l C h m s d o t B A D E M H J V W;go_enter func106,ntmps106;go_upto_region 1 with fail
  go_region;go_upto_region 3 with fail
  go_big_region;generalize (if z-F<0 then 0 else z-F)=y at*;go_wp2
  go_end0;exact⟨rfl,K.out,G.out,I.out.drew.drew⟩
def Mx (l:List UsM)(E4:Int):Prop:=(0<=E4/\E4<=100)/\OkU l
theorem Afq(l:List UsM)(k:Nat):YU l (k+1)=(l.getD k .zero).who:=by unfold YU;grind
theorem VT(l:List UsM)(E4:Int)(x c:Nat)(a:Option Addr)(w:World)(L:Usr w a l)(F:l.length=x)(M:x<=maxLen):
 Calls prog 53 #[.slice a x c,int i64 E4] w fun e w'=>((Mx l E4/\e=.returned (int i64 0))\/(¬Mx l E4/\e=.returned (int i64 1)))/\Below w.heap.size w w':=by
 have U:=hid L;have B:=hid F;have aa:x<=9223372036854775807:=by unfold maxLen at M;omega
 clear L F M
 by_cases D:E4<0
 ·have W:decide (E4<0)=true:=Ag D;have p:Hid (¬Mx l E4):=fun h=>by have:=h.1.1;omega
  clear D;go_enter func53,ntmps53
  go_wp2_with fail;go_ret;exact⟨.inr ⟨p.out,rfl⟩,Ad _ w⟩
 ·have W:decide (E4<0)=false:=Ae D
  by_cases H:100<E4
  ·have X:decide (100<E4)=true:=Ag H;have p:Hid (¬Mx l E4):=fun h=>by have:=h.1.2;omega
   clear D H;go_enter func53,ntmps53
   go_wp2_with fail;go_ret;exact⟨.inr ⟨p.out,rfl⟩,Ad _ w⟩
  ·have X:decide (100<E4)=false:=Ae H;have R:Hid (0<=E4/\E4<=100):=⟨by omega,by omega⟩;clear D H;go_enter func53,ntmps53
   go_wp2_with fail
   go_loopw [5,16] (fun b i wr=>∃(k:Nat) (V:Int),k<=x/\i=int i64 k/\b=int i64 V/\0<=V/\Hid (Aag l k/\V=YU l k)/\Below w.heap.size w wr) (fun _ i _=>x-(intOf i).toNat)
   case atStart=>exact⟨0,0,by omega,rfl,rfl,by omega,⟨fun j Z=>absurd Z (CG _),rfl⟩,Ad _ w⟩
   case round=>
    obtain⟨k,V,hk,rfl,rfl,hV,A,m⟩:=hrel
    by_cases E:k<x
    ·have t:k<l.length:=by rw[B.out];exact E
     obtain⟨b,o,rfl,K⟩:=U.out.at t;obtain⟨O,P,Q⟩:=K k t;have d:Hid ((l.getD k .zero).ok V=false->¬Mx l E4):=fun h Y=>by
      have:=Y.2 k t;rw[<-A.out.2,h]at this;cases this
     have I:Hid ((l.getD k .zero).ok V=true->Aag l (k+1)/\(l.getD k .zero).who=YU l (k+1)):=fun h=>⟨fun i hi=>by
      by_cases e:i=k
      ·rw[e,<-A.out.2];exact h
      ·exact A.out.1 i (by omega),(Afq l k).symm⟩
     have O:=Tg m O;have P:=Tg m P;have Q:=Tg m Q;generalize l.getD k .zero=u at*;clear K t A
     by_cases s:u.who<=V
     ·have x0:decide (u.who<=V)=true:=Ag s;have p:=hid (d.out (Ae (by omega)));clear s
      go_wp2_with fail;go_ret;exact⟨.inr ⟨p.out,rfl⟩,m.alloc m.size _⟩
     ·have x0:decide (u.who<=V)=false:=Ae s
      by_cases g1:16<u.who
      ·have x1:decide (16<u.who)=true:=Ag g1;have p:=hid (d.out (Ae (by omega)));clear s g1
       go_wp2_with fail;go_ret;exact⟨.inr ⟨p.out,rfl⟩,m.alloc m.size _⟩
      ·have x1:decide (16<u.who)=false:=Ae g1
       by_cases g2:u.byt<0
       ·have x2:decide (u.byt<0)=true:=Ag g2;have p:=hid (d.out (Ae (by omega)));clear s g1 g2
        go_wp2_with fail;go_ret;exact⟨.inr ⟨p.out,rfl⟩,m.alloc m.size _⟩
       ·have x2:decide (u.byt<0)=false:=Ae g2
        by_cases z:1000000<u.byt
        ·have x3:decide (1000000<u.byt)=true:=Ag z;have p:=hid (d.out (Ae (by omega)));clear s g1 g2 z
         go_wp2_with fail;go_ret;exact⟨.inr ⟨p.out,rfl⟩,m.alloc m.size _⟩
        ·have x3:decide (1000000<u.byt)=false:=Ae z
         by_cases C:u.fit<1
         ·have x4:decide (u.fit<1)=true:=Ag C;have p:=hid (d.out (Ae (by omega)));clear s g1 g2 z C
          go_wp2_with fail;go_ret;exact⟨.inr ⟨p.out,rfl⟩,m.alloc m.size _⟩
         ·have x4:decide (u.fit<1)=false:=Ae C
          by_cases G:10000<u.fit
          ·have x5:decide (10000<u.fit)=true:=Ag G;have p:=hid (d.out (Ae (by omega)));clear s g1 g2 z C G
           go_wp2_with fail;go_ret;exact⟨.inr ⟨p.out,rfl⟩,m.alloc m.size _⟩
          ·have x5:decide (10000<u.fit)=false:=Ae G;have y:=hid (I.out (Ag (by omega)));have J:0<=u.who:=by omega
           clear s g1 g2 z C G
           go_wp2_with fail
           go_roundw
           case rel=>exact⟨k+1,u.who,by omega,by go_num,rfl,J,y,m.alloc m.size _⟩
           case measure=>simp[intOf];omega
    ·have e:k=x:=by omega
     subst e;have p:Hid (Mx l E4):=⟨R.out,show Aag l l.length by rw[B.out];exact A.out.1⟩;clear E
     go_wp2_with fail;go_ret;exact⟨.inl ⟨p.out,rfl⟩,m⟩
theorem Te{f:UsM->Int}{l:List UsM}(h:OkU l)(d:k<l.length):byF f (l.take (k+1))=Fw (byF f (l.take k)) (l.getD k .zero).who.toNat (f (l.getD k .zero)):=by
 funext a
 have e:l.getD k .zero=l[k]:=by simp[List.getD,d]
 have B:=(h.at d).1;unfold byF;rw[Bu d,List.find?_append]
 by_cases A:a=(l.getD k .zero).who.toNat
 ·have s:l[k].who=(a:Int):=by rw[<-e];omega
  have m:(l.take k).find? (fun u=>u.who==(a:Int))=none:=by
   rw[EP];intro u y;obtain⟨j,t,rfl⟩:=A5 y;have x:j<k:=by rw[Ay]at t;omega
   have p:l.getD j .zero=l[j]:=by grind
   intro z;have o:l[j].who=(a:Int):=by simpa using z
   have:=h.inj (i:=j) (j:=k) (by omega) d (by rw[p,e,o,s]);omega
  grind [Hy]
 grind [Ja]
theorem Afz{f:UsM->Int}{l:List UsM}(h:OkU l)(d:k<l.length):byF f (l.take k) (l.getD k .zero).who.toNat=0:=by
 refine Qo fun i hi e=>?_
 have m:i<k:=by simp at hi;omega
 have e1:(l.take k).getD i .zero=l.getD i .zero:=by
  grind
 rw[e1]at e;have o:=(h.at d).1;have:=h.inj (i:=i) (j:=k) (by omega) d (by omega);omega
def YM (w:World)(sb ob n:Nat)(l:List UsM)(k:Nat):Prop:=PSlot w sb (byF UsM.who (l.take k)) (byF UsM.byt (l.take k)) (byF UsM.fit (l.take k)) (M9 (byF UsM.byt (l.take k)):Nat) ob n 0
def Yp (ob n:Nat):Obj:=.cells #[int i64 0,int i64 0,int i64 0,int i64 0,int i64 0,int i64 0,int i64 0,int i64 0,int i64 0,int i64 0,int i64 0,int i64 0,int i64 0,int i64 0,int i64 0,int i64 0,int i64 0,int i64 0,int i64 0,int i64 0,int i64 0,int i64 0,int i64 0,int i64 0,int i64 0,int i64 0,int i64 0,int i64 0,int i64 0,int i64 0,int i64 0,int i64 0,int i64 0,int i64 0,int i64 0,int i64 0,int i64 0,int i64 0,int i64 0,int i64 0,int i64 0,int i64 0,int i64 0,int i64 0,int i64 0,int i64 0,int i64 0,int i64 0,int i64 0,int i64 0,int i64 0,int i64 0,.slice (some ⟨ob,0,none⟩) n n,int i64 0] 120
theorem Ahx(w:World)(ob n:Nat)(l:List UsM):YM (w.alloc (Yp ob n)) w.heap.size ob n l 0:=Am w _
theorem AgH(l:List UsM)(E4 I c:Nat)(a:Option Addr)(w:World)(hU:Usr w a l)(ad:l.length=I)(hO:OkU l)(ar:I<=16)(hb:E4<=100):
 Calls prog 54 #[.slice a I c,int i64 (E4:Int)] w fun e w'=>∃sb ob,e=.returned (.pointer (some ⟨sb,0,none⟩))/\YM w' sb ob E4 l l.length/\ArrAt i64 3 w' ob (List.replicate E4 0)/\sb≠ob/\w.heap.size<=sb/\w.heap.size<=ob/\Below w.heap.size w w':=by
 have HU:=hid hU;have R:=hid ad;have U:=hid hO;clear hU ad hO;go_enter func54,ntmps54
 go_wp2_with(at_make;refine FZ w.heap.size w E4 rfl _ _ rfl _ _ rfl rfl rfl rfl (by omega) (Ad _ w) (Ac _) ?_;intro w1 ae E aq aa);obtain⟨W,J⟩:=E7 (w1.alloc (Yp w.heap.size E4));have ao:YM W w1.heap.size w.heap.size E4 l 0:=by rw[J];exact Ahx w1 _ _ l
 have an:ArrAt i64 3 W w.heap.size (List.replicate E4 0):=by rw[J];exact ae.arr.1.alloc _
 have ap:Below w.heap.size w W:=by rw[J];exact E.alloc E.size _
 unfold Yp at J;rw[<-J];clear J ae E aa
 go_loopw [14] (fun i wr=>∃k:Nat,k<=I/\i=int i64 k/\YM wr w1.heap.size w.heap.size E4 l k/\ArrAt i64 3 wr w.heap.size (List.replicate E4 0)/\Below w.heap.size w wr) (fun i _=>I-(intOf i).toNat)
 case atStart=>grind
 case round=>
  clear ao an ap;obtain⟨k,hk,rfl,K,hA,G⟩:=hrel
  by_cases ac:k<I
  ·have h:k<l.length:=by rw[R.out];exact ac
   obtain⟨b,o,rfl,hC⟩:=HU.out.at h;obtain⟨q0,q1,q2⟩:=hC k h;have q0:=Tg G q0;have q1:=Tg G q1;have q2:=Tg G q2;have af:=U.out.at h;obtain⟨u,eu⟩:=E7 (l.getD k .zero);rw[<-eu]at q0 q1 q2 af;have x:=hid eu;clear eu;have m:PSlot (wr.alloc (.cells #[int i64 u.who,int i64 u.byt,int i64 u.fit] 117)) w1.heap.size _ _ _ _ w.heap.size E4 0:=FunAt.below K ((Ad _ wr).alloc (Ac _) _);have F:w1.heap.size≠wr.heap.size:=Nat.ne_of_lt (FunAt.lt K);obtain⟨A,eA⟩:∃A:Nat,u.who=(A:Int):=⟨u.who.toNat,by omega⟩;rw[eA]at q0 m af;have P:=hid eA;clear eA;have d:A<=16:=by omega
   obtain⟨p0,p1,p2⟩:=m.J5 d;have f0:=FunAt.free m (A*3);have f1:=FunAt.free m (A*3+1);have f2:=FunAt.free m (A*3+2);have a0:(0:Int)<=(A:Int):=by omega
   have a1:(A:Int)<17:=by omega
   have Y:=m.AnR d (A:Int);have Z:=Y.AmR d u.byt;have s:=Z.AoY d u.fit;have t:(l.getD k .zero).who.toNat=A:=by rw[<-x.out,P.out,AN]
   have V:byF UsM.who (l.take (k+1))=Fw (byF UsM.who (l.take k)) A (A:Int):=by rw[Te U.out h,t,<-x.out,P.out]
   have B:byF UsM.byt (l.take (k+1))=Fw (byF UsM.byt (l.take k)) A u.byt:=by rw[Te U.out h,t,<-x.out]
   have X:byF UsM.fit (l.take (k+1))=Fw (byF UsM.fit (l.take k)) A u.fit:=by rw[Te U.out h,t,<-x.out]
   have eF:byF UsM.byt (l.take k) A=0:=by rw[<-t];exact Afz U.out h
   have eC:=Aex (bw:=byF UsM.byt (l.take k)) (c:=A) (by omega) d u.byt;rw[eF,Aa (by omega),Bh,<-B]at eC;have ab:=Aew (byF UsM.byt (l.take k));rw[<-V,<-B,<-X]at s;have r0:=s.KX.1;have r1:=FunAt.free s 51;have D:=s.AmS (((M9 (byF UsM.byt (l.take k)):Nat):Int)+1);obtain⟨M,eM⟩:=E7 (M9 (byF UsM.byt (l.take k)));rw[<-eM]at r0 D ab eC;obtain⟨O,eO⟩:=E7 (.cells #[int i64 (A:Int),int i64 u.byt,int i64 u.fit] 117:Obj);have y:ArrAt i64 3 ((((wr.alloc O).setCell ⟨w1.heap.size,A*3,none⟩ (int i64 (A:Int))).setCell ⟨w1.heap.size,A*3+1,none⟩ (int i64 u.byt)).setCell ⟨w1.heap.size,A*3+2,none⟩ (int i64 u.fit)) w.heap.size (List.replicate E4 0):=(((hA.alloc O).other _ _ (by show w.heap.size≠w1.heap.size;omega)).other _ _ (by show w.heap.size≠w1.heap.size;omega)).other _ _ (by show w.heap.size≠w1.heap.size;omega);have z:Below w.heap.size w ((((wr.alloc O).setCell ⟨w1.heap.size,A*3,none⟩ (int i64 (A:Int))).setCell ⟨w1.heap.size,A*3+1,none⟩ (int i64 u.byt)).setCell ⟨w1.heap.size,A*3+2,none⟩ (int i64 u.fit)):=(((G.alloc G.size O).setCell (by show w.heap.size<=w1.heap.size;omega) _).setCell (by show w.heap.size<=w1.heap.size;omega) _).setCell (by show w.heap.size<=w1.heap.size;omega) _;have C:=y.other ⟨w1.heap.size,51,none⟩ (int i64 ((M:Int)+1)) (by show w.heap.size≠w1.heap.size;omega);have H:=z.setCell (p:=⟨w1.heap.size,51,none⟩) (by show w.heap.size<=w1.heap.size;omega) (int i64 ((M:Int)+1));have z1:(((((wr.alloc O).setCell ⟨w1.heap.size,A*3,none⟩ (int i64 (A:Int))).setCell ⟨w1.heap.size,A*3+1,none⟩ (int i64 u.byt)).setCell ⟨w1.heap.size,A*3+2,none⟩ (int i64 u.fit))).cell? ⟨wr.heap.size,1,none⟩=some (int i64 u.byt):=by
    have h0:(wr.alloc O).heap[wr.heap.size]?=some O:=Am wr O;have h1:=(Co _ ⟨w1.heap.size,A*3+2,none⟩ wr.heap.size (int i64 u.fit) F.symm).trans ((Co _ ⟨w1.heap.size,A*3+1,none⟩ wr.heap.size (int i64 u.byt) F.symm).trans ((Co (wr.alloc O) ⟨w1.heap.size,A*3,none⟩ wr.heap.size (int i64 (A:Int)) F.symm).trans h0));rw[eO]at h1 |-;rw[Al _ _ _ _ _ _ h1];rfl
   rw[eO]at z1 y C z H;have ag:=hid y;have ah:=hid C;have al:=hid z;have am:=hid H;have aj:=hid s;have ak:=hid D;have Q:=hid eC;have ai:=hid eM;clear hC h K m Y Z s D y C z H V B X eF eC eM eO t hA G
   by_cases L:0<u.byt
   ·have xz:decide (0<u.byt)=true:=Ag L;have HZ:=hid L;clear L;go_upto_region 5 with fail
    go_big_region
    go_wp2_with fail
    go_roundw
    case rel=>exact⟨k+1,by omega,by go_num,(show PSlot _ _ _ _ _ _ _ _ _ by
     have:=Q.out;rw[Ab HZ.out]at this;rw[this]
     exact ak.out),ah.out,am.out.drew⟩
    case measure=>simp[intOf];omega
   ·have xz:decide (0<u.byt)=false:=Ae L;have HZ:=hid L;clear L;go_upto_region 5 with fail
    go_big_region
    go_wp2_with fail
    go_roundw
    case rel=>exact⟨k+1,by omega,by go_num,(show PSlot _ _ _ _ _ _ _ _ _ by
     have:=Q.out;rw[Aa HZ.out,Bh]at this;rw[this,ai.out]
     exact aj.out),ag.out,al.out.drew⟩
    case measure=>simp[intOf];omega
  ·have e:k=I:=by omega
   subst e;rw[<-R.out]at K;have HS:=hid K;clear K ac
   go_wp2_with fail;go_ret;exact⟨w1.heap.size,w.heap.size,rfl,HS.out,hA,by omega,by omega,Ac _,G⟩
def UO (l:List UsM)(last:Nat)(opn:Bool)(cr:Nat->Int):SlM:=⟨last,opn,cr,byF UsM.byt l,[]⟩
theorem AlS{l:List UsM}(h:OkU l):l.length<=16:=by
 rcases DF l.length with e | e
 ·omega
 ·have m:∀k,k<l.length->(k:Int)+1<=(l.getD k .zero).who:=by
   intro k
   induction k with
   | zero=>intro d;have:=(h.at d).1;omega
   | succ k ih=>
    intro d;have o:=ih (by omega);have p:=h.Ama 0 k (by omega)
    grind
  have o:=m (l.length-1) (by omega);have p:=(h.at (i:=l.length-1) (by omega)).1;omega
theorem AmC(f:Nat->Int)(a:Nat)(x y:Int):Fw (Fw f a x) a y=Fw f a y:=by
 funext b
 unfold Fw
 split<;>rfl
theorem Abk(fits:Nat->Int)(E4:Nat):∀(f:Nat) (s:SlM),FitOk fits s.bw->∀a,(F8 fits E4 f s).bw a<=s.bw a
 | 0,s,_,a=>Ci _
 | f+1,s,hF,a=>by
  unfold F8
  split
  ·rename_i d
   split
   ·exact Ci _
   ·refine DG (Abk fits E4 f (s.Ls fits) (hF.Ac2 (OT s d.1)) a) ?_;have:=hF.pos s.last d.1
    show Fw s.bw s.last (max (s.bw s.last-fits s.last) 0) a<=s.bw a
    grind [Hy,Ja]
  ·exact Ci _
theorem AkR{s:SlM}(hF:FitOk fits s.bw)(a:Nat):(Fu q fits E4 s).bw a<=s.bw a:=by
 unfold Fu
 split
 ·have d:∀t:SlM,t.IG.bw=t.bw:=fun t=>by unfold SlM.IG;split<;>rfl
  have hg:(s.Fq.gain q (!s.opn)).bw=s.bw:=by unfold SlM.gain;split<;>rfl
  rw[d];have:=Abk fits E4 (E4+1) (s.Fq.gain q (!s.opn)) (by rw[hg];exact hF) a
  rwa [hg]at this
 ·exact Ci _
def CrU (s:SlM):Prop:=CrB s/\∀a,s.bw a<=1000000
theorem Ab7{l:List UsM}(h:OkU l)(a:Nat):0<=byF UsM.byt l a/\byF UsM.byt l a<=1000000:=by
 by_cases d:∃i,i<l.length/\(l.getD i .zero).who=(a:Int)
 ·obtain⟨i,hi,e⟩:=d;have m:=Ab6 (f:=UsM.byt) h hi;rw[e,AN]at m;rw[m];exact(h.at hi).2.1
 ·rw[Qo fun i hi e=>d ⟨i,hi,e⟩];omega
structure VP(w:World)(r sb ob:Nat)(q:Int)(wf ft:Nat->Int)(n:Nat)(o:Bool)(s:SlM):Prop where
 t:PTurn w r q s.last o s.cr
 sl:PSlot w sb wf s.bw ft (M9 s.bw:Nat) ob n s.out.length
 ow:ArrAt i64 3 w ob (MJ s.out n)
theorem VP.below{w w':World}{r sb ob:Nat}{q:Int}{wf ft:Nat->Int}{n:Nat}{o:Bool}{s:SlM}(h:VP w r sb ob q wf ft n o s)(d:Below w.heap.size w w'):VP w' r sb ob q wf ft n o s:=⟨FunAt.below h.t d,FunAt.below h.sl d,h.ow.below d h.ow.lt⟩
structure Dis(r sb ob:Nat):Prop where
 a:r≠sb
 b:r≠ob
 c:sb≠ob
theorem AkP{s:SlM}(h:∀a,0<=s.bw a):Fu q fits E4 s=(F8 fits E4 (E4+1) (s.Fq.gain q (!s.opn))).IG:=by
 by_cases d:0<s.Fq.bw s.Fq.last
 ·exact Ab d
 ·have m:s.bw s.Fq.last=0:=by
   have:=h s.Fq.last;have e:s.Fq.bw s.Fq.last=s.bw s.Fq.last:=rfl;omega
  have l:Fu q fits E4 s=s.Fq.MN:=Aa d;have e1:(s.Fq.gain q (!s.opn)).bw=s.bw:=by unfold SlM.gain;split<;>rfl
  grind [SlM.gain,Nx,SlM.IG,SlM.MN,Fw,AmC,SlM.mk.injEq]
theorem AeD(q:Int)(s:SlM):(s.Fq.gain q (!s.opn)).last=s.Fq.last/\(s.Fq.gain q (!s.opn)).opn=false/\(s.Fq.gain q (!s.opn)).out=s.out/\(s.Fq.gain q (!s.opn)).bw=s.bw/\(s.Fq.gain q (!s.opn)).cr=if s.opn=true then s.cr else Fw s.cr (FF s.last) (s.cr (FF s.last)+q):=by
 refine⟨?_,?_,?_,?_,?_⟩
 ·unfold SlM.gain;split<;>rfl
 ·unfold SlM.gain;split<;>rfl
 ·unfold SlM.gain;split<;>rfl
 ·unfold SlM.gain;split<;>rfl
 ·by_cases e:s.opn=true
  ·rw[Ab e];unfold SlM.gain;rw[e];rfl
  ·have d:s.opn=false:=by simpa using e
   rw[Aa e];unfold SlM.gain;rw[d]
   show Fw s.cr s.Fq.last (s.cr s.Fq.last+q)=_;have:s.Fq.last=FF s.last:=Aa e;rw[this]
theorem Ad1(q:Int)(r:Nat)(s:SlM)(w:World)(d:PTurn w r q s.last s.opn s.cr)(o:s.last<=16)(p:0<=q/\q<=10000)(m:∀a,0<=s.cr a/\s.cr a<=1000000):Calls prog 104 #[.pointer (some ⟨r,0,none⟩)] w fun e w'=>e=.returned (.tuple #[])/\PTurn w' r q (s.Fq.gain q (!s.opn)).last s.opn (s.Fq.gain q (!s.opn)).cr/\Kept [r] w w':=by
 obtain⟨g1, -, -, -,l⟩:=AeD q s;rw[g1,l]
 by_cases e:s.opn=true
 ·rw[Ab e];have el:s.Fq.last=s.last:=Ab e;rw[el,e];rw[e]at d;refine(Ab2 q r s.last s.cr w d).mono ?_;rintro e w' ⟨rfl,rfl⟩;exact⟨rfl,d,Kept.refl _ w⟩
 ·have h:s.opn=false:=by simpa using e
  rw[Aa e];have el:s.Fq.last=FF s.last:=Aa e;rw[el,h];rw[h]at d;refine(Ab1 q r s.last s.cr w d o p (m _)).mono ?_
  grind
theorem Aiz(d:1<=c)(e:c<=16){x:Int}(l:0<=x)(h:0<bw c):(if x=0 then ((M9 bw:Nat):Int)-1 else ((M9 bw:Nat):Int))=((M9 (Fw bw c x):Nat):Int):=by grind [M9,Fw,Aex]
theorem Kept.sub{a:World}(h:Kept S a b)(d:∀x∈S,x∈S'):Kept S' a b:=h.Fn d
theorem Ah3(q:Int)(r sb ob n:Nat)(wf ft:Nat->Int)(s:SlM)(w:World)(I:VP w r sb ob q wf ft n s.opn s)(hD:Dis r sb ob)(ac:s.Ok n)(hF:FitOk ft s.bw)(ai:CrU s)(b1:1<=q)(bu:q<=10000)(hn:n<=100)(bd:∀a,1<=a->a<=16->0<s.bw a->wf a=(a:Int))(bb:∀a,0<=ft a/\ft a<=10000):
 Calls prog 56 #[.pointer (some ⟨r,0,none⟩),.pointer (some ⟨sb,0,none⟩)] w fun e w'=>e=.returned (.tuple #[])/\VP w' r sb ob q wf ft n (Fu q ft n s).opn (Fu q ft n s)/\Kept [r,sb,ob] w w':=by
 have av:=hid (AkP (q:=q) (fits:=ft) (E4:=n) ac.bw);have ak:=Ad1 q r s w I.t ac.last ⟨by omega,bu⟩ (fun a=>⟨ac.cr a,by have:=ai.1.le a;omega⟩);obtain⟨g1,g2,g3,g4,g5⟩:=AeD q s;obtain⟨c1,c2⟩:=MG ac;have af:=(Xz (E4:=n) (q:=q) (by omega) (!s.opn) (SV ac)).1;have al:(s.Fq.gain q (!s.opn)).cr s.Fq.last<40000:=by
  rw[g5];have h1:=ai.1.le s.Fq.last
  grind [FF,Fw]
 obtain⟨sg,eg⟩:=E7 (s.Fq.gain q (!s.opn));rw[<-eg]at ak g1 g2 g3 g4 af al av;obtain⟨A,eA⟩:=E7 s.Fq.last;rw[<-eA]at g1 c1 c2 al;have az:=hid g1;have bj:=hid g2;have a2:=hid g3;have aq:=hid g4;have au:=hid I;have HD:=hid hD;have HF:=hid hF;have bk:=hid af;have bf:=hid al;have be:Hid (∀a,s.bw a<=1000000):=ai.2;have bn:=hid bd;have bi:=hid bb;have Y:=hD.a;have U:=hD.b;have bq:=hD.c;obtain⟨o,eo⟩:=E7 s.opn;rw[<-eo]at ak au;have a0:(0:Int)<=(A:Int):=by omega
 have a1:(A:Int)<17:=by omega
 clear I ac hF ai g1 g2 g3 g4 g5 af al bd bb eg eA eo hD;go_enter func56,ntmps56;go_upto_region 1 with(go_at_call 104;refine ak.mono ?_;rintro e wb ⟨rfl,a8,aj⟩)
 have ax:VP wb r sb ob q wf ft n o sg:=⟨a8,by rw[aq.out,a2.out];exact FunAt.kept au.out.sl aj (by grind),by rw[a2.out];exact au.out.ow.kept aj (by grind)⟩;have an:Kept [r,sb,ob] w wb:=aj.Fn (by simp);have t1:=ax.t.head.2.1;rw[az.out]at t1;clear a8 aj ak
 go_wp2_with fail
 go_loopg [] (n+1) (fun gg wr=>∃(f:Nat) (d:SlM),VP wr r sb ob q wf ft n o d/\Hid (d.last=A/\d.opn=false/\F8 ft n (n+1) sg=F8 ft n f d/\(∀a,d.bw a<=s.bw a)/\FitOk ft d.bw)/\Hid (d.Ok n)/\n<f+d.out.length/\f<=gg/\d.cr A<40000/\Kept [r,sb,ob] w wr)
 case atStart=>exact⟨n+1,sg,ax,⟨az.out,bj.out,rfl,by rw[aq.out];exact fun a=>Ci _,by rw[aq.out];exact HF.out⟩,bk,by omega,Ac _,bf.out,an⟩
 case round=>
  clear ax an t1;obtain⟨f,d,I,W,ad,hf,b0,bx,hK⟩:=hrel;obtain⟨f',rfl⟩:∃f',f=f'+1:=⟨f-1,by have:=ad.out.out;omega⟩;have bc:=ad.out.out;have bv:=ad.out.cr A;have bo:=ad.out.bw A;have bp:=DG (W.out.2.2.2.1 A) (be.out A);have bt:=bi.out A;obtain⟨br,bs⟩:=bt;have bz:=Aew d.bw;have X:=hid W.out.1;have HW:Hid (0<d.bw A->wf A=(A:Int)):=fun h=>bn.out A c1 c2 (by have:=W.out.2.2.2.1 A;omega)
  have Z:=fun(wz:World) (G:VP wz r sb ob q wf ft n o d)=>ZX sb ob n d.out.length wf d.bw ft (M9 d.bw:Nat) wz G.sl
  have E:=fun(wz:World) (G:VP wz r sb ob q wf ft n o d)=>PL (wf A) (d.bw A) (ft A) q r d.last o d.cr wz G.t (fun h=>by rw[HW.out h];omega)
  have L:Hid (¬(0<d.bw A/\ft A<=d.cr A)->Fu q ft n s=d.IG):=fun h=>by rw[av.out,W.out.2.2.1,Nx (by rw[W.out.1];exact h)]
  have ap:Hid (0<d.bw A/\ft A<=d.cr A->d.out.length=n->Fu q ft n s={d with opn:=true}):=fun h hl=>by
   rw[av.out,W.out.2.2.1,UI (by rw[W.out.1];exact h) hl];unfold SlM.IG;rw[Aa (show ¬({d with opn:=true}:SlM).bw ({d with opn:=true}:SlM).last=0 by show ¬d.bw d.last=0;rw[W.out.1];omega)]
  by_cases H:d.out.length<n
  ·have xl:decide (d.out.length<n)=true:=Ag H
   by_cases G:0<d.bw A
   ·by_cases hy:ft A<=d.cr A
    ·have V:decide (0<d.bw A/\ft A<=d.cr (wf A).toNat)=true:=by rw[HW.out G,AN];exact Ag ⟨G,hy⟩
     rw[V]at E;have ay:=fun(wz:World) (hz2:VP wz r sb ob q wf ft n o d)=>AhO sb ob n d.out.length A wf d.bw ft (M9 d.bw:Nat) _ wz hz2.sl hz2.ow (Na bc) bq c2 H hn ⟨bo,bp⟩ ⟨br,bs⟩ ⟨by omega,by omega⟩
     have eC:=Aiz (bw:=d.bw) c1 c2 (x:=max (d.bw A-ft A) 0) (by omega) G;rw[eC,AfY H]at ay;have ah:d.Ls ft=⟨d.last,d.opn,Fw d.cr A (d.cr A-ft A),Fw d.bw A (max (d.bw A-ft A) 0),d.out++[(A:Int)]⟩:=by unfold SlM.Ls;rw[X.out]
     have ar:Hid ((d.Ls ft).last=A/\(d.Ls ft).opn=false/\F8 ft n (n+1) sg=F8 ft n f' (d.Ls ft)/\(∀a,(d.Ls ft).bw a<=s.bw a)/\FitOk ft (d.Ls ft).bw):=by
      refine⟨X.out,W.out.2.1,?_,fun a=>?_,W.out.2.2.2.2.Ac2 (OT d (by rw[X.out];exact G))⟩
      ·rw[W.out.2.2.1,P3 (by rw[X.out];exact⟨G,hy⟩) (by omega)]
      ·refine DG ?_ (W.out.2.2.2.1 a);rw[ah]
       grind [Fw,Hy,Ja]
     have a3:Hid ((d.Ls ft).Ok n):=AeG ad.out (by rw[X.out];exact hy) H;have bm:Hid (n<f'+(d.Ls ft).out.length):=by
      show _<_
      grind
     have bg:Hid ((d.Ls ft).cr A<40000):=by
      show _<_;rw[ah]
      grind [Fw,Hy]
     have bh:=hid ah;clear V H G hy eC ah
     go_upto_region 4 with(first
      | (go_at_call 55;refine(Z _ I).mono ?_;rintro e wl ⟨rfl,z⟩;have p:=I.below z;have y:=hK.trans (Kept.E5 z);obtain⟨u0,u1,u2⟩:=p.sl.J5 c2)
      | (go_at_call 105;refine(E _ p).mono ?_;rintro e we ⟨rfl,R⟩;have F:=p.below R;have Q:=y.trans (Kept.E5 R);obtain⟨v0,v1,v2⟩:=F.sl.J5 c2)
      | (go_at_call 106;refine(ay _ F).mono ?_;rintro e wg ⟨rfl,a9,a4,a5⟩;have ab:=FunAt.kept F.t a5 (by grind);have a6:=Q.trans (a5.Fn (by simp))))
     have ab:PTurn wg r q A o d.cr:=by rw[<-X.out];exact ab
     have ao:PSlot wg sb wf (Fw d.bw A (max (d.bw A-ft A) 0)) ft (M9 (Fw d.bw A (max (d.bw A-ft A) 0)):Nat) ob n (d.out.length+1):=a9;have k0:=ab.Tr c2;have k1:=FunAt.free ab (1+A);obtain⟨-, -,k2⟩:=ao.J5 c2;have ba:VP (wg.setCell ⟨r,1+A,none⟩ (int i64 (d.cr A-ft A))) r sb ob q wf ft n o (d.Ls ft):=by
      rw[bh.out];refine⟨by show PTurn _ r q d.last o _;rw[X.out];exact ab.Ae2 c2 _,?_,a4.other _ _ U.symm⟩
      grind [PSlot,FunAt.other]
     have a7:Kept [r,sb,ob] w (wg.setCell ⟨r,1+A,none⟩ (int i64 (d.cr A-ft A))):=a6.setCell (by simp) _;have aw:=hid ba;have bl:=hid a7;clear ba a7 ab a9 ao a4 a6 F p I Q y hK ay E Z;go_upto_region 4 with fail
     go_big_region
     go_wp2_with fail
     go_roundg f'
     case measure=>omega
     case rel=>exact⟨f',d.Ls ft,⟨aw.out.t,aw.out.sl,aw.out.ow⟩,ar,a3,bm.out,Ac _,bg.out,bl.out.drew⟩
    ·have V:decide (0<d.bw A/\ft A<=d.cr (wf A).toNat)=false:=by rw[HW.out G,AN];exact Ae fun h=>hy h.2
     rw[V]at E;have u:Hid (Fu q ft n s=d):=by
      show _=_;rw[L.out (fun h=>hy h.2)];unfold SlM.IG;rw[Aa (by rw[X.out];omega)]
     have K:Hid ((Fu q ft n s).opn=false):=by rw[u.out];exact W.out.2.1
     have xz:(d.bw A==0)=false:=DE (by omega);clear V H G hy
     go_upto_region 5 with(first
      | (go_at_call 55;refine(Z _ I).mono ?_;rintro e wl ⟨rfl,z⟩;have p:=I.below z;have y:=hK.trans (Kept.E5 z);obtain⟨u0,u1,u2⟩:=p.sl.J5 c2)
      | (go_at_call 105;refine(E _ p).mono ?_;rintro e we ⟨rfl,R⟩;have F:=p.below R;have Q:=y.trans (Kept.E5 R);obtain⟨v0,v1,v2⟩:=F.sl.J5 c2))
     have l:=F;have C:=Q;clear p F y Q I hK;obtain⟨m0,m1,m2⟩:=l.sl.J5 c2;have B:=E _ l;have M:=hid l;have J:=hid C;clear l C
     go_wp2_with(go_at_call 105;refine B.mono ?_;rintro e am ⟨rfl,D⟩;have m:=M.out.below D;have O:=J.out.trans (Kept.E5 D);have w0:=m.t.head.2.2;have w1:=FunAt.free m.t 19)
     go_end0;refine⟨rfl,?_,O.setCell (by simp) _⟩;rw[K.out,u.out];exact⟨PTurn.UM m.t false,FunAt.other m.sl _ _ Y.symm,m.ow.other _ _ U.symm⟩
   ·have V:decide (0<d.bw A/\ft A<=d.cr (wf A).toNat)=false:=Ae fun h=>G h.1
    rw[V]at E;have aa:d.bw A=0:=by omega
    have u:Hid (Fu q ft n s=d.MN):=by
     show _=_;rw[L.out (fun h=>G h.1)];unfold SlM.IG;rw[Ab (by rw[X.out];exact aa)]
    have K:Hid ((Fu q ft n s).opn=false):=by rw[u.out];exact W.out.2.1
    have xz:(d.bw A==0)=true:=by rw[aa];rfl
    clear V H G aa
    go_upto_region 5 with(first
     | (go_at_call 55;refine(Z _ I).mono ?_;rintro e wl ⟨rfl,z⟩;have p:=I.below z;have y:=hK.trans (Kept.E5 z);obtain⟨u0,u1,u2⟩:=p.sl.J5 c2)
     | (go_at_call 105;refine(E _ p).mono ?_;rintro e we ⟨rfl,R⟩;have F:=p.below R;have Q:=y.trans (Kept.E5 R);obtain⟨v0,v1,v2⟩:=F.sl.J5 c2))
    have l:=F;have C:=Q;clear p F y Q I hK;have k0:=l.t.Tr c2;have k1:=FunAt.free l.t (1+A);obtain⟨m0,m1,m2⟩:=l.sl.J5 c2;have P:VP (we.setCell ⟨r,1+A,none⟩ (int i64 0)) r sb ob q wf ft n o d.MN:=⟨by show PTurn _ r q d.last o (Fw d.cr d.last 0);rw[X.out];have:=l.t.Ae2 c2 0;rw[X.out]at this;exact this,FunAt.other l.sl _ _ Y.symm,l.ow.other _ _ U.symm⟩;have ae:Kept [r,sb,ob] w (we.setCell ⟨r,1+A,none⟩ (int i64 0)):=C.setCell (by simp) _;obtain⟨n0,n1,n2⟩:=P.sl.J5 c2;have n0:(we.setCell ⟨r,1+A,none⟩ (int i64 0)).cell? ⟨sb,A*3,none⟩=some (int i64 (wf A)):=n0;have n1:(we.setCell ⟨r,1+A,none⟩ (int i64 0)).cell? ⟨sb,A*3+1,none⟩=some (int i64 (d.bw A)):=n1;have B:=PL (wf A) (d.bw A) (ft A) q r d.MN.last o d.MN.cr _ P.t (fun h=>by rw[HW.out h];omega);have ag:decide (0<d.bw A/\ft A<=d.MN.cr (wf A).toNat)=false:=by grind
    rw[ag]at B;clear ag;have M:=hid P;have J:=hid ae;clear l C P ae
    go_wp2_with(go_at_call 105;refine B.mono ?_;rintro e am ⟨rfl,D⟩;have m:=M.out.below D;have O:=J.out.trans (Kept.E5 D);have w0:=m.t.head.2.2;have w1:=FunAt.free m.t 19)
    go_end0;refine⟨rfl,?_,O.setCell (by simp) _⟩;rw[K.out,u.out];exact⟨PTurn.UM m.t false,FunAt.other m.sl _ _ Y.symm,m.ow.other _ _ U.symm⟩
  ·have xl:decide (d.out.length<n)=false:=Ae H
   by_cases G:0<d.bw A
   ·by_cases hy:ft A<=d.cr A
    ·have V:decide (0<d.bw A/\ft A<=d.cr (wf A).toNat)=true:=by rw[HW.out G,AN];exact Ag ⟨G,hy⟩
     rw[V]at E;have u:Hid (Fu q ft n s={d with opn:=true}):=ap.out ⟨G,hy⟩ (by omega);have K:Hid ((Fu q ft n s).opn=true):=by show(Fu q ft n s).opn=true;rw[u.out]
     have xz:(d.bw A==0)=false:=DE (by omega);clear V H G hy;go_upto_region 5 with(go_at_call 55;refine(Z _ I).mono ?_;rintro e wl ⟨rfl,z⟩;have p:=I.below z;have y:=hK.trans (Kept.E5 z);obtain⟨u0,u1,u2⟩:=p.sl.J5 c2)
     have l:=p;have C:=y;clear p y I hK;obtain⟨m0,m1,m2⟩:=l.sl.J5 c2;have B:=E _ l;have M:=hid l;have J:=hid C;clear l C
     go_wp2_with(go_at_call 105;refine B.mono ?_;rintro e am ⟨rfl,D⟩;have m:=M.out.below D;have O:=J.out.trans (Kept.E5 D);have w0:=m.t.head.2.2;have w1:=FunAt.free m.t 19)
     go_end0;refine⟨rfl,?_,O.setCell (by simp) _⟩;rw[K.out,u.out];exact⟨PTurn.UM m.t true,FunAt.other m.sl _ _ Y.symm,m.ow.other _ _ U.symm⟩
    ·have V:decide (0<d.bw A/\ft A<=d.cr (wf A).toNat)=false:=by rw[HW.out G,AN];exact Ae fun h=>hy h.2
     rw[V]at E;have u:Hid (Fu q ft n s=d):=by
      show _=_;rw[L.out (fun h=>hy h.2)];unfold SlM.IG;rw[Aa (by rw[X.out];omega)]
     have K:Hid ((Fu q ft n s).opn=false):=by rw[u.out];exact W.out.2.1
     have xz:(d.bw A==0)=false:=DE (by omega);clear V H G hy;go_upto_region 5 with(go_at_call 55;refine(Z _ I).mono ?_;rintro e wl ⟨rfl,z⟩;have p:=I.below z;have y:=hK.trans (Kept.E5 z);obtain⟨u0,u1,u2⟩:=p.sl.J5 c2)
     have l:=p;have C:=y;clear p y I hK;obtain⟨m0,m1,m2⟩:=l.sl.J5 c2;have B:=E _ l;have M:=hid l;have J:=hid C;clear l C
     go_wp2_with(go_at_call 105;refine B.mono ?_;rintro e am ⟨rfl,D⟩;have m:=M.out.below D;have O:=J.out.trans (Kept.E5 D);have w0:=m.t.head.2.2;have w1:=FunAt.free m.t 19)
     go_end0;refine⟨rfl,?_,O.setCell (by simp) _⟩;rw[K.out,u.out];exact⟨PTurn.UM m.t false,FunAt.other m.sl _ _ Y.symm,m.ow.other _ _ U.symm⟩
   ·have V:decide (0<d.bw A/\ft A<=d.cr (wf A).toNat)=false:=Ae fun h=>G h.1
    rw[V]at E;have aa:d.bw A=0:=by omega
    have u:Hid (Fu q ft n s=d.MN):=by
     show _=_;rw[L.out (fun h=>G h.1)];unfold SlM.IG;rw[Ab (by rw[X.out];exact aa)]
    have K:Hid ((Fu q ft n s).opn=false):=by rw[u.out];exact W.out.2.1
    have xz:(d.bw A==0)=true:=by rw[aa];rfl
    clear V H G aa;go_upto_region 5 with(go_at_call 55;refine(Z _ I).mono ?_;rintro e wl ⟨rfl,z⟩;have p:=I.below z;have y:=hK.trans (Kept.E5 z);obtain⟨u0,u1,u2⟩:=p.sl.J5 c2)
    have l:=p;have C:=y;clear p y I hK;have k0:=l.t.Tr c2;have k1:=FunAt.free l.t (1+A);obtain⟨m0,m1,m2⟩:=l.sl.J5 c2;have P:VP (wl.setCell ⟨r,1+A,none⟩ (int i64 0)) r sb ob q wf ft n o d.MN:=⟨by show PTurn _ r q d.last o (Fw d.cr d.last 0);rw[X.out];have:=l.t.Ae2 c2 0;rw[X.out]at this;exact this,FunAt.other l.sl _ _ Y.symm,l.ow.other _ _ U.symm⟩;have ae:Kept [r,sb,ob] w (wl.setCell ⟨r,1+A,none⟩ (int i64 0)):=C.setCell (by simp) _;obtain⟨n0,n1,n2⟩:=P.sl.J5 c2;have n0:(wl.setCell ⟨r,1+A,none⟩ (int i64 0)).cell? ⟨sb,A*3,none⟩=some (int i64 (wf A)):=n0;have n1:(wl.setCell ⟨r,1+A,none⟩ (int i64 0)).cell? ⟨sb,A*3+1,none⟩=some (int i64 (d.bw A)):=n1;have B:=PL (wf A) (d.bw A) (ft A) q r d.MN.last o d.MN.cr _ P.t (fun h=>by rw[HW.out h];omega);have ag:decide (0<d.bw A/\ft A<=d.MN.cr (wf A).toNat)=false:=by grind
    rw[ag]at B;clear ag;have M:=hid P;have J:=hid ae;clear l C P ae
    go_wp2_with(go_at_call 105;refine B.mono ?_;rintro e am ⟨rfl,D⟩;have m:=M.out.below D;have O:=J.out.trans (Kept.E5 D);have w0:=m.t.head.2.2;have w1:=FunAt.free m.t 19)
    go_end0;refine⟨rfl,?_,O.setCell (by simp) _⟩;rw[K.out,u.out];exact⟨PTurn.UM m.t false,FunAt.other m.sl _ _ Y.symm,m.ow.other _ _ U.symm⟩
theorem Kept.new{a c:World}(h:Kept S a b)(k:Kept S' b c)(l:∀x∈S',x∈S\/a.heap.size<=x):Kept S a c:=
 ⟨k.os.trans h.os,k.tape.trans h.tape,k.output.trans h.output,Ak h.size k.size,fun i hi d=>(k.block i (AI hi h.size) (fun e=>(l i e).elim d (fun e2=>by omega))).trans (h.block i hi d)⟩
theorem Ale{l:List UsM}(h:OkU l)(a:Nat):0<=byF UsM.fit l a/\byF UsM.fit l a<=10000:=by
 by_cases d:∃i,i<l.length/\(l.getD i .zero).who=(a:Int)
 ·obtain⟨i,hi,e⟩:=d;have m:=Ab6 (f:=UsM.fit) h hi;rw[e,AN]at m;rw[m];have:=(h.at hi).2.2;omega
 ·rw[Qo fun i hi e=>d ⟨i,hi,e⟩];omega
theorem Alf{l:List UsM}(h:OkU l)(e:Only l bw)(d:0<bw a):byF UsM.who l a=(a:Int):=by grind [OkU,Only,byF]
theorem Ag9(l:List UsM)(E4:Int)(o c:Nat)(a:Option Addr)(r:Value)(w:World)(t:Usr w a l)(m:l.length=o)(u:o<=maxLen)(d:¬Mx l E4):
 Calls prog 29 #[r,.slice a o c,int i64 E4] w fun e w'=>e=.returned (.tuple #[.slice none 0 0,int i64 1])/\Below w.heap.size w w':=by
 have s:Calls prog 53 #[.slice a o c,int i64 E4] w fun e w'=>e=.returned (int i64 1)/\Below w.heap.size w w':=(VT l E4 o c a w t m u).mono fun e w' h=>⟨h.1.elim (fun x=>absurd x.1 d) (fun x=>x.2),h.2⟩
 clear t m u d;go_enter func29,ntmps29
 go_wp2_with(go_at_call 53;refine s.mono ?_;rintro e w1 ⟨rfl,p⟩)
 go_ret2;exact⟨rfl,p⟩
theorem Ads(l:List UsM)(E4 nl c r last:Nat)(opn:Bool)(cr:Nat->Int)(q:Int)(a:Option Addr)(w:World)(A:E4<=100)(hU:Usr w a l)(E:l.length=nl)(K:OkU l)(hT:PTurn w r q last opn cr)(J:1<=q)(ae:q<=10000)(Y:∀a,0<=cr a)(B:CrB (UO l last opn cr))(aa:last<=16)(ad:opn=true->1<=last):
 Calls prog 29 #[.pointer (some ⟨r,0,none⟩),.slice a nl c,int i64 (E4:Int)] w fun e w'=>∃go,e=.returned (.tuple #[.slice (some ⟨go,0,none⟩) E4 E4,int i64 0])/\ArrAt i64 3 w' go (MJ (J3 q (byF UsM.fit l) E4 (UO l last opn cr)).out E4)/\PTurn w' r q (J3 q (byF UsM.fit l) E4 (UO l last opn cr)).last (J3 q (byF UsM.fit l) E4 (UO l last opn cr)).opn (J3 q (byF UsM.fit l) E4 (UO l last opn cr)).cr/\w.heap.size<=go/\Kept [r] w w':=by
 have R:=AlS K;rw[E]at R;have Z:Calls prog 53 #[.slice a nl c,int i64 (E4:Int)] w fun e w'=>e=.returned (int i64 0)/\Below w.heap.size w w':=(VT l E4 nl c a w hU E (by unfold maxLen;omega)).mono fun e w' h=>⟨h.1.elim (fun x=>x.2) (fun x=>absurd ⟨⟨by omega,by omega⟩,K⟩ x.1),h.2⟩
 have ab:=fun(wz:World) (hz:Below w.heap.size w wz)=>AgH l E4 nl c a wz (hU.below hz) E K R A
 obtain⟨s0,C⟩:=E7 (UO l last opn cr);have af:s0.Ok E4:=by rw[C];exact⟨aa,ad,Y,fun a=>(Ab7 K a).1,Af _⟩
 have G:=hid C;have O:=hid af;have HO:=hid K;have HT:=hid hT;have ah:=hid B;have aw:=FunAt.lt hT;rw[<-C];clear hU E hT aa ad Y B C K af;go_enter func29,ntmps29
 go_wp2_with(first
  | (go_at_call 53;refine Z.mono ?_;rintro e w1 ⟨rfl,u⟩)
  | (go_at_call 54;refine(ab _ u).mono ?_;rintro e w2 ⟨sb,ob,rfl,D,am,aq,ag,ac,W⟩))
 have H:Below w.heap.size w w2:=u.trans (W.mono u.size);have au:w.heap.size<=sb:=Ak u.size ag;have F:w.heap.size<=ob:=Ak u.size ac;have hD:Dis r sb ob:=⟨by omega,by omega,aq⟩;have V:VP w2 r sb ob q (byF UsM.who l) (byF UsM.fit l) E4 s0.opn s0:=by
  rw[G.out];refine⟨FunAt.below HT.out H,?_,?_⟩
  ·unfold YM at D;rw[Et]at D;exact D
  ·show ArrAt i64 3 w2 ob (MJ [] E4)
   grind [MJ]
 have U:Kept [r] w w2:=Kept.E5 H;clear Z ab u W D am ag ac H
 go_loopg [] (s0.mu E4) (fun gg wr=>∃s:SlM,VP wr r sb ob q (byF UsM.who l) (byF UsM.fit l) E4 s.opn s/\Hid (J3 q (byF UsM.fit l) E4 s0=J3 q (byF UsM.fit l) E4 s/\Only l s.bw)/\Hid (s.Ok E4)/\Hid (CrU s)/\s.mu E4<=gg/\Kept [r] w wr)
 case atStart=>exact⟨s0,V,⟨rfl,by rw[G.out];exact Only.SF l⟩,O,(show Hid _ from by rw[G.out];exact⟨ah.out,fun a=>(Ab7 HO.out a).2⟩),Ac _,U⟩
 case round=>
  clear V U;obtain⟨s,L,p,y,HC,av,hK⟩:=hrel;have I:=fun(wz:World) (hz:VP wz r sb ob q (byF UsM.who l) (byF UsM.fit l) E4 s.opn s)=>ZX sb ob E4 s.out.length (byF UsM.who l) s.bw (byF UsM.fit l) (M9 s.bw:Nat) wz hz.sl
  have X:=Alk s.bw;have B:decide (0<M9 s.bw)=Pc s.bw:=by grind
  by_cases o:s.out.length<E4
  ·have xl:decide (s.out.length<E4)=true:=Ag o
   cases M:Pc s.bw with
   | false=>
    rw[M]at X B;have Q:Hid (J3 q (byF UsM.fit l) E4 s0=s):=by
     show _=_;rw[p.out.1];exact RH (fun h=>by grind)
    clear M o
    go_wp2_with(go_at_call 55;refine(I _ L).mono ?_;rintro e wl ⟨rfl,m⟩;have d:=L.below m;have z:=hK.trans (Kept.E5 m);obtain⟨c0,c1,c2⟩:=d.sl.KX)
    go_ret2;exact⟨ob,rfl,by rw[Q.out];exact d.ow,by rw[Q.out];exact d.t,F,z⟩
   | true=>
    rw[M]at X B;have hF:=Anc HO.out p.out.2;have ar:=fun(wz:World) (hz:VP wz r sb ob q (byF UsM.who l) (byF UsM.fit l) E4 s.opn s)=>Ah3 q r sb ob E4 (byF UsM.who l) (byF UsM.fit l) s wz hz hD y.out hF HC.out J ae A (fun a _ _ h=>Alf HO.out p.out.2 h) (Ale HO.out)
    have al:Hid (J3 q (byF UsM.fit l) E4 s0=J3 q (byF UsM.fit l) E4 (Fu q (byF UsM.fit l) E4 s)):=by
     show _=_;rw[p.out.1];exact WC J hF y.out ⟨o,M⟩
    have ai:=hid (Rf J hF y.out o M);have P:=hid (OF (q:=q) (by omega) hF y.out);have ak:Hid (CrU (Fu q (byF UsM.fit l) E4 s)):=⟨HC.out.1.Afa ⟨by omega,ae⟩ y.out hF,fun a=>DG (AkR hF a) (HC.out.2 a)⟩;have aj:=hid p.out.2;clear M o hF
    go_wp2_with(first
     | (go_at_call 55;refine(I _ L).mono ?_;rintro e wl ⟨rfl,m⟩;have d:=L.below m;have z:=hK.trans (Kept.E5 m);obtain⟨c0,c1,c2⟩:=d.sl.KX)
     | (go_at_call 56;refine(ar _ d).mono ?_;rintro e wv ⟨rfl,ap,an⟩;have ao:=z.new an (by grind)))
    go_roundg ((Fu q (byF UsM.fit l) E4 s).mu E4)
    case measure=>have:=ai.out;omega
    case rel=>exact⟨_,ap,⟨al.out,aj.out.Afa P.out⟩,P,ak,Ac _,ao⟩
  ·have xl:decide (s.out.length<E4)=false:=Ae o;have Q:Hid (J3 q (byF UsM.fit l) E4 s0=s):=by
    show _=_;rw[p.out.1];exact RH (fun h=>o h.1)
   clear o
   go_wp2_with(go_at_call 55;refine(I _ L).mono ?_;rintro e wl ⟨rfl,m⟩;have d:=L.below m;have z:=hK.trans (Kept.E5 m);obtain⟨c0,c1,c2⟩:=d.sl.KX)
   go_ret2;exact⟨ob,rfl,by rw[Q.out];exact d.ow,by rw[Q.out];exact d.t,F,z⟩
end Go.Proofs.YtbjgfoiikhbonahGreatDoor
