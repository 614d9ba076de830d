import Derived.Test.YtbjgfoiikhbonahGreatDoorA02
import Derived.BigRegion
import Derived.Deep.LoopGhost
set_option linter.unusedVariables false
set_option linter.unusedSimpArgs false
set_option maxRecDepth 100000
set_option maxHeartbeats 4000000
namespace Go.Proofs.YtbjgfoiikhbonahGreatDoor
open Go.ChangeShapes Go.WideShapes Go.ChangeAt Go.RowKit Go.Proofs.Tryz
open Value renaming int->C
open Option renaming none->D,some->E
open Bool renaming true->G,false->H
open IntKind renaming i64->J
variable {E4 N a g i j last n ob r sb:Nat}{T:TypeId}{bw cr fits ft wf:Nat->Int}{f f':Nat->Value}{opn:Bool}{out:List Int}{q wt:Int}{v:Value}{w w':World}
def Fw (f:Nat->Int)(a:Nat)(x:Int):Nat->Int:=fun b=>if b=a then x else f b
theorem Hy(f:Nat->Int)(a:Nat)(x:Int):Fw f a x a=x:=Ab rfl
theorem Ja(f:Nat->Int){b:Nat}(x:Int)(h:b≠a):Fw f a x b=f b:=Aa h
structure SlM where
 last:Nat
 opn:Bool
 cr:Nat->Int
 bw:Nat->Int
 out:List Int
def SlM.Ls(fits:Nat->Int)(s:SlM):SlM:=⟨s.last,s.opn,Fw s.cr s.last (s.cr s.last-fits s.last),Fw s.bw s.last (max (s.bw s.last-fits s.last) 0),s.out++[(s.last:Int)]⟩
def F8 (fits:Nat->Int)(E4:Nat):Nat->SlM->SlM
 | 0,s=>s
 | f+1,s=>if 0<s.bw s.last/\fits s.last<=s.cr s.last then (if s.out.length=E4 then {s with opn:=G} else F8 fits E4 f (s.Ls fits)) else s
def FF (last:Nat):Nat:=if 16<last+1 then 1 else last+1
def SlM.Fq(s:SlM):SlM:=⟨if s.opn=G then s.last else FF s.last,H,s.cr,s.bw,s.out⟩
def SlM.gain(q:Int)(gains:Bool)(s:SlM):SlM:=if gains=G then {s with cr:=Fw s.cr s.last (s.cr s.last+q)} else s
def SlM.MN(s:SlM):SlM:={s with cr:=Fw s.cr s.last 0}
def SlM.IG(s:SlM):SlM:=if s.bw s.last=0 then s.MN else s
def Fu (q:Int)(fits:Nat->Int)(E4:Nat)(s:SlM):SlM:=if 0<s.Fq.bw s.Fq.last then (F8 fits E4 (E4+1) (s.Fq.gain q (!s.opn))).IG else s.Fq.MN
def Pc (bw:Nat->Int):Bool:=(List.range 16).any fun a=>decide (0<bw (a+1))
def GB (bw:Nat->Int):Nat:=(((List.range 16).find? fun a=>decide (0<bw (a+1))).getD 0)+1
theorem Zz(h:Pc bw=G):1<=GB bw/\GB bw<=16/\0<bw (GB bw):=by
 unfold Pc at h;unfold GB
 cases b:(List.range 16).find? fun a=>decide (0<bw (a+1))with
 | none=>
  grind
 | some a=>
  grind
def PB (last a:Nat):Nat:=if last<a then a-last else a+16-last
def SlM.mu(E4:Nat)(s:SlM):Nat:=(E4-s.out.length)*400000+(10000-s.cr (GB s.bw)).toNat*17+(if s.opn=G then 17 else PB s.last (GB s.bw))
structure SlM.Ok(E4:Nat)(s:SlM):Prop where
 last:s.last<=16
 opn:s.opn=G->1<=s.last
 cr:∀a,0<=s.cr a
 bw:∀a,0<=s.bw a
 out:s.out.length<=E4
structure FitOk(fits bw:Nat->Int):Prop where
 pos:∀a,0<bw a->1<=fits a/\fits a<=10000
theorem FitOk.Ac2{b:Nat->Int}(h:FitOk fits bw)(d:∀a,0<b a->0<bw a):FitOk fits b:=⟨fun a c=>h.pos a (d a c)⟩
theorem AeG{s:SlM}(h:s.Ok E4)(b:fits s.last<=s.cr s.last)(c:s.out.length<E4):(s.Ls fits).Ok E4:=by
 refine⟨h.last,h.opn,fun a=>?_,fun a=>?_,?_⟩
 ·show 0<=Fw s.cr s.last (s.cr s.last-fits s.last) a
  by_cases e:a=s.last
  ·rw[e,Hy];omega
  ·rw[Ja _ _ e];exact h.cr a
 ·show 0<=Fw s.bw s.last (max (s.bw s.last-fits s.last) 0) a
  by_cases e:a=s.last
  ·rw[e,Hy];omega
  ·rw[Ja _ _ e];exact h.bw a
 ·show(s.out++[(s.last:Int)]).length<=E4;simp;omega
theorem UJ(fits:Nat->Int)(E4:Nat):∀(f:Nat) (s:SlM),s.Ok E4->FitOk fits s.bw->(F8 fits E4 f s).last=s.last/\(F8 fits E4 f s).Ok (E4)\/s.last=0
 | 0,s,h,_=> .inl ⟨rfl,h⟩
 | f+1,s,h,hf=>by
  by_cases l:s.last=0
  ·exact .inr l
  ·left;unfold F8
   by_cases d:0<s.bw s.last/\fits s.last<=s.cr s.last
   ·rw[Ab d]
    by_cases m:s.out.length=E4
    ·rw[Ab m];exact⟨rfl,h.last,fun _=>by show 1<=s.last;omega,h.cr,h.bw,h.out⟩
    ·rw[Aa m];have p:=h.out;have k:FitOk fits (s.Ls fits).bw:=hf.Ac2 fun a o=>by
      have c:0<Fw s.bw s.last (max (s.bw s.last-fits s.last) 0) a:=o
      by_cases e:a=s.last
      ·rw[e];exact d.1
      ·rwa [Ja _ _ e]at c
     rcases UJ fits E4 f (s.Ls fits) (AeG h d.2 (by omega)) k with b | b
     ·exact b
     ·exact absurd b l
   grind
theorem Ww(fits:Nat->Int)(E4:Nat):∀(f:Nat) (s:SlM),s.out.length<=(F8 fits E4 f s).out.length
 | 0,s=>Ac _
 | f+1,s=>by
  unfold F8
  split
  ·split
   ·exact Ac _
   ·refine Ak ?_ (Ww fits E4 f (s.Ls fits))
    show s.out.length<=(s.out++[(s.last:Int)]).length;simp
  ·exact Ac _
theorem Nx{f:Nat}{s:SlM}(h:¬(0<s.bw s.last/\fits s.last<=s.cr s.last)):F8 fits E4 f s=s:=by
 cases f with
 | zero=>rfl
 | succ f=>unfold F8;rw[Aa h]
theorem UI{f:Nat}{s:SlM}(h:0<s.bw s.last/\fits s.last<=s.cr s.last)(b:s.out.length=E4):F8 fits E4 (f+1) s={s with opn:=G}:=by
 unfold F8;rw[Ab h,Ab b]
theorem P3{f:Nat}{s:SlM}(h:0<s.bw s.last/\fits s.last<=s.cr s.last)(b:s.out.length≠E4):F8 fits E4 (f+1) s=F8 fits E4 f (s.Ls fits):=by
 rw[F8,Ab h,Aa b]
theorem AdM{f:Nat}{s:SlM}(h:0<s.bw s.last/\fits s.last<=s.cr s.last)(b:s.out.length<E4):s.out.length+1<=(F8 fits E4 (f+1) s).out.length:=by
 rw[P3 h (by omega)];refine Ak ?_ (Ww fits E4 f (s.Ls fits))
 show s.out.length+1<=(s.out++[(s.last:Int)]).length;simp
theorem T8(h:last<=16):1<=FF last/\FF last<=16:=by unfold FF;split<;>omega
theorem MG{s:SlM}(h:s.Ok E4):1<=s.Fq.last/\s.Fq.last<=16:=by
 show 1<=(if s.opn=G then s.last else FF s.last)/\(if s.opn=G then s.last else FF s.last)<=16
 by_cases e:s.opn=G
 ·rw[Ab e];exact⟨h.opn e,h.last⟩
 ·rw[Aa e];exact T8 h.last
theorem SV{s:SlM}(h:s.Ok E4):s.Fq.Ok E4:=⟨(MG h).2,fun e=>(by cases e),h.cr,h.bw,h.out⟩
theorem Xz{s:SlM}(b:0<=q)(g:Bool)(h:s.Ok E4):(s.gain q g).Ok E4/\(s.gain q g).last=s.last/\(s.gain q g).bw=s.bw/\(s.gain q g).out=s.out/\(s.gain q g).opn=s.opn:=by
 unfold SlM.gain
 by_cases e:g=G
 ·rw[Ab e];refine⟨⟨h.last,h.opn,fun a=>?_,h.bw,h.out⟩,rfl,rfl,rfl,rfl⟩
  show 0<=Fw s.cr s.last (s.cr s.last+q) a;have:=h.cr s.last
  by_cases e:a=s.last
  ·rw[e,Hy];omega
  ·rw[Ja _ _ e];exact h.cr a
 grind
theorem AeR{s:SlM}(h:s.Ok E4):s.MN.Ok E4:=by
 refine⟨h.last,h.opn,fun a=>?_,h.bw,h.out⟩
 show 0<=Fw s.cr s.last 0 a
 by_cases e:a=s.last
 ·rw[e,Hy];omega
 ·rw[Ja _ _ e];exact h.cr a
theorem Ajf{s:SlM}(h:s.Ok E4):s.IG.Ok E4:=by
 unfold SlM.IG
 split
 ·exact AeR h
 ·exact h
theorem OF{s:SlM}(k:0<=q)(e:FitOk fits s.bw)(h:s.Ok E4):(Fu q fits E4 s).Ok E4:=by
 unfold Fu
 split
 ·obtain⟨b,c,d,_,_⟩:=Xz k (!s.opn) (SV h);refine Ajf ?_
  rcases UJ fits E4 (E4+1) _ b (by rw[d];exact e)with h4 | h4
  ·exact h4.2
  ·rw[c]at h4;have:=(MG h).1;omega
 ·exact AeR (SV h)
theorem Af3(bw:Nat->Int):1<=GB bw/\GB bw<=16:=by
 unfold GB
 cases b:(List.range 16).find? fun a=>decide (0<bw (a+1))with
 | none=>simp
 | some a=>
  grind
theorem AoJ{s:SlM}(h:s.Ok E4):s.mu E4<=(E4-s.out.length)*400000+170032:=by
 unfold SlM.mu;have b:=h.cr (GB s.bw);have c:=Af3 s.bw;have d:(10000-s.cr (GB s.bw)).toNat<=10000:=by omega
 have e:(if s.opn=G then 17 else PB s.last (GB s.bw))<=32:=by
  split
  ·omega
  ·unfold PB;split<;>omega
 omega
theorem AkT(d:last<=16)(c:1<=a/\a<=16)(b:FF last≠a):PB (FF last) a+1=PB last a:=by grind [FF,PB]
theorem Apf(c:last<=16)(b:1<=a/\a<=16):1<=PB last a:=by unfold PB;split<;>omega
theorem WT(c:1<=last)(b:1<=a/\a<=16):PB last a<=16:=by unfold PB;split<;>omega
theorem Rf{s:SlM}(hq:1<=q)(hf:FitOk fits s.bw)(h:s.Ok E4)(ho:s.out.length<E4)(hw:Pc s.bw=G):(Fu q fits E4 s).mu E4<s.mu E4:=by
 obtain⟨m,x,S⟩:=Zz hw;obtain⟨c1,c2⟩:=MG h;have L:=OF (E4:=E4) (by omega:0<=q) hf h;have other:∀d:SlM,d.last=s.Fq.last->d.opn=H->d.bw=s.bw->d.out=s.out->s.Fq.last≠GB s.bw->d.cr (GB s.bw)=s.cr (GB s.bw)->d.mu E4<s.mu E4:=by
  intro d e1 e2 e3 y k e5;unfold SlM.mu;rw[e1,e2,e3,y,e5,Aa (by decide)]
  by_cases b:s.opn=G
  ·rw[Ab b];have:=WT (a:=GB s.bw) c1 ⟨m,x⟩;omega
  ·rw[Aa b];have hl:s.Fq.last=FF s.last:=Aa b;rw[hl]at k ⊢;have:=AkT h.last ⟨m,x⟩ k;omega
 by_cases z:0<s.Fq.bw s.Fq.last
 ·have l:Fu q fits E4 s=(F8 fits E4 (E4+1) (s.Fq.gain q (!s.opn))).IG:=Ab z;obtain⟨g1,g2,o,p,Z⟩:=Xz (E4:=E4) (by omega:0<=q) (!s.opn) (SV h)
  by_cases u:0<(s.Fq.gain q (!s.opn)).bw (s.Fq.gain q (!s.opn)).last/\fits (s.Fq.gain q (!s.opn)).last<=(s.Fq.gain q (!s.opn)).cr (s.Fq.gain q (!s.opn)).last
  ·have hm:=AdM (f:=E4) u (by rw[p];exact ho);have B:∀t:SlM,t.IG.out=t.out:=fun t=>by unfold SlM.IG;split<;>rfl
   have h1:=AoJ L;have h2:s.out.length+1<=(Fu q fits E4 s).out.length:=by
    rw[l,B];rw[p]at hm;exact hm
   have h3:(E4-s.out.length)*400000<=s.mu E4:=by unfold SlM.mu;omega
   omega
  ·rw[Nx u]at l;have A:¬(s.Fq.gain q (!s.opn)).bw (s.Fq.gain q (!s.opn)).last=0:=by
    rw[g2,o];omega
   have I:Fu q fits E4 s=s.Fq.gain q (!s.opn):=by
    rw[l];unfold SlM.IG;rw[Aa A]
   rw[I]
   by_cases c:s.Fq.last=GB s.bw
   ·have aa:=hf.pos (GB s.bw) S;rw[g2,o]at u;unfold SlM.mu;rw[g2,o,p,Z];have Y:s.Fq.bw=s.bw:=rfl;have e1:s.Fq.out=s.out:=rfl;have e2:s.Fq.opn=H:=rfl;rw[Y,e1,e2,Aa (by decide)];rw[c,Y]at u;rw[c];have ab:=WT (last:=GB s.bw) (a:=GB s.bw) m ⟨m,x⟩
    by_cases b:s.opn=G
    ·have e3:s.Fq.gain q (!s.opn)=s.Fq:=by unfold SlM.gain;rw[b];rfl
     rw[e3,Ab b];have y:s.Fq.cr=s.cr:=rfl;rw[y];omega
    ·have F:s.opn=H:=by simpa using b
     have e3:(s.Fq.gain q (!s.opn)).cr (GB s.bw)=s.cr (GB s.bw)+q:=by
      unfold SlM.gain;rw[F]
      show Fw s.Fq.cr s.Fq.last (s.Fq.cr s.Fq.last+q) (GB s.bw)=_;rw[<-c,Hy];rfl
     grind
   ·refine other _ g2 Z (by rw[o];rfl) (by rw[p];rfl) c ?_;unfold SlM.gain
    split
    ·exact Ja _ _ (fun e=>c e.symm)
    ·rfl
 ·have l:Fu q fits E4 s=s.Fq.MN:=Aa z;have c:s.Fq.last≠GB s.bw:=fun e=>z (by rw[e];exact S)
  rw[l];refine other _ rfl rfl rfl rfl c ?_;exact Ja _ _ (fun e=>c e.symm)
def Q0 (q:Int)(fits:Nat->Int)(E4:Nat):Nat->SlM->SlM
 | 0,s=>s
 | f+1,s=>if s.out.length<E4/\Pc s.bw=G then Q0 q fits E4 f (Fu q fits E4 s) else s
theorem OT(s:SlM)(d:0<s.bw s.last):∀a,0<(s.Ls fits).bw a->0<s.bw a:=fun a c=>by
 have b:0<Fw s.bw s.last (max (s.bw s.last-fits s.last) 0) a:=c
 by_cases e:a=s.last
 ·rw[e];exact d
 ·rwa [Ja _ _ e]at b
theorem AdL(fits:Nat->Int)(E4:Nat):∀(f:Nat) (s:SlM) (a:Nat),0<(F8 fits E4 f s).bw a->0<s.bw a:=by intro a;induction a<;>grind [F8,OT]
theorem NA{s:SlM}(a:Nat)(h:0<(Fu q fits E4 s).bw a):0<s.bw a:=by
 unfold Fu at h
 split at h
 ·have c:∀t:SlM,t.IG.bw=t.bw:=fun t=>by unfold SlM.IG;split<;>rfl
  rw[c]at h;have b:=AdL fits E4 _ _ a h;have hg:(s.Fq.gain q (!s.opn)).bw=s.bw:=by unfold SlM.gain;split<;>rfl
  rwa [hg]at b
 ·exact h
theorem Akb(l:1<=q):∀(m:Nat) (s:SlM),s.mu E4<=m->s.Ok E4->FitOk fits s.bw->∀f f',s.mu E4<f->s.mu E4<f'->Q0 q fits E4 f s=Q0 q fits E4 f' s:=by
 intro m
 induction m using Nat.strongRecOn with
 | ind m ih=>
  intro s o h d f f' k e;obtain⟨g,rfl⟩:∃g,f=g+1:=⟨f-1,by omega⟩;obtain⟨c,rfl⟩:∃c,f'=c+1:=⟨f'-1,by omega⟩
  show(if s.out.length<E4/\Pc s.bw=G then _ else s)=(if s.out.length<E4/\Pc s.bw=G then _ else s)
  by_cases b:s.out.length<E4/\Pc s.bw=G
  ·rw[Ab b,Ab b];have hd:=Rf l d h b.1 b.2;exact ih _ (by omega) (Fu q fits E4 s) (Ac _) (OF (by omega) d h) (d.Ac2 NA) g c (by omega) (by omega)
  ·rw[Aa b,Aa b]
def J3 (q:Int)(fits:Nat->Int)(E4:Nat)(s:SlM):SlM:=Q0 q fits E4 (s.mu E4+1) s
theorem RH{s:SlM}(b:¬(s.out.length<E4/\Pc s.bw=G)):J3 q fits E4 s=s:=Aa b
theorem WC{s:SlM}(d:1<=q)(c:FitOk fits s.bw)(h:s.Ok E4)(b:s.out.length<E4/\Pc s.bw=G):J3 q fits E4 s=J3 q fits E4 (Fu q fits E4 s):=by
 have e:J3 q fits E4 s=Q0 q fits E4 (s.mu E4) (Fu q fits E4 s):=Ab b;rw[e];have hd:=Rf d c h b.1 b.2;exact Akb d _ (Fu q fits E4 s) (Ac _) (OF (by omega) c h) (c.Ac2 NA) _ _ hd (Nat.lt_succ_self _)
theorem Abq(d:1<=q)(I:SlM->Prop)(e:∀s,s.Ok E4->FitOk fits s.bw->I s->s.out.length<E4->Pc s.bw=G->I (Fu q fits E4 s)):
 ∀(m:Nat) (s:SlM),s.mu E4<=m->s.Ok E4->FitOk fits s.bw->I s->I (J3 q fits E4 s)/\(J3 q fits E4 s).Ok E4/\¬((J3 q fits E4 s).out.length<E4/\Pc (J3 q fits E4 s).bw=G):=by
 intro m
 induction m using Nat.strongRecOn with
 | ind m ih=>
  intro s k h c hi
  by_cases b:s.out.length<E4/\Pc s.bw=G
  ·rw[WC d c h b];have hd:=Rf d c h b.1 b.2;exact ih _ (by omega) (Fu q fits E4 s) (Ac _) (OF (by omega) c h) (c.Ac2 NA) (e s h c hi b.1 b.2)
  ·rw[RH b];exact⟨hi,h,b⟩
structure UsM where
 who:Int
 byt:Int
 fit:Int
def UsM.zero:UsM:=⟨0,0,0⟩
def Usr (w:World)(a:Option Addr)(l:List UsM):Prop:=l≠[]->∃b o,a=E ⟨b,o,D⟩/\∀i,i<l.length->w.cell? ⟨b,o+i*3,D⟩=E (C J (l.getD i .zero).who)/\w.cell? ⟨b,o+i*3+1,D⟩=E (C J (l.getD i .zero).byt)/\w.cell? ⟨b,o+i*3+2,D⟩=E (C J (l.getD i .zero).fit)
theorem Usr.at{w:World}{a:Option Addr}{l:List UsM}(h:Usr w a l){i:Nat}(hi:i<l.length):∃b o,a=E ⟨b,o,D⟩/\∀i,i<l.length->w.cell? ⟨b,o+i*3,D⟩=E (C J (l.getD i .zero).who)/\w.cell? ⟨b,o+i*3+1,D⟩=E (C J (l.getD i .zero).byt)/\w.cell? ⟨b,o+i*3+2,D⟩=E (C J (l.getD i .zero).fit):=h (by rintro rfl;simp at hi)
theorem Tg(b:Below w.heap.size w w'){a:Addr}(h:w.cell? a=E v):w'.cell? a=E v:=(b.cell (Aj w _ h)).trans h
theorem Usr.below{a:Option Addr}{l:List UsM}(h:Usr w a l)(b:Below w.heap.size w w'):Usr w' a l:=by grind [Usr,Tg]
def UsM.ok(before:Int)(u:UsM):Bool:=decide ((1<=u.who/\u.who<=16/\before<u.who)/\(0<=u.byt/\u.byt<=1000000)/\(1<=u.fit/\u.fit<=10000))
def YU (l:List UsM)(i:Nat):Int:=if i=0 then 0 else (l.getD (i-1) .zero).who
def Aag (l:List UsM)(k:Nat):Prop:=∀i,i<k->(l.getD i .zero).ok (YU l i)=G
def OkU (l:List UsM):Prop:=Aag l l.length
theorem OkU.at{l:List UsM}(h:OkU l)(hi:i<l.length):(1<=(l.getD i .zero).who/\(l.getD i .zero).who<=16)/\(0<=(l.getD i .zero).byt/\(l.getD i .zero).byt<=1000000)/\(1<=(l.getD i .zero).fit/\(l.getD i .zero).fit<=10000):=by
 have:=AQ (h i hi)
 grind
theorem OkU.Ama{l:List UsM}(h:OkU l):∀(d i:Nat),i+d+1<l.length->(l.getD i .zero).who<(l.getD (i+d+1) .zero).who
 | 0,i,hi=>by
  have:=AQ (h (i+1) hi);have b:=this.1.2.2;unfold YU at b
  grind
 | d+1,i,hi=>by
  have c:=OkU.Ama h d i (by omega);have:=AQ (h (i+d+1+1) (by omega));have b:=this.1.2.2;unfold YU at b
  grind
theorem OkU.inj{l:List UsM}(h:OkU l)(hi:i<l.length)(c:j<l.length)(e:(l.getD i .zero).who=(l.getD j .zero).who):i=j:=by
 rcases Ea i j with b | b | b
 ·have:=h.Ama (j-i-1) i (by omega)
  grind
 ·exact b
 ·have:=h.Ama (i-j-1) j (by omega)
  grind
def byF (f:UsM->Int)(l:List UsM)(a:Nat):Int:=match l.find? fun u=>u.who==(a:Int)with
 | some u=>f u
 | none=>0
theorem Ab6{f:UsM->Int}{l:List UsM}(h:OkU l)(hi:i<l.length):byF f l (l.getD i .zero).who.toNat=f (l.getD i .zero):=by
 have p:=(h.at hi).1;have m:((l.getD i .zero).who.toNat:Int)=(l.getD i .zero).who:=by omega
 unfold byF;rw[m];have b:∃u,l.find? (fun u=>u.who==(l.getD i .zero).who)=E u:=by
  rw[<-Option.isSome_iff_exists,List.find?_isSome]
  grind
 obtain⟨u,c⟩:=b;rw[c];have o:=List.find?_some c;obtain⟨j,k,rfl⟩:=A5 (List.mem_of_find?_eq_some c);have d:l.getD j .zero=l[j]:=by simp[List.getD,k]
 have e:l[j].who=(l.getD i .zero).who:=by simpa using o
 rw[<-d]at e;have:=h.inj k hi e;subst this;simp only;rw[d]
theorem Qo{f:UsM->Int}{l:List UsM}(h:∀i,i<l.length->(l.getD i .zero).who≠(a:Int)):byF f l a=0:=by
 unfold byF;have:l.find? (fun u=>u.who==(a:Int))=D:=by
  rw[EP];intro u b;obtain⟨j,c,rfl⟩:=A5 b
  grind
 rw[this]
def Only (l:List UsM)(bw:Nat->Int):Prop:=∀a:Nat,(∀i,i<l.length->(l.getD i .zero).who≠(a:Int))->bw a=0
theorem Only.SF(l:List UsM):Only l (byF UsM.byt l):=fun _ h=>Qo h
theorem Anc{l:List UsM}(h:OkU l)(d:Only l bw):FitOk (byF UsM.fit l) bw:=⟨fun a k=>by
 by_cases b:∃i,i<l.length/\(l.getD i .zero).who=(a:Int)
 ·obtain⟨i,hi,e⟩:=b;have c:=Ab6 (f:=UsM.fit) h hi;rw[e,AN]at c;rw[c];exact(h.at hi).2.2
 ·have:=d a fun i hi e=>b ⟨i,hi,e⟩
  omega⟩
theorem Tryz.Anq:(prog.info? 117).map (fun i=>(i.zero,i.size,i.bytes))=E (E (.agg #[C J 0, C J 0, C J 0]),3,24):=by kernel_rfl
def UsM.cells(t:UsM):List Value:=[C J t.who, C J t.byt, C J t.fit]
def Jp (l:List UsM):List Value:=l.flatMap UsM.cells
theorem VQ:∀(l:List UsM) (i k:Nat),i<l.length->k<3->(Jp l)[i*3+k]?=(l.getD i .zero).cells[k]?
 | [],i,k,h,_=>by simp at h
 | x::l,0,k,_,hk=>by
  have e:Jp (x::l)=x.cells++Jp l:=rfl;rw[e,CT,Ao,BB (by simpa [UsM.cells]using hk)];rfl
 | x::l,i+1,k,h,hk=>by
  have e:Jp (x::l)=x.cells++Jp l:=rfl;have c:=VQ l i k (by simpa using h) hk;have b:x.cells.length=3:=rfl;rw[e,BL (by rw[b];omega),b,show(i+1)*3+k-3=i*3+k by omega];exact c
def OwnU (w:World)(B:Nat)(v:Value)(l:List UsM):Prop:=w.ownsRow B 117 3 v l.length (Jp l)
theorem OwnU.at{B:Nat}{l:List UsM}(h:OwnU w B v l)(y:0<l.length):∃gb c,v=.slice (E ⟨gb,0,D⟩) l.length c/\B<=gb/\gb<w.heap.size/\∀i,i<l.length->
 (w.cell? ⟨gb,i*3,D⟩=E (C J (l.getD i .zero).who)/\w.cell? ⟨gb,i*3+1,D⟩=E (C J (l.getD i .zero).byt)/\w.cell? ⟨gb,i*3+2,D⟩=E (C J (l.getD i .zero).fit))/\w.frozen? ⟨gb,i*3+1,D⟩=H:=by
 rcases h.2 with⟨m,x⟩ | ⟨g,d,cur,m,o,hg,u,_,p,ht⟩
 ·omega
 ·refine⟨g,d,m,o,(Array.getElem?_eq_some_iff.1 hg).1,fun i hi=>?_⟩;have e:=fun k t=>VQ l i k hi t
  have b:∀j,j<l.length*3->cur[j]?=(Jp l)[j]?:=fun j s=>by
   rw[<-ht,A3 s];simp
  refine⟨⟨?_,?_,?_⟩,Bz _ _ _ _ _ hg⟩
  ·rw[Al _ _ _ _ _ _ hg,b _ (by omega)];exact e 0 (by omega)
  ·rw[Al _ _ _ _ _ _ hg,b _ (by omega)];exact e 1 (by omega)
  ·rw[Al _ _ _ _ _ _ hg,b _ (by omega)];exact e 2 (by omega)
def MJ (out:List Int)(E4:Nat):List Int:=out++List.replicate (E4-out.length) 0
theorem Na(h:out.length<=E4):(MJ out E4).length=E4:=by unfold MJ;simp;omega
theorem AfY(h:out.length<E4)(x:Int):(MJ out E4).set out.length x=MJ (out++[x]) E4:=by
 unfold MJ;obtain⟨m,b⟩:∃m,E4-out.length=m+1:=⟨E4-out.length-1,by omega⟩
 grind
def CrB (s:SlM):Prop:=∀a,s.cr a<10000\/(s.opn=G/\a=s.last/\s.cr a<20000)
theorem CrB.le{s:SlM}(h:CrB s)(a:Nat):s.cr a<20000:=by rcases h a with h | h<;>omega
structure CrV(s:SlM):Prop where
 own:s.cr s.last<20000
 low:∀a,a≠s.last->s.cr a<10000
theorem CrV.MN{s:SlM}(h:∀a,a≠s.last->s.cr a<10000):CrB s.MN:=fun a=>by
 left
 show Fw s.cr s.last 0 a<10000
 by_cases e:a=s.last
 ·rw[e,Hy];omega
 ·rw[Ja _ _ e];exact h a e
theorem CrV.AmQ{fits:Nat->Int}{E4:Nat}:∀(f:Nat) (s:SlM),E4<f+s.out.length->s.out.length<=E4->(∀a,0<=s.bw a)->FitOk fits s.bw->CrV s->CrB (F8 fits E4 f s).IG
 | 0,s,hf,ho,_,_,_=>by omega
 | f+1,s,hf,ho,hb,hF,h=>by
  by_cases b:0<s.bw s.last/\fits s.last<=s.cr s.last
  ·by_cases c:s.out.length=E4
   ·rw[UI b c];unfold SlM.IG;have d:¬({s with opn:=G}:SlM).bw ({s with opn:=G}:SlM).last=0:=by show ¬s.bw s.last=0;omega
    rw[Aa d];intro a
    by_cases e:a=s.last
    ·exact .inr ⟨rfl,e,by rw[e];exact h.own⟩
    ·exact .inl (h.low a e)
   ·rw[P3 b c];have k:=hF.pos s.last b.1;refine CrV.AmQ f (s.Ls fits) ?_ ?_ ?_ (hF.Ac2 (OT s b.1)) ⟨?_,?_⟩
    ·show E4<f+(s.out++[(s.last:Int)]).length;simp;omega
    ·show(s.out++[(s.last:Int)]).length<=E4;simp;omega
    ·intro a
     show 0<=Fw s.bw s.last (max (s.bw s.last-fits s.last) 0) a
     by_cases e:a=s.last
     ·rw[e,Hy];omega
     ·rw[Ja _ _ e];exact hb a
    ·show Fw s.cr s.last (s.cr s.last-fits s.last) s.last<20000;rw[Hy];have:=h.own;omega
    ·intro a e
     show Fw s.cr s.last (s.cr s.last-fits s.last) a<10000;rw[Ja _ _ (show a≠s.last from e)];exact h.low a e
  ·rw[Nx b];unfold SlM.IG
   by_cases l:s.bw s.last=0
   ·rw[Ab l];exact CrV.MN h.low
   ·rw[Aa l];intro a
    left
    by_cases e:a=s.last
    ·have m:0<s.bw s.last:=by have:=hb s.last;omega
     have:=hF.pos s.last m;rw[e];omega
    ·exact h.low a e
theorem CrB.Afa{s:SlM}(p:0<=q/\q<=10000)(h:CrB s)(c:s.Ok E4)(hF:FitOk fits s.bw):CrB (Fu q fits E4 s):=by
 have b:∀a,a≠s.Fq.last->s.cr a<10000:=fun a e=>by
  rcases h a with d | ⟨m,o,_⟩
  ·exact d
  ·exact absurd (o.trans (show s.last=s.Fq.last from(Ab m).symm)) e
 unfold Fu
 split
 ·refine CrV.AmQ _ _ ?_ ?_ ?_ ?_ ⟨?_,?_⟩
  ·grind
  ·have e:(s.Fq.gain q (!s.opn)).out=s.out:=by unfold SlM.gain;split<;>rfl
   rw[e];exact c.out
  ·have e:(s.Fq.gain q (!s.opn)).bw=s.bw:=by unfold SlM.gain;split<;>rfl
   rw[e];exact c.bw
  ·have e:(s.Fq.gain q (!s.opn)).bw=s.bw:=by unfold SlM.gain;split<;>rfl
   rw[e];exact hF
  ·unfold SlM.gain
   by_cases k:s.opn=G
   ·rw[k];exact h.le _
   ·have l:s.opn=H:=by simpa using k
    rw[l]
    show Fw s.cr s.Fq.last (s.cr s.Fq.last+q) s.Fq.last<20000;rw[Hy]
    rcases h s.Fq.last with d | d
    ·omega
    ·exact absurd d.1 k
  ·intro a e;have e2:(s.Fq.gain q (!s.opn)).last=s.Fq.last:=by unfold SlM.gain;split<;>rfl
   rw[e2]at e;unfold SlM.gain
   split
   ·show Fw s.cr s.Fq.last (s.cr s.Fq.last+q) a<10000;rw[Ja _ _ e];exact b a e
   ·exact b a e
 ·exact CrV.MN b
theorem Only.Afa{l:List UsM}{s:SlM}(h:Only l s.bw)(b:(Fu q fits E4 s).Ok E4):Only l (Fu q fits E4 s).bw:=fun a d=>by
 have e:=h a d;have k:=b.bw a
 rcases Int.lt_or_le 0 ((Fu q fits E4 s).bw a)with c | c
 ·have:=NA a c;omega
 ·omega
def FunAt(T:TypeId)(N:Nat)(w:World)(g:Nat)(f:Nat->Value):Prop:=w.heap[g]?=E (.cells ((List.range N).map f).toArray T (0,0))
theorem FunAt.lt(h:FunAt T N w g f):g<w.heap.size:=(Array.getElem?_eq_some_iff.1 h).1
theorem FunAt.cell(h:FunAt T N w g f)(b:j<N):w.cell? ⟨g,j,D⟩=E (f j):=by
 rw[Al _ _ _ _ _ _ h,Eb,A9,Ch b];rfl
theorem FunAt.free(h:FunAt T N w g f)(j:Nat):w.frozen? ⟨g,j,D⟩=H:=Bz w g j _ T h
theorem FunAt.congr(h:FunAt T N w g f)(e:∀i,i<N->f' i=f i):FunAt T N w g f':=by
 unfold FunAt;rw[show(List.range N).map f'=(List.range N).map f from Du fun i hi=>e i (Bv.1 hi)];exact h
theorem FunAt.set(h:FunAt T N w g f)(e:∀i,i<N->f' i=if i=j then v else f i):FunAt T N (w.setCell ⟨g,j,D⟩ v) g f':=by
 refine FunAt.congr (f:=fun i=>if i=j then v else f i) ?_ e;have b:=BK w g j _ _ v h;refine b.trans ?_;rw[EQ]
 congr 3
 refine AW (by simp) fun i b c=>?_
 grind
theorem FunAt.other(h:FunAt T N w g f)(p:Addr)(x:Value)(b:g≠p.block):FunAt T N (w.setCell p x) g f:=(Co w p g x b).trans h
theorem FunAt.below(h:FunAt T N w g f)(b:Below w.heap.size w w'):FunAt T N w' g f:=(b.block g h.lt).trans h
theorem FunAt.kept{S:List Nat}(h:FunAt T N w g f)(b:Kept S w w')(hg:g∉S):FunAt T N w' g f:=(b.block g h.lt hg).trans h
def ptF (q:Int)(last:Nat)(opn:Bool)(cr:Nat->Int)(j:Nat):Value:=if j=0 then C J q else if j<=17 then C J (cr (j-1)) else if j=18 then C J (last:Int) else .bool opn
def PTurn(w:World)(r:Nat)(q:Int)(last:Nat)(opn:Bool)(cr:Nat->Int):Prop:=FunAt 67 20 w r (ptF q last opn cr)
theorem PTurn.head(h:PTurn w r q last opn cr):w.cell? ⟨r,0,D⟩=E (C J q)/\w.cell? ⟨r,18,D⟩=E (C J (last:Int))/\w.cell? ⟨r,19,D⟩=E (.bool opn):=⟨FunAt.cell h (by omega),FunAt.cell h (by omega),FunAt.cell h (by omega)⟩
theorem PTurn.Tr(h:PTurn w r q last opn cr)(b:a<=16):w.cell? ⟨r,1+a,D⟩=E (C J (cr a)):=by grind [PTurn,ptF,FunAt.cell]
theorem PTurn.Amg(h:PTurn w r q last opn cr)(x:Nat):PTurn (w.setCell ⟨r,18,D⟩ (C J (x:Int))) r q x opn cr:=by grind [PTurn,ptF,FunAt.set]
theorem PTurn.UM(h:PTurn w r q last opn cr)(b:Bool):PTurn (w.setCell ⟨r,19,D⟩ (.bool b)) r q last b cr:=by grind [PTurn,ptF,FunAt.set]
theorem PTurn.Ae2(h:PTurn w r q last opn cr)(b:a<=16)(x:Int):PTurn (w.setCell ⟨r,1+a,D⟩ (C J x)) r q last opn (Fw cr a x):=by grind [PTurn,Fw,ptF,FunAt.set]
def slF (wf bw ft:Nat->Int)(wt:Int)(ob n g:Nat)(j:Nat):Value:=if j<51 then (if j % 3=0 then C J (wf (j / 3)) else if j % 3=1 then C J (bw (j / 3)) else C J (ft (j / 3))) else if j=51 then C J wt else if j=52 then .slice (E ⟨ob,0,D⟩) n n else C J (g:Int)
def PSlot(w:World)(sb:Nat)(wf bw ft:Nat->Int)(wt:Int)(ob n g:Nat):Prop:=FunAt 120 54 w sb (slF wf bw ft wt ob n g)
theorem PSlot.J5(h:PSlot w sb wf bw ft wt ob n g)(b:a<=16):w.cell? ⟨sb,a*3,D⟩=E (C J (wf a))/\w.cell? ⟨sb,a*3+1,D⟩=E (C J (bw a))/\w.cell? ⟨sb,a*3+2,D⟩=E (C J (ft a)):=by grind [PSlot,slF,FunAt.cell]
theorem PSlot.KX(h:PSlot w sb wf bw ft wt ob n g):w.cell? ⟨sb,51,D⟩=E (C J wt)/\w.cell? ⟨sb,52,D⟩=E (.slice (E ⟨ob,0,D⟩) n n)/\w.cell? ⟨sb,53,D⟩=E (C J (g:Int)):=⟨FunAt.cell h (by omega),FunAt.cell h (by omega),FunAt.cell h (by omega)⟩
theorem PSlot.AnR(h:PSlot w sb wf bw ft wt ob n g)(b:a<=16)(x:Int):PSlot (w.setCell ⟨sb,a*3,D⟩ (C J x)) sb (Fw wf a x) bw ft wt ob n g:=by grind [PSlot,Fw,slF,FunAt.set]
theorem PSlot.AmR(h:PSlot w sb wf bw ft wt ob n g)(b:a<=16)(x:Int):PSlot (w.setCell ⟨sb,a*3+1,D⟩ (C J x)) sb wf (Fw bw a x) ft wt ob n g:=by grind [PSlot,Fw,slF,FunAt.set]
theorem PSlot.AoY(h:PSlot w sb wf bw ft wt ob n g)(b:a<=16)(x:Int):PSlot (w.setCell ⟨sb,a*3+2,D⟩ (C J x)) sb wf bw (Fw ft a x) wt ob n g:=by grind [PSlot,Fw,slF,FunAt.set]
theorem PSlot.AmS(h:PSlot w sb wf bw ft wt ob n g)(x:Int):PSlot (w.setCell ⟨sb,51,D⟩ (C J x)) sb wf bw ft x ob n g:=by grind [PSlot,slF,FunAt.set]
theorem PSlot.setG(h:PSlot w sb wf bw ft wt ob n g)(x:Nat):PSlot (w.setCell ⟨sb,53,D⟩ (C J (x:Int))) sb wf bw ft wt ob n x:=by grind [PSlot,slF,FunAt.set]
def M9 (bw:Nat->Int):Nat:=((List.range 16).filter fun a=>decide (0<bw (a+1))).length
theorem Alk(bw:Nat->Int):decide ((0:Int)<(M9 bw:Nat))=Pc bw:=by simp_all[M9,Pc];grind
theorem TD(p:Nat->Bool)(k:Nat):([k].filter p).length=if p k=G then 1 else 0:=by
 by_cases h:p k=G<;>simp[h]
theorem TE(bw:Nat->Int)(c:Nat)(x:Int):∀(k:Nat),((List.range k).filter fun a=>decide (0<Fw bw c x (a+1))).length+(if 1<=c/\c<=k/\0<bw c then 1 else 0)=((List.range k).filter fun a=>decide (0<bw (a+1))).length+(if 1<=c/\c<=k/\0<x then 1 else 0)
 | 0=>by
  grind
 | k+1=>by
  have b:=TE bw c x k;rw[Az,BS,BS,Ai,Ai,TD,TD]
  by_cases e:c=k+1
  ·subst e;rw[Hy]
   grind
  ·rw[Ja _ _ (fun h=>e h.symm)]
   grind
theorem Aex{c:Nat}(b:1<=c)(d:c<=16)(x:Int):M9 (Fw bw c x)+(if 0<bw c then 1 else 0)=M9 bw+(if 0<x then 1 else 0):=by
 have:=TE bw c x 16;have e1:(1<=c/\c<=16/\0<bw c)↔0<bw c:=by omega
 have e2:(1<=c/\c<=16/\0<x)↔0<x:=by omega
 simp only[e1,e2]at this;exact this
theorem Aew(bw:Nat->Int):M9 bw<=16:=by
 unfold M9
 grind
theorem Ahe(w:World)(q:Int):PTurn (w.alloc (.cells #[C J q, C J 0, C J 0, C J 0, C J 0, C J 0, C J 0, C J 0, C J 0, C J 0, C J 0, C J 0, C J 0, C J 0, C J 0, C J 0, C J 0, C J 0, C J 0,.bool H] 67)) w.heap.size q 0 H (fun _=>0):=Am w _
theorem AhP(q:Int)(w:World)(b:1<=q)(c:q<=10000):Calls prog 13 #[C J q] w fun e w'=>e=.returned (.tuple #[.pointer (E ⟨w.heap.size,0,D⟩), C J 0])/\PTurn w' w.heap.size q 0 H (fun _=>0)/\Below w.heap.size w w':=by
 have d:decide (q<1)=H:=Ae (by omega);have h:decide (10000<q)=H:=Ae (by omega);clear b c;go_enter func13,ntmps13;go_wp2
 go_ret2;exact⟨rfl,Ahe w q,(Ad _ w).alloc (Ac _) _⟩
theorem ZX(sb ob n g:Nat)(wf bw ft:Nat->Int)(wt:Int)(w:World)(b:PSlot w sb wf bw ft wt ob n g):Calls prog 55 #[.pointer (E ⟨sb,0,D⟩)] w fun e w'=>e=.returned (.bool (decide (g<n)))/\Below w.heap.size w w':=by
 obtain⟨-,c,d⟩:=b.KX;clear b;go_enter func55,ntmps55;go_upto_region 1 with fail
 go_region;go_wp2;go_ret;exact⟨by first | rfl | simp,(Ad _ w).drew⟩
theorem PL(who byt fit q:Int)(r last:Nat)(opn:Bool)(cr:Nat->Int)(w:World)(m:PTurn w r q last opn cr)(k:0<byt->0<=who/\who<=16):Calls prog 105 #[.pointer (E ⟨r,0,D⟩),.agg #[C J who, C J byt, C J fit]] w fun e w'=>e=.returned (.bool (decide (0<byt/\fit<=cr who.toNat)))/\Below w.heap.size w w':=by
 have b:Below w.heap.size w (w.alloc (.cells #[C J who, C J byt, C J fit] 117)):=(Ad _ w).alloc (Ac _) _
 by_cases c:0<byt
 ·obtain⟨a,rfl⟩:∃a:Nat,who=(a:Int):=⟨who.toNat,by have:=k c;omega⟩;have p:=k c;have u:=PTurn.Tr (FunAt.below m b) (a:=a) (by omega);rw[AN];have d:decide (0<byt/\fit<=cr a)=decide (fit<=cr a):=by simp[c]
  rw[d];have s:(0:Int)<=(a:Int):=by omega
  have t:(a:Int)<17:=by omega
  have o:decide (0<byt)=G:=Ag c;have l:=hid b;generalize cr a=z at*;clear c k d m p b;go_enter func105,ntmps105;go_upto_region 1 with fail
  go_region;go_wp2;go_ret;exact⟨rfl,l.out.drew⟩
 ·have d:decide (0<byt/\fit<=cr who.toNat)=H:=Ae fun h=>c h.1
  rw[d];have o:decide (0<byt)=H:=Ae c;have l:=hid b;clear c k d m b;go_enter func105,ntmps105;go_upto_region 1 with fail
  go_region;go_wp2;go_ret;exact⟨rfl,l.out.drew⟩
theorem Ab2(q:Int)(r last:Nat)(cr:Nat->Int)(w:World)(b:PTurn w r q last G cr):Calls prog 104 #[.pointer (E ⟨r,0,D⟩)] w fun e w'=>e=.returned (.tuple #[])/\w=w':=by
 obtain⟨-, -,c⟩:=b.head;clear b;go_enter func104,ntmps104;go_wp2
 go_end0;exact⟨rfl,rfl⟩
theorem Ajt(h:last<=16):last % 16+1=FF last:=by unfold FF;split<;>omega
theorem Ab1(q:Int)(r last:Nat)(cr:Nat->Int)(w:World)(d:PTurn w r q last H cr)(l:last<=16)(t:0<=q/\q<=10000)(o:0<=cr (FF last)/\cr (FF last)<=1000000):Calls prog 104 #[.pointer (E ⟨r,0,D⟩)] w fun e w'=>e=.returned (.tuple #[])/\PTurn w' r q (FF last) H (Fw cr (FF last) (cr (FF last)+q))/\Kept [r] w w':=by
 obtain⟨-,L,S⟩:=d.head;have F:=FunAt.free d 18;have k:=(T8 l).2;have b:=PTurn.Amg d (FF last);have c:=b.Ae2 k (cr (FF last)+q);obtain⟨I,g1, -⟩:=b.head;have gc:=b.Tr k;have gf:=FunAt.free b (1+FF last);have h:=hid c;have m:Hid (Kept [r] w ((w.setCell ⟨r,18,D⟩ (C J ((FF last:Nat):Int))).setCell ⟨r,1+FF last,D⟩ (C J (cr (FF last)+q)))):=((Kept.refl [r] w).setCell (by simp) _).setCell (by simp) _;have e1:((last:Int) % 16+1)=((FF last:Nat):Int):=by
  rw[<-Ajt l];omega
 generalize FF last=A at*;generalize cr A=z at*;have y:(0:Int)<=(A:Int):=by omega
 have B:(A:Int)<17:=by omega
 obtain⟨u,x⟩:=t;obtain⟨p,s⟩:=o;clear d b c;go_enter func104,ntmps104;go_upto_region 2 with fail
 go_region;go_wp2
 go_end0;exact⟨rfl,h.out,m.out.drew⟩
theorem AhO(sb ob n g a:Nat)(wf bw ft:Nat->Int)(wt:Int)(L:List Int)(w:World)(hS:PSlot w sb wf bw ft wt ob n g)(hA:ArrAt J 3 w ob L)(hL:L.length=n)(o:sb≠ob)(ha:a<=16)(hg:g<n)(hn:n<=100)(hb:0<=bw a/\bw a<=1000000)(hf:0<=ft a/\ft a<=10000)(hw:0<=wt/\wt<=16):
 Calls prog 106 #[.pointer (E ⟨sb,0,D⟩), C J (a:Int)] w fun e w'=>e=.returned (.tuple #[])/\PSlot w' sb wf (Fw bw a (max (bw a-ft a) 0)) ft (if max (bw a-ft a) 0=0 then wt-1 else wt) ob n (g+1)/\ArrAt J 3 w' ob (L.set g (a:Int))/\Kept [sb,ob] w w':=by
 have eM:max (bw a-ft a) 0=if bw a-ft a<0 then 0 else bw a-ft a:=by split<;>omega
 rw[eM];clear eM;obtain⟨h0,h1,h2⟩:=hS.KX;obtain⟨oc,aj⟩:∃oc,w.cell? ⟨ob,g,D⟩=E (C J oc):=⟨_,hA.cell (by omega)⟩;have ak:=hA.free g;have s:=hA.set g (a:Int);have d:PSlot (w.setCell ⟨ob,g,D⟩ (C J (a:Int))) sb wf bw ft wt ob n g:=FunAt.other hS _ _ o;have x:=(Kept.refl [sb,ob] w).setCell (p:=⟨ob,g,D⟩) (by simp) (C J (a:Int));obtain⟨-, -,p2⟩:=d.KX;have p3:=FunAt.free d 53;have c:=d.setG (g+1);have h:=s.other ⟨sb,53,D⟩ (C J ((g+1:Nat):Int)) (fun e=>o e.symm);have l:=x.setCell (p:=⟨sb,53,D⟩) (by simp) (C J ((g+1:Nat):Int));rw[show((g+1:Nat):Int)=(g:Int)+1 by omega]at c h l;obtain⟨-,q1,q2⟩:=c.J5 ha;have q3:=FunAt.free c (a*3+1);have b:=c.AmR ha ((if bw a-ft a<0 then 0 else bw a-ft a));have k:=h.other ⟨sb,a*3+1,D⟩ (C J ((if bw a-ft a<0 then 0 else bw a-ft a))) (fun e=>o e.symm);have m:=l.setCell (p:=⟨sb,a*3+1,D⟩) (by simp) (C J ((if bw a-ft a<0 then 0 else bw a-ft a)));obtain⟨-,r1, -⟩:=b.J5 ha;rw[Hy]at r1;obtain⟨r2, -, -⟩:=b.KX;have r3:=FunAt.free b 51;have u:=b.AmS (wt-1);have t:=k.other ⟨sb,51,D⟩ (C J (wt-1)) (fun e=>o e.symm);have A:=m.setCell (p:=⟨sb,51,D⟩) (by simp) (C J (wt-1));have aa:=hid b;have I:=hid k;have Y:=hid m;have ab:=hid u;have S:=hid t;have Z:=hid A;have a0:(0:Int)<=(a:Int):=by omega
 have a1:(a:Int)<17:=by omega
 obtain⟨ad,ae⟩:=hb;obtain⟨ag,ah⟩:=hf;obtain⟨al,am⟩:=hw;have af: -20000<=bw a-ft a/\bw a-ft a<=1000000:=by omega
 have ai:g<100:=by omega
 by_cases B:(if bw a-ft a<0 then 0 else bw a-ft a)=0
 ·rw[Ab B];have xz:((if bw a-ft a<0 then 0 else bw a-ft a)==0)=G:=by rw[B];rfl
  generalize Fw bw a ((if bw a-ft a<0 then 0 else bw a-ft a))=ac at*;generalize bw a=z at*;generalize ft a=F at*;clear hS hA s d x c h l b k m u t A B aa I Y hL hn;go_enter func106,ntmps106;go_upto_region 1 with fail
  go_region;go_upto_region 3 with fail
  go_big_region;generalize (if z-F<0 then 0 else z-F)=y at*;go_wp2
  go_end0;exact⟨rfl,ab.out,S.out,Z.out.drew.drew⟩
 ·rw[Aa B];have xz:((if bw a-ft a<0 then 0 else bw a-ft a)==0)=H:=DE B;generalize Fw bw a ((if bw a-ft a<0 then 0 else bw a-ft a))=ac at*;generalize bw a=z at*;generalize ft a=F at*;clear hS hA s d x c h l b k m u t A B ab S Z hL hn;go_enter func106,ntmps106;go_upto_region 1 with fail
  go_region;go_upto_region 3 with fail
  go_big_region;generalize (if z-F<0 then 0 else z-F)=y at*;go_wp2
  go_end0;exact⟨rfl,aa.out,I.out,Y.out.drew.drew⟩
end Go.Proofs.YtbjgfoiikhbonahGreatDoor
