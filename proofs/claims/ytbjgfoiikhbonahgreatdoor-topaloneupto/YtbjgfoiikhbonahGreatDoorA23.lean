import Derived.Test.YtbjgfoiikhbonahGreatDoorA22
import Derived.Lib.AppendStr
set_option linter.unusedVariables false
set_option linter.unusedSimpArgs false
set_option maxRecDepth 100000
set_option maxHeartbeats 4000000
namespace Go.Proofs.YtbjgfoiikhbonahGreatDoor
open Go.ChangeShapes Go.WideShapes Go.ChangeAt Go.RowKit Go.Proofs.Tryz
open Option renaming some->A,none->C
open Value renaming slice->D,int->F
open Bool renaming true->I,false->J
open Go renaming World->K
open IntKind renaming i64->M
variable {L:List Int}{P:Program}{b c fs g i k n o q u:Nat}{l:Sps}{r:InM}{v:Value}{w w':K}
theorem Amm(h:Srt l)(s:0<n)(hi:∀t,inS l t↔t<n):l=[(0,n)]:=by
 match l,h,hi with
 | [],_,hi=>exact absurd ((hi 0).2 s) (GT 0)
 | (a,b)::r,h,hi=>
  obtain⟨f,m⟩:=h.head;have f:a<b:=f;have m:∀p∈r,b<p.1:=m;have j:∀t,inS r t->b<t:=fun t ⟨q,B,d,_⟩=>by have:=m q B;omega
  have G:a=0:=by
   rcases (Gc _ _ _).1 ((hi 0).2 s)with d | d
   ·have:a<=0:=d.1;omega
   ·have:=j 0 d;omega
  have x:b-1<n:=(hi _).1 ((Gc _ _ _).2 (.inl ⟨by show a<=b-1;omega,by show b-1<b;omega⟩));have z:n<=b:=by
   rcases AS b n with d | d
   ·rcases (Gc _ _ _).1 ((hi b).2 d)with e | e
    ·have:b<b:=e.2;omega
    ·have:=j b e;omega
   ·exact d
  have E:r=[]:=by
   cases r with
   | nil=>rfl
   | cons q r=>
    have d:=m q AL;have e:=h.1 q (by simp);have:=(hi q.1).1 ((Gc _ _ _).2 (.inr ((Gc _ _ _).2 (.inl ⟨Ac _,e⟩))));omega
  grind
structure TuR(r:InM)(u:Nat)(x:TkP):Prop where
 srt:Srt x.th
 th:∀t,inS x.th t↔(r.got u t).isSome=I
 dl:x.data.length=G8 x.th
 dt:∀t,inS x.th t->r.got u t=A (UInt8.ofNat (x.data.getD t 0).toNat)
 fin:r.fin u=G8 x.th
 hi:G8 x.th<=1500
 ln:r.len u=if x.len=0 then C else A x.len
 lh:x.len<=1500
 fl:0<x.len->G8 x.th<=x.len
structure AddM(x x':TkP)(a b:Nat)(s:ByteArray)(last:Bool):Prop where
 srt:Srt x'.th
 th:∀i,inS x'.th i↔inS x.th i\/(a<=i/\i<b)
 dl:x'.data.length=max x.data.length b
 old:∀t,inS x.th t->x'.data.getD t 0=x.data.getD t 0
 new:∀t,a<=t->t<b->¬inS x.th t->x'.data.getD t 0=((s.get! (t-a)).toNat:Int)
 ln:x'.len=if last=I then b else x.len
theorem TuR.zero(a:∀t,r.got u t=C)(d:r.len u=C)(e:r.fin u=0):TuR r u .zero:=by
 refine⟨Srt.nil,fun t=>?_,rfl,fun t ht=>absurd ht (GT t),e,Af _,d,Af _,fun h=>absurd h (Bp _)⟩;rw[a];exact⟨fun h=>absurd h (GT t),fun h=>by cases h⟩
theorem TuR.whole{r:InM}{u:Nat}{x:TkP}(h:TuR r u x):r.whole u=x.whole:=by
 unfold InM.whole TkP.whole;rw[h.ln]
 by_cases f:x.len=0
 ·grind
 ·rw[Aa f,Ag (by omega:0<x.len),Bool.true_and];have j:=h.fl (by omega)
  by_cases d:x.th=[(0,x.len)]
  ·rw[Ag d]
   have:Fv (fun i=>(r.got u i).isNone) 0 x.len=x.len:=IQ (Af _) (fun k _ m=>by
    have:inS x.th k:=by rw[d];exact⟨_,AL,Af _,m⟩
    have a:=(h.th k).1 this
    cases hg:r.got u k with
    | none=>rw[hg]at a;cases a
    | some _=>rfl)
   grind
  ·rw[Ae d]
   show(_==x.len)=J;rw[Cb];intro e;refine d (Amm h.srt (by omega) fun t=>⟨fun ht=>?_,fun ht=>?_⟩)
   ·have:=XH h.srt ht;omega
   ·have a:=L9 (p:=fun i=>(r.got u i).isNone) (Af t) (by rw[e];exact ht);refine(h.th t).2 ?_
    cases hg:r.got u t with
    | none=>simp[hg]at a
    | some _=>rfl
theorem TkP.WU{x:TkP}(h:x.whole=I):0<x.len/\x.th=[(0,x.len)]:=by grind [TkP.whole]
theorem TuR.text{x:TkP}(h:TuR r u x)(f:x.whole=I):r.RP u=strOfNums x.data:=by
 obtain⟨j,d⟩:=TkP.WU f;have e:G8 x.th=x.len:=by rw[d];rfl
 have m:x.data.length=x.len:=by rw[h.dl,e]
 unfold InM.RP strOfNums;rw[h.ln,Aa (by omega)]
 congr 2
 refine Bf fun t=>?_
 show((List.range x.len).map _)[t]?=_;rw[A9,A9]
 by_cases ht:t<x.len
 ·rw[Ch ht,Ap (by omega)];have a:inS x.th t:=by rw[d];exact⟨_,AL,Af _,ht⟩
  have hd:x.data.getD t 0=x.data[t]'(by omega):=by grind
  simp only[Cx];rw[h.dt t a,hd];rfl
 grind
theorem AcM(h:Srt l)(a:G8 l=0):l=[]:=by simp_all[Sps,Srt,G8];grind
theorem AddM.ends{x x':TkP}{a:Nat}{s:ByteArray}{last:Bool}(h:AddM x x' a b s last)(e:Srt x.th)(f:a<b):G8 x'.th=max (G8 x.th) b:=by
 refine Alq h.srt (fun i hi=>?_) (fun j=>?_)
 ·rcases (h.th i).1 hi with d | d
  ·have:=XH e d;omega
  ·omega
 ·refine(h.th _).2 ?_
  rcases AS (G8 x.th) b with d | d
  ·exact .inr ⟨by omega,by omega⟩
  ·rw[Nat.max_eq_left d];exact .inl (e.AmK (by omega))
theorem TuR.put{r:InM}{u:Nat}{x x':TkP}{p:PieceM}(h:TuR r u x)(d:AddM x x' p.a p.b p.data p.last)(B:p.a<p.b)(S:p.b<=1500)(e:r.J9 u p=J):TuR (r.put u p) u x':=by
 have f:=d.ends h.srt B;unfold InM.J9 at e;rw[Bool.or_eq_false_iff,h.ln,h.fin]at e;obtain⟨H,N⟩:=e;have E:p.last=I->G8 x.th<=p.b:=by grind
 have j:0<x.len->p.b<=x.len/\(p.last=I->x.len=p.b):=by grind
 have m:∀t,(r.put u p).got u t=if p.a<=t/\t<p.b/\r.got u t=C then A (p.data.get! (t-p.a)) else r.got u t:=fun t=>by
  show(if u=u/\p.a<=t/\t<p.b/\r.got u t=C then _ else _)=_;simp only[true_and]
 have s:∀t,r.got u t=C↔¬inS x.th t:=fun t=>by
  rw[h.th]
  cases r.got u t<;>simp
 refine⟨d.srt,fun t=>?_,?_,fun t ht=>?_,?_,by rw[f];have:=h.hi;omega,?_,?_,fun z=>?_⟩
 ·rw[d.th,m]
  by_cases e:p.a<=t/\t<p.b/\r.got u t=C
  ·grind
  ·rw[Aa e,<-h.th]
   grind
 ·rw[d.dl,h.dl,f]
 ·rw[m]
  by_cases e:p.a<=t/\t<p.b/\r.got u t=C
  ·rw[Ab e,d.new t e.1 e.2.1 ((s t).1 e.2.2)];simp
  ·rw[Aa e];have j:inS x.th t:=by
    rcases (d.th t).1 ht with G | G
    ·exact G
    grind
   rw[d.old t j];exact h.dt t j
 ·show(if u=u then max (r.fin u) p.b else _)=_;rw[Ab rfl,h.fin,f]
 ·show(if u=u/\p.last=I then A p.b else r.len u)=_;rw[d.ln,h.ln]
  grind
 ·rw[d.ln];have:=h.lh
  split<;>omega
 ·rw[f,d.ln];rw[d.ln]at z
  cases Q:p.last with
  | true=>
   grind
  | false=>
   rw[Q,Aa (by simp)]at z;rw[Aa (by simp)];have:=h.fl z;have:=(j z).1;omega
theorem TuR.other{v:Nat}{x:TkP}{p:PieceM}(h:TuR r v x)(a:v≠u):TuR (r.put u p) v x:=by
 have e1:∀t,(r.put u p).got v t=r.got v t:=fun t=>Aa (fun h=>a h.1)
 have e2:(r.put u p).len v=r.len v:=Aa (fun h=>a h.1);have e3:(r.put u p).fin v=r.fin v:=Aa a;refine⟨h.srt,fun t=>?_,h.dl,fun t ht=>?_,?_,h.hi,?_,h.lh,h.fl⟩
 ·rw[e1];exact h.th t
 ·rw[e1];exact h.dt t ht
 ·rw[e3];exact h.fin
 ·rw[e2];exact h.ln
structure RcvM(r:InM)(us:List TkP):Prop where
 w1:1<=r.win
 w2:r.win<=32
 len:us.length=r.win
 un:∀i,i<us.length->TuR r (r.fst+i) (us.getD i .zero)
 top:r.hi<=r.fst+r.win
 fresh:∀u,r.fst+r.win<=u->(∀t,r.got u t=C)/\r.len u=C/\r.fin u=0
 last:r.fst<r.hi->0<r.fin (r.hi-1)
 above:∀u,r.fst<=u->r.hi<=u->r.fin u=0
theorem Lr(k i:Nat):(List.replicate k TkP.zero).getD i .zero=.zero:=by
 grind
theorem RcvM.new{k:Nat}(a:1<=k)(d:k<=32):RcvM (InM.new k) (List.replicate k .zero):=by
 refine⟨a,d,by simp[InM.new],fun i hi=>?_,Af _,fun u _=>⟨fun _=>rfl,rfl,rfl⟩,fun h=>absurd h (Bp _),fun _ _ _=>rfl⟩;rw[Lr];exact TuR.zero (fun _=>rfl) rfl rfl
theorem GM{us:List TkP}{x:TkP}(hi:i<us.length):(us.set i x).getD i .zero=x:=by grind
theorem ID{us:List TkP}{j:Nat}{x:TkP}(h:i≠j):(us.set i x).getD j .zero=us.getD j .zero:=by grind
theorem RcvM.put{r:InM}{us:List TkP}{i:Nat}{p:PieceM}{x':TkP}(h:RcvM r us)(hi:i<us.length)(G:AddM (us.getD i .zero) x' p.a p.b p.data p.last)(x:p.a<p.b)(H:p.b<=1500)(N:r.J9 (r.fst+i) p=J):RcvM (r.put (r.fst+i) p) (us.set i x'):=by
 have m:=h.len;refine⟨h.w1,h.w2,by rw[An];exact m,fun j B=>?_,?_,fun u z=>?_,fun Q=>?_,fun u f s=>?_⟩
 ·rw[An]at B
  show TuR _ (r.fst+j) _
  by_cases e:i=j
  ·subst e;rw[GM hi];exact(h.un i hi).put G x H N
  ·rw[ID e];exact(h.un j B).other (by omega)
 ·show max r.hi (r.fst+i+1)<=r.fst+r.win;have:=h.top;omega
 ·have z:r.fst+r.win<=u:=z;have d:u≠r.fst+i:=by omega
  obtain⟨f,s,E⟩:=h.fresh u z;exact⟨fun t=>(Aa (fun h=>d h.1)).trans (f t),(Aa (fun h=>d h.1)).trans s,(Aa d).trans E⟩
 ·show 0<(if max r.hi (r.fst+i+1)-1=r.fst+i then max (r.fin (r.fst+i)) p.b else r.fin (max r.hi (r.fst+i+1)-1))
  split
  ·omega
  ·rename_i d;rw[Nat.max_eq_left (by omega)];exact h.last (by omega)
 ·have f:r.fst<=u:=f;have s:max r.hi (r.fst+i+1)<=u:=s;exact(Aa (show ¬u=r.fst+i by omega)).trans (h.above u f (by omega))
theorem RcvM.upto{r:InM}{us:List TkP}{k:Nat}(h:RcvM r us)(E:k<=us.length)(m:∀j,j<k->(us.getD j .zero).whole=I)(B:k<us.length->(us.getD k .zero).whole=J):r.upto=r.fst+k:=by
 have G:∀j,j<us.length->r.whole (r.fst+j)=(us.getD j .zero).whole:=fun j a=>(h.un j a).whole
 have e:r.fst+k<=max r.fst r.hi:=by
  rcases AS (max r.fst r.hi) (r.fst+k)with f | f
  ·exfalso;have a:r.fst+(max r.fst r.hi-r.fst)=max r.fst r.hi:=by omega
   have p:=h.un (max r.fst r.hi-r.fst) (by omega);have s:=(TkP.WU (m (max r.fst r.hi-r.fst) (by omega)));have hF:=p.fin;rw[a,h.above _ (by omega) (by omega),s.2]at hF;have hF:0=(us.getD (max r.fst r.hi-r.fst) TkP.zero).len:=hF;omega
  ·exact f
 unfold InM.upto;refine Ge (by omega) e (fun j t x=>?_) (fun z=>?_)
 ·obtain⟨d,rfl⟩:∃d,j=r.fst+d:=⟨j-r.fst,by omega⟩
  grind
 ·have:=h.top;have:=h.len
  grind
theorem RcvM.out{us:List TkP}(h:RcvM r us)(d:k<=us.length)(a:∀j,j<k->(us.getD j .zero).whole=I):((List.range k).map fun i=>r.RP (r.fst+i))=(us.take k).map fun x=>strOfNums x.data:=by
 refine Bf fun t=>?_
 rw[A9,A9]
 by_cases ht:t<k
 ·rw[Ch ht,A3 ht,Ap (by omega)];have e:us.getD t .zero=us[t]'(by omega):=by grind
  simp only[Cx];rw[(h.un t (by omega)).text (a t ht),e]
 grind
theorem Km{us:List TkP}(a:k<=us.length):(us.drop k++List.replicate k TkP.zero).getD i .zero=if k+i<us.length then us.getD (k+i) .zero else .zero:=by grind
theorem RcvM.Ad2{us:List TkP}(h:RcvM r us)(s:k<=us.length):RcvM {r with fst:=r.fst+k} (us.drop k++List.replicate k .zero):=by
 have a:=h.len;have j:(us.drop k++List.replicate k TkP.zero).length=us.length:=by grind
 refine⟨h.w1,h.w2,by rw[j];exact a,fun i hi=>?_,?_,fun u m=>?_,fun d=>?_,fun u f p=>?_⟩
 ·rw[j]at hi
  show TuR _ (r.fst+k+i) _;rw[Km s]
  split
  ·rename_i e;have:=h.un (k+i) e;rw[<-BZ]at this;exact⟨this.srt,this.th,this.dl,this.dt,this.fin,this.hi,this.ln,this.lh,this.fl⟩
  ·obtain⟨t,x,z⟩:=h.fresh (r.fst+k+i) (by omega);exact TuR.zero t x z
 ·show r.hi<=r.fst+k+r.win;have:=h.top;omega
 ·have m:r.fst+k+r.win<=u:=m;exact h.fresh u (by omega)
 ·have d:r.fst+k<r.hi:=d;exact h.last (by omega)
 ·have f:r.fst+k<=u:=f;exact h.above u (by omega) p
theorem RcvM.nxt{r:InM}{us:List TkP}{k:Nat}(h:RcvM r us)(G:k<=us.length)(s:0<k->(us.getD (k-1) .zero).th≠[])(t:∀j,k<=j->j<us.length->(us.getD j .zero).th=[]):r.nxt=r.fst+k:=by
 have m:=h.len;have p:=h.top;have z:∀j,j<us.length->(us.getD j .zero).th=[]->r.fin (r.fst+j)=0:=fun j a e=>by rw[(h.un j a).fin,e];rfl
 have x:∀j,j<us.length->(us.getD j .zero).th≠[]->r.fin (r.fst+j)≠0:=fun j a e f=>by rw[(h.un j a).fin]at f;exact e (AcM (h.un j a).srt f)
 unfold InM.nxt
 rcases Ea (max r.fst r.hi) (r.fst+k)with d | d | d
 ·exfalso;exact x (k-1) (by omega) (s (by omega)) (h.above _ (by omega) (by omega))
 ·exact d
 ·exfalso;have B:=h.last (by omega);have E:=z (r.hi-1-r.fst) (by omega) (t _ (by omega) (by omega))
  grind
def TkP.NR(x:TkP):Sis:=if x.len=0 then Ip (F7 (G8 x.th) 0 x.th)++[((G8 x.th:Int), -1)] else Ip (F7 x.len 0 x.th)
theorem TuR.NR{r:InM}{u:Nat}{x:TkP}(h:TuR r u x):r.NR u=x.NR.map fun q=>(⟨((u % 64:Nat):Int),q.1,q.2⟩:GapM):=by
 have d:∀k,(r.got u k).isNone=I↔¬inS x.th k:=fun k=>by
  rw[h.th]
  cases r.got u k<;>simp
 unfold InM.NR InM.ends TkP.NR;rw[h.ln,h.fin]
 by_cases a:x.len=0
 ·rw[Ab a,Ab a]
  show((MS _ (G8 x.th) (G8 x.th+1) 0).map _)++[_]=_;rw[RD (l:=x.th) h.srt (by have:=h.srt.few h.srt.Tz;omega) (Af _) (fun k _ _=>d k),AR];unfold Ip;rw[CR];rfl
 ·rw[Aa a,Aa a]
  show((MS _ x.len (x.len+1) 0).map _)++[]=_;rw[RD (l:=x.th) h.srt (by have:=h.srt.few h.srt.Tz;have:=h.fl (by omega);omega) (Af _) (fun k _ _=>d k),AA];unfold Ip;rw[CR];rfl
def FE (us:List TkP):List Value:=us.flatMap TkP.cells
theorem JD(us:List TkP):(FE us).length=us.length*3:=by
 induction us with
 | nil=>rfl
 | cons x us ih=>
  have e:FE (x::us)=x.cells++FE us:=rfl;rw[e,Ai,ih,AE]
  show 3+_=_;omega
theorem Zc(l r:List TkP):FE (l++r)=FE l++FE r:=by simp[FE]
theorem M6(us:List TkP):∀i k,i<us.length->k<3->(FE us)[i*3+k]?=(us.getD i .zero).cells[k]?:=by
 induction us with
 | nil=>intro i k hi;simp at hi
 | cons x us ih=>
  intro i k hi a;have e:FE (x::us)=x.cells++FE us:=rfl
  cases i with
  | zero=>rw[e,BB (by show 0*3+k<3;omega),CT,Ao];rfl
  | succ i=>
   rw[AE]at hi;rw[e,BL (by show 3<=_;omega),show(i+1)*3+k-x.cells.length=i*3+k by show _-3=_;omega,ih i k (by omega) a];rfl
theorem Xe(us:List TkP):∀i,(FE us).drop (i*3)=FE (us.drop i):=by
 induction us with
 | nil=>intro i;simp[FE]
 | cons x us ih=>
  intro i
  cases i with
  | zero=>simp
  | succ i=>
   have e:FE (x::us)=x.cells++FE us:=rfl;rw[e,EU,<-ih i,show(i+1)*3=x.cells.length+i*3 by show _=3+_;omega,List.drop_append,CZ,Dd (by omega),AK]
theorem N0{us:List TkP}{f:Nat}{x':TkP}(hi:i<us.length)(h:f<3)(e:(us.getD i .zero).cells.set f v=x'.cells):(FE us).set (i*3+f) v=FE (us.set i x'):=by
 refine Bf fun t=>?_
 rw[BW,JD]
 by_cases ht:t<us.length*3
 ·have e1:=M6 (us.set i x') (t / 3) (t % 3) (by rw[An];omega) (by omega);have e2:=M6 us (t / 3) (t % 3) (by omega) (by omega);rw[show t / 3*3+t % 3=t by omega]at e1 e2;rw[e1,e2]
  by_cases a:t / 3=i
  ·have e3:(us.set i x').getD (t / 3) .zero=x':=by rw[a,GM hi]
   rw[e3,<-e,BW,a]
   by_cases d:t=i*3+f
   ·rw[Ab d.symm,Ab (by omega),Ab (by omega),Ab (by show f<3;omega)]
   grind
  grind
 ·rw[Aa (by omega),AY (by rw[JD];omega),AY (by rw[JD,An];omega)]
theorem Xf{us:List TkP}{x':TkP}(hi:i<us.length):(((FE us).set (i*3) x'.dv).set (i*3+1) x'.tv).set (i*3+2) (F M (x'.len:Int))=FE (us.set i x'):=by
 have e1:=N0 (us:=us) (i:=i) (f:=0) (v:=x'.dv) (x':={us.getD i .zero with dv:=x'.dv}) hi (by omega) rfl;rw[Bh]at e1;rw[e1];have e2:=N0 (us:=us.set i {us.getD i .zero with dv:=x'.dv}) (i:=i) (f:=1) (v:=x'.tv) (x':={us.getD i .zero with dv:=x'.dv,tv:=x'.tv}) (by rw[An];exact hi) (by omega) (by rw[GM hi];rfl);rw[e2,B9];have e3:=N0 (us:=us.set i {us.getD i .zero with dv:=x'.dv,tv:=x'.tv}) (i:=i) (f:=2) (v:= F M (x'.len:Int)) (x':=x') (by rw[An];exact hi) (by omega) (by rw[GM hi];rfl);rw[e3,B9]
def TkP.blk(x:TkP)(k:Bool):Option Nat:=if k=I then x.tv.ownBlock else x.dv.ownBlock
theorem TkP.KP(k:Bool):TkP.zero.blk k=C:=by cases k<;>rfl
theorem AeE{us:List TkP}(h:us.length<=i):us.getD i .zero=.zero:=by grind
structure PRcv(w:K)(b fs g c:Nat)(us:List TkP):Prop where
 hd:At w b 149 [F M (fs:Int), D (A ⟨g,0,C⟩) us.length c]
 own:w.ownsRow 0 151 3 (D (A ⟨g,0,C⟩) us.length c) us.length (FE us)
 od:∀i,Own w 0 (us.getD i .zero).dv (us.getD i .zero).data
 ot:∀i,OwnSp w (us.getD i .zero).tv (us.getD i .zero).th
 nb:g≠b
 na:∀i k q,(us.getD i .zero).blk k=A q->q≠b/\q≠g
 nn:∀i j k l q,(us.getD i .zero).blk k=A q->(us.getD j .zero).blk l=A q->i=j/\k=l
def Mu (b g:Nat)(us:List TkP):List Nat:=b::g::us.flatMap fun x=>(x.blk J).toList++(x.blk I).toList
theorem Adw(b g:Nat)(us:List TkP):b∈Mu b g us:=AL
theorem Ye(b g:Nat)(us:List TkP):g∈Mu b g us:=AU _ AL
theorem Up{us:List TkP}{k:Bool}(h:(us.getD i .zero).blk k=A q):q∈Mu b g us:=by
 rcases AS i us.length with hi | hi
 ·refine AU _ (AU _ (Ce.2 ⟨us.getD i .zero,?_,?_⟩))
  ·grind
  ·rw[BH]
   cases k
   ·left;rw[h];simp
   ·right;rw[h];simp
 ·rw[AeE hi,TkP.KP]at h
  cases h
theorem Uq{x:Nat}{us:List TkP}(h:x∈Mu b g us):x=b\/x=g\/∃i k,(us.getD i .zero).blk k=A x:=by
 unfold Mu at h;rw[Ar,Ar]at h
 rcases h with h | h | h
 ·exact .inl h
 ·exact .inr (.inl h)
 ·obtain⟨u,a,e⟩:=Ce.1 h;obtain⟨i,hi,rfl⟩:=List.mem_iff_getElem.1 a;have d:us.getD i .zero=us[i]:=by grind
  grind
theorem PRcv.gl{us:List TkP}(h:PRcv w b fs g c us):g<w.heap.size:=(AB h.own g rfl).2
theorem PRcv.kl{us:List TkP}(h:PRcv w b fs g c us){k:Bool}(a:(us.getD i .zero).blk k=A q):q<w.heap.size:=by
 cases k
 ·exact(AB (h.od i) q a).2
 ·exact(h.ot i).lt a
theorem PRcv.lt{w:K}{b fs g c:Nat}{us:List TkP}(h:PRcv w b fs g c us):∀x∈Mu b g us,x<w.heap.size:=fun x a=>by
 rcases Uq a with rfl | rfl | ⟨i,k,e⟩
 ·exact h.hd.lt
 ·exact h.gl
 ·exact h.kl e
theorem Ky{S:List Nat}(h:Own w 0 v L)(a:Kept S w w')(d:∀g,v.ownBlock=A g->g∉S):Own w' 0 v L:=FY h a d
theorem PRcv.kept{w w':K}{b fs g c:Nat}{us:List TkP}{T:List Nat}(h:PRcv w b fs g c us)(a:Kept T w w')(hd:∀x∈Mu b g us,x∉T):PRcv w' b fs g c us:=by
 refine⟨h.hd.kept a (hd _ (Adw _ _ _)),FY h.own a (fun e hg=>?_),fun i=>Ky (h.od i) a (fun q d=>hd _ (Up (k:=J) d)),fun i=>(h.ot i).kept a (fun q d=>hd _ (Up (k:=I) d)),h.nb,h.na,h.nn⟩;simp[Value.ownBlock]at hg;subst hg;exact hd _ (Ye _ _ _)
theorem PRcv.un{us:List TkP}(h:PRcv w b fs g c us)(hi:i<us.length):TkAt w g (i*3) (us.getD i .zero):=by
 obtain⟨cur,m, -, -, -, -,e,s⟩:=F9 h.own;have a:∀k,k<3->w.cell? ⟨g,i*3+k,C⟩=(us.getD i .zero).cells[k]?:=fun k p=>by
  rw[m.cell,<-M6 us i k hi p,<-e,A3 (by omega)]
 refine⟨a 0 (by omega),a 1 (by omega),a 2 (by omega),fun j=>m.free j,h.od i,h.ot i,fun q d=>(h.na i J q d).2,fun q d=>(h.na i I q d).2,fun q d f=>?_⟩;have:=(h.nn i i J I q d f).2
 cases this
structure TkPost(w w':K)(g o:Nat)(x x':TkP):Prop where
 kept:Kept (g::((x.blk J).toList++(x.blk I).toList)) w w'
 row:∀T cur,At w g T cur->At w' g T (((cur.set o x'.dv).set (o+1) x'.tv).set (o+2) (F M (x'.len:Int)))
 od:Own w' 0 x'.dv x'.data
 ot:OwnSp w' x'.tv x'.th
 nk:∀k q,x'.blk k=A q->x.blk k=A q\/w.heap.size<=q
 dt:∀q,x'.blk J=A q->x'.blk I≠A q
theorem PRcv.upd{us:List TkP}{x':TkP}(h:PRcv w b fs g c us)(hi:i<us.length)(s:TkPost w w' g (i*3) (us.getD i .zero) x'):
 PRcv w' b fs g c (us.set i x'):=by
 have aa:=h.gl;have T:=h.hd.lt;have z:g≠b:=h.nb;have x:∀q,q∈g::(((us.getD i .zero).blk J).toList++((us.getD i .zero).blk I).toList)->q=g\/∃k,(us.getD i .zero).blk k=A q:=by grind
 have G:b∉g::(((us.getD i .zero).blk J).toList++((us.getD i .zero).blk I).toList):=fun f=>by
  rcases x b f with e | ⟨k,e⟩
  ·exact z e.symm
  ·exact(h.na i k b e).1 rfl
 have B:∀j,j≠i->∀k q,(us.getD j .zero).blk k=A q->q∉g::(((us.getD i .zero).blk J).toList++((us.getD i .zero).blk I).toList):=fun j a k q f d=>by
  rcases x q d with e | ⟨l,e⟩
  ·exact(h.na j k q f).2 e
  ·exact a (h.nn j i k l q f e).1
 obtain⟨cur,S, -,Q,H,W,N,ab⟩:=F9 h.own;have E:=s.row _ _ S;refine⟨?_,?_,fun j=>?_,fun j=>?_,h.nb,fun j k q f=>?_,fun j l k m q f d=>?_⟩
 ·rw[An];exact h.hd.kept s.kept G
 ·rw[An];refine E.row (by rw[JD,An]) Q H (by grind) ?_;rw[CW,CW,CW,N];exact Xf hi
 ·by_cases a:j=i
  ·subst a;rw[GM hi];exact s.od
  ·rw[ID (fun e=>a e.symm)];exact Ky (h.od j) s.kept (fun q f=>B j a J q f)
 ·by_cases a:j=i
  ·subst a;rw[GM hi];exact s.ot
  ·rw[ID (fun e=>a e.symm)];exact(h.ot j).kept s.kept (fun q f=>B j a I q f)
 ·by_cases a:j=i
  ·subst a;rw[GM hi]at f
   rcases s.nk k q f with t | t
   ·exact h.na j k q t
   ·exact⟨by omega,by omega⟩
  ·rw[ID (fun e=>a e.symm)]at f;exact h.na j k q f
 ·by_cases a:j=i
  ·subst a;rw[GM hi]at f
   by_cases p:l=j
   ·subst p;rw[GM hi]at d;refine⟨rfl,?_⟩
    cases k<;>cases m
    ·rfl
    ·exact absurd d (s.dt q f)
    ·exact absurd f (s.dt q d)
    ·rfl
   ·rw[ID (fun e=>p e.symm)]at d
    rcases s.nk k q f with t | t
    ·exact h.nn j l k m q t d
    ·have:=h.kl d;omega
  ·rw[ID (fun e=>a e.symm)]at f
   by_cases p:l=i
   ·subst p;rw[GM hi]at d
    rcases s.nk m q d with t | t
    ·exact h.nn j l k m q f t
    ·have:=h.kl f;omega
   ·rw[ID (fun e=>p e.symm)]at d;exact h.nn j l k m q f d
theorem AjW{B:Nat}{us:List TkP}{x':TkP}(hi:i<us.length)(a:∀k q,x'.blk k=A q->(us.getD i .zero).blk k=A q\/B<=q):Ga B (Mu b g us) (Mu b g (us.set i x')):=by simp_all[Ga,Mu];grind
theorem PRcv.Ad2{e:Nat}{us:List TkP}{T:List Nat}(h:PRcv w b fs g c us)(f:k<=us.length)(p:Kept T w w')(s:∀i l q,(us.getD i .zero).blk l=A q->q∉T)
 (hd:At w' b 149 [F M (e:Int), D (A ⟨g,0,C⟩) us.length c])
 (x:w'.ownsRow 0 151 3 (D (A ⟨g,0,C⟩) us.length c) us.length (FE (us.drop k++List.replicate k .zero))):PRcv w' b e g c (us.drop k++List.replicate k .zero):=by
 have t:(us.drop k++List.replicate k TkP.zero).length=us.length:=by grind
 refine⟨by rw[t];exact hd,by rw[t];exact x,fun i=>?_,fun i=>?_,h.nb,fun i l q a=>?_,fun i j l m q a d=>?_⟩
 ·rw[Km f]
  split
  ·exact Ky (h.od _) p (fun q a=>s _ J q a)
  ·exact Own.nil _ _
 ·rw[Km f]
  split
  ·exact(h.ot _).kept p (fun q a=>s _ I q a)
  ·exact OwnSp.nil _
 ·rw[Km f]at a
  split at a
  ·exact h.na _ l q a
  ·rw[TkP.KP]at a;cases a
 ·rw[Km f]at a d
  split at a
  ·split at d
   ·have:=h.nn _ _ l m q a d;exact⟨by omega,this.2⟩
   ·rw[TkP.KP]at d;cases d
  ·rw[TkP.KP]at a;cases a
theorem Wr{us:List TkP}(a:k<=us.length):∀x∈Mu b g (us.drop k++List.replicate k .zero),x∈Mu b g us:=by grind [Mu,Uq,Adw,Ye,Km,Up,TkP.KP]
theorem Uy(w:K)(a b c d:Int):(binOp .eql 146 (.agg #[F M a, F M b]) (.agg #[F M c, F M d])).run prog w=.ok (.bool (a==c && b==d)) w:=by
 have ht:prog.underlying 146=A (.struct (prog.fieldsOf 146)):=by kernel_rfl
 have x:prog.stoodInHeld 146=J:=by kernel_rfl
 rw[run_eql_struct,run_equalIn_struct w 9999 _ _ _ ht x];have e:(prog.fieldsOf 146).toList.map (fun f=>(f.name,f.type,f.offset))=[("from",3,0),("to",3,1)]:=by kernel_rfl
 generalize (prog.fieldsOf 146).toList=fs at e;obtain _ | ⟨f,_ | ⟨g,_ | ⟨q,fs⟩⟩⟩:=fs
 ·simp at e
 ·simp at e
 ·simp only[Be,BE,EH,Prod.mk.injEq,BJ]at e;obtain⟨⟨h,j,m⟩,p,s,t⟩:=e;simp only[Op.eqFields,h,j,m,p,s,t]
  by_cases e1:a=c<;>by_cases e2:b=d<;>simp[part,run_equalIn_int,underlying3,e1,e2]
 ·simp at e
theorem Ah6{x:TkP}(h:TkAt w g o x)(G:0<x.len)(H:x.len<=3000)(p:x.th.length=1):
 Calls prog 244 #[.pointer (A ⟨g,o,C⟩)] w fun e w'=>e=.returned (.bool x.whole)/\∃n,w'=w.drewN n:=by
 have c2:=h.c2;have c1:=h.c1;obtain⟨a,c,e, -, -, -⟩:=h.ot.FC;rw[p]at e;have d:=h.ot;rw[e]at c1 d;obtain⟨m,rfl, -,t⟩:=d.at (i:=0) (by omega);obtain⟨j,f⟩:=t 0 (by omega);rw[CT]at j f;rw[Ao]at f
 match hx:x.th,p with
 | [(P,Q)],_=>
  rw[hx]at j f;have z:=Uy w P Q 0 x.len;have s:x.whole=((P:Int)==0 && (Q:Int)==(x.len:Int)):=by
   unfold TkP.whole
   grind
  rw[s];have j:w.cell? ⟨m,0,C⟩=A (F M (P:Int)):=j;have f:w.cell? ⟨m,1,C⟩=A (F M (Q:Int)):=f;have E:=fun(W:K)=>Uy W P Q 0 x.len
  clear z s hx t d e h;generalize (((P:Int)==0) && ((Q:Int)==(x.len:Int)))=B at*;generalize x.len=L at*;go_enter func244,ntmps244
  go_wp2_with fail
  go_quiet (fail)
  go_wp2_with fail;go_ret;exact⟨rfl,_,rfl⟩
theorem Aea{x:TkP}(h:TkAt w g o x)(d:x.len<=3000)(a:x.th.length<=4000):
 Calls prog 244 #[.pointer (A ⟨g,o,C⟩)] w fun e w'=>e=.returned (.bool x.whole)/\∃n,w'=w.drewN n:=by grind [TkP.whole,Aei,Ah6,Aeh]
theorem Qq(n:Nat):FE (List.replicate n .zero)=(madeCells #[D C 0 0, D C 0 0, F M 0] (n*3)).toList:=by
 refine Bf fun t=>?_
 by_cases ht:t<n*3
 ·have e1:=M6 (List.replicate n .zero) (t / 3) (t % 3) (by rw[A7];omega) (by omega);rw[show t / 3*3+t % 3=t by omega,Lr]at e1;rw[e1];have a:t % 3=0\/t % 3=1\/t % 3=2:=by omega
  rcases a with a | a | a<;>simp[madeCells,a,ht,TkP.zero,TkP.cells]
 ·rw[AY (by rw[JD,A7];omega),AY (by rw[AH,size_madeCells];omega)]
theorem YH(n:Nat):(Builtin.zeroCells #[D C 0 0, D C 0 0, F M 0] n).toList=FE (List.replicate n .zero):=(Qq n).symm
theorem Rx(w:K)(S:1<=k)(T:k<=32):Calls prog 127 #[F M (k:Int)] w fun e w'=>∃b g,e=.returned (.tuple #[.pointer (A ⟨b,0,C⟩), F M 0])/\PRcv w' b 0 g k (List.replicate k .zero)/\w.heap.size<=b/\w.heap.size<=g/\Below w.heap.size w w':=by
 have B:=NE (k:Int) w;rw[Aa (by omega)]at B;obtain⟨H,hi,s,t,x⟩:=As Tryz.AcN;go_enter func127,ntmps127
 go_wp2_with(first
  | (go_at_call 170;refine B.mono ?_;rintro e w1 ⟨rfl,rfl⟩)
  | (at_make;refine CK _ rfl _ _ 147 rfl w1.heap.size 151 H (.agg #[D C 0 0, D C 0 0, F M 0]) 3 underlying147 hi s t M M _ _ k rfl rfl rfl rfl (by rw[x];omega) (by unfold maxLen;omega) (Ac _) ?_;intro w2 d p))
 go_ret2;have h:Below w1.heap.size w1 w2:=(Ad _ w1).grown p (Ac _) (by intro q a;cases a);have G:w1.heap.size<w2.heap.size:=(AB d w1.heap.size rfl).2;refine⟨w2.heap.size,w1.heap.size,rfl,⟨?_,?_,fun i=>?_,fun i=>?_,?_,fun i l q a=>?_,fun i j l m q a=>?_⟩,by omega,Ac _,h.alloc (by omega) _⟩
 ·rw[A7];exact Fc w2 149 [F M 0, D (A ⟨w1.heap.size,0,C⟩) k k]
 ·rw[A7,Qq];have z:=A6 d (.cells #[F M 0, D (A ⟨w1.heap.size,0,C⟩) k k] 149);refine⟨z.1,?_⟩
  rcases z.2 with E | ⟨g,f,cur,N,W,Q⟩
  ·exact .inl E
  ·exact .inr ⟨g,f,cur,N,Af _,Q⟩
 ·rw[Lr];exact Own.nil _ _
 ·rw[Lr];exact OwnSp.nil _
 ·omega
 ·rw[Lr,TkP.KP]at a;cases a
 ·rw[Lr,TkP.KP]at a;cases a
def MC (w:K)(x:TkP):Ending->K->Prop:=fun e w'=>∃v',e=.returned v'/\OwnSi w' w.heap.size v' x.NR/\Below w.heap.size w w'
theorem AhN{x:TkP}(h:TkAt w g o x)(s:Srt x.th)(hl:x.len<=3000)(Q:G8 x.th<=3000):
 Calls prog 71 #[.pointer (A ⟨g,o,C⟩)] w (MC w x):=by
 have c1:=h.c1;have c2:=h.c2;obtain⟨a,c,e, -, -, -⟩:=h.ot.FC;have d:=h.ot;rw[e]at c1 d;have f:Qe x.th 3000:=fun q hq=>Ak (s.Tz q hq) Q
 have m:=s.few f
 by_cases t:x.len=0
 ·have z:=WF d (by omega);have hg:=P6 (lo:=0) (hi:=G8 x.th) d s f (Af _) Q;have W:=OR (hi:=G8 x.th) (l:=x.th) (lo:=0);have H:=hid (show x.NR=Ip (F7 (G8 x.th) 0 x.th)++[((G8 x.th:Int), -1)]by unfold TkP.NR;rw[Ab t]);rw[t]at c2;have B:Hid ((Ip (F7 (G8 x.th) 0 x.th)).length<=100000):=by show _<=_;rw[Hi];omega
  clear h d e W f m t hl s;unfold Qf at hg;generalize x.th.length=N at*;generalize F7 (G8 x.th) 0 x.th=G at*;generalize G8 x.th=E at*;generalize S:MC w x=P;go_enter func71,ntmps71
  go_wp2_with(first
   | (go_at_call 121;refine z.mono ?_;rintro e w1 ⟨rfl,rfl⟩)
   | (go_at_call 120;refine hg.mono ?_;rintro e w2 ⟨v2,rfl,p,j⟩)
   | (at_builtin;refine Mz w1.heap.size w1 _ _ p rfl _ _ rfl rfl _ rfl rfl B.out j j.size ?_;intro v3 w3 aa T ab))
  rw[<-S];exact⟨v3,rfl,by rw[H.out];exact aa,T⟩
 ·have hg:=P6 (w:=w.drew) (lo:=0) (hi:=x.len) d s f (Af _) hl;have H:=hid (show x.NR=Ip (F7 x.len 0 x.th)by unfold TkP.NR;rw[Aa t]);have hp:0<x.len:=by omega
  clear h d e f m t s Q;generalize x.th.length=N at*;unfold Qf at hg;generalize F7 x.len 0 x.th=G at*;generalize x.len=L at*;generalize S:MC w x=P;go_enter func71,ntmps71;go_upto_region 2 with fail
  go_region_with (go_at_call 120;refine hg.mono ?_;rintro e w2 ⟨v2,rfl,p,j⟩)
  all_goals
   go_wp2_with fail;go_ret;rw[<-S];exact⟨v2,rfl,by rw[H.out];exact p,((Ad _ w).drew).trans j⟩
def JN (n:Nat):ByteArray:=⟨Array.replicate n 0⟩
theorem U6(n:Nat):(JN n).size=n:=by simp[JN,ByteArray.size]
theorem SN(n:Nat):Lib.strCells (JN n)=(List.replicate n (0:Int)).map (Value.int .u8):=by
 unfold Lib.strCells JN;simp
theorem U7(n:Nat):Builtin.zeroCells #[F .u8 0] n=(Lib.strCells (JN n)).toArray:=by
 rw[SN];refine C5 (by simp[Builtin.zeroCells]) fun j a d=>?_
 simp[Builtin.zeroCells,Nat.mod_one]
theorem QV(w:K)(t u st ty e:TypeId)(i:TypeInfo)(ht:P.underlying t=A (.slice e))(hu:P.underlying u=A (.int M))(x:P.underlying st=A .string)(hi:P.info? e=A i)(hz:i.zero=A (F .u8 0))(f:i.size=1)(s:i.bytes=1)
 (b:Option Addr) (a d n:Nat) (hn:a+n<=70368744177664):
 (Builtin.append_ #[t,u] ty #[D b a d, F M (n:Int)]).run P w=(Builtin.append_ #[t,st] ty #[D b a d,.string (JN n)]).run P w:=by
 have hw:IntKind.i64.wrap (n:Int)=(n:Int):=by rw[AO];omega
 have h0:¬((n:Int)<0):=by omega
 have E:¬((281474976710656:Int)<(n:Int)):=by omega
 have S:(Value.int IntKind.u8 0).cells=#[F .u8 0]:=rfl;have z:=U6 n;have p:∀(m:Int) (W:K),(asInt (F M m)).run P W=.ok m W:=fun m W=>by simp[asInt,asIntOf]
 have Q:IntKind.i64.wrap 0=0:=by decide
 by_cases T:a+n<=d
 ·by_cases j:n=0
  ·subst j;have h:=Cg (P:=P) w 1 (JN 0);have he:Lib.strCells (JN 0)=[]:=rfl;rw[z,he]at h;have B:a<=d:=T;simp[Builtin.append_,Av ht,Av hu,Av x,sizeOf,typeInfo,hi,f,s,Builtin.lenOf,z,h,p,Q,B]
  ·have h:=Cg (P:=P) w 1 (JN n);rw[z]at h;simp[Builtin.append_,Av ht,Av hu,Av x,sizeOf,typeInfo,zeroValue,hi,hz,f,s,Builtin.lenOf,z,h,p,hw,h0,E,T,j,S,U7]
 ·have aa:¬(9223372036854775807<((a:Int)+(n:Int))):=by omega
  have hg:=DC (need:=a+n) (old:=d) (bytes:=1) (by omega) (by omega);rw[By]at hg;have H:¬(281474976710656<Builtin.nextslicecap (a+n) d):=by omega
  by_cases j:n=0
  ·subst j;have h:∀W:K,(Builtin.firstCells 1 0 (.string (JN 0))).run P W=.ok #[] W:=fun W=>by
    have h:=Cg (P:=P) W 1 (JN 0);have he:Lib.strCells (JN 0)=[]:=rfl;rw[z,he]at h;exact h
   have B:¬a<=d:=T;have G:¬(9223372036854775807<(a:Int)):=by omega
   have N:¬(281474976710656<Builtin.nextslicecap a d):=H;simp[Builtin.append_,Av ht,Av hu,Av x,sizeOf,typeInfo,zeroValue,hi,hz,f,s,Builtin.lenOf,z,h,p,Q,B,G,N]
  ·have h:∀W:K,(Builtin.firstCells 1 n (.string (JN n))).run P W=.ok (Lib.strCells (JN n)).toArray W:=fun W=>by
    have h:=Cg (P:=P) W 1 (JN n);rw[z]at h;exact h
   simp[Builtin.append_,Av ht,Av hu,Av x,sizeOf,typeInfo,zeroValue,hi,hz,f,s,Builtin.lenOf,z,h,p,hw,h0,E,T,aa,H,j,S,U7]
theorem Own.Apc(h:Own w 0 v L)(E:L.length+n<=70368744177664):
 ∃v' W,(∀ty,(Builtin.append_ #[103,3] ty #[v, F M (n:Int)]).run prog w=.ok v' W)/\Own W 0 v' (L++List.replicate n 0)/\w.grownBy W v.ownBlock/\(∀g,v'.ownBlock=A g->v.ownBlock=A g\/w.heap.size<=g):=by
 obtain⟨G,hi,f,m,p⟩:=As Tryz.Of;obtain⟨b,c,e, -, -, -⟩:=Own.FC h;subst e;have d:=U6 n;obtain⟨v',w',B,T,h3,h4⟩:=EI (P:=prog) w 0 103 9 0 5 G underlying103 underlying9 hi f m p _ _ _ h (JN n) (by rw[d];unfold maxLen;omega) (by rw[d];omega) (Af _);have N:∀ty,(Builtin.append_ #[103,3] ty #[D b L.length c, F M (n:Int)]).run prog w=.ok v' w':=fun ty=>by
  rw[QV w 103 3 9 ty 5 G underlying103 underlying3 underlying9 hi f m p b L.length c n E];exact B
 refine⟨v',w',N,?_,h3,?_⟩
 ·rw[SN,d]at T;unfold Own
  grind
 ·intro q x
  rcases h.2 with⟨e, -⟩ | ⟨H,s,cur,e, -,hg,ac,aa,ab,Q⟩
  ·rw[e]at B
   by_cases hn:n=0
   ·grind
   ·have a:=run_append_nil_string (P:=prog) w 103 9 0 5 G (F .u8 0) underlying103 underlying9 hi f (JN n) (by rw[d];omega) (by rw[d];omega) (by rw[p,d];omega);rw[B]at a
    injection a with e1 e2
    rw[e1]at x;simp[Value.ownBlock]at x;exact .inr (by omega)
  ·rw[e]at B;have hl:=h.1
   by_cases z:L.length+(JN n).size<=s
   ·have a:=Lib.run_append_room_string (P:=prog) w 103 9 0 5 G underlying103 underlying9 hi m H L.length s cur hg (JN n) z (by omega);rw[B]at a
    injection a with e1 e2
    rw[e1]at x;rw[e];simp only[Value.ownBlock]at x ⊢;exact .inl x
   ·have S:=h;rw[e]at S;have t:∀j u,(L.map (Value.int .u8))[j]?=A u->w.cell? ((⟨H,0,C⟩:Addr).add j)=A u:=World.ownsRow.cells S (g:=H) rfl;have a:=Lib.run_append_grow_string (P:=prog) w 103 9 0 5 G (F .u8 0) underlying103 underlying9 hi f ⟨H,0,C⟩ L.length s (L.map (Value.int .u8)) (by rw[m];simp) t (JN n) (by omega) (by rw[d];omega) (by rw[p];exact DC (by rw[d];omega) (by omega));rw[B]at a
    injection a with e1 e2
    rw[e1]at x;simp[Value.ownBlock]at x;exact .inr (by omega)
theorem Adu{us:List TkP}(h:PRcv w b fs g c us)(hl:us.length<=32)(B:∀i,(us.getD i .zero).th.length<=4000):
 Calls prog 69 #[.pointer (A ⟨b,0,C⟩)] w fun e w'=>∃k,k<=us.length/\e=.returned (F M ((k:Nat):Int))/\(0<k->(us.getD (k-1) .zero).th≠[])/\(∀j,k<=j->j<us.length->(us.getD j .zero).th=[])/\w'=w:=by
 have c1:w.cell? ⟨b,1,C⟩=A (D (A ⟨g,0,C⟩) us.length c):=h.hd.cell 1;obtain⟨N, z⟩ := E7 us.length;rw[<-z]at c1 hl;have H:=hid h;have s:=hid z;generalize W:(fun(e:Ending) (w':K)=>∃k,k<=us.length/\e=.returned (F M ((k:Nat):Int))/\(0<k->(us.getD (k-1) .zero).th≠[])/\(∀j,k<=j->j<us.length->(us.getD j .zero).th=[])/\w'=w)=P;have Q:=hid W;clear h z W;go_enter func69,ntmps69
 go_wp2_with fail
 go_loopw [3] (fun v wr=>∃k:Nat,k<=N/\v= F M (k:Int)/\(∀j,k<=j->j<N->(us.getD j .zero).th=[])/\Hid (wr=w)) (fun v _=>(intOf v).toNat)
 case atStart=>exact⟨N,Ac _,rfl,fun j d a=>by omega,hid rfl⟩
 case round=>
  obtain⟨k,hk,rfl,hz,G⟩:=hrel;have G:=G.out;subst G;have t:=hid hz;clear hz
  by_cases h0:k=0
  ·subst h0
   go_wp2_with fail;rw[<-Q.out];exact⟨0,Af _,rfl,fun h=>absurd h (Bp _),fun j d a=>t.out j d (by rw[s.out];exact a),rfl⟩
  ·obtain⟨m,rfl⟩:∃m,k=m+1:=⟨k-1,by omega⟩;have E:=H.out.un (i:=m) (by rw[<-s.out];omega);have ab:=B m;have u1:=E.c1;obtain⟨aT,cT,S, -, -, -⟩:=E.ot.FC;rw[S]at u1;have x:Hid ((us.getD m .zero).th.length=0->(us.getD m .zero).th=[]):=hid fun h=>Cp h
   have f:Hid ((us.getD m .zero).th=[]->(us.getD m .zero).th.length=0):=hid fun h=>by rw[h];rfl
   clear E S;generalize (us.getD m .zero).th.length=L at*;have af:IntKind.i64.wrap (((m+1:Nat):Int)-1)=(m:Int):=by rw[AO];omega
   have aa:IntKind.i64.wrap ((m:Int)+1-1)=(m:Int):=by rw[AO];omega
   have ad:(m:Int)+1-1=(m:Int):=by omega
   have p:(0:Int)<(m:Int)+1:=by omega
   have d0:decide ((0:Int)<(m:Int)+1)=I:=Ag p;have ac:m<N:=by omega
   by_cases T:L=0
   ·subst T
    go_wp2_with fail
    go_roundw
    case rel=>
     refine⟨m,by omega,by go_num,fun j d a=>?_,by first | exact hid rfl | exact hid trivial⟩
     by_cases hj:j=m
     ·subst hj;exact x.out rfl
     ·exact t.out j (by omega) a
    case measure=>simp[intOf]
   ·have ae:((L:Int)==0)=J:=by rw[Cb];omega
    go_wp2_with fail;rw[<-Q.out];refine⟨m+1,by rw[<-s.out];exact hk,rfl,fun _ e=>T (f.out e),fun j d a=>t.out j d (by rw[s.out];exact a),rfl⟩
theorem RB(w:K)(t N ty e tb:TypeId)(i:TypeInfo)(z:Value)(ht:P.underlying t=A (.slice e))(G:P.underlying N=A (.int M))(hi:P.info? e=A i)(hz:i.zero=A z)(hs:i.size=z.cells.size)(h0:0<z.cells.size)
 (g a d n:Nat) (cur:List Value) (hg:At w g tb cur) (hn:0<n) (f:a+n<=d) (hb:n*i.bytes<=281474976710656) (H:n<=4611686018427387904) (h:a*z.cells.size+n*z.cells.size<=cur.length) (Q:∀v∈(Builtin.zeroCells z.cells n).toList,v.oneCell'=I):
 (Builtin.append_ #[t,N] ty #[D (A ⟨g,0,C⟩) a d, F M (n:Int)]).run P w=.ok (D (A ⟨g,0,C⟩) (a+n) d) (w.setRow g (splice cur (a*z.cells.size) (Builtin.zeroCells z.cells n).toList).toArray):=by
 have T:(Builtin.zeroCells z.cells n).toList.length=n*z.cells.size:=by rw[AH,Cj]
 have j:=CU P g (a*z.cells.size) tb (Builtin.zeroCells z.cells n).toList 0 cur.toArray w hg (by rw[T];simpa using h) Q;simp only[Bh]at j;have hw:IntKind.i64.wrap (n:Int)=(n:Int):=by rw[AO];omega
 have B:¬((n:Int)<0):=by omega
 have p:¬((281474976710656:Int)<(n:Int)*(i.bytes:Int)):=by
  grind
 have E:n≠0:=by omega
 have x:z.cells.size≠0:=by omega
 have s:∀(m:Int) (W:K),(asInt (F M m)).run P W=.ok m W:=fun m W=>by simp[asInt,asIntOf]
 simp[Builtin.append_,Av ht,Av G,sizeOf,typeInfo,zeroValue,hi,hz,hs,s,hw,B,p,f,BT,j,splice];exact fun S=>absurd S (Nat.mul_ne_zero E x)
theorem AkC{m:Nat}{xs:List Value}(h:w.ownsRow 0 151 3 (D (A ⟨g,0,C⟩) n c) n xs)(a:n+m<=c)(hm:m<=32):
 ∃W,(∀ty,(Builtin.append_ #[147,3] ty #[D (A ⟨g,0,C⟩) n c, F M (m:Int)]).run prog w=.ok (D (A ⟨g,0,C⟩) (n+m) c) W)/\W.ownsRow 0 151 3 (D (A ⟨g,0,C⟩) (n+m) c) (n+m) (xs++FE (List.replicate m .zero))/\Kept [g] w W:=by
 obtain⟨i0,hi,z,d,B⟩:=As Tryz.AcN;obtain⟨cur,H, -,p,j,Q,S,x⟩:=F9 h
 by_cases N:m=0
 ·subst N;refine⟨w,fun ty=>?_,?_,Kept.refl _ _⟩
  ·have f:∀(m:Int) (W:K),(asInt (F M m)).run prog W=.ok m W:=fun m W=>by simp[asInt,asIntOf]
   have t:IntKind.i64.wrap 0=0:=by decide
   have s:(storeCells ⟨g,n*3,C⟩ []).run prog w=.ok () w:=by simp[storeCells]
   simp[Builtin.append_,Av underlying147,Av underlying3,sizeOf,typeInfo,hi,d,f,t,p,BT,s]
  ·have e:FE (List.replicate 0 TkP.zero)=[]:=rfl;rw[e,AA];exact h
 ·have E:=YH m;have G:(FE (List.replicate m TkP.zero)).length=m*3:=by rw[JD,A7]
  refine⟨_,fun ty=>RB w 147 3 ty 151 151 i0 _ underlying147 underlying3 hi z (by rw[d];rfl) (by decide) g n c m cur H (by omega) a (by rw[B];omega) (by omega) (by show n*3+m*3<=_;omega) (fun v T=>?_),?_,FO _ _ _⟩
  ·have:=OJ T;have:v∈(#[D C 0 0, D C 0 0, F M 0]:Array Value):=this;simp at this
   rcases this with rfl | rfl<;>rfl
  ·have e:(Builtin.zeroCells (Value.agg #[D C 0 0, D C 0 0, F M 0]).cells m).toList=FE (List.replicate m .zero):=E;rw[e];refine At.row H.set ?_ a j ?_ ?_
   ·rw[Ai,G,x];omega
   ·show(splice cur (n*3) _).length=_;unfold splice
    grind
   ·show(splice cur (n*3) _).take _=_;unfold splice
    grind
end Go.Proofs.YtbjgfoiikhbonahGreatDoor
