import Derived.Test.YtbjgfoiikhbonahGreatDoorD17
import Derived.Lib.AppendStr
set_option linter.unusedVariables false
set_option linter.unusedSimpArgs false
set_option maxRecDepth 100000
set_option maxHeartbeats 4000000
namespace Go.Proofs.YtbjgfoiikhbonahGreatDoor
open Go.ChangeShapes Go.WideShapes Go.ChangeAt Go.RowKit Go.Proofs.Tryz
open Value (int slice)
open IntKind (i64)
variable {L:List Int}{P:Program}{b c fs g i k n o q u:Nat}{l:Sps}{r:InM}{v:Value}{w w':World}
theorem Amm(h:Srt l)(m:0<n)(hi:∀t,inS l t↔t<n):l=[(0,n)]:=by
 match l,h,hi with
 | [],_,hi=>exact absurd ((hi 0).2 m) (GT 0)
 | (a,b)::r,h,hi=>
  obtain⟨e,f⟩:=h.head;have e:a<b:=e;have f:∀p∈r,b<p.1:=f;have j:∀t,inS r t->b<t:=fun t ⟨q,z,d,_⟩=>by have:=f q z;omega
  have B:a=0:=by
   rcases (Gc _ _ _).1 ((hi 0).2 m)with d | d
   ·have:a<=0:=d.1;omega
   ·have:=j 0 d;omega
  have x:b-1<n:=(hi _).1 ((Gc _ _ _).2 (.inl ⟨by show a<=b-1;omega,by show b-1<b;omega⟩));have y:n<=b:=by
   grind [Gc]
  have A:r=[]:=by
   cases r with
   | nil=>rfl
   | cons q r=>
    have d:=f q AL;have s:=h.1 q (by simp);have:=(hi q.1).1 ((Gc _ _ _).2 (.inr ((Gc _ _ _).2 (.inl ⟨Ac _,s⟩))));omega
  grind
structure TuR(r:InM)(u:Nat)(x:TkP):Prop where
 srt:Srt x.th
 th:∀t,inS x.th t↔(r.got u t).isSome=true
 dl:x.data.length=G8 x.th
 dt:∀t,inS x.th t->r.got u t=some (UInt8.ofNat (x.data.getD t 0).toNat)
 fin:r.fin u=G8 x.th
 hi:G8 x.th<=1500
 ln:r.len u=if x.len=0 then none else some x.len
 lh:x.len<=1500
 fl:0<x.len->G8 x.th<=x.len
structure AddM(x x':TkP)(a b:Nat)(s:ByteArray)(last:Bool):Prop where
 srt:Srt x'.th
 th:∀i,inS x'.th i↔inS x.th i\/(a<=i/\i<b)
 dl:x'.data.length=max x.data.length b
 old:∀t,inS x.th t->x'.data.getD t 0=x.data.getD t 0
 new:∀t,a<=t->t<b->¬inS x.th t->x'.data.getD t 0=((s.get! (t-a)).toNat:Int)
 ln:x'.len=if last=true then b else x.len
theorem TuR.zero(a:∀t,r.got u t=none)(d:r.len u=none)(e:r.fin u=0):TuR r u .zero:=by
 refine⟨Srt.nil,fun t=>?_,rfl,fun t ht=>absurd ht (GT t),e,Af _,d,Af _,fun h=>absurd h (Bp _)⟩;rw[a];exact⟨fun h=>absurd h (GT t),fun h=>by cases h⟩
theorem TuR.whole{r:InM}{u:Nat}{x:TkP}(h:TuR r u x):r.whole u=x.whole:=by
 unfold InM.whole TkP.whole;rw[h.ln]
 by_cases f:x.len=0
 ·grind
 ·rw[Aa f,Ag (by omega:0<x.len),Bool.true_and];have j:=h.fl (by omega)
  by_cases d:x.th=[(0,x.len)]
  ·rw[Ag d]
   have:Fv (fun i=>(r.got u i).isNone) 0 x.len=x.len:=IQ (Af _) (fun k _ m=>by
    have:inS x.th k:=by rw[d];exact⟨_,AL,Af _,m⟩
    have a:=(h.th k).1 this
    cases hg:r.got u k with
    | none=>rw[hg]at a;cases a
    | some _=>rfl)
   grind
  ·rw[Ae d]
   show(_==x.len)=false;rw[Cb];intro e;refine d (Amm h.srt (by omega) fun t=>⟨fun ht=>?_,fun ht=>?_⟩)
   ·have:=XH h.srt ht;omega
   ·have a:=L9 (p:=fun i=>(r.got u i).isNone) (Af t) (by rw[e];exact ht);refine(h.th t).2 ?_
    cases hg:r.got u t with
    | none=>simp[hg]at a
    | some _=>rfl
theorem TkP.WU{x:TkP}(h:x.whole=true):0<x.len/\x.th=[(0,x.len)]:=by grind [TkP.whole]
theorem TuR.text{x:TkP}(h:TuR r u x)(f:x.whole=true):r.RP u=strOfNums x.data:=by
 obtain⟨j,d⟩:=TkP.WU f;have e:G8 x.th=x.len:=by rw[d];rfl
 have m:x.data.length=x.len:=by rw[h.dl,e]
 unfold InM.RP strOfNums;rw[h.ln,Aa (by omega)]
 congr 2
 refine Bf fun t=>?_
 show((List.range x.len).map _)[t]?=_;rw[A9,A9]
 by_cases ht:t<x.len
 ·rw[Ch ht,Ap (by omega)];have a:inS x.th t:=by rw[d];exact⟨_,AL,Af _,ht⟩
  have hd:x.data.getD t 0=x.data[t]'(by omega):=by grind
  simp only[Cx];rw[h.dt t a,hd];rfl
 grind
theorem AcM(h:Srt l)(a:G8 l=0):l=[]:=by simp_all[Sps,Srt,G8];grind
theorem AddM.ends{x x':TkP}{a:Nat}{s:ByteArray}{last:Bool}(h:AddM x x' a b s last)(e:Srt x.th)(f:a<b):G8 x'.th=max (G8 x.th) b:=by
 refine Alq h.srt (fun i hi=>?_) (fun j=>?_)
 ·rcases (h.th i).1 hi with d | d
  ·have:=XH e d;omega
  ·omega
 ·refine(h.th _).2 ?_
  rcases AS (G8 x.th) b with d | d
  ·exact .inr ⟨by omega,by omega⟩
  ·rw[Nat.max_eq_left d];exact .inl (e.AmK (by omega))
theorem TuR.put{r:InM}{u:Nat}{x x':TkP}{p:PieceM}(h:TuR r u x)(d:AddM x x' p.a p.b p.data p.last)(z:p.a<p.b)(F:p.b<=1500)(e:r.J9 u p=false):TuR (r.put u p) u x':=by
 have f:=d.ends h.srt z;unfold InM.J9 at e;rw[Bool.or_eq_false_iff,h.ln,h.fin]at e;obtain⟨C,D⟩:=e;have A:p.last=true->G8 x.th<=p.b:=by grind
 have j:0<x.len->p.b<=x.len/\(p.last=true->x.len=p.b):=by grind
 have m:∀t,(r.put u p).got u t=if p.a<=t/\t<p.b/\r.got u t=none then some (p.data.get! (t-p.a)) else r.got u t:=fun t=>by
  show(if u=u/\p.a<=t/\t<p.b/\r.got u t=none then _ else _)=_;simp only[true_and]
 have s:∀t,r.got u t=none↔¬inS x.th t:=fun t=>by
  rw[h.th]
  cases r.got u t<;>simp
 refine⟨d.srt,fun t=>?_,?_,fun t ht=>?_,?_,by rw[f];have:=h.hi;omega,?_,?_,fun y=>?_⟩
 ·rw[d.th,m]
  by_cases e:p.a<=t/\t<p.b/\r.got u t=none
  ·grind
  ·rw[Aa e,<-h.th]
   grind
 ·rw[d.dl,h.dl,f]
 ·rw[m]
  by_cases e:p.a<=t/\t<p.b/\r.got u t=none
  ·rw[Ab e,d.new t e.1 e.2.1 ((s t).1 e.2.2)];simp
  ·rw[Aa e];have j:inS x.th t:=by
    rcases (d.th t).1 ht with B | B
    ·exact B
    grind
   rw[d.old t j];exact h.dt t j
 ·show(if u=u then max (r.fin u) p.b else _)=_;rw[Ab rfl,h.fin,f]
 ·show(if u=u/\p.last=true then some p.b else r.len u)=_;rw[d.ln,h.ln]
  grind
 ·rw[d.ln];have:=h.lh
  split<;>omega
 ·rw[f,d.ln];rw[d.ln]at y
  cases E:p.last with
  | true=>
   grind
  | false=>
   rw[E,Aa (by simp)]at y;rw[Aa (by simp)];have:=h.fl y;have:=(j y).1;omega
theorem TuR.other{v:Nat}{x:TkP}{p:PieceM}(h:TuR r v x)(a:v≠u):TuR (r.put u p) v x:=by
 have e1:∀t,(r.put u p).got v t=r.got v t:=fun t=>Aa (fun h=>a h.1)
 have e2:(r.put u p).len v=r.len v:=Aa (fun h=>a h.1);have e3:(r.put u p).fin v=r.fin v:=Aa a;refine⟨h.srt,fun t=>?_,h.dl,fun t ht=>?_,?_,h.hi,?_,h.lh,h.fl⟩
 ·rw[e1];exact h.th t
 ·rw[e1];exact h.dt t ht
 ·rw[e3];exact h.fin
 ·rw[e2];exact h.ln
structure RcvM(r:InM)(us:List TkP):Prop where
 w1:1<=r.win
 w2:r.win<=32
 len:us.length=r.win
 un:∀i,i<us.length->TuR r (r.fst+i) (us.getD i .zero)
 top:r.hi<=r.fst+r.win
 fresh:∀u,r.fst+r.win<=u->(∀t,r.got u t=none)/\r.len u=none/\r.fin u=0
 last:r.fst<r.hi->0<r.fin (r.hi-1)
 above:∀u,r.fst<=u->r.hi<=u->r.fin u=0
theorem Lr(k i:Nat):(List.replicate k TkP.zero).getD i .zero=.zero:=by
 grind
theorem RcvM.new{k:Nat}(a:1<=k)(d:k<=32):RcvM (InM.new k) (List.replicate k .zero):=by
 refine⟨a,d,by simp[InM.new],fun i hi=>?_,Af _,fun u _=>⟨fun _=>rfl,rfl,rfl⟩,fun h=>absurd h (Bp _),fun _ _ _=>rfl⟩;rw[Lr];exact TuR.zero (fun _=>rfl) rfl rfl
theorem GM{us:List TkP}{x:TkP}(hi:i<us.length):(us.set i x).getD i .zero=x:=by grind
theorem ID{us:List TkP}{j:Nat}{x:TkP}(h:i≠j):(us.set i x).getD j .zero=us.getD j .zero:=by grind
theorem RcvM.put{r:InM}{us:List TkP}{i:Nat}{p:PieceM}{x':TkP}(h:RcvM r us)(hi:i<us.length)(B:AddM (us.getD i .zero) x' p.a p.b p.data p.last)(x:p.a<p.b)(C:p.b<=1500)(D:r.J9 (r.fst+i) p=false):RcvM (r.put (r.fst+i) p) (us.set i x'):=by
 have m:=h.len;refine⟨h.w1,h.w2,by rw[An];exact m,fun j z=>?_,?_,fun u y=>?_,fun E=>?_,fun u f s=>?_⟩
 ·rw[An]at z
  show TuR _ (r.fst+j) _
  by_cases e:i=j
  ·subst e;rw[GM hi];exact(h.un i hi).put B x C D
  ·rw[ID e];exact(h.un j z).other (by omega)
 ·show max r.hi (r.fst+i+1)<=r.fst+r.win;have:=h.top;omega
 ·have y:r.fst+r.win<=u:=y;have d:u≠r.fst+i:=by omega
  obtain⟨f,s,A⟩:=h.fresh u y;exact⟨fun t=>(Aa (fun h=>d h.1)).trans (f t),(Aa (fun h=>d h.1)).trans s,(Aa d).trans A⟩
 ·show 0<(if max r.hi (r.fst+i+1)-1=r.fst+i then max (r.fin (r.fst+i)) p.b else r.fin (max r.hi (r.fst+i+1)-1))
  split
  ·omega
  ·rename_i d;rw[Nat.max_eq_left (by omega)];exact h.last (by omega)
 ·have f:r.fst<=u:=f;have s:max r.hi (r.fst+i+1)<=u:=s;exact(Aa (show ¬u=r.fst+i by omega)).trans (h.above u f (by omega))
theorem RcvM.upto{r:InM}{us:List TkP}{k:Nat}(h:RcvM r us)(A:k<=us.length)(m:∀j,j<k->(us.getD j .zero).whole=true)(z:k<us.length->(us.getD k .zero).whole=false):r.upto=r.fst+k:=by
 have B:∀j,j<us.length->r.whole (r.fst+j)=(us.getD j .zero).whole:=fun j a=>(h.un j a).whole
 have e:r.fst+k<=max r.fst r.hi:=by
  rcases AS (max r.fst r.hi) (r.fst+k)with f | f
  ·exfalso;have a:r.fst+(max r.fst r.hi-r.fst)=max r.fst r.hi:=by omega
   have p:=h.un (max r.fst r.hi-r.fst) (by omega);have s:=(TkP.WU (m (max r.fst r.hi-r.fst) (by omega)));have hF:=p.fin;rw[a,h.above _ (by omega) (by omega),s.2]at hF;have hF:0=(us.getD (max r.fst r.hi-r.fst) TkP.zero).len:=hF;omega
  ·exact f
 unfold InM.upto;refine Ge (by omega) e (fun j t x=>?_) (fun y=>?_)
 ·obtain⟨d,rfl⟩:∃d,j=r.fst+d:=⟨j-r.fst,by omega⟩
  grind
 ·have:=h.top;have:=h.len
  grind
theorem RcvM.out{us:List TkP}(h:RcvM r us)(d:k<=us.length)(a:∀j,j<k->(us.getD j .zero).whole=true):((List.range k).map fun i=>r.RP (r.fst+i))=(us.take k).map fun x=>strOfNums x.data:=by
 refine Bf fun t=>?_
 rw[A9,A9]
 by_cases ht:t<k
 ·rw[Ch ht,A3 ht,Ap (by omega)];have e:us.getD t .zero=us[t]'(by omega):=by grind
  simp only[Cx];rw[(h.un t (by omega)).text (a t ht),e]
 grind
theorem Km{us:List TkP}(a:k<=us.length):(us.drop k++List.replicate k TkP.zero).getD i .zero=if k+i<us.length then us.getD (k+i) .zero else .zero:=by grind
theorem RcvM.Ad2{us:List TkP}(h:RcvM r us)(s:k<=us.length):RcvM {r with fst:=r.fst+k} (us.drop k++List.replicate k .zero):=by
 have a:=h.len;have j:(us.drop k++List.replicate k TkP.zero).length=us.length:=by grind
 refine⟨h.w1,h.w2,by rw[j];exact a,fun i hi=>?_,?_,fun u m=>?_,fun d=>?_,fun u f p=>?_⟩
 ·rw[j]at hi
  show TuR _ (r.fst+k+i) _;rw[Km s]
  split
  ·rename_i e;have:=h.un (k+i) e;rw[<-BZ]at this;exact⟨this.srt,this.th,this.dl,this.dt,this.fin,this.hi,this.ln,this.lh,this.fl⟩
  ·obtain⟨t,x,y⟩:=h.fresh (r.fst+k+i) (by omega);exact TuR.zero t x y
 ·show r.hi<=r.fst+k+r.win;have:=h.top;omega
 ·have m:r.fst+k+r.win<=u:=m;exact h.fresh u (by omega)
 ·have d:r.fst+k<r.hi:=d;exact h.last (by omega)
 ·have f:r.fst+k<=u:=f;exact h.above u (by omega) p
theorem RcvM.nxt{r:InM}{us:List TkP}{k:Nat}(h:RcvM r us)(B:k<=us.length)(s:0<k->(us.getD (k-1) .zero).th≠[])(t:∀j,k<=j->j<us.length->(us.getD j .zero).th=[]):r.nxt=r.fst+k:=by
 have m:=h.len;have p:=h.top;have y:∀j,j<us.length->(us.getD j .zero).th=[]->r.fin (r.fst+j)=0:=fun j a e=>by rw[(h.un j a).fin,e];rfl
 have x:∀j,j<us.length->(us.getD j .zero).th≠[]->r.fin (r.fst+j)≠0:=fun j a e f=>by rw[(h.un j a).fin]at f;exact e (AcM (h.un j a).srt f)
 unfold InM.nxt
 rcases Ea (max r.fst r.hi) (r.fst+k)with d | d | d
 ·exfalso;exact x (k-1) (by omega) (s (by omega)) (h.above _ (by omega) (by omega))
 ·exact d
 ·exfalso;have z:=h.last (by omega);have A:=y (r.hi-1-r.fst) (by omega) (t _ (by omega) (by omega))
  grind
def TkP.NR(x:TkP):Sis:=if x.len=0 then Ip (F7 (G8 x.th) 0 x.th)++[((G8 x.th:Int), -1)] else Ip (F7 x.len 0 x.th)
theorem TuR.NR{r:InM}{u:Nat}{x:TkP}(h:TuR r u x):r.NR u=x.NR.map fun q=>(⟨((u % 64:Nat):Int),q.1,q.2⟩:GapM):=by
 have d:∀k,(r.got u k).isNone=true↔¬inS x.th k:=fun k=>by
  rw[h.th]
  cases r.got u k<;>simp
 unfold InM.NR InM.ends TkP.NR;rw[h.ln,h.fin]
 by_cases a:x.len=0
 ·rw[Ab a,Ab a]
  show((MS _ (G8 x.th) (G8 x.th+1) 0).map _)++[_]=_;rw[RD (l:=x.th) h.srt (by have:=h.srt.few h.srt.Tz;omega) (Af _) (fun k _ _=>d k),AR];unfold Ip;rw[CR];rfl
 ·rw[Aa a,Aa a]
  show((MS _ x.len (x.len+1) 0).map _)++[]=_;rw[RD (l:=x.th) h.srt (by have:=h.srt.few h.srt.Tz;have:=h.fl (by omega);omega) (Af _) (fun k _ _=>d k),AA];unfold Ip;rw[CR];rfl
def FE (us:List TkP):List Value:=us.flatMap TkP.cells
theorem JD(us:List TkP):(FE us).length=us.length*3:=by
 induction us with
 | nil=>rfl
 | cons x us ih=>
  have e:FE (x::us)=x.cells++FE us:=rfl;rw[e,Ai,ih,AE]
  show 3+_=_;omega
theorem Zc(l r:List TkP):FE (l++r)=FE l++FE r:=by simp[FE]
theorem M6(us:List TkP):∀i k,i<us.length->k<3->(FE us)[i*3+k]?=(us.getD i .zero).cells[k]?:=by
 induction us with
 | nil=>intro i k hi;simp at hi
 | cons x us ih=>
  intro i k hi a;have e:FE (x::us)=x.cells++FE us:=rfl
  cases i with
  | zero=>rw[e,BB (by show 0*3+k<3;omega),CT,Ao];rfl
  | succ i=>
   rw[AE]at hi;rw[e,BL (by show 3<=_;omega),show(i+1)*3+k-x.cells.length=i*3+k by show _-3=_;omega,ih i k (by omega) a];rfl
theorem Xe(us:List TkP):∀i,(FE us).drop (i*3)=FE (us.drop i):=by
 induction us with
 | nil=>intro i;simp[FE]
 | cons x us ih=>
  intro i
  cases i with
  | zero=>simp
  | succ i=>
   have e:FE (x::us)=x.cells++FE us:=rfl;rw[e,EU,<-ih i,show(i+1)*3=x.cells.length+i*3 by show _=3+_;omega,List.drop_append,CZ,Dd (by omega),AK]
theorem N0{us:List TkP}{f:Nat}{x':TkP}(hi:i<us.length)(h:f<3)(e:(us.getD i .zero).cells.set f v=x'.cells):(FE us).set (i*3+f) v=FE (us.set i x'):=by
 refine Bf fun t=>?_
 rw[BW,JD]
 by_cases ht:t<us.length*3
 ·have e1:=M6 (us.set i x') (t / 3) (t % 3) (by rw[An];omega) (by omega);have e2:=M6 us (t / 3) (t % 3) (by omega) (by omega);rw[show t / 3*3+t % 3=t by omega]at e1 e2;rw[e1,e2]
  by_cases a:t / 3=i
  ·have e3:(us.set i x').getD (t / 3) .zero=x':=by rw[a,GM hi]
   rw[e3,<-e,BW,a]
   by_cases d:t=i*3+f
   ·rw[Ab d.symm,Ab (by omega),Ab (by omega),Ab (by show f<3;omega)]
   grind
  grind
 grind [JD]
theorem Xf{us:List TkP}{x':TkP}(hi:i<us.length):(((FE us).set (i*3) x'.dv).set (i*3+1) x'.tv).set (i*3+2) (int i64 (x'.len:Int))=FE (us.set i x'):=by
 have e1:=N0 (us:=us) (i:=i) (f:=0) (v:=x'.dv) (x':={us.getD i .zero with dv:=x'.dv}) hi (by omega) rfl;rw[Bh]at e1;rw[e1];have e2:=N0 (us:=us.set i {us.getD i .zero with dv:=x'.dv}) (i:=i) (f:=1) (v:=x'.tv) (x':={us.getD i .zero with dv:=x'.dv,tv:=x'.tv}) (by rw[An];exact hi) (by omega) (by rw[GM hi];rfl);rw[e2,B9];have e3:=N0 (us:=us.set i {us.getD i .zero with dv:=x'.dv,tv:=x'.tv}) (i:=i) (f:=2) (v:=int i64 (x'.len:Int)) (x':=x') (by rw[An];exact hi) (by omega) (by rw[GM hi];rfl);rw[e3,B9]
def TkP.blk(x:TkP)(k:Bool):Option Nat:=if k=true then x.tv.ownBlock else x.dv.ownBlock
theorem TkP.KP(k:Bool):TkP.zero.blk k=none:=by cases k<;>rfl
theorem AeE{us:List TkP}(h:us.length<=i):us.getD i .zero=.zero:=by grind
structure PRcv(w:World)(b fs g c:Nat)(us:List TkP):Prop where
 hd:At w b 149 [int i64 (fs:Int),slice (some ⟨g,0,none⟩) us.length c]
 own:w.ownsRow 0 151 3 (slice (some ⟨g,0,none⟩) us.length c) us.length (FE us)
 od:∀i,Own w 0 (us.getD i .zero).dv (us.getD i .zero).data
 ot:∀i,OwnSp w (us.getD i .zero).tv (us.getD i .zero).th
 nb:g≠b
 na:∀i k q,(us.getD i .zero).blk k=some q->q≠b/\q≠g
 nn:∀i j k l q,(us.getD i .zero).blk k=some q->(us.getD j .zero).blk l=some q->i=j/\k=l
def Mu (b g:Nat)(us:List TkP):List Nat:=b::g::us.flatMap fun x=>(x.blk false).toList++(x.blk true).toList
theorem Adw(b g:Nat)(us:List TkP):b∈Mu b g us:=AL
theorem Ye(b g:Nat)(us:List TkP):g∈Mu b g us:=AU _ AL
theorem Up{us:List TkP}{k:Bool}(h:(us.getD i .zero).blk k=some q):q∈Mu b g us:=by
 rcases AS i us.length with hi | hi
 ·refine AU _ (AU _ (Ce.2 ⟨us.getD i .zero,?_,?_⟩))
  ·grind
  ·rw[BH]
   cases k
   ·left;rw[h];simp
   ·right;rw[h];simp
 ·rw[AeE hi,TkP.KP]at h
  cases h
theorem Uq{x:Nat}{us:List TkP}(h:x∈Mu b g us):x=b\/x=g\/∃i k,(us.getD i .zero).blk k=some x:=by
 unfold Mu at h;rw[Ar,Ar]at h
 rcases h with h | h | h
 ·exact .inl h
 ·exact .inr (.inl h)
 ·obtain⟨u,a,e⟩:=Ce.1 h;obtain⟨i,hi,rfl⟩:=List.mem_iff_getElem.1 a;have d:us.getD i .zero=us[i]:=by grind
  grind
theorem PRcv.gl{us:List TkP}(h:PRcv w b fs g c us):g<w.heap.size:=(AB h.own g rfl).2
theorem PRcv.kl{us:List TkP}(h:PRcv w b fs g c us){k:Bool}(a:(us.getD i .zero).blk k=some q):q<w.heap.size:=by
 cases k
 ·exact(AB (h.od i) q a).2
 ·exact(h.ot i).lt a
theorem PRcv.lt{w:World}{b fs g c:Nat}{us:List TkP}(h:PRcv w b fs g c us):∀x∈Mu b g us,x<w.heap.size:=fun x a=>by
 rcases Uq a with rfl | rfl | ⟨i,k,e⟩
 ·exact h.hd.lt
 ·exact h.gl
 ·exact h.kl e
theorem Ky{S:List Nat}(h:Own w 0 v L)(a:Kept S w w')(d:∀g,v.ownBlock=some g->g∉S):Own w' 0 v L:=FY h a d
theorem PRcv.kept{w w':World}{b fs g c:Nat}{us:List TkP}{T:List Nat}(h:PRcv w b fs g c us)(a:Kept T w w')(hd:∀x∈Mu b g us,x∉T):PRcv w' b fs g c us:=by
 refine⟨h.hd.kept a (hd _ (Adw _ _ _)),FY h.own a (fun e hg=>?_),fun i=>Ky (h.od i) a (fun q d=>hd _ (Up (k:=false) d)),fun i=>(h.ot i).kept a (fun q d=>hd _ (Up (k:=true) d)),h.nb,h.na,h.nn⟩;simp[Value.ownBlock]at hg;subst hg;exact hd _ (Ye _ _ _)
theorem PRcv.un{us:List TkP}(h:PRcv w b fs g c us)(hi:i<us.length):TkAt w g (i*3) (us.getD i .zero):=by
 obtain⟨cur,m, -, -, -, -,e,s⟩:=F9 h.own;have a:∀k,k<3->w.cell? ⟨g,i*3+k,none⟩=(us.getD i .zero).cells[k]?:=fun k p=>by
  rw[m.cell,<-M6 us i k hi p,<-e,A3 (by omega)]
 refine⟨a 0 (by omega),a 1 (by omega),a 2 (by omega),fun j=>m.free j,h.od i,h.ot i,fun q d=>(h.na i false q d).2,fun q d=>(h.na i true q d).2,fun q d f=>?_⟩;have:=(h.nn i i false true q d f).2
 cases this
structure TkPost(w w':World)(g o:Nat)(x x':TkP):Prop where
 kept:Kept (g::((x.blk false).toList++(x.blk true).toList)) w w'
 row:∀T cur,At w g T cur->At w' g T (((cur.set o x'.dv).set (o+1) x'.tv).set (o+2) (int i64 (x'.len:Int)))
 od:Own w' 0 x'.dv x'.data
 ot:OwnSp w' x'.tv x'.th
 nk:∀k q,x'.blk k=some q->x.blk k=some q\/w.heap.size<=q
 dt:∀q,x'.blk false=some q->x'.blk true≠some q
theorem PRcv.upd{us:List TkP}{x':TkP}(h:PRcv w b fs g c us)(hi:i<us.length)(s:TkPost w w' g (i*3) (us.getD i .zero) x'):
 PRcv w' b fs g c (us.set i x'):=by
 have I:=h.gl;have G:=h.hd.lt;have y:g≠b:=h.nb;have x:∀q,q∈g::(((us.getD i .zero).blk false).toList++((us.getD i .zero).blk true).toList)->q=g\/∃k,(us.getD i .zero).blk k=some q:=by grind
 have B:b∉g::(((us.getD i .zero).blk false).toList++((us.getD i .zero).blk true).toList):=fun f=>by
  rcases x b f with e | ⟨k,e⟩
  ·exact y e.symm
  ·exact(h.na i k b e).1 rfl
 have z:∀j,j≠i->∀k q,(us.getD j .zero).blk k=some q->q∉g::(((us.getD i .zero).blk false).toList++((us.getD i .zero).blk true).toList):=fun j a k q f d=>by
  rcases x q d with e | ⟨l,e⟩
  ·exact(h.na j k q f).2 e
  ·exact a (h.nn j i k l q f e).1
 obtain⟨cur,F, -,E,C,H,D,J⟩:=F9 h.own;have A:=s.row _ _ F;refine⟨?_,?_,fun j=>?_,fun j=>?_,h.nb,fun j k q f=>?_,fun j l k m q f d=>?_⟩
 ·rw[An];exact h.hd.kept s.kept B
 ·rw[An];refine A.row (by rw[JD,An]) E C (by grind) ?_;rw[CW,CW,CW,D];exact Xf hi
 ·by_cases a:j=i
  ·subst a;rw[GM hi];exact s.od
  ·rw[ID (fun e=>a e.symm)];exact Ky (h.od j) s.kept (fun q f=>z j a false q f)
 ·by_cases a:j=i
  ·subst a;rw[GM hi];exact s.ot
  ·rw[ID (fun e=>a e.symm)];exact(h.ot j).kept s.kept (fun q f=>z j a true q f)
 ·by_cases a:j=i
  ·subst a;rw[GM hi]at f
   rcases s.nk k q f with t | t
   ·exact h.na j k q t
   ·exact⟨by omega,by omega⟩
  ·rw[ID (fun e=>a e.symm)]at f;exact h.na j k q f
 ·by_cases a:j=i
  ·subst a;rw[GM hi]at f
   by_cases p:l=j
   ·subst p;rw[GM hi]at d;refine⟨rfl,?_⟩
    cases k<;>cases m
    ·rfl
    ·exact absurd d (s.dt q f)
    ·exact absurd f (s.dt q d)
    ·rfl
   ·rw[ID (fun e=>p e.symm)]at d
    rcases s.nk k q f with t | t
    ·exact h.nn j l k m q t d
    ·have:=h.kl d;omega
  ·rw[ID (fun e=>a e.symm)]at f
   by_cases p:l=i
   ·subst p;rw[GM hi]at d
    rcases s.nk m q d with t | t
    ·exact h.nn j l k m q f t
    ·have:=h.kl f;omega
   ·rw[ID (fun e=>p e.symm)]at d;exact h.nn j l k m q f d
theorem AjW{B:Nat}{us:List TkP}{x':TkP}(hi:i<us.length)(a:∀k q,x'.blk k=some q->(us.getD i .zero).blk k=some q\/B<=q):Ga B (Mu b g us) (Mu b g (us.set i x')):=by simp_all[Ga,Mu];grind
theorem PRcv.Ad2{e:Nat}{us:List TkP}{T:List Nat}(h:PRcv w b fs g c us)(f:k<=us.length)(p:Kept T w w')(s:∀i l q,(us.getD i .zero).blk l=some q->q∉T)
 (hd:At w' b 149 [int i64 (e:Int),slice (some ⟨g,0,none⟩) us.length c])
 (x:w'.ownsRow 0 151 3 (slice (some ⟨g,0,none⟩) us.length c) us.length (FE (us.drop k++List.replicate k .zero))):PRcv w' b e g c (us.drop k++List.replicate k .zero):=by
 have t:(us.drop k++List.replicate k TkP.zero).length=us.length:=by grind
 refine⟨by rw[t];exact hd,by rw[t];exact x,fun i=>?_,fun i=>?_,h.nb,fun i l q a=>?_,fun i j l m q a d=>?_⟩
 ·rw[Km f]
  split
  ·exact Ky (h.od _) p (fun q a=>s _ false q a)
  ·exact Own.nil _ _
 ·rw[Km f]
  split
  ·exact(h.ot _).kept p (fun q a=>s _ true q a)
  ·exact OwnSp.nil _
 ·rw[Km f]at a
  split at a
  ·exact h.na _ l q a
  ·rw[TkP.KP]at a;cases a
 ·rw[Km f]at a d
  split at a
  ·split at d
   ·have:=h.nn _ _ l m q a d;exact⟨by omega,this.2⟩
   ·rw[TkP.KP]at d;cases d
  ·rw[TkP.KP]at a;cases a
theorem Wr{us:List TkP}(a:k<=us.length):∀x∈Mu b g (us.drop k++List.replicate k .zero),x∈Mu b g us:=by grind [Mu,Uq,Adw,Ye,Km,Up,TkP.KP]
theorem Uy(w:World)(a b c d:Int):(binOp .eql 146 (.agg #[int i64 a,int i64 b]) (.agg #[int i64 c,int i64 d])).run prog w=.ok (.bool (a==c && b==d)) w:=by
 have ht:prog.underlying 146=some (.struct (prog.fieldsOf 146)):=by kernel_rfl
 have x:prog.stoodInHeld 146=false:=by kernel_rfl
 rw[run_eql_struct,run_equalIn_struct w 9999 _ _ _ ht x];have e:(prog.fieldsOf 146).toList.map (fun f=>(f.name,f.type,f.offset))=[("from",3,0),("to",3,1)]:=by kernel_rfl
 generalize (prog.fieldsOf 146).toList=fs at e;obtain _ | ⟨f,_ | ⟨g,_ | ⟨q,fs⟩⟩⟩:=fs
 ·simp at e
 ·simp at e
 ·simp only[Be,BE,EH,Prod.mk.injEq,BJ]at e;obtain⟨⟨h,j,m⟩,p,s,t⟩:=e;simp only[Op.eqFields,h,j,m,p,s,t]
  by_cases e1:a=c<;>by_cases e2:b=d<;>simp[part,run_equalIn_int,underlying3,e1,e2]
 ·simp at e
theorem Ah6{x:TkP}(h:TkAt w g o x)(A:0<x.len)(C:x.len<=3000)(p:x.th.length=1):
 Calls prog 244 #[.pointer (some ⟨g,o,none⟩)] w fun e w'=>e=.returned (.bool x.whole)/\∃n,w'=w.drewN n:=by
 have c2:=h.c2;have c1:=h.c1;obtain⟨a,c,e, -, -, -⟩:=h.ot.FC;rw[p]at e;have d:=h.ot;rw[e]at c1 d;obtain⟨m,rfl, -,t⟩:=d.at (i:=0) (by omega);obtain⟨j,f⟩:=t 0 (by omega);rw[CT]at j f;rw[Ao]at f
 match hx:x.th,p with
 | [(P,Q)],_=>
  rw[hx]at j f;have y:=Uy w P Q 0 x.len;have s:x.whole=((P:Int)==0 && (Q:Int)==(x.len:Int)):=by
   grind [TkP.whole]
  rw[s];have j:w.cell? ⟨m,0,none⟩=some (int i64 (P:Int)):=j;have f:w.cell? ⟨m,1,none⟩=some (int i64 (Q:Int)):=f;have z:=fun(W:World)=>Uy W P Q 0 x.len
  clear y s hx t d e h;generalize (((P:Int)==0) && ((Q:Int)==(x.len:Int)))=B at*;generalize x.len=L at*;go_enter func244,ntmps244
  go_wp2_with fail
  go_quiet (fail)
  go_wp2_with fail;go_ret;exact⟨rfl,_,rfl⟩
theorem Aea{x:TkP}(h:TkAt w g o x)(d:x.len<=3000)(a:x.th.length<=4000):
 Calls prog 244 #[.pointer (some ⟨g,o,none⟩)] w fun e w'=>e=.returned (.bool x.whole)/\∃n,w'=w.drewN n:=by grind [TkP.whole,Aei,Ah6,Aeh]
theorem Qq(n:Nat):FE (List.replicate n .zero)=(madeCells #[slice none 0 0,slice none 0 0,int i64 0] (n*3)).toList:=by
 refine Bf fun t=>?_
 by_cases ht:t<n*3
 ·have e1:=M6 (List.replicate n .zero) (t / 3) (t % 3) (by rw[A7];omega) (by omega);rw[show t / 3*3+t % 3=t by omega,Lr]at e1;rw[e1];have a:t % 3=0\/t % 3=1\/t % 3=2:=by omega
  rcases a with a | a | a<;>simp[madeCells,a,ht,TkP.zero,TkP.cells]
 ·rw[AY (by rw[JD,A7];omega),AY (by rw[AH,size_madeCells];omega)]
theorem YH(n:Nat):(Builtin.zeroCells #[slice none 0 0,slice none 0 0,int i64 0] n).toList=FE (List.replicate n .zero):=(Qq n).symm
theorem Rx(w:World)(F:1<=k)(G:k<=32):Calls prog 127 #[int i64 (k:Int)] w fun e w'=>∃b g,e=.returned (.tuple #[.pointer (some ⟨b,0,none⟩),int i64 0])/\PRcv w' b 0 g k (List.replicate k .zero)/\w.heap.size<=b/\w.heap.size<=g/\Below w.heap.size w w':=by
 have z:=NE (k:Int) w;rw[Aa (by omega)]at z;obtain⟨C,hi,s,t,x⟩:=As Tryz.AcN;go_enter func127,ntmps127
 go_wp2_with(first
  | (go_at_call 170;refine z.mono ?_;rintro e w1 ⟨rfl,rfl⟩)
  | (at_make;refine CK _ rfl _ _ 147 rfl w1.heap.size 151 C (.agg #[slice none 0 0,slice none 0 0,int i64 0]) 3 underlying147 hi s t i64 i64 _ _ k rfl rfl rfl rfl (by rw[x];omega) (by unfold maxLen;omega) (Ac _) ?_;intro w2 d p))
 go_ret2;have h:Below w1.heap.size w1 w2:=(Ad _ w1).grown p (Ac _) (by intro q a;cases a);have B:w1.heap.size<w2.heap.size:=(AB d w1.heap.size rfl).2;refine⟨w2.heap.size,w1.heap.size,rfl,⟨?_,?_,fun i=>?_,fun i=>?_,?_,fun i l q a=>?_,fun i j l m q a=>?_⟩,by omega,Ac _,h.alloc (by omega) _⟩
 ·grind [Fc]
 ·rw[A7,Qq];have y:=A6 d (.cells #[int i64 0,slice (some ⟨w1.heap.size,0,none⟩) k k] 149);refine⟨y.1,?_⟩
  rcases y.2 with A | ⟨g,f,cur,D,H,E⟩
  ·exact .inl A
  ·exact .inr ⟨g,f,cur,D,Af _,E⟩
 ·rw[Lr];exact Own.nil _ _
 ·rw[Lr];exact OwnSp.nil _
 ·omega
 ·rw[Lr,TkP.KP]at a;cases a
 ·rw[Lr,TkP.KP]at a;cases a
def MC (w:World)(x:TkP):Ending->World->Prop:=fun e w'=>∃v',e=.returned v'/\OwnSi w' w.heap.size v' x.NR/\Below w.heap.size w w'
theorem AhN{x:TkP}(h:TkAt w g o x)(s:Srt x.th)(I:x.len<=3000)(B:G8 x.th<=3000):
 Calls prog 71 #[.pointer (some ⟨g,o,none⟩)] w (MC w x):=by
 have c1:=h.c1;have c2:=h.c2;obtain⟨a,c,e, -, -, -⟩:=h.ot.FC;have d:=h.ot;rw[e]at c1 d;have f:Qe x.th 3000:=fun q K=>Ak (s.Tz q K) B
 have m:=s.few f
 by_cases t:x.len=0
 ·have y:=WF d (by omega);have hg:=P6 (lo:=0) (hi:=G8 x.th) d s f (Af _) B;have F:=OR (hi:=G8 x.th) (l:=x.th) (lo:=0);have A:=hid (show x.NR=Ip (F7 (G8 x.th) 0 x.th)++[((G8 x.th:Int), -1)]by unfold TkP.NR;rw[Ab t]);rw[t]at c2;have z:Hid ((Ip (F7 (G8 x.th) 0 x.th)).length<=100000):=by show _<=_;rw[Hi];omega
  clear h d e F f m t I s;unfold Qf at hg;generalize x.th.length=N at*;generalize F7 (G8 x.th) 0 x.th=G at*;generalize G8 x.th=E at*;generalize C:MC w x=P;go_enter func71,ntmps71
  go_wp2_with(first
   | (go_at_call 121;refine y.mono ?_;rintro e w1 ⟨rfl,rfl⟩)
   | (go_at_call 120;refine hg.mono ?_;rintro e w2 ⟨v2,rfl,p,j⟩)
   | (at_builtin;refine Mz w1.heap.size w1 _ _ p rfl _ _ rfl rfl _ rfl rfl z.out j j.size ?_;intro v3 O H D J))
  rw[<-C];exact⟨v3,rfl,by rw[A.out];exact H,D⟩
 ·have hg:=P6 (w:=w.drew) (lo:=0) (hi:=x.len) d s f (Af _) I;have A:=hid (show x.NR=Ip (F7 x.len 0 x.th)by unfold TkP.NR;rw[Aa t]);have M:0<x.len:=by omega
  clear h d e f m t s B;generalize x.th.length=N at*;unfold Qf at hg;generalize F7 x.len 0 x.th=G at*;generalize x.len=L at*;generalize C:MC w x=P;go_enter func71,ntmps71;go_upto_region 2 with fail
  go_region_with (go_at_call 120;refine hg.mono ?_;rintro e w2 ⟨v2,rfl,p,j⟩)
  all_goals
   go_wp2_with fail;go_ret;rw[<-C];exact⟨v2,rfl,by rw[A.out];exact p,((Ad _ w).drew).trans j⟩
def JN (n:Nat):ByteArray:=⟨Array.replicate n 0⟩
theorem U6(n:Nat):(JN n).size=n:=by simp[JN,ByteArray.size]
theorem SN(n:Nat):Lib.strCells (JN n)=(List.replicate n (0:Int)).map (Value.int .u8):=by
 unfold Lib.strCells JN;simp
theorem U7(n:Nat):Builtin.zeroCells #[int .u8 0] n=(Lib.strCells (JN n)).toArray:=by
 rw[SN];refine C5 (by simp[Builtin.zeroCells]) fun j a d=>?_
 simp[Builtin.zeroCells,Nat.mod_one]
theorem QV(w:World)(t u st ty e:TypeId)(i:TypeInfo)(ht:P.underlying t=some (.slice e))(H:P.underlying u=some (.int i64))(x:P.underlying st=some .string)(hi:P.info? e=some i)(K:i.zero=some (int .u8 0))(f:i.size=1)(s:i.bytes=1)
 (b:Option Addr) (a d n:Nat) (O:a+n<=70368744177664):
 (Builtin.append_ #[t,u] ty #[slice b a d,int i64 (n:Int)]).run P w=(Builtin.append_ #[t,st] ty #[slice b a d,.string (JN n)]).run P w:=by
 have N:IntKind.i64.wrap (n:Int)=(n:Int):=by rw[AO];omega
 have M:¬((n:Int)<0):=by omega
 have A:¬((281474976710656:Int)<(n:Int)):=by omega
 have F:(Value.int IntKind.u8 0).cells=#[int .u8 0]:=rfl;have y:=U6 n;have p:∀(m:Int) (W:World),(asInt (int i64 m)).run P W=.ok m W:=fun m W=>by simp[asInt,asIntOf]
 have E:IntKind.i64.wrap 0=0:=by decide
 by_cases G:a+n<=d
 ·by_cases j:n=0
  ·subst j;have h:=Cg (P:=P) w 1 (JN 0);have J:Lib.strCells (JN 0)=[]:=rfl;rw[y,J]at h;have z:a<=d:=G;simp[Builtin.append_,Av ht,Av H,Av x,sizeOf,typeInfo,hi,f,s,Builtin.lenOf,y,h,p,E,z]
  ·have h:=Cg (P:=P) w 1 (JN n);rw[y]at h;simp[Builtin.append_,Av ht,Av H,Av x,sizeOf,typeInfo,zeroValue,hi,K,f,s,Builtin.lenOf,y,h,p,N,M,A,G,j,F,U7]
 ·have I:¬(9223372036854775807<((a:Int)+(n:Int))):=by omega
  have hg:=DC (need:=a+n) (old:=d) (bytes:=1) (by omega) (by omega);rw[By]at hg;have C:¬(281474976710656<Builtin.nextslicecap (a+n) d):=by omega
  by_cases j:n=0
  ·subst j;have h:∀W:World,(Builtin.firstCells 1 0 (.string (JN 0))).run P W=.ok #[] W:=fun W=>by
    have h:=Cg (P:=P) W 1 (JN 0);have J:Lib.strCells (JN 0)=[]:=rfl;rw[y,J]at h;exact h
   have z:¬a<=d:=G;have B:¬(9223372036854775807<(a:Int)):=by omega
   have D:¬(281474976710656<Builtin.nextslicecap a d):=C;simp[Builtin.append_,Av ht,Av H,Av x,sizeOf,typeInfo,zeroValue,hi,K,f,s,Builtin.lenOf,y,h,p,E,z,B,D]
  ·have h:∀W:World,(Builtin.firstCells 1 n (.string (JN n))).run P W=.ok (Lib.strCells (JN n)).toArray W:=fun W=>by
    have h:=Cg (P:=P) W 1 (JN n);rw[y]at h;exact h
   simp[Builtin.append_,Av ht,Av H,Av x,sizeOf,typeInfo,zeroValue,hi,K,f,s,Builtin.lenOf,y,h,p,N,M,A,G,I,C,j,F,U7]
theorem Own.Apc(h:Own w 0 v L)(A:L.length+n<=70368744177664):
 ∃v' W,(∀ty,(Builtin.append_ #[103,3] ty #[v,int i64 (n:Int)]).run prog w=.ok v' W)/\Own W 0 v' (L++List.replicate n 0)/\w.grownBy W v.ownBlock/\(∀g,v'.ownBlock=some g->v.ownBlock=some g\/w.heap.size<=g):=by
 obtain⟨B,hi,f,m,p⟩:=As Tryz.Of;obtain⟨b,c,e, -, -, -⟩:=Own.FC h;subst e;have d:=U6 n;obtain⟨v',w',z,G,H,M⟩:=EI (P:=prog) w 0 103 9 0 5 B underlying103 underlying9 hi f m p _ _ _ h (JN n) (by rw[d];unfold maxLen;omega) (by rw[d];omega) (Af _);have D:∀ty,(Builtin.append_ #[103,3] ty #[.slice b L.length c,int i64 (n:Int)]).run prog w=.ok v' w':=fun ty=>by
  rw[QV w 103 3 9 ty 5 B underlying103 underlying3 underlying9 hi f m p b L.length c n A];exact z
 refine⟨v',w',D,?_,H,?_⟩
 ·rw[SN,d]at G;unfold Own
  grind
 ·intro q x
  rcases h.2 with⟨e, -⟩ | ⟨C,s,cur,e, -,hg,K,I,J,E⟩
  ·rw[e]at z
   by_cases O:n=0
   ·grind
   ·have a:=run_append_nil_string (P:=prog) w 103 9 0 5 B (int .u8 0) underlying103 underlying9 hi f (JN n) (by rw[d];omega) (by rw[d];omega) (by rw[p,d];omega);rw[z]at a
    injection a with e1 e2
    rw[e1]at x;simp[Value.ownBlock]at x;exact .inr (by omega)
  ·rw[e]at z;have N:=h.1
   by_cases y:L.length+(JN n).size<=s
   ·have a:=Lib.run_append_room_string (P:=prog) w 103 9 0 5 B underlying103 underlying9 hi m C L.length s cur hg (JN n) y (by omega);rw[z]at a
    injection a with e1 e2
    rw[e1]at x;rw[e];simp only[Value.ownBlock]at x |-;exact .inl x
   ·have F:=h;rw[e]at F;have t:∀j u,(L.map (Value.int .u8))[j]?=some u->w.cell? ((⟨C,0,none⟩:Addr).add j)=some u:=World.ownsRow.cells F (g:=C) rfl;have a:=Lib.run_append_grow_string (P:=prog) w 103 9 0 5 B (int .u8 0) underlying103 underlying9 hi f ⟨C,0,none⟩ L.length s (L.map (Value.int .u8)) (by rw[m];simp) t (JN n) (by omega) (by rw[d];omega) (by rw[p];exact DC (by rw[d];omega) (by omega));rw[z]at a
    injection a with e1 e2
    rw[e1]at x;simp[Value.ownBlock]at x;exact .inr (by omega)
theorem Adu{us:List TkP}(h:PRcv w b fs g c us)(O:us.length<=32)(z:∀i,(us.getD i .zero).th.length<=4000):
 Calls prog 69 #[.pointer (some ⟨b,0,none⟩)] w fun e w'=>∃k,k<=us.length/\e=.returned (int i64 ((k:Nat):Int))/\(0<k->(us.getD (k-1) .zero).th≠[])/\(∀j,k<=j->j<us.length->(us.getD j .zero).th=[])/\w'=w:=by
 have c1:w.cell? ⟨b,1,none⟩=some (slice (some ⟨g,0,none⟩) us.length c):=h.hd.cell 1;obtain⟨N,y⟩:=E7 us.length;rw[<-y]at c1 O;have H:=hid h;have s:=hid y;generalize F:(fun(e:Ending) (w':World)=>∃k,k<=us.length/\e=.returned (int i64 ((k:Nat):Int))/\(0<k->(us.getD (k-1) .zero).th≠[])/\(∀j,k<=j->j<us.length->(us.getD j .zero).th=[])/\w'=w)=P;have C:=hid F;clear h y F;go_enter func69,ntmps69
 go_wp2_with fail
 go_loopw [3] (fun v wr=>∃k:Nat,k<=N/\v=int i64 (k:Int)/\(∀j,k<=j->j<N->(us.getD j .zero).th=[])/\Hid (wr=w)) (fun v _=>(intOf v).toNat)
 case atStart=>exact⟨N,Ac _,rfl,fun j d a=>by omega,hid rfl⟩
 case round=>
  obtain⟨k,M,rfl,I,B⟩:=hrel;have B:=B.out;subst B;have t:=hid I;clear I
  by_cases J:k=0
  ·subst J
   go_wp2_with fail;rw[<-C.out];exact⟨0,Af _,rfl,fun h=>absurd h (Bp _),fun j d a=>t.out j d (by rw[s.out];exact a),rfl⟩
  ·obtain⟨m,rfl⟩:∃m,k=m+1:=⟨k-1,by omega⟩;have A:=H.out.un (i:=m) (by rw[<-s.out];omega);have Q:=z m;have u1:=A.c1;obtain⟨V,W,D, -, -, -⟩:=A.ot.FC;rw[D]at u1;have x:Hid ((us.getD m .zero).th.length=0->(us.getD m .zero).th=[]):=hid fun h=>Cp h
   have f:Hid ((us.getD m .zero).th=[]->(us.getD m .zero).th.length=0):=hid fun h=>by rw[h];rfl
   clear A D;generalize (us.getD m .zero).th.length=L at*;have U:IntKind.i64.wrap (((m+1:Nat):Int)-1)=(m:Int):=by rw[AO];omega
   have G:IntKind.i64.wrap ((m:Int)+1-1)=(m:Int):=by rw[AO];omega
   have S:(m:Int)+1-1=(m:Int):=by omega
   have p:(0:Int)<(m:Int)+1:=by omega
   have X:decide ((0:Int)<(m:Int)+1)=true:=Ag p;have R:m<N:=by omega
   by_cases E:L=0
   ·subst E
    go_wp2_with fail
    go_roundw
    case rel=>
     refine⟨m,by omega,by go_num,fun j d a=>?_,by first | exact hid rfl | exact hid trivial⟩
     by_cases K:j=m
     ·subst K;exact x.out rfl
     ·exact t.out j (by omega) a
    case measure=>simp[intOf]
   ·have T:((L:Int)==0)=false:=by rw[Cb];omega
    go_wp2_with fail;rw[<-C.out];refine⟨m+1,by rw[<-s.out];exact M,rfl,fun _ e=>E (f.out e),fun j d a=>t.out j d (by rw[s.out];exact a),rfl⟩
theorem RB(w:World)(t D ty e tb:TypeId)(i:TypeInfo)(z:Value)(ht:P.underlying t=some (.slice e))(B:P.underlying D=some (.int i64))(hi:P.info? e=some i)(J:i.zero=some z)(H:i.size=z.cells.size)(K:0<z.cells.size)
 (g a d n:Nat) (cur:List Value) (hg:At w g tb cur) (N:0<n) (f:a+n<=d) (M:n*i.bytes<=281474976710656) (C:n<=4611686018427387904) (h:a*z.cells.size+n*z.cells.size<=cur.length) (E:∀v∈(Builtin.zeroCells z.cells n).toList,v.oneCell'=true):
 (Builtin.append_ #[t,D] ty #[slice (some ⟨g,0,none⟩) a d,int i64 (n:Int)]).run P w=.ok (slice (some ⟨g,0,none⟩) (a+n) d) (w.setRow g (splice cur (a*z.cells.size) (Builtin.zeroCells z.cells n).toList).toArray):=by
 have G:(Builtin.zeroCells z.cells n).toList.length=n*z.cells.size:=by rw[AH,Cj]
 have j:=CU P g (a*z.cells.size) tb (Builtin.zeroCells z.cells n).toList 0 cur.toArray w hg (by rw[G];simpa using h) E;simp only[Bh]at j;have I:IntKind.i64.wrap (n:Int)=(n:Int):=by rw[AO];omega
 have y:¬((n:Int)<0):=by omega
 have p:¬((281474976710656:Int)<(n:Int)*(i.bytes:Int)):=by
  grind
 have A:n≠0:=by omega
 have x:z.cells.size≠0:=by omega
 have s:∀(m:Int) (W:World),(asInt (int i64 m)).run P W=.ok m W:=fun m W=>by simp[asInt,asIntOf]
 simp[Builtin.append_,Av ht,Av B,sizeOf,typeInfo,zeroValue,hi,J,H,s,I,y,p,f,BT,j,splice];exact fun F=>absurd F (Nat.mul_ne_zero A x)
theorem AkC{m:Nat}{xs:List Value}(h:w.ownsRow 0 151 3 (slice (some ⟨g,0,none⟩) n c) n xs)(a:n+m<=c)(I:m<=32):
 ∃W,(∀ty,(Builtin.append_ #[147,3] ty #[slice (some ⟨g,0,none⟩) n c,int i64 (m:Int)]).run prog w=.ok (slice (some ⟨g,0,none⟩) (n+m) c) W)/\W.ownsRow 0 151 3 (slice (some ⟨g,0,none⟩) (n+m) c) (n+m) (xs++FE (List.replicate m .zero))/\Kept [g] w W:=by
 obtain⟨H,hi,y,d,z⟩:=As Tryz.AcN;obtain⟨cur,C, -,p,j,E,F,x⟩:=F9 h
 by_cases D:m=0
 ·subst D;refine⟨w,fun ty=>?_,?_,Kept.refl _ _⟩
  ·have f:∀(m:Int) (W:World),(asInt (int i64 m)).run prog W=.ok m W:=fun m W=>by simp[asInt,asIntOf]
   have t:IntKind.i64.wrap 0=0:=by decide
   have s:(storeCells ⟨g,n*3,none⟩ []).run prog w=.ok () w:=by simp[storeCells]
   simp[Builtin.append_,Av underlying147,Av underlying3,sizeOf,typeInfo,hi,d,f,t,p,BT,s]
  grind [FE,TkP.zero]
 ·have A:=YH m;have B:(FE (List.replicate m TkP.zero)).length=m*3:=by rw[JD,A7]
  refine⟨_,fun ty=>RB w 147 3 ty 151 151 H _ underlying147 underlying3 hi y (by rw[d];rfl) (by decide) g n c m cur C (by omega) a (by rw[z];omega) (by omega) (by show n*3+m*3<=_;omega) (fun v G=>?_),?_,FO _ _ _⟩
  ·have:=OJ G;have:v∈(#[slice none 0 0,slice none 0 0,int i64 0]:Array Value):=this;simp at this
   rcases this with rfl | rfl<;>rfl
  ·have e:(Builtin.zeroCells (Value.agg #[slice none 0 0,slice none 0 0,int i64 0]).cells m).toList=FE (List.replicate m .zero):=A;rw[e];refine At.row C.set ?_ a j ?_ ?_
   ·rw[Ai,B,x];omega
   ·show(splice cur (n*3) _).length=_;unfold splice
    grind
   ·show(splice cur (n*3) _).take _=_;unfold splice
    grind
end Go.Proofs.YtbjgfoiikhbonahGreatDoor
