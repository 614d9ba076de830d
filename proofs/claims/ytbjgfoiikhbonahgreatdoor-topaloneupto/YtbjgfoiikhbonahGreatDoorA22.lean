import Derived.Test.YtbjgfoiikhbonahGreatDoorA21
import Derived.Deep.RegionHeld3
set_option linter.unusedVariables false
set_option linter.unusedSimpArgs false
set_option maxRecDepth 100000
set_option maxHeartbeats 4000000
namespace Go.Proofs.YtbjgfoiikhbonahGreatDoor
open Go.ChangeShapes Go.WideShapes Go.ChangeAt Go.RowKit Go.Proofs.Tryz
open Value renaming int->C,slice->G
open Option renaming some->E,none->F
open Ending renaming returned->I
open Bool renaming false->J
open Obj renaming cells->K
open Go renaming World->O
open IntKind renaming i64->P
variable {b bg c f g i k o win:Nat}{s:ByteArray}{ua:Option Addr}{us:List UnP}{v:Value}{w:O}{x x':UnP}{y:Addr}
theorem AkD{n:Int}(h:0<=n):n.tmod 64=n % 64:=C8 h
theorem NE(k:Int)(w:O):Calls prog 170 #[C P k] w fun e w'=>e= I (C P (if k<1\/32<k then 1 else 0))/\w'=w:=by
 obtain⟨V, a⟩ := E7 ((if k<1\/32<k then (1:Int) else 0));rw[<-a]
 by_cases h:k<1
 ·have d:=hid (show V=1 by rw[a,Ab (.inl h)]);clear a;go_enter func170,ntmps170;go_wp2
  all_goals (go_ret;exact⟨by rw[d.out];rfl,rfl⟩)
 ·by_cases j:32<k
  ·have d:=hid (show V=1 by rw[a,Ab (.inr j)]);clear a;go_enter func170,ntmps170;go_wp2
   all_goals (go_ret;exact⟨by rw[d.out];rfl,rfl⟩)
  ·have d:=hid (show V=0 by rw[a,Aa (by omega)]);clear a;go_enter func170,ntmps170;go_wp2
   all_goals (go_ret;exact⟨by rw[d.out];rfl,rfl⟩)
theorem Ni(k:Int)(w:O):Calls prog 115 #[C P k] w fun e w'=>e= I (.bool (decide (0<=k/\k<=63)))/\w'=w:=by
 obtain⟨V, a⟩ := E7 (decide (0<=k/\k<=63));rw[<-a]
 by_cases h:0<=k
 ·by_cases j:k<64
  ·have d:=hid (show V=true by grind);clear a;go_enter func115,ntmps115;go_wp2
   all_goals (go_ret;exact⟨by rw[d.out];rfl,rfl⟩)
  ·have d:=hid (show V=J by rw[a];exact Ae (by omega));clear a;go_enter func115,ntmps115;go_wp2
   all_goals (go_ret;exact⟨by rw[d.out];rfl,rfl⟩)
 ·have d:=hid (show V=J by rw[a];exact Ae (by omega));clear a;go_enter func115,ntmps115;go_wp2
  all_goals (go_ret;exact⟨by rw[d.out];rfl,rfl⟩)
theorem Afi{k:Int}{beg:Nat}(w:O)(j:0<=k)(l:k<=63):Calls prog 65 #[C P k, C P ((beg % 64:Nat):Int)] w fun e w'=>e= I (C P ((E9 k beg:Nat):Int))/\w'=w:=by
 have n:beg % 64<64:=AZ _ (by omega);have a:=hid (show((E9 k beg:Nat):Int)=(k-((beg % 64:Nat):Int)) % 64 by unfold E9;omega);generalize ((E9 k beg:Nat):Int)=V at*;generalize beg % 64=B at*;have d:IntKind.i64.wrap (k-(B:Int))=k-(B:Int):=by rw[AO];omega
 have h:IntKind.i64.wrap (k-(B:Int)+64)=k-(B:Int)+64:=by rw[AO];omega
 have ht:(k-(B:Int)+64).tmod 64=(k-(B:Int)+64) % 64:=AkD (by omega);go_enter func65,ntmps65;go_wp2
 all_goals (go_ret;exact⟨by rw[a.out];rfl,rfl⟩)
theorem Lm{n:Nat}(w:O)(h:n<64)(j:k<=4000):Calls prog 70 #[C P (n:Int), C P (k:Int)] w fun e w'=>e= I (C P (((n+k) % 64:Nat):Int))/\w'=w:=by
 have a:=hid (show(((n+k) % 64:Nat):Int)=((n:Int)+(k:Int)) % 64 by omega);generalize (((n+k) % 64:Nat):Int)=V at*;have d:IntKind.i64.wrap ((n:Int)+(k:Int))=(n:Int)+(k:Int):=by rw[AO];omega
 have ht:((n:Int)+(k:Int)).tmod 64=((n:Int)+(k:Int)) % 64:=AkD (by omega);go_enter func70,ntmps70;go_wp2
 all_goals (go_ret;exact⟨by rw[a.out];rfl,rfl⟩)
def FU (us:List UnP):List Value:=us.flatMap UnP.cells
theorem LZ(us:List UnP):(FU us).length=us.length*4:=by
 induction us with
 | nil=>rfl
 | cons x us ih=>
  have e:FU (x::us)=x.cells++FU us:=rfl;rw[e,Ai,ih,AE]
  show 4+_=_;omega
theorem Ze(l r:List UnP):FU (l++r)=FU l++FU r:=by simp[FU]
theorem PJ(us:List UnP):∀i k,i<us.length->k<4->(FU us)[i*4+k]?=(us.getD i .zero).cells[k]?:=by
 induction us with
 | nil=>intro i k h;simp at h
 | cons x us ih=>
  intro i k h d;have e:FU (x::us)=x.cells++FU us:=rfl;have a:x.cells.length=4:=rfl
  grind
theorem Xg(us:List UnP):∀i,(FU us).drop (i*4)=FU (us.drop i):=by
 induction us with
 | nil=>intro i;simp[FU]
 | cons x us ih=>
  intro i
  cases i with
  | zero=>simp
  | succ i=>
   have e:FU (x::us)=x.cells++FU us:=rfl;rw[e,EU,<-ih i,show(i+1)*4=x.cells.length+i*4 by show _=4+_;omega,List.drop_append,CZ,Dd (by omega),AK]
theorem Zg(hi:i<us.length)(h:f<4)(e:(us.getD i .zero).cells.set f v=x'.cells):(FU us).set (i*4+f) v=FU (us.set i x'):=by
 refine Bf fun t=>?_
 rw[BW,LZ]
 by_cases ht:t<us.length*4
 ·have e1:=PJ (us.set i x') (t / 4) (t % 4) (by rw[An];omega) (by omega);have e2:=PJ us (t / 4) (t % 4) (by omega) (by omega);rw[show t / 4*4+t % 4=t by omega]at e1 e2;rw[e1,e2]
  by_cases d:t / 4=i
  ·have e3:(us.set i x').getD (t / 4) .zero=x':=by grind
   rw[e3,<-e,BW,d]
   by_cases a:t=i*4+f
   ·rw[Ab a.symm,Ab (by omega),Ab (by omega),Ab (by show f<4;omega)]
   grind
  grind
 ·rw[Aa (by omega),AY (by rw[LZ];omega),AY (by rw[LZ,An];omega)]
structure PSnd(w:O)(b win bg:Nat)(ua:Option Addr)(c:Nat)(us:List UnP):Prop where
 hd:At w b 138 [C P (win:Int), C P (bg:Int), G ua us.length c]
 own:w.ownsRow 0 143 4 (G ua us.length c) us.length (FU us)
 ag:∀i,i<us.length->OwnSp w (us.getD i .zero).av (us.getD i .zero).al
 nb:∀y,ua=E y->y.block≠b
 na:∀i,i<us.length->∀g,(us.getD i .zero).av.ownBlock=E g->g≠b/\∀y,ua=E y->g≠y.block
 nn:∀i j,i<us.length->j<us.length->∀g,(us.getD i .zero).av.ownBlock=E g->(us.getD j .zero).av.ownBlock=E g->i=j
def F0 (b:Nat)(ua:Option Addr)(us:List UnP):List Nat:=b::((ua.map (·.block)).toList++us.filterMap (·.av.ownBlock))
theorem KU(b:Nat)(ua:Option Addr)(us:List UnP):b∈F0 b ua us:=AL
theorem IK(h:ua=E y):y.block∈F0 b ua us:=by
 subst h;simp[F0]
theorem An5(h:i<us.length):us.getD i .zero∈us:=by grind
theorem Jy(hi:i<us.length)(h:(us.getD i .zero).av.ownBlock=E g):g∈F0 b ua us:=by simp_all[F0];grind
theorem J4{x:Nat}(h:x∈F0 b ua us):x=b\/(∃y,ua=E y/\x=y.block)\/∃i,i<us.length/\(us.getD i .zero).av.ownBlock=E x:=by
 unfold F0 at h;rw[Ar,BH]at h
 rcases h with h | h | h
 ·exact .inl h
 ·cases ua with
  | none=>simp at h
  | some y=>grind
 ·obtain⟨u,a,e⟩:=List.mem_filterMap.1 h;obtain⟨i,hi,rfl⟩:=List.mem_iff_getElem.1 a;refine .inr (.inr ⟨i,hi,?_⟩)
  grind
theorem PSnd.Ak6(h:PSnd w b win bg ua c us)(j:ua=E y):∃g,y=⟨g,0,F⟩/\g<w.heap.size:=by
 obtain⟨a',c',e,_,_,d⟩:=Fg h.own;simp only[Aq]at e;obtain⟨rfl, -,rfl⟩:=e;obtain⟨g,rfl,a⟩:=d y j;exact⟨g,rfl,(AB h.own g a).2⟩
theorem PSnd.lt{w:O}{b win bg:Nat}{ua:Option Addr}{c:Nat}{us:List UnP}(h:PSnd w b win bg ua c us):∀x∈F0 b ua us,x<w.heap.size:=fun x a=>by
 rcases J4 a with rfl | ⟨y,d,rfl⟩ | ⟨i,hi,e⟩
 ·exact h.hd.lt
 ·obtain⟨g,rfl,hg⟩:=h.Ak6 d;exact hg
 ·exact(h.ag i hi).lt e
theorem PSnd.kept{w w':O}{b win bg:Nat}{ua:Option Addr}{c:Nat}{us:List UnP}{T:List Nat}(h:PSnd w b win bg ua c us)(a:Kept T w w')(hd:∀x∈F0 b ua us,x∉T):PSnd w' b win bg ua c us:=by
 refine⟨h.hd.kept a (hd _ (KU _ _ _)),FY h.own a (fun g hg=>?_),fun i hi=>(h.ag i hi).kept a (fun g hg=>hd _ (Jy hi hg)),h.nb,h.na,h.nn⟩
 cases ua with
 | none=>simp[Value.ownBlock]at hg
 | some y=>
  obtain⟨d,rfl,_⟩:=h.Ak6 rfl;simp[Value.ownBlock]at hg;subst hg;exact hd _ (IK (y:=⟨d,0,F⟩) rfl)
theorem PSnd.un(h:PSnd w b win bg ua c us)(hi:i<us.length):∃g,ua=E ⟨g,0,F⟩/\g≠b/\UnAt w g (i*4) (us.getD i .zero):=by
 obtain⟨g,rfl⟩:=Oz h.own (by omega);obtain⟨cur,l, -, -, -, -,d,q⟩:=F9 h.own;have a:∀k,k<4->w.cell? ⟨g,i*4+k,F⟩=(us.getD i .zero).cells[k]?:=fun k p=>by
  rw[l.cell,<-PJ us i k hi p,<-d,A3 (by omega)]
 exact⟨g,rfl,h.nb _ rfl,a 0 (by omega),a 1 (by omega),a 2 (by omega),a 3 (by omega),fun j=>l.free j,h.ag i hi,fun n e=>(h.na i hi n e).2 _ rfl⟩
theorem FL(hi:i<us.length):(us.set i x).getD i .zero=x:=by grind
theorem GH{j:Nat}(h:i≠j):(us.set i x).getD j .zero=us.getD j .zero:=by grind
theorem PSnd.upd{w':O}{S:List Nat}(h:PSnd w b win bg (E ⟨g,0,F⟩) c us)(hi:i<us.length)(hf:f<4)(T:PtrPost w w' g (i*4+f) S v)
 (V:∀s∈S,(us.getD i .zero).av.ownBlock=E s) (he:(us.getD i .zero).cells.set f v=x'.cells) (ho:OwnSp w' x'.av x'.al) (M:∀n,x'.av.ownBlock=E n->(us.getD i .zero).av.ownBlock=E n\/w.heap.size<=n):
 PSnd w' b win bg (E ⟨g,0,F⟩) c (us.set i x'):=by
 have H:=h.nb _ rfl;have ab:g<w.heap.size:=by obtain⟨n,e,W⟩:=h.Ak6 rfl;cases e;exact W
 have aa:=h.hd.lt;have z:b∉g::S:=by
  rw[Ar];rintro(e | e)
  ·exact H e.symm
  ·exact(h.na i hi b (V b e)).1 rfl
 obtain⟨cur,hA, -,N,B,A,D,ac⟩:=F9 h.own;have u:=T.row _ _ hA;have L:∀j,j<us.length->j≠i->∀n,(us.getD j .zero).av.ownBlock=E n->n∉g::S:=fun j p l n a=>by
  rw[Ar];rintro(e | e)
  ·exact(h.na j p n a).2 _ rfl e
  ·exact l (h.nn j i p hi n a (V n e))
 refine⟨?_,?_,fun j p=>?_,h.nb,fun j p n a=>?_,fun j k p t n a d=>?_⟩
 ·rw[An];exact h.hd.kept T.kept z
 ·rw[An];refine u.row (by rw[LZ,An]) N B (by rw[An,A]) ?_;rw[CW,D];exact Zg hi hf he
 ·rw[An]at p
  by_cases l:j=i
  ·subst l;rw[FL p];exact ho
  ·rw[GH (fun e=>l e.symm)];exact(h.ag j p).kept T.kept (L j p l)
 ·rw[An]at p
  by_cases l:j=i
  ·subst l;rw[FL p]at a
   rcases M n a with r | r
   ·exact h.na j p n r
   grind
  ·rw[GH (fun e=>l e.symm)]at a;exact h.na j p n a
 ·rw[An]at p t
  by_cases l:j=i
  ·subst l
   by_cases q:k=j
   ·exact q.symm
   ·rw[FL p]at a;rw[GH (fun e=>q e.symm)]at d
    rcases M n a with r | r
    ·exact h.nn j k p t n r d
    ·have:=(h.ag k t).lt d;omega
  ·rw[GH (fun e=>l e.symm)]at a
   by_cases q:k=i
   ·subst q;rw[FL t]at d
    rcases M n d with r | r
    ·exact h.nn j k p t n a r
    ·have:=(h.ag j p).lt a;omega
   ·rw[GH (fun e=>q e.symm)]at d;exact h.nn j k p t n a d
theorem PSnd.head(h:PSnd w b win bg ua c us):w.cell? ⟨b,0,F⟩=E (C P (win:Int))/\w.cell? ⟨b,1,F⟩=E (C P (bg:Int))/\w.cell? ⟨b,2,F⟩=E (G ua us.length c):=⟨h.hd.cell 0,h.hd.cell 1,h.hd.cell 2⟩
def GF (us:List UnP):Nat:=(us.filter fun x=>!x.dn).length
theorem NB(l:List UnP)(x:UnP):GF (l++[x])=GF l+(if x.dn=true then 0 else 1):=by grind [GF]
theorem AmU(h:k<us.length):us.take (k+1)=us.take k++[us.getD k .zero]:=by
 rw[Br,Au,Ap h];rfl
theorem OG(h:PSnd w b win bg ua c us)(z:us.length<=70368744177664):
 Calls prog 58 #[.pointer (E ⟨b,0,F⟩)] w fun e w'=>e= I (C P ((GF us:Nat):Int))/\w'=w:=by
 obtain⟨-, -,c2⟩:=h.head;obtain⟨N, p⟩ := E7 us.length;rw[<-p]at c2 z;have H:=hid h;have n:=hid p;clear h p;go_enter func58,ntmps58
 go_wp2_with fail
 go_loopw [3,10] (fun B t wr=>∃k q:Nat,k<=N/\q<=k/\t= C P k/\B= C P (q:Int)/\q=GF (us.take k)/\Hid (wr=w)) (fun _ t _=>N-(intOf t).toNat)
 case atStart=>exact⟨0,0,by omega,by omega,rfl,rfl,rfl,hid rfl⟩
 case round=>
  obtain⟨k,q,D,A,rfl,rfl,j,r⟩:=hrel;have r:=r.out;subst r
  by_cases a:k<N
  ·obtain⟨g,rfl, -,u⟩:=H.out.un (i:=k) (by rw[<-n.out];exact a);have c3:=u.c3;have ht:=hid (AmU (us:=us) (k:=k) (by rw[<-n.out];exact a));have d:=hid j;clear u j
   cases hd:(us.getD k .zero).dn with
   | true=>
    rw[hd]at c3;have l:=hid hd;clear hd
    go_wp2_with fail;refine⟨⟨k+1,q,by omega,by omega,by go_num,rfl,?_,by first | exact hid rfl | exact hid trivial⟩,by simp[intOf];omega⟩;rw[ht.out,d.out];rw[NB,l.out];rfl
   | false=>
    rw[hd]at c3;have l:=hid hd;clear hd
    go_wp2_with fail;refine⟨⟨k+1,q+1,by omega,by omega,by go_num,by go_num,?_,by first | exact hid rfl | exact hid trivial⟩,by simp[intOf];omega⟩;rw[ht.out,d.out];rw[NB,l.out];rfl
  ·have d:=hid j;clear j
   go_wp2_with fail;go_ret;refine⟨?_,rfl⟩;rw[d.out,Aw (by rw[<-n.out];omega)];rfl
theorem T7(w:O)(d:1<=k)(h:k<=32):Calls prog 126 #[C P (k:Int)] w fun e w'=>e= I (.tuple #[.pointer (E ⟨w.heap.size,0,F⟩), C P 0])/\w'=w.alloc (K #[C P (k:Int), C P 0, G F 0 0] 138):=by
 have a:=NE (k:Int) w;rw[Aa (by omega)]at a;clear d h;go_enter func126,ntmps126
 go_wp2_with(go_at_call 170;refine a.mono ?_;rintro e w1 ⟨rfl,rfl⟩)
 all_goals (go_ret2;exact⟨rfl,rfl⟩)
theorem PSnd.new(w:O)(k:Nat):PSnd (w.alloc (K #[C P (k:Int), C P 0, G F 0 0] 138)) w.heap.size k 0 F 0 []:=by
 refine⟨Fc w 138 [C P (k:Int), C P 0, G F 0 0],Bj _ _ _ _,?_,?_,?_,?_⟩
 ·intro i hi;simp at hi
 ·intro y a;simp at a
 ·intro i hi;simp at hi
 ·intro i j hi;simp at hi
def KM (s:ByteArray):UnP:=⟨s,0, G F 0 0,[],J⟩
theorem Kl(h:i<us.length):(us++[x]).getD i .zero=us.getD i .zero:=by grind
theorem JE:(us++[x]).getD us.length .zero=x:=by grind
theorem PSnd.app{w1:O}{d:Option Addr}{c' n':Nat}(h:PSnd w b win bg ua c us)(r:n'=us.length+1)(u:Kept (ua.map (·.block)).toList w w1)
 (H:w1.ownsRow 0 143 4 (G d n' c') n' (FU us++(KM s).cells)) (D:∀y,d=E y->ua=E y\/w.heap.size<=y.block):
 PSnd (w1.setCell ⟨b,2,F⟩ (G d n' c')) b win bg d c' (us++[KM s]):=by
 subst r;have q:b∉(ua.map (·.block)).toList:=by
  cases ua with
  | none=>simp
  | some y=>simpa using fun e=>h.nb y rfl e.symm
 have A:=h.hd.lt;have n:∀y,d=E y->y.block≠b:=by grind
 have a:(us++[KM s]).length=us.length+1:=by simp
 have p:Kept [b] w1 (w1.setCell ⟨b,2,F⟩ (G d (us.length+1) c')):=FT _ _ _ _;refine⟨?_,?_,fun i hi=>?_,n,fun i hi g hg=>?_,fun i j hi B g hg l=>?_⟩
 ·rw[a];exact(h.hd.kept u q).setCell (o:=2) _
 ·rw[a,Ze]
  have:=FY H p (fun g hg=>by
   cases d with
   | none=>simp[Value.ownBlock]at hg
   | some y=>
    simp[Value.ownBlock]at hg;subst hg
    simpa using n y rfl)
  rw[show FU [KM s]=(KM s).cells by simp[FU]];exact this
 ·rw[a]at hi
  by_cases e:i=us.length
  ·subst e;rw[JE];exact OwnSp.nil _
  ·rw[Kl (by omega)];refine((h.ag i (by omega)).kept u (fun g hg=>?_)).kept p (fun g hg=>?_)
   ·have:=(h.na i (by omega) g hg).2
    cases ua with
    | none=>simp
    | some y=>simpa using this y rfl
   ·simpa using (h.na i (by omega) g hg).1
 ·rw[a]at hi
  by_cases e:i=us.length
  ·subst e;rw[JE]at hg;simp[KM,Value.ownBlock]at hg
  ·rw[Kl (by omega)]at hg;refine⟨(h.na i (by omega) g hg).1,fun y L=>?_⟩
   rcases D y L with t | t
   ·exact(h.na i (by omega) g hg).2 y t
   ·have:=(h.ag i (by omega)).lt hg;omega
 ·rw[a]at hi B
  by_cases e:i=us.length
  ·subst e;rw[JE]at hg;simp[KM,Value.ownBlock]at hg
  ·by_cases z:j=us.length
   ·subst z;rw[JE]at l;simp[KM,Value.ownBlock]at l
   ·rw[Kl (by omega)]at hg l;exact h.nn i j (by omega) (by omega) g hg l
def Aeo (w:O)(b win bg:Nat)(ua:Option Addr)(us:List UnP)(s:ByteArray):Ending->O->Prop:=fun e w'=>e= I (C P 0)/\Kept (F0 b ua us) w w'/\∃ua' c',PSnd w' b win bg ua' c' (us++[KM s])/\∀y,ua'=E y->ua=E y\/w.heap.size<=y.block
theorem Aby(h:PSnd w b win bg ua c us)(hl:us.length<=1000000)(h0:0<s.size)(h1:s.size<=1500)(h2:GF us<64):
 Calls prog 132 #[.pointer (E ⟨b,0,F⟩),.string s] w (Aeo w b win bg ua us s):=by
 obtain⟨-, -,c2⟩:=h.head;have ak:=OG h (by omega);have ai:=h.hd.free 2;have ah:=h.hd.lt;obtain⟨i0,A,T,V,W⟩:=As Tryz.Ai7;have al:s.toList.isEmpty=J:=Ty (by omega);have hA:=Fc w 143 [.string s, C P 0, G F 0 0,.bool J];have l:(w.alloc (K #[.string s, C P 0, G F 0 0,.bool J] 143)).ownsRow 0 143 4 (G ua us.length c) us.length (FU us):=A6 h.own _;have n:∀(k:Nat) u,(KM s).cells[k]?=E u->(w.alloc (K #[.string s, C P 0, G F 0 0,.bool J] 143)).cell? ⟨w.heap.size,k,F⟩=E u:=fun k u hu=>by rw[hA.cell];exact hu
 have j:∀u∈(KM s).cells,u.oneCell'=true:=by
  intro u hu;simp[KM,UnP.cells]at hu
  rcases hu with rfl | rfl | rfl | rfl<;>rfl
 have r:∀y,ua=E y->∃g,y=⟨g,0,F⟩:=fun y hy=>by obtain⟨g,e,_⟩:=h.Ak6 hy;exact⟨g,e⟩
 have hF:∀v' w',w'.ownsRow 0 143 4 v' (us.length+1) (FU us++(KM s).cells)->(w.alloc (K #[.string s, C P 0, G F 0 0,.bool J] 143)).grownBy w' (G ua us.length c).ownBlock->(v'.ownBlock=(G ua us.length c).ownBlock\/v'.ownBlock=E (w.alloc (K #[.string s, C P 0, G F 0 0,.bool J] 143)).heap.size)->
  ∃a c',v'= G a (us.length+1) c'/\w'.cell? ⟨b,2,F⟩=E (G ua us.length c)/\w'.frozen? ⟨b,2,F⟩=J/\Aeo w b win bg ua us s (I (C P 0)) (w'.setCell ⟨b,2,F⟩ (G a (us.length+1) c')):=fun v' w' g1 g2 p=>by
  obtain⟨a,c',rfl, -, -,hx⟩:=Fg g1;have aj:(G ua us.length c).ownBlock.toList=(ua.map (·.block)).toList:=by
   cases ua with
   | none=>rfl
   | some y=>rfl
  have hk:Kept (ua.map (·.block)).toList w w':=by
   rw[<-aj];exact((Kept.refl _ w).alloc _).trans (Kept.PR g2)
  have t:b∉(ua.map (·.block)).toList:=by
   cases ua with
   | none=>simp
   | some y=>simpa using fun e=>h.nb y rfl e.symm
  have B:∀y,a=E y->ua=E y\/w.heap.size<=y.block:=fun y hy=>by
   obtain⟨g,rfl,h5⟩:=hx y hy
   rcases p with p | p
   ·rw[h5]at p
    cases ua with
    | none=>simp[Value.ownBlock]at p
    | some y'=>
     grind
   ·rw[h5]at p;simp at p
    grind
  refine⟨a,c',rfl,E8 hk c2 t,Ic hk ai ah t,rfl,?_,a,c',h.app rfl hk g1 B,B⟩;refine(hk.Fn (fun x d=>?_)).trans ((FT w' b 2 _).Fn (fun x d=>?_))
  ·exact AU _ (Df _ d)
  ·rw[AC]at d;rw[d];exact KU _ _ _
 have d2:decide (1500<(s.size:Int))=J:=Ae (by omega);have d3:decide ((64:Int)<=((GF us:Nat):Int))=J:=Ae (by omega);have HF:=hid hF;have HS:=hid n;have HO:=hid l;have ac:=hid j;generalize GF us=q at*;obtain⟨N, hN⟩ := E7 us.length;rw[<-hN]at c2;rw[<-hN]at HF HO hl;have H:N+1<=maxLen:=by unfold maxLen;omega
 have L:(N+1)*56<=140737488355328:=by omega
 have aa:=hid H;have ab:=hid L;have HI:=hid A;have ae:=hid T;have af:=hid V;have ag:=hid W;clear h hF n l j hA hN r H L A T V W;go_enter func132,ntmps132
 go_wp2_with(first
  | (go_at_call 58;refine ak.mono ?_;rintro e w1 ⟨rfl,rfl⟩)
  | (at_builtin;refine I3 0 _ underlying136 HI.out ae.out af.out ag.out rfl (by decide) HO.out rfl _ _ rfl rfl rfl rfl HS.out ac.out aa.out ab.out (Af _) ?_;intro v7 w7 M z D;obtain⟨a,c',rfl,k2,kf,S⟩:=HF.out _ _ M z D;have ad:=hid S;clear M z D S))
 all_goals (go_ret;exact ad.out)
def GC (p:UnP->Bool)(us:List UnP):Nat:=(us.takeWhile p).length
theorem K9(p:UnP->Bool)(us:List UnP):GC p us<=us.length:=by
 induction us with
 | nil=>exact Ac _
 | cons x us ih=>
  unfold GC at*;rw[Eh]
  grind
theorem Kz{p:UnP->Bool}:∀{us:List UnP} {k:Nat},k<GC p us->p (us.getD k .zero)=true
 | [],k,h=>by simp[GC]at h
 | x::us,k,h=>by
  unfold GC at h;rw[Eh]at h
  split at h
  ·rename_i a
   cases k with
   | zero=>exact a
   | succ k=>exact Kz (us:=us) (k:=k) (by unfold GC;simpa using h)
  ·simp at h
theorem OW{p:UnP->Bool}:∀{us:List UnP},GC p us<us.length->p (us.getD (GC p us) .zero)=J
 | [],h=>by simp at h
 | x::us,h=>by
  unfold GC at*;rw[Eh]at h ⊢
  split at h
  ·rename_i a;rw[Ab a];simp only[AE]at h ⊢;exact OW (us:=us) (by unfold GC;omega)
  grind
theorem XO{p:UnP->Bool}(a:k<=us.length)(d:∀j,j<k->p (us.getD j .zero)=true)(e:k<us.length->p (us.getD k .zero)=J):GC p us=k:=by grind [GC,OW,Kz,K9]
def GR (x:UnP):Bool:=decide (0<x.sent)
theorem Afr(h:PSnd w b win bg ua c us)(T:us.length<=70368744177664):
 Calls prog 116 #[.pointer (E ⟨b,0,F⟩)] w fun e w'=>e= I (C P ((GC GR us:Nat):Int))/\w'=w:=by
 obtain⟨-, -,c2⟩:=h.head;obtain⟨N, r⟩ := E7 us.length;rw[<-r]at c2 T;have H:=hid h;have d:=hid r;clear h r;go_enter func116,ntmps116
 go_wp2_with fail
 go_loopw [3] (fun z wr=>∃k:Nat,k<=N/\z= C P k/\Hid (∀j,j<k->GR (us.getD j .zero)=true)/\Hid (wr=w)) (fun z _=>N-(intOf z).toNat)
 case atStart=>exact⟨0,by omega,rfl,hid (fun j S=>by omega),hid rfl⟩
 case round=>
  obtain⟨k,B,rfl,n,u⟩:=hrel;have u:=u.out;subst u
  by_cases a:k<N
  ·obtain⟨g,rfl, -,L⟩:=H.out.un (i:=k) (by rw[<-d.out];exact a);have c1:=L.c1;have A:=hid (show GR (us.getD k .zero)=decide (0<(us.getD k .zero).sent)from rfl);clear L;generalize (us.getD k .zero).sent=st at*
   by_cases D:0<st
   ·have M:decide ((0:Int)<(st:Int))=true:=Ag (by omega)
    go_wp2_with fail;refine⟨⟨k+1,by omega,by go_num,hid (fun j S=>?_),by first | exact hid rfl | exact hid trivial⟩,by simp[intOf];omega⟩
    rcases AS j k with l | l
    ·exact n.out j l
    ·rw[show j=k by omega,A.out];exact Ag D
   ·have M:decide ((0:Int)<(st:Int))=J:=Ae (by omega);have q:=hid (XO (p:=GR) (us:=us) (k:=k) (by rw[<-d.out];exact B) n.out (fun _=>by rw[A.out];exact Ae D))
    go_wp2_with fail;go_ret;exact⟨by rw[q.out];rfl,rfl⟩
  ·have t:k=N:=by omega
   subst t;have q:=hid (XO (p:=GR) (us:=us) (k:=k) (by rw[<-d.out];exact B) n.out (fun l=>by rw[<-d.out]at l;omega));clear a
   go_wp2_with fail;go_ret;exact⟨by rw[q.out];rfl,rfl⟩
theorem IC:(us.drop k).getD i .zero=us.getD (k+i) .zero:=by grind
theorem PSnd.drop{w w1:O}{b win bg d c n' k:Nat}{ua:Option Addr}{us:List UnP}(h:PSnd w b win bg ua c us)(z:k<=us.length)(r:n'=us.length-k)(p:Kept (ua.map (·.block)).toList w w1)
 (u:w1.ownsRow 0 143 4 (G ua n' c) n' ((FU us).drop (k*4))):
 PSnd ((w1.setCell ⟨b,2,F⟩ (G ua n' c)).setCell ⟨b,1,F⟩ (C P (d:Int))) b win d ua c (us.drop k):=by
 subst r;have q:b∉(ua.map (·.block)).toList:=by
  cases ua with
  | none=>simp
  | some y=>simpa using fun e=>h.nb y rfl e.symm
 have a:(us.drop k).length=us.length-k:=by simp
 have n:Kept [b] w1 ((w1.setCell ⟨b,2,F⟩ (G ua (us.length-k) c)).setCell ⟨b,1,F⟩ (C P (d:Int))):=((Kept.refl _ _).setCell (by simp) _).setCell (by simp) _;refine⟨?_,?_,fun i hi=>?_,h.nb,fun i hi g hg=>?_,fun i j hi t g hg l=>?_⟩
 ·rw[a];exact((h.hd.kept p q).setCell (o:=2) (G ua (us.length-k) c)).setCell (o:=1) (C P (d:Int))
 ·rw[a,<-Xg]
  exact FY u n (fun g hg=>by
   cases ua with
   | none=>simp[Value.ownBlock]at hg
   | some y=>
    simp[Value.ownBlock]at hg;subst hg
    simpa using h.nb y rfl)
 ·rw[a]at hi;rw[IC];refine((h.ag (k+i) (by omega)).kept p (fun g hg=>?_)).kept n (fun g hg=>?_)
  ·have:=(h.na (k+i) (by omega) g hg).2
   cases ua with
   | none=>simp
   | some y=>simpa using this y rfl
  ·simpa using (h.na (k+i) (by omega) g hg).1
 ·rw[a]at hi;rw[IC]at hg;exact h.na (k+i) (by omega) g hg
 ·rw[a]at hi t;rw[IC]at hg l;have:=h.nn (k+i) (k+j) (by omega) (by omega) g hg l;omega
def AmZ (w:O)(b win bg:Nat)(ua:Option Addr)(c:Nat)(us:List UnP)(k:Nat):Ending->O->Prop:=fun e w'=>e= I (.tuple #[])/\Kept (F0 b ua us) w w'/\PSnd w' b win ((bg+k) % 64) ua c (us.drop k)
theorem Zf(h:PSnd w b win bg ua c us):∀u∈FU us,u.oneCell'=true:=by
 intro u d;simp only[FU,Ce]at d;obtain⟨x,j,d⟩:=d;obtain⟨i,hi,rfl⟩:=List.mem_iff_getElem.1 j;have a:=h.ag i hi;rw[Au,Ap hi]at a;obtain⟨a',c',e, -⟩:=a.FC;simp only[Ei]at e;simp[UnP.cells]at d
 rcases d with rfl | rfl | rfl | rfl
 ·rfl
 ·rfl
 ·rw[e];rfl
 ·rfl
theorem AiZ(h:PSnd w b win bg ua c us)(hl:us.length<=4000)(ab:bg<64):
 Calls prog 68 #[.pointer (E ⟨b,0,F⟩)] w (AmZ w b win bg ua c us (GC (·.dn) us)):=by
 obtain⟨-,c1,c2⟩:=h.head;obtain⟨N, hN⟩ := E7 us.length;rw[<-hN]at c2 hl;have H:=hid h;have u:=hid hN;have C2:=hid c2;clear h hN;go_enter func68,ntmps68
 go_wp2_with fail
 go_loopw [2] (fun vc wr=>∃k:Nat,k<=N/\vc= C P k/\Hid (∀j,j<k->(us.getD j .zero).dn=true)/\Hid (wr=w)) (fun vc _=>N-(intOf vc).toNat)
 case atStart=>exact⟨0,by omega,rfl,hid (fun j hj=>by omega),hid rfl⟩
 case round=>
  obtain⟨k,hk,rfl,HJ,hw⟩:=hrel;have hw:=hw.out;subst hw;go_upto_region 1 with fail
  go_cut [19]from 3 to 21 (fun t wx=>t=.bool (decide (k<N/\(us.getD k .zero).dn=true))/\wx=wr)
  case first=>
   by_cases q:k<N
   ·obtain⟨g,rfl, -,hu⟩:=H.out.un (i:=k) (by rw[<-u.out];exact q);have c3:=hu.c3;clear hu;generalize (us.getD k .zero).dn=D at*;have hd:=hid (show decide (k<N/\D=true)=D by simp[q]);go_wp2
    go_meet;exact⟨by rw[hd.out],rfl⟩
   ·have S:k=N:=by omega
    subst S;have hd:=hid (show decide (k<k/\(us.getD k .zero).dn=true)=J from Ae (fun h=>q h.1));clear q;go_wp2
    go_meet;exact⟨by rw[hd.out],rfl⟩
  case rest=>
   obtain⟨rfl,ad⟩:=hcut;subst ad
   by_cases d:k<N/\(us.getD k .zero).dn=true
   ·have hd:decide (k<N/\(us.getD k .zero).dn=true)=true:=Ag d;rw[hd];have HG:=hid d;have S:k<N:=d.1;clear d hd
    go_wp2_with fail;refine⟨⟨k+1,by omega,by go_num,hid (fun j hj=>?_),by first | exact hid rfl | exact hid trivial⟩,by simp[intOf];omega⟩
    rcases AS j k with h' | h'
    ·exact HJ.out j h'
    ·rw[show j=k by omega];exact HG.out.2
   ·have hd:decide (k<N/\(us.getD k .zero).dn=true)=J:=Ae d;rw[hd]
    have HL:=hid (XO (p:=(·.dn)) (us:=us) (k:=k) (by rw[<-u.out];exact hk) HJ.out (fun h'=>by
     rw[<-u.out]at h'
     grind))
    have r:=Xq H.out.own (Zf H.out) (j:=k) (by rw[<-u.out];exact hk);have V:(G ua us.length c).ownBlock.toList=(ua.map (·.block)).toList:=by
     cases ua with
     | none=>rfl
     | some y=>rfl
    rw[V,<-u.out]at r;have l:b∉(ua.map (·.block)).toList:=by
     cases ua with
     | none=>simp
     | some y=>simpa using fun e=>H.out.nb y rfl e.symm
    have A:=H.out.hd.lt;have B:=H.out.hd.free 1;have L:=H.out.hd.free 2;have hF:∀w1,Kept (ua.map (·.block)).toList wc w1->w1.cell? ⟨b,1,F⟩=E (C P (bg:Int))/\w1.cell? ⟨b,2,F⟩=E (G ua N c)/\w1.frozen? ⟨b,1,F⟩=J/\w1.frozen? ⟨b,2,F⟩=J:=fun w1 a=>⟨E8 a c1 l,E8 a C2.out l,Ic a B A l,Ic a L A l⟩
    have ac:=fun W=>Lm (n:=bg) (k:=k) W ab (by omega)
    have HF:=hid hF;generalize hM:(bg+k) % 64=M at*;have HM:=hid hM;clear d hd hF V B L hM
    go_wp2_with(first
     | (go_at_call 119;refine r.mono ?_;rintro e w1 ⟨rfl,T,a⟩;obtain⟨s1,s2,s3,s4⟩:=HF.out _ a;have aa:=hid T;have z:=hid a;clear T a)
     | (go_at_call 70;refine(ac _).mono ?_;rintro e w2 ⟨rfl,rfl⟩))
    go_end0;refine⟨rfl,?_,?_⟩
    ·refine(z.out.Fn (fun x hx=>?_)).trans (Kept.Fn (((Kept.refl [b] _).setCell (by simp) _).setCell (by simp) _) (fun x hx=>?_))
     ·exact AU _ (Df _ hx)
     ·rw[AC]at hx;rw[hx];exact KU _ _ _
    ·rw[HL.out,HM.out];exact H.out.drop (by rw[<-u.out];exact hk) (by rw[u.out]) z.out aa.out
def GapM.val(g:GapM):Value:=.agg #[C P g.num, C P g.frm, C P g.til]
def JV (bg d:Nat)(us:List UnP)(g:GapM):Bool:=
 decide (0<=g.num/\g.num<=63) && (decide (E9 g.num bg<d) && decide (0<=g.frm/\g.frm<(us.getD (E9 g.num bg) .zero).text.size/\g.til<=(us.getD (E9 g.num bg) .zero).text.size/\(g.til<0\/g.frm<g.til)))
def Mq (bg d:Nat)(us:List UnP)(g:GapM):Int:=if JV bg d us g=true then 0 else 3
theorem Ll{k:Int}(w:O)(h:bg<64)(a:0<=k)(d:k<=63):Calls prog 65 #[C P k, C P (bg:Int)] w fun e w'=>e= I (C P ((E9 k bg:Nat):Int))/\w'=w:=by
 have:=Afi (k:=k) (beg:=bg) w a d
 rwa [Nat.mod_eq_of_lt h]at this
theorem Xh{d:Nat}(g:GapM)(h:PSnd w b win bg ua c us)(S:bg<64)(hd:d<=us.length)(ab:us.length<=4000)(q:∀i,i<us.length->(us.getD i .zero).text.size<=1500):
 Calls prog 117 #[.pointer (E ⟨b,0,F⟩),g.val, C P (d:Int)] w fun e w'=>e= I (C P (Mq bg d us g))/\Below w.heap.size w w':=by
 obtain⟨-,c1,c2⟩:=h.head;have L:=Fc w 154 [C P g.num, C P g.frm, C P g.til];have M:Kept [] w (w.alloc (K #[C P g.num, C P g.frm, C P g.til] 154)):=(Kept.refl _ w).alloc _;have k1:=E8 M c1 (by simp);have T:=E8 M c2 (by simp);have x0:(w.alloc (K #[C P g.num, C P g.frm, C P g.til] 154)).cell? ⟨w.heap.size,0,F⟩=E (C P g.num):=L.cell 0;have x1:(w.alloc (K #[C P g.num, C P g.frm, C P g.til] 154)).cell? ⟨w.heap.size,1,F⟩=E (C P g.frm):=L.cell 1;have x2:(w.alloc (K #[C P g.num, C P g.frm, C P g.til] 154)).cell? ⟨w.heap.size,2,F⟩=E (C P g.til):=L.cell 2;have D:Hid (∀n,Below w.heap.size w ((w.alloc (K #[C P g.num, C P g.frm, C P g.til] 154)).drewN n)):=hid fun n=>JO ((Ad _ w).alloc (Ac _) _) n
 have j:=fun W=>Ni g.num W
 obtain⟨V, t⟩ := E7 (Mq bg d us g);rw[<-t];have z:∀i,i<us.length->∃gb,ua=E ⟨gb,0,F⟩/\(w.alloc (K #[C P g.num, C P g.frm, C P g.til] 154)).cell? ⟨gb,i*4,F⟩=E (.string (us.getD i .zero).text):=fun i hi=>by
  obtain⟨gb,e, -,hu⟩:=h.un hi;exact⟨gb,e,E8 M hu.c0 (by simp)⟩
 obtain⟨N, hN⟩ := E7 us.length;rw[<-hN]at T hd z q;clear h L M c1 c2 hN;have H:=hid z;clear z
 by_cases r:0<=g.num/\g.num<=63
 ·have u:=fun W=>Ll (k:=g.num) (bg:=bg) W S r.1 r.2
  rw[show decide (0<=g.num/\g.num<=63)=true from Ag r]at j
  by_cases B:E9 g.num bg<d
  ·obtain⟨gb,rfl,u0⟩:=H.out _ (AI B hd);have hs:=q _ (AI B hd);have d2:decide ((d:Int)<=((E9 g.num bg:Nat):Int))=J:=Ae (by omega);have a:V=if 0<=g.frm/\g.frm<(us.getD (E9 g.num bg) .zero).text.size/\g.til<=(us.getD (E9 g.num bg) .zero).text.size/\(g.til<0\/g.frm<g.til) then 0 else 3:=by
    rw[t];unfold Mq JV
    grind
   generalize (us.getD (E9 g.num bg) .zero).text=tx at*;have ad:E9 g.num bg<N:=by omega
   have aa:¬(d<=E9 g.num bg):=by omega
   generalize E9 g.num bg=A at*;clear t B r H q;obtain⟨num,frm,til⟩:=g;dsimp only[GapM.val]at*;go_enter func117,ntmps117;go_upto_region 1 with fail
   go_quiet (first | (go_at_call 115;exact Ba (j _)) | (go_at_call 65;exact Ba (u _)));go_upto_region 3 with fail
   have ae:((w.alloc (K #[C P num, C P frm, C P til] 154)).drewN nq).cell? ⟨b,1,F⟩=E (C P (bg:Int)):=k1;have af:((w.alloc (K #[C P num, C P frm, C P til] 154)).drewN nq).cell? ⟨b,2,F⟩=E (G (E ⟨gb,0,F⟩) N c):=T;have ag:((w.alloc (K #[C P num, C P frm, C P til] 154)).drewN nq).cell? ⟨gb,A*4,F⟩=E (.string tx):=u0;have ah:((w.alloc (K #[C P num, C P frm, C P til] 154)).drewN nq).cell? ⟨w.heap.size,0,F⟩=E (C P num):=x0;have ai:((w.alloc (K #[C P num, C P frm, C P til] 154)).drewN nq).cell? ⟨w.heap.size,1,F⟩=E (C P frm):=x1;have aj:((w.alloc (K #[C P num, C P frm, C P til] 154)).drewN nq).cell? ⟨w.heap.size,2,F⟩=E (C P til):=x2;have p:Hid (∀n,Below w.heap.size w (((w.alloc (K #[C P num, C P frm, C P til] 154)).drewN nq).drewN n)):=hid fun n=>JO (D.out nq) n
   clear k1 T u0 x0 x1 x2 D;generalize (w.alloc (K #[C P num, C P frm, C P til] 154)).drewN nq=W1 at*
   go_quiet (first | (go_at_call 65;exact Ba (u _)))
   by_cases q3:frm<0
   ·have l:=hid (show V=3 by rw[a,Aa (by omega)]);clear a
    go_wp2_with fail;go_ret;exact⟨by rw[l.out];rfl,p.out _⟩
   ·by_cases q4:(tx.size:Int)<=frm
    ·have l:=hid (show V=3 by rw[a,Aa (by omega)]);clear a
     go_wp2_with fail;go_ret;exact⟨by rw[l.out];rfl,p.out _⟩
    ·by_cases q5:0<=til
     ·by_cases q6:til<=frm
      ·have l:=hid (show V=3 by rw[a,Aa (by omega)]);clear a
       go_wp2_with fail;go_ret;exact⟨by rw[l.out];rfl,p.out _⟩
      ·by_cases q7:(tx.size:Int)<til
       ·have l:=hid (show V=3 by rw[a,Aa (by omega)]);clear a
        go_wp2_with fail;go_ret;exact⟨by rw[l.out];rfl,p.out _⟩
       ·have l:=hid (show V=0 by rw[a,Ab (by omega)]);clear a
        go_wp2_with fail;go_ret;exact⟨by rw[l.out];rfl,p.out _⟩
     ·have l:=hid (show V=0 by rw[a,Ab (by omega)]);clear a
      go_wp2_with fail;go_ret;exact⟨by rw[l.out];rfl,p.out _⟩
  ·have d2:decide ((d:Int)<=((E9 g.num bg:Nat):Int))=true:=Ag (by omega)
   have l:=hid (show V=3 by
    rw[t];unfold Mq JV;rw[Ae B]
    simp)
   have ac:d<=E9 g.num bg:=by omega
   clear t r B H q;generalize E9 g.num bg=A at*;obtain⟨num,frm,til⟩:=g;dsimp only[GapM.val]at*;go_enter func117,ntmps117;go_upto_region 1 with fail
   go_quiet (first | (go_at_call 115;exact Ba (j _)) | (go_at_call 65;exact Ba (u _)))
   go_wp2_with fail;go_ret;exact⟨by rw[l.out];rfl,D.out _⟩
 ·rw[show decide (0<=g.num/\g.num<=63)=J from Ae r]at j
  have l:=hid (show V=3 by
   rw[t];unfold Mq JV;rw[Ae r]
   simp)
  clear t r H q;obtain⟨num,frm,til⟩:=g;dsimp only[GapM.val]at*;go_enter func117,ntmps117;go_upto_region 1 with fail
  go_quiet (first | (go_at_call 115;exact Ba (j _)))
  go_wp2_with fail;go_ret;exact⟨by rw[l.out];rfl,D.out _⟩
structure TkP where
 dv:Value
 data:List Int
 tv:Value
 th:Sps
 len:Nat
def TkP.zero:TkP:=⟨G F 0 0,[], G F 0 0,[],0⟩
def TkP.cells(x:TkP):List Value:=[x.dv,x.tv, C P (x.len:Int)]
structure TkAt(w:O)(g o:Nat)(x:TkP):Prop where
 c0:w.cell? ⟨g,o,F⟩=E x.dv
 c1:w.cell? ⟨g,o+1,F⟩=E x.tv
 c2:w.cell? ⟨g,o+2,F⟩=E (C P (x.len:Int))
 fr:∀j,w.frozen? ⟨g,j,F⟩=J
 od:Own w 0 x.dv x.data
 ot:OwnSp w x.tv x.th
 sd:∀g',x.dv.ownBlock=E g'->g'≠g
 st:∀g',x.tv.ownBlock=E g'->g'≠g
 dt:∀g',x.dv.ownBlock=E g'->x.tv.ownBlock≠E g'
def TkP.whole(x:TkP):Bool:=decide (0<x.len) && (decide (x.th=[(0,x.len)]))
theorem Aei{x:TkP}(h:TkAt w g o x)(a:x.len=0):
 Calls prog 244 #[.pointer (E ⟨g,o,F⟩)] w fun e w'=>e= I (.bool J)/\∃n,w'=w.drewN n:=by
 have c2:=h.c2;rw[a]at c2;clear h;go_enter func244,ntmps244
 go_wp2_with fail
 go_quiet (fail)
 go_wp2_with fail;go_ret;exact⟨rfl,_,rfl⟩
theorem Aeh{x:TkP}(h:TkAt w g o x)(l:0<x.len)(q:x.len<=3000)(p:x.th.length≠1)(d:x.th.length<=4000):
 Calls prog 244 #[.pointer (E ⟨g,o,F⟩)] w fun e w'=>e= I (.bool J)/\∃n,w'=w.drewN n:=by
 have c2:=h.c2;have c1:=h.c1;obtain⟨a,c,e, -, -, -⟩:=h.ot.FC;rw[e]at c1;have j:((x.th.length:Int)==1)=J:=by rw[Cb];omega
 clear h e;generalize x.len=L at*;generalize x.th.length=N at*;go_enter func244,ntmps244
 go_wp2_with fail
 go_quiet (fail)
 go_wp2_with fail;go_ret;exact⟨rfl,_,rfl⟩
end Go.Proofs.YtbjgfoiikhbonahGreatDoor
