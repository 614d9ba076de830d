import Derived.Test.YtbjgfoiikhbonahGreatDoorD16
import Derived.Deep.RegionHeld3
set_option linter.unusedVariables false
set_option linter.unusedSimpArgs false
set_option maxRecDepth 100000
set_option maxHeartbeats 4000000
namespace Go.Proofs.YtbjgfoiikhbonahGreatDoor
open Go.ChangeShapes Go.WideShapes Go.ChangeAt Go.RowKit Go.Proofs.Tryz
open Value (int slice)
open IntKind (i64)
variable {b bg c f g i k o win:Nat}{s:ByteArray}{ua:Option Addr}{us:List UnP}{v:Value}{w:World}{x x':UnP}{y:Addr}
theorem AkD{n:Int}(h:0<=n):n.tmod 64=n % 64:=C8 h
theorem NE(k:Int)(w:World):Calls prog 170 #[int i64 k] w fun e w'=>e=.returned (int i64 (if k<1\/32<k then 1 else 0))/\w'=w:=by
 obtain⟨V,a⟩:=E7 ((if k<1\/32<k then (1:Int) else 0));rw[<-a]
 by_cases h:k<1
 ·have d:=hid (show V=1 by rw[a,Ab (.inl h)]);clear a;go_enter func170,ntmps170;go_wp2
  all_goals (go_ret;exact⟨by rw[d.out];rfl,rfl⟩)
 ·by_cases j:32<k
  ·have d:=hid (show V=1 by rw[a,Ab (.inr j)]);clear a;go_enter func170,ntmps170;go_wp2
   all_goals (go_ret;exact⟨by rw[d.out];rfl,rfl⟩)
  ·have d:=hid (show V=0 by rw[a,Aa (by omega)]);clear a;go_enter func170,ntmps170;go_wp2
   all_goals (go_ret;exact⟨by rw[d.out];rfl,rfl⟩)
theorem Ni(k:Int)(w:World):Calls prog 115 #[int i64 k] w fun e w'=>e=.returned (.bool (decide (0<=k/\k<=63)))/\w'=w:=by
 obtain⟨V,a⟩:=E7 (decide (0<=k/\k<=63));rw[<-a]
 by_cases h:0<=k
 ·by_cases j:k<64
  ·have d:=hid (show V=true by grind);clear a;go_enter func115,ntmps115;go_wp2
   all_goals (go_ret;exact⟨by rw[d.out];rfl,rfl⟩)
  ·have d:=hid (show V=false by rw[a];exact Ae (by omega));clear a;go_enter func115,ntmps115;go_wp2
   all_goals (go_ret;exact⟨by rw[d.out];rfl,rfl⟩)
 ·have d:=hid (show V=false by rw[a];exact Ae (by omega));clear a;go_enter func115,ntmps115;go_wp2
  all_goals (go_ret;exact⟨by rw[d.out];rfl,rfl⟩)
theorem Afi{k:Int}{beg:Nat}(w:World)(j:0<=k)(l:k<=63):Calls prog 65 #[int i64 k,int i64 ((beg % 64:Nat):Int)] w fun e w'=>e=.returned (int i64 ((E9 k beg:Nat):Int))/\w'=w:=by
 have m:beg % 64<64:=AZ _ (by omega);have a:=hid (show((E9 k beg:Nat):Int)=(k-((beg % 64:Nat):Int)) % 64 by unfold E9;omega);generalize ((E9 k beg:Nat):Int)=V at*;generalize beg % 64=B at*;have d:IntKind.i64.wrap (k-(B:Int))=k-(B:Int):=by rw[AO];omega
 have h:IntKind.i64.wrap (k-(B:Int)+64)=k-(B:Int)+64:=by rw[AO];omega
 have ht:(k-(B:Int)+64).tmod 64=(k-(B:Int)+64) % 64:=AkD (by omega);go_enter func65,ntmps65;go_wp2
 all_goals (go_ret;exact⟨by rw[a.out];rfl,rfl⟩)
theorem Lm{n:Nat}(w:World)(h:n<64)(j:k<=4000):Calls prog 70 #[int i64 (n:Int),int i64 (k:Int)] w fun e w'=>e=.returned (int i64 (((n+k) % 64:Nat):Int))/\w'=w:=by
 have a:=hid (show(((n+k) % 64:Nat):Int)=((n:Int)+(k:Int)) % 64 by omega);generalize (((n+k) % 64:Nat):Int)=V at*;have d:IntKind.i64.wrap ((n:Int)+(k:Int))=(n:Int)+(k:Int):=by rw[AO];omega
 have ht:((n:Int)+(k:Int)).tmod 64=((n:Int)+(k:Int)) % 64:=AkD (by omega);go_enter func70,ntmps70;go_wp2
 all_goals (go_ret;exact⟨by rw[a.out];rfl,rfl⟩)
def FU (us:List UnP):List Value:=us.flatMap UnP.cells
theorem LZ(us:List UnP):(FU us).length=us.length*4:=by
 induction us with
 | nil=>rfl
 | cons x us ih=>
  have e:FU (x::us)=x.cells++FU us:=rfl;rw[e,Ai,ih,AE]
  show 4+_=_;omega
theorem Ze(l r:List UnP):FU (l++r)=FU l++FU r:=by simp[FU]
theorem PJ(us:List UnP):∀i k,i<us.length->k<4->(FU us)[i*4+k]?=(us.getD i .zero).cells[k]?:=by
 induction us with
 | nil=>intro i k h;simp at h
 | cons x us ih=>
  intro i k h d;have e:FU (x::us)=x.cells++FU us:=rfl;have a:x.cells.length=4:=rfl
  grind
theorem Xg(us:List UnP):∀i,(FU us).drop (i*4)=FU (us.drop i):=by
 induction us with
 | nil=>intro i;simp[FU]
 | cons x us ih=>
  intro i
  cases i with
  | zero=>simp
  | succ i=>
   have e:FU (x::us)=x.cells++FU us:=rfl;rw[e,EU,<-ih i,show(i+1)*4=x.cells.length+i*4 by show _=4+_;omega,List.drop_append,CZ,Dd (by omega),AK]
theorem Zg(hi:i<us.length)(h:f<4)(e:(us.getD i .zero).cells.set f v=x'.cells):(FU us).set (i*4+f) v=FU (us.set i x'):=by
 refine Bf fun t=>?_
 rw[BW,LZ]
 by_cases ht:t<us.length*4
 ·have e1:=PJ (us.set i x') (t / 4) (t % 4) (by rw[An];omega) (by omega);have e2:=PJ us (t / 4) (t % 4) (by omega) (by omega);rw[show t / 4*4+t % 4=t by omega]at e1 e2;rw[e1,e2]
  by_cases d:t / 4=i
  ·have e3:(us.set i x').getD (t / 4) .zero=x':=by grind
   rw[e3,<-e,BW,d]
   by_cases a:t=i*4+f
   ·rw[Ab a.symm,Ab (by omega),Ab (by omega),Ab (by show f<4;omega)]
   grind
  grind
 grind [LZ]
structure PSnd(w:World)(b win bg:Nat)(ua:Option Addr)(c:Nat)(us:List UnP):Prop where
 hd:At w b 138 [int i64 (win:Int),int i64 (bg:Int),slice ua us.length c]
 own:w.ownsRow 0 143 4 (slice ua us.length c) us.length (FU us)
 ag:∀i,i<us.length->OwnSp w (us.getD i .zero).av (us.getD i .zero).al
 nb:∀y,ua=some y->y.block≠b
 na:∀i,i<us.length->∀g,(us.getD i .zero).av.ownBlock=some g->g≠b/\∀y,ua=some y->g≠y.block
 nn:∀i j,i<us.length->j<us.length->∀g,(us.getD i .zero).av.ownBlock=some g->(us.getD j .zero).av.ownBlock=some g->i=j
def F0 (b:Nat)(ua:Option Addr)(us:List UnP):List Nat:=b::((ua.map (·.block)).toList++us.filterMap (·.av.ownBlock))
theorem KU(b:Nat)(ua:Option Addr)(us:List UnP):b∈F0 b ua us:=AL
theorem IK(h:ua=some y):y.block∈F0 b ua us:=by
 subst h;simp[F0]
theorem An5(h:i<us.length):us.getD i .zero∈us:=by grind
theorem Jy(hi:i<us.length)(h:(us.getD i .zero).av.ownBlock=some g):g∈F0 b ua us:=by simp_all[F0];grind
theorem J4{x:Nat}(h:x∈F0 b ua us):x=b\/(∃y,ua=some y/\x=y.block)\/∃i,i<us.length/\(us.getD i .zero).av.ownBlock=some x:=by
 unfold F0 at h;rw[Ar,BH]at h
 rcases h with h | h | h
 ·exact .inl h
 ·cases ua with
  | none=>simp at h
  | some y=>grind
 ·obtain⟨u,a,e⟩:=List.mem_filterMap.1 h;obtain⟨i,hi,rfl⟩:=List.mem_iff_getElem.1 a;refine .inr (.inr ⟨i,hi,?_⟩)
  grind
theorem PSnd.Ak6(h:PSnd w b win bg ua c us)(j:ua=some y):∃g,y=⟨g,0,none⟩/\g<w.heap.size:=by
 obtain⟨a',c',e,_,_,d⟩:=Fg h.own;simp only[Aq]at e;obtain⟨rfl, -,rfl⟩:=e;obtain⟨g,rfl,a⟩:=d y j;exact⟨g,rfl,(AB h.own g a).2⟩
theorem PSnd.lt{w:World}{b win bg:Nat}{ua:Option Addr}{c:Nat}{us:List UnP}(h:PSnd w b win bg ua c us):∀x∈F0 b ua us,x<w.heap.size:=fun x a=>by
 rcases J4 a with rfl | ⟨y,d,rfl⟩ | ⟨i,hi,e⟩
 ·exact h.hd.lt
 ·obtain⟨g,rfl,hg⟩:=h.Ak6 d;exact hg
 ·exact(h.ag i hi).lt e
theorem PSnd.kept{w w':World}{b win bg:Nat}{ua:Option Addr}{c:Nat}{us:List UnP}{T:List Nat}(h:PSnd w b win bg ua c us)(a:Kept T w w')(hd:∀x∈F0 b ua us,x∉T):PSnd w' b win bg ua c us:=by
 refine⟨h.hd.kept a (hd _ (KU _ _ _)),FY h.own a (fun g hg=>?_),fun i hi=>(h.ag i hi).kept a (fun g hg=>hd _ (Jy hi hg)),h.nb,h.na,h.nn⟩
 cases ua with
 | none=>simp[Value.ownBlock]at hg
 | some y=>
  obtain⟨d,rfl,_⟩:=h.Ak6 rfl;simp[Value.ownBlock]at hg;subst hg;exact hd _ (IK (y:=⟨d,0,none⟩) rfl)
theorem PSnd.un(h:PSnd w b win bg ua c us)(hi:i<us.length):∃g,ua=some ⟨g,0,none⟩/\g≠b/\UnAt w g (i*4) (us.getD i .zero):=by
 obtain⟨g,rfl⟩:=Oz h.own (by omega);obtain⟨cur,l, -, -, -, -,d,p⟩:=F9 h.own;have a:∀k,k<4->w.cell? ⟨g,i*4+k,none⟩=(us.getD i .zero).cells[k]?:=fun k n=>by
  rw[l.cell,<-PJ us i k hi n,<-d,A3 (by omega)]
 exact⟨g,rfl,h.nb _ rfl,a 0 (by omega),a 1 (by omega),a 2 (by omega),a 3 (by omega),fun j=>l.free j,h.ag i hi,fun m e=>(h.na i hi m e).2 _ rfl⟩
theorem FL(hi:i<us.length):(us.set i x).getD i .zero=x:=by grind
theorem GH{j:Nat}(h:i≠j):(us.set i x).getD j .zero=us.getD j .zero:=by grind
theorem PSnd.upd{w':World}{S:List Nat}(h:PSnd w b win bg (some ⟨g,0,none⟩) c us)(hi:i<us.length)(M:f<4)(G:PtrPost w w' g (i*4+f) S v)
 (H:∀s∈S,(us.getD i .zero).av.ownBlock=some s) (L:(us.getD i .zero).cells.set f v=x'.cells) (O:OwnSp w' x'.av x'.al) (E:∀m,x'.av.ownBlock=some m->(us.getD i .zero).av.ownBlock=some m\/w.heap.size<=m):
 PSnd w' b win bg (some ⟨g,0,none⟩) c (us.set i x'):=by
 have C:=h.nb _ rfl;have N:g<w.heap.size:=by obtain⟨m,e,I⟩:=h.Ak6 rfl;cases e;exact I
 have K:=h.hd.lt;have u:b∉g::S:=by
  rw[Ar];rintro(e | e)
  ·exact C e.symm
  ·exact(h.na i hi b (H b e)).1 rfl
 obtain⟨cur,J, -,F,A,z,B,P⟩:=F9 h.own;have t:=G.row _ _ J;have D:∀j,j<us.length->j≠i->∀m,(us.getD j .zero).av.ownBlock=some m->m∉g::S:=fun j n l m a=>by
  rw[Ar];rintro(e | e)
  ·exact(h.na j n m a).2 _ rfl e
  ·exact l (h.nn j i n hi m a (H m e))
 refine⟨?_,?_,fun j n=>?_,h.nb,fun j n m a=>?_,fun j k n r m a d=>?_⟩
 ·rw[An];exact h.hd.kept G.kept u
 ·rw[An];refine t.row (by rw[LZ,An]) F A (by rw[An,z]) ?_;rw[CW,B];exact Zg hi M L
 ·rw[An]at n
  by_cases l:j=i
  ·subst l;rw[FL n];exact O
  ·rw[GH (fun e=>l e.symm)];exact(h.ag j n).kept G.kept (D j n l)
 ·rw[An]at n
  by_cases l:j=i
  ·subst l;rw[FL n]at a
   rcases E m a with q | q
   ·exact h.na j n m q
   grind
  ·rw[GH (fun e=>l e.symm)]at a;exact h.na j n m a
 ·rw[An]at n r
  by_cases l:j=i
  ·subst l
   by_cases p:k=j
   ·exact p.symm
   ·rw[FL n]at a;rw[GH (fun e=>p e.symm)]at d
    rcases E m a with q | q
    ·exact h.nn j k n r m q d
    ·have:=(h.ag k r).lt d;omega
  ·rw[GH (fun e=>l e.symm)]at a
   by_cases p:k=i
   ·subst p;rw[FL r]at d
    rcases E m d with q | q
    ·exact h.nn j k n r m a q
    ·have:=(h.ag j n).lt a;omega
   ·rw[GH (fun e=>p e.symm)]at d;exact h.nn j k n r m a d
theorem PSnd.head(h:PSnd w b win bg ua c us):w.cell? ⟨b,0,none⟩=some (int i64 (win:Int))/\w.cell? ⟨b,1,none⟩=some (int i64 (bg:Int))/\w.cell? ⟨b,2,none⟩=some (slice ua us.length c):=⟨h.hd.cell 0,h.hd.cell 1,h.hd.cell 2⟩
def GF (us:List UnP):Nat:=(us.filter fun x=>!x.dn).length
theorem NB(l:List UnP)(x:UnP):GF (l++[x])=GF l+(if x.dn=true then 0 else 1):=by grind [GF]
theorem AmU(h:k<us.length):us.take (k+1)=us.take k++[us.getD k .zero]:=by
 rw[Br,Au,Ap h];rfl
theorem OG(h:PSnd w b win bg ua c us)(u:us.length<=70368744177664):
 Calls prog 58 #[.pointer (some ⟨b,0,none⟩)] w fun e w'=>e=.returned (int i64 ((GF us:Nat):Int))/\w'=w:=by
 obtain⟨-, -,c2⟩:=h.head;obtain⟨N,n⟩:=E7 us.length;rw[<-n]at c2 u;have H:=hid h;have m:=hid n;clear h n;go_enter func58,ntmps58
 go_wp2_with fail
 go_loopw [3,10] (fun A r wr=>∃k q:Nat,k<=N/\q<=k/\r=int i64 k/\A=int i64 (q:Int)/\q=GF (us.take k)/\Hid (wr=w)) (fun _ r _=>N-(intOf r).toNat)
 case atStart=>exact⟨0,0,by omega,by omega,rfl,rfl,rfl,hid rfl⟩
 case round=>
  obtain⟨k,q,B,z,rfl,rfl,j,p⟩:=hrel;have p:=p.out;subst p
  by_cases a:k<N
  ·obtain⟨g,rfl, -,t⟩:=H.out.un (i:=k) (by rw[<-m.out];exact a);have c3:=t.c3;have ht:=hid (AmU (us:=us) (k:=k) (by rw[<-m.out];exact a));have d:=hid j;clear t j
   cases hd:(us.getD k .zero).dn with
   | true=>
    rw[hd]at c3;have l:=hid hd;clear hd
    go_wp2_with fail;refine⟨⟨k+1,q,by omega,by omega,by go_num,rfl,?_,by first | exact hid rfl | exact hid trivial⟩,by simp[intOf];omega⟩;rw[ht.out,d.out];rw[NB,l.out];rfl
   | false=>
    rw[hd]at c3;have l:=hid hd;clear hd
    go_wp2_with fail;refine⟨⟨k+1,q+1,by omega,by omega,by go_num,by go_num,?_,by first | exact hid rfl | exact hid trivial⟩,by simp[intOf];omega⟩;rw[ht.out,d.out];rw[NB,l.out];rfl
  ·have d:=hid j;clear j
   go_wp2_with fail;go_ret;refine⟨?_,rfl⟩;rw[d.out,Aw (by rw[<-m.out];omega)];rfl
theorem T7(w:World)(d:1<=k)(h:k<=32):Calls prog 126 #[int i64 (k:Int)] w fun e w'=>e=.returned (.tuple #[.pointer (some ⟨w.heap.size,0,none⟩),int i64 0])/\w'=w.alloc (.cells #[int i64 (k:Int),int i64 0,slice none 0 0] 138):=by
 have a:=NE (k:Int) w;rw[Aa (by omega)]at a;clear d h;go_enter func126,ntmps126
 go_wp2_with(go_at_call 170;refine a.mono ?_;rintro e w1 ⟨rfl,rfl⟩)
 all_goals (go_ret2;exact⟨rfl,rfl⟩)
theorem PSnd.new(w:World)(k:Nat):PSnd (w.alloc (.cells #[int i64 (k:Int),int i64 0,slice none 0 0] 138)) w.heap.size k 0 none 0 []:=by
 refine⟨Fc w 138 [int i64 (k:Int),int i64 0,slice none 0 0],Bj _ _ _ _,?_,?_,?_,?_⟩
 ·intro i hi;simp at hi
 ·intro y a;simp at a
 ·intro i hi;simp at hi
 ·intro i j hi;simp at hi
def KM (s:ByteArray):UnP:=⟨s,0,slice none 0 0,[],false⟩
theorem Kl(h:i<us.length):(us++[x]).getD i .zero=us.getD i .zero:=by grind
theorem JE:(us++[x]).getD us.length .zero=x:=by grind
theorem PSnd.app{w1:World}{d:Option Addr}{c' n':Nat}(h:PSnd w b win bg ua c us)(q:n'=us.length+1)(t:Kept (ua.map (·.block)).toList w w1)
 (C:w1.ownsRow 0 143 4 (slice d n' c') n' (FU us++(KM s).cells)) (B:∀y,d=some y->ua=some y\/w.heap.size<=y.block):
 PSnd (w1.setCell ⟨b,2,none⟩ (slice d n' c')) b win bg d c' (us++[KM s]):=by
 subst q;have p:b∉(ua.map (·.block)).toList:=by
  cases ua with
  | none=>simp
  | some y=>simpa using fun e=>h.nb y rfl e.symm
 have z:=h.hd.lt;have m:∀y,d=some y->y.block≠b:=by grind
 have a:(us++[KM s]).length=us.length+1:=by simp
 have n:Kept [b] w1 (w1.setCell ⟨b,2,none⟩ (slice d (us.length+1) c')):=FT _ _ _ _;refine⟨?_,?_,fun i hi=>?_,m,fun i hi g hg=>?_,fun i j hi A g hg l=>?_⟩
 ·rw[a];exact(h.hd.kept t p).setCell (o:=2) _
 ·rw[a,Ze]
  have:=FY C n (fun g hg=>by
   cases d with
   | none=>simp[Value.ownBlock]at hg
   | some y=>
    simp[Value.ownBlock]at hg;subst hg
    simpa using m y rfl)
  rw[show FU [KM s]=(KM s).cells by simp[FU]];exact this
 ·rw[a]at hi
  by_cases e:i=us.length
  ·subst e;rw[JE];exact OwnSp.nil _
  ·rw[Kl (by omega)];refine((h.ag i (by omega)).kept t (fun g hg=>?_)).kept n (fun g hg=>?_)
   ·have:=(h.na i (by omega) g hg).2
    cases ua with
    | none=>simp
    | some y=>simpa using this y rfl
   ·simpa using (h.na i (by omega) g hg).1
 ·rw[a]at hi
  by_cases e:i=us.length
  ·subst e;rw[JE]at hg;simp[KM,Value.ownBlock]at hg
  ·rw[Kl (by omega)]at hg;refine⟨(h.na i (by omega) g hg).1,fun y D=>?_⟩
   rcases B y D with r | r
   ·exact(h.na i (by omega) g hg).2 y r
   ·have:=(h.ag i (by omega)).lt hg;omega
 ·rw[a]at hi A
  by_cases e:i=us.length
  ·subst e;rw[JE]at hg;simp[KM,Value.ownBlock]at hg
  ·by_cases u:j=us.length
   ·subst u;rw[JE]at l;simp[KM,Value.ownBlock]at l
   ·rw[Kl (by omega)]at hg l;exact h.nn i j (by omega) (by omega) g hg l
def Aeo (w:World)(b win bg:Nat)(ua:Option Addr)(us:List UnP)(s:ByteArray):Ending->World->Prop:=fun e w'=>e=.returned (int i64 0)/\Kept (F0 b ua us) w w'/\∃ua' c',PSnd w' b win bg ua' c' (us++[KM s])/\∀y,ua'=some y->ua=some y\/w.heap.size<=y.block
theorem Aby(h:PSnd w b win bg ua c us)(hl:us.length<=1000000)(h0:0<s.size)(h1:s.size<=1500)(h2:GF us<64):
 Calls prog 132 #[.pointer (some ⟨b,0,none⟩),.string s] w (Aeo w b win bg ua us s):=by
 obtain⟨-, -,c2⟩:=h.head;have X:=OG h (by omega);have V:=h.hd.free 2;have U:=h.hd.lt;obtain⟨i0,z,G,H,I⟩:=As Tryz.Ai7;have aa:s.toList.isEmpty=false:=Ty (by omega);have hA:=Fc w 143 [.string s,int i64 0,slice none 0 0,.bool false];have l:(w.alloc (.cells #[.string s,int i64 0,slice none 0 0,.bool false] 143)).ownsRow 0 143 4 (slice ua us.length c) us.length (FU us):=A6 h.own _;have m:∀(k:Nat) u,(KM s).cells[k]?=some u->(w.alloc (.cells #[.string s,int i64 0,slice none 0 0,.bool false] 143)).cell? ⟨w.heap.size,k,none⟩=some u:=fun k u K=>by rw[hA.cell];exact K
 have j:∀u∈(KM s).cells,u.oneCell'=true:=by
  intro u K;simp[KM,UnP.cells]at K
  rcases K with rfl | rfl | rfl | rfl<;>rfl
 have p:∀y,ua=some y->∃g,y=⟨g,0,none⟩:=fun y Y=>by obtain⟨g,e,_⟩:=h.Ak6 Y;exact⟨g,e⟩
 have hF:∀v' w',w'.ownsRow 0 143 4 v' (us.length+1) (FU us++(KM s).cells)->(w.alloc (.cells #[.string s,int i64 0,slice none 0 0,.bool false] 143)).grownBy w' (slice ua us.length c).ownBlock->(v'.ownBlock=(slice ua us.length c).ownBlock\/v'.ownBlock=some (w.alloc (.cells #[.string s,int i64 0,slice none 0 0,.bool false] 143)).heap.size)->
  ∃a c',v'=slice a (us.length+1) c'/\w'.cell? ⟨b,2,none⟩=some (slice ua us.length c)/\w'.frozen? ⟨b,2,none⟩=false/\Aeo w b win bg ua us s (.returned (int i64 0)) (w'.setCell ⟨b,2,none⟩ (slice a (us.length+1) c')):=fun v' w' g1 g2 n=>by
  obtain⟨a,c',rfl, -, -,hx⟩:=Fg g1;have W:(slice ua us.length c).ownBlock.toList=(ua.map (·.block)).toList:=by
   cases ua with
   | none=>rfl
   | some y=>rfl
  have J:Kept (ua.map (·.block)).toList w w':=by
   rw[<-W];exact((Kept.refl _ w).alloc _).trans (Kept.PR g2)
  have r:b∉(ua.map (·.block)).toList:=by
   cases ua with
   | none=>simp
   | some y=>simpa using fun e=>h.nb y rfl e.symm
  have A:∀y,a=some y->ua=some y\/w.heap.size<=y.block:=fun y Y=>by
   obtain⟨g,rfl,h5⟩:=hx y Y
   rcases n with n | n
   ·rw[h5]at n
    cases ua with
    | none=>simp[Value.ownBlock]at n
    | some y'=>
     grind
   ·rw[h5]at n;simp at n
    grind
  refine⟨a,c',rfl,E8 J c2 r,Ic J V U r,rfl,?_,a,c',h.app rfl J g1 A,A⟩;refine(J.Fn (fun x d=>?_)).trans ((FT w' b 2 _).Fn (fun x d=>?_))
  ·exact AU _ (Df _ d)
  ·rw[AC]at d;rw[d];exact KU _ _ _
 have d2:decide (1500<(s.size:Int))=false:=Ae (by omega);have d3:decide ((64:Int)<=((GF us:Nat):Int))=false:=Ae (by omega);have Z:=hid hF;have HS:=hid m;have HO:=hid l;have O:=hid j;generalize GF us=q at*;obtain⟨N,T⟩:=E7 us.length;rw[<-T]at c2;rw[<-T]at Z HO hl;have C:N+1<=maxLen:=by unfold maxLen;omega
 have D:(N+1)*56<=140737488355328:=by omega
 have L:=hid C;have M:=hid D;have HI:=hid z;have Q:=hid G;have R:=hid H;have S:=hid I;clear h hF m l j hA T p C D z G H I;go_enter func132,ntmps132
 go_wp2_with(first
  | (go_at_call 58;refine X.mono ?_;rintro e w1 ⟨rfl,rfl⟩)
  | (at_builtin;refine I3 0 _ underlying136 HI.out Q.out R.out S.out rfl (by decide) HO.out rfl _ _ rfl rfl rfl rfl HS.out O.out L.out M.out (Af _) ?_;intro v7 w7 E t B;obtain⟨a,c',rfl,k2,kf,F⟩:=Z.out _ _ E t B;have P:=hid F;clear E t B F))
 all_goals (go_ret;exact P.out)
def GC (p:UnP->Bool)(us:List UnP):Nat:=(us.takeWhile p).length
theorem K9(p:UnP->Bool)(us:List UnP):GC p us<=us.length:=by
 induction us with
 | nil=>exact Ac _
 | cons x us ih=>
  unfold GC at*;rw[Eh]
  grind
theorem Kz{p:UnP->Bool}:∀{us:List UnP} {k:Nat},k<GC p us->p (us.getD k .zero)=true
 | [],k,h=>by simp[GC]at h
 | x::us,k,h=>by
  unfold GC at h;rw[Eh]at h
  split at h
  ·rename_i a
   cases k with
   | zero=>exact a
   | succ k=>exact Kz (us:=us) (k:=k) (by unfold GC;simpa using h)
  ·simp at h
theorem OW{p:UnP->Bool}:∀{us:List UnP},GC p us<us.length->p (us.getD (GC p us) .zero)=false
 | [],h=>by simp at h
 | x::us,h=>by
  unfold GC at*;rw[Eh]at h |-
  split at h
  ·rename_i a;rw[Ab a];simp only[AE]at h |-;exact OW (us:=us) (by unfold GC;omega)
  grind
theorem XO{p:UnP->Bool}(a:k<=us.length)(d:∀j,j<k->p (us.getD j .zero)=true)(e:k<us.length->p (us.getD k .zero)=false):GC p us=k:=by grind [GC,OW,Kz,K9]
def GR (x:UnP):Bool:=decide (0<x.sent)
theorem Afr(h:PSnd w b win bg ua c us)(F:us.length<=70368744177664):
 Calls prog 116 #[.pointer (some ⟨b,0,none⟩)] w fun e w'=>e=.returned (int i64 ((GC GR us:Nat):Int))/\w'=w:=by
 obtain⟨-, -,c2⟩:=h.head;obtain⟨N,q⟩:=E7 us.length;rw[<-q]at c2 F;have H:=hid h;have d:=hid q;clear h q;go_enter func116,ntmps116
 go_wp2_with fail
 go_loopw [3] (fun u wr=>∃k:Nat,k<=N/\u=int i64 k/\Hid (∀j,j<k->GR (us.getD j .zero)=true)/\Hid (wr=w)) (fun u _=>N-(intOf u).toNat)
 case atStart=>exact⟨0,by omega,rfl,hid (fun j E=>by omega),hid rfl⟩
 case round=>
  obtain⟨k,A,rfl,m,t⟩:=hrel;have t:=t.out;subst t
  by_cases a:k<N
  ·obtain⟨g,rfl, -,C⟩:=H.out.un (i:=k) (by rw[<-d.out];exact a);have c1:=C.c1;have z:=hid (show GR (us.getD k .zero)=decide (0<(us.getD k .zero).sent)from rfl);clear C;generalize (us.getD k .zero).sent=st at*
   by_cases B:0<st
   ·have D:decide ((0:Int)<(st:Int))=true:=Ag (by omega)
    go_wp2_with fail;refine⟨⟨k+1,by omega,by go_num,hid (fun j E=>?_),by first | exact hid rfl | exact hid trivial⟩,by simp[intOf];omega⟩
    rcases AS j k with l | l
    ·exact m.out j l
    ·rw[show j=k by omega,z.out];exact Ag B
   ·have D:decide ((0:Int)<(st:Int))=false:=Ae (by omega);have n:=hid (XO (p:=GR) (us:=us) (k:=k) (by rw[<-d.out];exact A) m.out (fun _=>by rw[z.out];exact Ae B))
    go_wp2_with fail;go_ret;exact⟨by rw[n.out];rfl,rfl⟩
  ·have r:k=N:=by omega
   subst r;have n:=hid (XO (p:=GR) (us:=us) (k:=k) (by rw[<-d.out];exact A) m.out (fun l=>by rw[<-d.out]at l;omega));clear a
   go_wp2_with fail;go_ret;exact⟨by rw[n.out];rfl,rfl⟩
theorem IC:(us.drop k).getD i .zero=us.getD (k+i) .zero:=by grind
theorem PSnd.drop{w w1:World}{b win bg d c n' k:Nat}{ua:Option Addr}{us:List UnP}(h:PSnd w b win bg ua c us)(u:k<=us.length)(q:n'=us.length-k)(n:Kept (ua.map (·.block)).toList w w1)
 (t:w1.ownsRow 0 143 4 (slice ua n' c) n' ((FU us).drop (k*4))):
 PSnd ((w1.setCell ⟨b,2,none⟩ (slice ua n' c)).setCell ⟨b,1,none⟩ (int i64 (d:Int))) b win d ua c (us.drop k):=by
 subst q;have p:b∉(ua.map (·.block)).toList:=by
  cases ua with
  | none=>simp
  | some y=>simpa using fun e=>h.nb y rfl e.symm
 have a:(us.drop k).length=us.length-k:=by simp
 have m:Kept [b] w1 ((w1.setCell ⟨b,2,none⟩ (slice ua (us.length-k) c)).setCell ⟨b,1,none⟩ (int i64 (d:Int))):=((Kept.refl _ _).setCell (by simp) _).setCell (by simp) _;refine⟨?_,?_,fun i hi=>?_,h.nb,fun i hi g hg=>?_,fun i j hi r g hg l=>?_⟩
 ·rw[a];exact((h.hd.kept n p).setCell (o:=2) (slice ua (us.length-k) c)).setCell (o:=1) (int i64 (d:Int))
 ·rw[a,<-Xg]
  exact FY t m (fun g hg=>by
   cases ua with
   | none=>simp[Value.ownBlock]at hg
   | some y=>
    simp[Value.ownBlock]at hg;subst hg
    simpa using h.nb y rfl)
 ·rw[a]at hi;rw[IC];refine((h.ag (k+i) (by omega)).kept n (fun g hg=>?_)).kept m (fun g hg=>?_)
  ·have:=(h.na (k+i) (by omega) g hg).2
   cases ua with
   | none=>simp
   | some y=>simpa using this y rfl
  ·simpa using (h.na (k+i) (by omega) g hg).1
 ·rw[a]at hi;rw[IC]at hg;exact h.na (k+i) (by omega) g hg
 ·rw[a]at hi r;rw[IC]at hg l;have:=h.nn (k+i) (k+j) (by omega) (by omega) g hg l;omega
def AmZ (w:World)(b win bg:Nat)(ua:Option Addr)(c:Nat)(us:List UnP)(k:Nat):Ending->World->Prop:=fun e w'=>e=.returned (.tuple #[])/\Kept (F0 b ua us) w w'/\PSnd w' b win ((bg+k) % 64) ua c (us.drop k)
theorem Zf(h:PSnd w b win bg ua c us):∀u∈FU us,u.oneCell'=true:=by
 intro u d;simp only[FU,Ce]at d;obtain⟨x,j,d⟩:=d;obtain⟨i,hi,rfl⟩:=List.mem_iff_getElem.1 j;have a:=h.ag i hi;rw[Au,Ap hi]at a;obtain⟨a',c',e, -⟩:=a.FC;simp only[Ei]at e;simp[UnP.cells]at d
 rcases d with rfl | rfl | rfl | rfl
 ·rfl
 ·rfl
 ·rw[e];rfl
 ·rfl
theorem AiZ(h:PSnd w b win bg ua c us)(hl:us.length<=4000)(K:bg<64):
 Calls prog 68 #[.pointer (some ⟨b,0,none⟩)] w (AmZ w b win bg ua c us (GC (·.dn) us)):=by
 obtain⟨-,c1,c2⟩:=h.head;obtain⟨N,J⟩:=E7 us.length;rw[<-J]at c2 hl;have H:=hid h;have r:=hid J;have X:=hid c2;clear h J;go_enter func68,ntmps68
 go_wp2_with fail
 go_loopw [2] (fun R wr=>∃k:Nat,k<=N/\R=int i64 k/\Hid (∀j,j<k->(us.getD j .zero).dn=true)/\Hid (wr=w)) (fun R _=>N-(intOf R).toNat)
 case atStart=>exact⟨0,by omega,rfl,hid (fun j hj=>by omega),hid rfl⟩
 case round=>
  obtain⟨k,O,rfl,S,P⟩:=hrel;have P:=P.out;subst P;go_upto_region 1 with fail
  go_cut [19]from 3 to 21 (fun t wx=>t=.bool (decide (k<N/\(us.getD k .zero).dn=true))/\wx=wr)
  case first=>
   by_cases m:k<N
   ·obtain⟨g,rfl, -,U⟩:=H.out.un (i:=k) (by rw[<-r.out];exact m);have c3:=U.c3;clear U;generalize (us.getD k .zero).dn=D at*;have hd:=hid (show decide (k<N/\D=true)=D by simp[m]);go_wp2
    go_meet;exact⟨by rw[hd.out],rfl⟩
   ·have C:k=N:=by omega
    subst C;have hd:=hid (show decide (k<k/\(us.getD k .zero).dn=true)=false from Ae (fun h=>m h.1));clear m;go_wp2
    go_meet;exact⟨by rw[hd.out],rfl⟩
  case rest=>
   obtain⟨rfl,Q⟩:=hcut;subst Q
   by_cases d:k<N/\(us.getD k .zero).dn=true
   ·have hd:decide (k<N/\(us.getD k .zero).dn=true)=true:=Ag d;rw[hd];have Z:=hid d;have C:k<N:=d.1;clear d hd
    go_wp2_with fail;refine⟨⟨k+1,by omega,by go_num,hid (fun j hj=>?_),by first | exact hid rfl | exact hid trivial⟩,by simp[intOf];omega⟩
    rcases AS j k with G | G
    ·exact S.out j G
    ·rw[show j=k by omega];exact Z.out.2
   ·have hd:decide (k<N/\(us.getD k .zero).dn=true)=false:=Ae d;rw[hd]
    have HL:=hid (XO (p:=(·.dn)) (us:=us) (k:=k) (by rw[<-r.out];exact O) S.out (fun G=>by
     rw[<-r.out]at G
     grind))
    have q:=Xq H.out.own (Zf H.out) (j:=k) (by rw[<-r.out];exact O);have F:(slice ua us.length c).ownBlock.toList=(ua.map (·.block)).toList:=by
     cases ua with
     | none=>rfl
     | some y=>rfl
    rw[F,<-r.out]at q;have l:b∉(ua.map (·.block)).toList:=by
     cases ua with
     | none=>simp
     | some y=>simpa using fun e=>H.out.nb y rfl e.symm
    have z:=H.out.hd.lt;have A:=H.out.hd.free 1;have B:=H.out.hd.free 2;have hF:∀w1,Kept (ua.map (·.block)).toList wc w1->w1.cell? ⟨b,1,none⟩=some (int i64 (bg:Int))/\w1.cell? ⟨b,2,none⟩=some (slice ua N c)/\w1.frozen? ⟨b,1,none⟩=false/\w1.frozen? ⟨b,2,none⟩=false:=fun w1 a=>⟨E8 a c1 l,E8 a X.out l,Ic a A z l,Ic a B z l⟩
    have L:=fun W=>Lm (n:=bg) (k:=k) W K (by omega)
    have Y:=hid hF;generalize T:(bg+k) % 64=M at*;have HM:=hid T;clear d hd hF F A B T
    go_wp2_with(first
     | (go_at_call 119;refine q.mono ?_;rintro e w1 ⟨rfl,E,a⟩;obtain⟨s1,s2,s3,s4⟩:=Y.out _ a;have I:=hid E;have u:=hid a;clear E a)
     | (go_at_call 70;refine(L _).mono ?_;rintro e w2 ⟨rfl,rfl⟩))
    go_end0;refine⟨rfl,?_,?_⟩
    ·refine(u.out.Fn (fun x V=>?_)).trans (Kept.Fn (((Kept.refl [b] _).setCell (by simp) _).setCell (by simp) _) (fun x V=>?_))
     ·exact AU _ (Df _ V)
     grind [KU]
    ·rw[HL.out,HM.out];exact H.out.drop (by rw[<-r.out];exact O) (by rw[r.out]) u.out I.out
def GapM.val(g:GapM):Value:=.agg #[int i64 g.num,int i64 g.frm,int i64 g.til]
def JV (bg d:Nat)(us:List UnP)(g:GapM):Bool:=
 decide (0<=g.num/\g.num<=63) && (decide (E9 g.num bg<d) && decide (0<=g.frm/\g.frm<(us.getD (E9 g.num bg) .zero).text.size/\g.til<=(us.getD (E9 g.num bg) .zero).text.size/\(g.til<0\/g.frm<g.til)))
def Mq (bg d:Nat)(us:List UnP)(g:GapM):Int:=if JV bg d us g=true then 0 else 3
theorem Ll{k:Int}(w:World)(h:bg<64)(a:0<=k)(d:k<=63):Calls prog 65 #[int i64 k,int i64 (bg:Int)] w fun e w'=>e=.returned (int i64 ((E9 k bg:Nat):Int))/\w'=w:=by
 have:=Afi (k:=k) (beg:=bg) w a d
 rwa [Nat.mod_eq_of_lt h]at this
theorem Xh{d:Nat}(g:GapM)(h:PSnd w b win bg ua c us)(F:bg<64)(hd:d<=us.length)(P:us.length<=4000)(p:∀i,i<us.length->(us.getD i .zero).text.size<=1500):
 Calls prog 117 #[.pointer (some ⟨b,0,none⟩),g.val,int i64 (d:Int)] w fun e w'=>e=.returned (int i64 (Mq bg d us g))/\Below w.heap.size w w':=by
 obtain⟨-,c1,c2⟩:=h.head;have C:=Fc w 154 [int i64 g.num,int i64 g.frm,int i64 g.til];have D:Kept [] w (w.alloc (.cells #[int i64 g.num,int i64 g.frm,int i64 g.til] 154)):=(Kept.refl _ w).alloc _;have J:=E8 D c1 (by simp);have G:=E8 D c2 (by simp);have L:(w.alloc (.cells #[int i64 g.num,int i64 g.frm,int i64 g.til] 154)).cell? ⟨w.heap.size,0,none⟩=some (int i64 g.num):=C.cell 0;have M:(w.alloc (.cells #[int i64 g.num,int i64 g.frm,int i64 g.til] 154)).cell? ⟨w.heap.size,1,none⟩=some (int i64 g.frm):=C.cell 1;have O:(w.alloc (.cells #[int i64 g.num,int i64 g.frm,int i64 g.til] 154)).cell? ⟨w.heap.size,2,none⟩=some (int i64 g.til):=C.cell 2;have z:Hid (∀n,Below w.heap.size w ((w.alloc (.cells #[int i64 g.num,int i64 g.frm,int i64 g.til] 154)).drewN n)):=hid fun n=>JO ((Ad _ w).alloc (Ac _) _) n
 have j:=fun W=>Ni g.num W
 obtain⟨V,u⟩:=E7 (Mq bg d us g);rw[<-u];have t:∀i,i<us.length->∃gb,ua=some ⟨gb,0,none⟩/\(w.alloc (.cells #[int i64 g.num,int i64 g.frm,int i64 g.til] 154)).cell? ⟨gb,i*4,none⟩=some (.string (us.getD i .zero).text):=fun i hi=>by
  obtain⟨gb,e, -,T⟩:=h.un hi;exact⟨gb,e,E8 D T.c0 (by simp)⟩
 obtain⟨N,H⟩:=E7 us.length;rw[<-H]at G hd t p;clear h C D c1 c2 H;have B:=hid t;clear t
 by_cases q:0<=g.num/\g.num<=63
 ·have r:=fun W=>Ll (k:=g.num) (bg:=bg) W F q.1 q.2
  rw[show decide (0<=g.num/\g.num<=63)=true from Ag q]at j
  by_cases E:E9 g.num bg<d
  ·obtain⟨gb,rfl,K⟩:=B.out _ (AI E hd);have hs:=p _ (AI E hd);have Q:decide ((d:Int)<=((E9 g.num bg:Nat):Int))=false:=Ae (by omega);have a:V=if 0<=g.frm/\g.frm<(us.getD (E9 g.num bg) .zero).text.size/\g.til<=(us.getD (E9 g.num bg) .zero).text.size/\(g.til<0\/g.frm<g.til) then 0 else 3:=by
    grind [Mq,JV]
   generalize (us.getD (E9 g.num bg) .zero).text=tx at*;have S:E9 g.num bg<N:=by omega
   have I:¬(d<=E9 g.num bg):=by omega
   generalize E9 g.num bg=A at*;clear u E q B p;obtain⟨num,frm,til⟩:=g;dsimp only[GapM.val]at*;go_enter func117,ntmps117;go_upto_region 1 with fail
   go_quiet (first | (go_at_call 115;exact Ba (j _)) | (go_at_call 65;exact Ba (r _)));go_upto_region 3 with fail
   have U:((w.alloc (.cells #[int i64 num,int i64 frm,int i64 til] 154)).drewN nq).cell? ⟨b,1,none⟩=some (int i64 (bg:Int)):=J;have X:((w.alloc (.cells #[int i64 num,int i64 frm,int i64 til] 154)).drewN nq).cell? ⟨b,2,none⟩=some (slice (some ⟨gb,0,none⟩) N c):=G;have Y:((w.alloc (.cells #[int i64 num,int i64 frm,int i64 til] 154)).drewN nq).cell? ⟨gb,A*4,none⟩=some (.string tx):=K;have Z:((w.alloc (.cells #[int i64 num,int i64 frm,int i64 til] 154)).drewN nq).cell? ⟨w.heap.size,0,none⟩=some (int i64 num):=L;have aa:((w.alloc (.cells #[int i64 num,int i64 frm,int i64 til] 154)).drewN nq).cell? ⟨w.heap.size,1,none⟩=some (int i64 frm):=M;have ab:((w.alloc (.cells #[int i64 num,int i64 frm,int i64 til] 154)).drewN nq).cell? ⟨w.heap.size,2,none⟩=some (int i64 til):=O;have m:Hid (∀n,Below w.heap.size w (((w.alloc (.cells #[int i64 num,int i64 frm,int i64 til] 154)).drewN nq).drewN n)):=hid fun n=>JO (z.out nq) n
   clear J G K L M O z;generalize (w.alloc (.cells #[int i64 num,int i64 frm,int i64 til] 154)).drewN nq=W1 at*
   go_quiet (first | (go_at_call 65;exact Ba (r _)))
   by_cases q3:frm<0
   ·have l:=hid (show V=3 by rw[a,Aa (by omega)]);clear a
    go_wp2_with fail;go_ret;exact⟨by rw[l.out];rfl,m.out _⟩
   ·by_cases q4:(tx.size:Int)<=frm
    ·have l:=hid (show V=3 by rw[a,Aa (by omega)]);clear a
     go_wp2_with fail;go_ret;exact⟨by rw[l.out];rfl,m.out _⟩
    ·by_cases q5:0<=til
     ·by_cases q6:til<=frm
      ·have l:=hid (show V=3 by rw[a,Aa (by omega)]);clear a
       go_wp2_with fail;go_ret;exact⟨by rw[l.out];rfl,m.out _⟩
      ·by_cases q7:(tx.size:Int)<til
       ·have l:=hid (show V=3 by rw[a,Aa (by omega)]);clear a
        go_wp2_with fail;go_ret;exact⟨by rw[l.out];rfl,m.out _⟩
       ·have l:=hid (show V=0 by rw[a,Ab (by omega)]);clear a
        go_wp2_with fail;go_ret;exact⟨by rw[l.out];rfl,m.out _⟩
     ·have l:=hid (show V=0 by rw[a,Ab (by omega)]);clear a
      go_wp2_with fail;go_ret;exact⟨by rw[l.out];rfl,m.out _⟩
  ·have Q:decide ((d:Int)<=((E9 g.num bg:Nat):Int))=true:=Ag (by omega)
   have l:=hid (show V=3 by
    grind [Mq,JV])
   have R:d<=E9 g.num bg:=by omega
   clear u q E B p;generalize E9 g.num bg=A at*;obtain⟨num,frm,til⟩:=g;dsimp only[GapM.val]at*;go_enter func117,ntmps117;go_upto_region 1 with fail
   go_quiet (first | (go_at_call 115;exact Ba (j _)) | (go_at_call 65;exact Ba (r _)))
   go_wp2_with fail;go_ret;exact⟨by rw[l.out];rfl,z.out _⟩
 ·rw[show decide (0<=g.num/\g.num<=63)=false from Ae q]at j
  have l:=hid (show V=3 by
   rw[u];unfold Mq JV;rw[Ae q]
   simp)
  clear u q B p;obtain⟨num,frm,til⟩:=g;dsimp only[GapM.val]at*;go_enter func117,ntmps117;go_upto_region 1 with fail
  go_quiet (first | (go_at_call 115;exact Ba (j _)))
  go_wp2_with fail;go_ret;exact⟨by rw[l.out];rfl,z.out _⟩
structure TkP where
 dv:Value
 data:List Int
 tv:Value
 th:Sps
 len:Nat
def TkP.zero:TkP:=⟨slice none 0 0,[],slice none 0 0,[],0⟩
def TkP.cells(x:TkP):List Value:=[x.dv,x.tv,int i64 (x.len:Int)]
structure TkAt(w:World)(g o:Nat)(x:TkP):Prop where
 c0:w.cell? ⟨g,o,none⟩=some x.dv
 c1:w.cell? ⟨g,o+1,none⟩=some x.tv
 c2:w.cell? ⟨g,o+2,none⟩=some (int i64 (x.len:Int))
 fr:∀j,w.frozen? ⟨g,j,none⟩=false
 od:Own w 0 x.dv x.data
 ot:OwnSp w x.tv x.th
 sd:∀g',x.dv.ownBlock=some g'->g'≠g
 st:∀g',x.tv.ownBlock=some g'->g'≠g
 dt:∀g',x.dv.ownBlock=some g'->x.tv.ownBlock≠some g'
def TkP.whole(x:TkP):Bool:=decide (0<x.len) && (decide (x.th=[(0,x.len)]))
theorem Aei{x:TkP}(h:TkAt w g o x)(a:x.len=0):
 Calls prog 244 #[.pointer (some ⟨g,o,none⟩)] w fun e w'=>e=.returned (.bool false)/\∃n,w'=w.drewN n:=by
 have c2:=h.c2;rw[a]at c2;clear h;go_enter func244,ntmps244
 go_wp2_with fail
 go_quiet (fail)
 go_wp2_with fail;go_ret;exact⟨rfl,_,rfl⟩
theorem Aeh{x:TkP}(h:TkAt w g o x)(l:0<x.len)(p:x.len<=3000)(m:x.th.length≠1)(d:x.th.length<=4000):
 Calls prog 244 #[.pointer (some ⟨g,o,none⟩)] w fun e w'=>e=.returned (.bool false)/\∃n,w'=w.drewN n:=by
 have c2:=h.c2;have c1:=h.c1;obtain⟨a,c,e, -, -, -⟩:=h.ot.FC;rw[e]at c1;have j:((x.th.length:Int)==1)=false:=by rw[Cb];omega
 clear h e;generalize x.len=L at*;generalize x.th.length=N at*;go_enter func244,ntmps244
 go_wp2_with fail
 go_quiet (fail)
 go_wp2_with fail;go_ret;exact⟨rfl,_,rfl⟩
end Go.Proofs.YtbjgfoiikhbonahGreatDoor
