import Derived.Test.YtbjgfoiikhbonahGreatDoorD31
import Derived.Lib.ItoaLen
import Derived.Deep.CutBlock
set_option linter.unusedVariables false
set_option linter.unusedSimpArgs false
set_option maxRecDepth 100000
set_option maxHeartbeats 4000000
namespace Go.Proofs.YtbjgfoiikhbonahGreatDoor
open Go.ChangeShapes Go.WideShapes Go.ChangeAt Go.RowKit Go.Proofs.Tryz
open Value (int pointer string)
open IntKind (i64)
variable {E:Nat->Nat->Option Cm}{S:List Nat}{m:NtM}{p:NtP}{w w0:World}
theorem OwnU.Apx{B n c:Nat}{a:Option Addr}{l:List UsM}(h:OwnU w B (.slice a n c) l):Usr w a l:=by
 intro b;obtain⟨gb,c',e, -, -,d⟩:=h.at (by grind)
 grind
theorem NtAt.lst{w0 w:World}{S:List Nat}{E:Nat->Nat->Option Cm}{p:NtP}{m:NtM}{T:TypeId}{k n:Nat}{v:Value}{xs:List Value}(h:NtAt w0 S w (setG E 103 (Jt (Ju T k v n xs))) p m):∃B,B<=w.heap.size/\w.ownsRow B T k v n xs:=(h.AbY (by omega)).lst (j:=0) rfl
theorem NtAt.Ao6{c:Cm}(h:NtAt w0 S w (setG E 103 (Jt c)) p m)(f:E 103=fun _=>none):NtAt w0 S w E p m:=by
 have e:=((h.AbY (by omega)).drop 0).conv (O':=fun _=>none) (fun j=>by rcases j with _ | j<;>rfl);rw[<-f,show E 103=Hn E p m 103 from rfl,Ig]at e;have a:=h.e1;have b:=h.e2;have d:=h.e3;rw[Fo E (by omega)]at a b d;exact⟨e,h.us,a,b,d⟩
theorem AgJ{L:Nat}(h:NtAt w0 S w E p m)(hE:E 103=fun _=>none)(hi:NInv L m)(hL:L<=100000000):Calls prog 15 #[Fa p.q.b] w fun e w'=>e=.returned (.tuple #[])/\∃p',SameB p p'/\NtAt w0 S w' E p' (AbD m):=by
 have c1:w.cell? ⟨p.q.b,1,none⟩=some (pointer (some ⟨p.q.r,0,none⟩)):=(h.net.box (j:=0) rfl).cell 1;have HW:=hid (AgL (h.below ((Ad _ w).drew)) hE (fun k u v=>⟨(hi.us k u v).1,(hi.us k u v).2.1.who,(hi.us k u v).2.2⟩));have J:=hi.Abp (waitTo m 17);have HT:Hid (AbD m=repTo (useL ⟨m.us,m.t.Abp (waitTo m 17)⟩ (m.t.tst.J7 1 (waitTo m 17) 4)) 17):=rfl;have hS:=Ame hi.tu (waitTo m 17);have I:=Akf (t:=m.t.tst) (q:=1) (l:=waitTo m 17) (E4:=4) hi.tu (by omega);have al:=waitTo_len m 17;have aa:=hid hi.tu;obtain⟨l,el⟩:=E7 (waitTo m 17);rw[<-el]at HW J HT hS I al;unfold Fa at*;clear h el hi;go_enter func15,ntmps15;go_upto_region 0 with fail
 go_region_held3 (fun w'=>w'.cell? ⟨p.q.b,1,none⟩=some (pointer (some ⟨p.q.r,0,none⟩))) (first | exact c1 | exact q1 | exact q2 | go_keep) (first
  | (go_at_call 30;refine HW.out.mono ?_;rintro e w1 ⟨a,c,rfl,h1⟩;have q1:w1.cell? ⟨p.q.b,1,none⟩=some (pointer (some ⟨p.q.r,0,none⟩)):=(h1.net.box (j:=0) rfl).cell 1;have H1:=hid h1;clear h1)
  | (go_at_call 29;obtain⟨B1,ai,ae⟩:=H1.out.lst;refine(H1.out.turn (c0:=Ju 117 3 (.slice a l.length c) l.length (Jp l)) (IW _ _ _) (Ao2 p.q.r l.length c m.t.tst l a w1 aa.out (OwnU.Apx ae) rfl (by unfold maxLen;omega))).mono ?_;rintro e w2 ⟨c',d,⟨a',k',rfl,rfl,rfl⟩,h2⟩;have H2:=hid (h2 (m.t.Abp l) rfl rfl rfl);have q2:w2.cell? ⟨p.q.b,1,none⟩=some (pointer (some ⟨p.q.r,0,none⟩)):=(H2.out.net.box (j:=0) rfl).cell 1;clear h2 ae))
 obtain⟨O,eO⟩:=E7 (m.t.tst.J7 1 l 4);rw[<-eO]at H2 HT hS I |-;obtain⟨m1,X⟩:=E7 (⟨m.us,m.t.Abp l⟩:NtM);rw[<-X,Ahw]at H2;rw[<-X]at HT J;clear eO X H1 q1 q2 HW c1 ai aa;obtain⟨n,en⟩:=E7 O.length;rw[<-en]at H2 I |-;have HN:=hid en;have T:=hid J;have HS:=hid hS;clear en J hS
 go_wp2_with fail
 go_loopw [21] (fun i wr=>∃j:Nat,j<=n/\i=int i64 (j:Int)/\∃p',SameB p p'/\Hid (NtAt w0 S wr (setG E 103 (Jt (Ju 3 1 (.slice a' n k') n (O.map (Value.int i64))))) p' (useL m1 (O.take j)))) (fun i _=>n-(intOf i).toNat)
 case atStart=>exact⟨0,Af _,rfl,p,SameB.refl p,H2.out⟩
 case round=>
  obtain⟨j,hj,rfl,Z,z,y⟩:=hrel;clear H2
  by_cases F:j<n
  ·have ad:j<O.length:=by rw[<-HN.out];exact F
   have ao:(j:Int)<(n:Int):=by omega
   have U:=hid (Ah0 m1 O j ad);have G:=hid (NInv.useL (O.take j) T.out);obtain⟨af,an⟩:0<=O.getD j 0/\O.getD j 0<=16:=HS.out _ (by grind);obtain⟨B, -,ho⟩:=y.out.lst;obtain⟨ga,ca,ea⟩:=Lh ho (by omega);simp only[Aq]at ea;obtain⟨rfl, -,rfl⟩:=ea;have aj:wr.cell? ⟨ga,j,none⟩=some (int i64 (O.getD j 0)):=by
    rw[CX ho j (by omega),A9,Au,Ap ad];rfl
   generalize useL m1 (O.take j)=D at*;obtain⟨x,ex⟩:∃x:Nat,O.getD j 0=(x:Int):=⟨(O.getD j 0).toNat,by omega⟩;rw[ex]at af an U aj;have aq:(x:Int)<17:=by omega
   have ag:x<17:=by omega
   have hc:wr.cell? ⟨p.q.b,2+x,none⟩=some (pointer (MP Z D x)):=by
    rw[<-z.q,(y.out.net.box (j:=0) rfl).cell (2+x),show 2+x=x+1+1 by omega];exact y.out.at ag
   have o:Hid (useL m1 (O.take (j+1))=match D.us x with
    | some u=>D.put x (P8 (u,D.t))
    | none=>D):=U.out
   clear ho ex U af
   cases v:D.us x with
   | none=>
    rw[MQ v]at hc;rw[v]at o
    go_wp2_with fail;refine⟨⟨j+1,by omega,by go_num,Z,z,?_⟩,by simp[intOf];omega⟩;rw[o.out];exact y
   | some u=>
    rw[O5 v]at hc;rw[v]at o;obtain⟨hk,Q,hB⟩:=G.out.us x u v;have ap:=y.out.n G.out hL;have HC:=hid (Ajw (s:=(u,D.t)) (g:=x) (y.out.J5 v hk) (by omega) (by omega) (by omega) (by omega) y.out.e1 y.out.e2 y.out.e3 hB (by show u.who<=16;rw[Q.who];omega) Q.rough Q.ear Q.ok Q.inn (by show D.t.n<=_;omega));unfold Fa at HC;rw[z.q]at HC;have HU:=hid v;clear Q hB v
    go_wp2_with(go_at_call 31;refine HC.out.mono ?_;rintro e w3 ⟨rfl,eb,vt,H⟩;have H3:=hid H;clear H);refine⟨⟨j+1,by omega,by go_num,Z.put x {Z.P x with eb:=eb,vt:=vt},z.trans (SameB.put rfl),?_⟩,by simp[intOf];omega⟩;rw[o.out];have H:=H3.out;rw[<-z.q]at H;exact y.out.put HU.out hk rfl H
  ·obtain rfl:j=n:=by omega
   have ah:=hid (NInv.useL O T.out);have H:=y.out;rw[Aw (by rw[<-HN.out];exact Ac _)]at H;have h4:=H.Ao6 hE;generalize useL m1 O=C at*;have H4:=hid h4;have M:=h4.cells;have W:=hid (fun j (hj:j<17)=>h4.at hj);have N:Z.q.us.length=17:=by rw[h4.us];simp
   rw[z.q]at M N W;obtain⟨us,ab⟩:=E7 p.q.us;rw[<-ab]at M N W;clear H h4 y T HS HN I hj F ab
   go_wp2_with(first | (refine wpList_load_mid rfl 45 (.tmp 39) rfl p.q.b 2 rfl us _ M underlying45 rfl (by rw[N];kernel_rfl) ?_));clear M N
   go_loopw [41] (fun i wr=>∃j:Nat,j<=17/\i=int i64 (j:Int)/\∃p',SameB p p'/\Hid (NtAt w0 S wr E p' (repTo C j))/\Hid (∀i,MP p' (repTo C j) i=MP Z C i)) (fun i _=>17-(intOf i).toNat)
   case atStart=>exact⟨0,Af _,rfl,Z,z,H4,hid fun _=>rfl⟩
   case round=>
    obtain⟨j,hj,rfl,f,K,y,HQ⟩:=hrel;clear H4
    by_cases F:j<17
    ·have ak:(j:Int)<17:=by omega
     have hx:=W.out j F;rw[<-HQ.out]at hx;have ac:=fun wz=>Ae0 us j _ F hx wz
     have G:=hid (ah.out.repTo j)
     have o:Hid (repTo C (j+1)=match (repTo C j).us j with
      | some u=>if u.air.lost then repTo C j else (repTo C j).put j ({u with snd:=(u.snd.take u.rcv.Fx).m},(repTo C j).t)
      | none=>repTo C j):=Uu C j
     generalize repTo C j=D at*;clear hx
     cases v:D.us j with
     | none=>
      rw[MQ v]at ac;rw[v]at o
      go_wp2_with fail;refine⟨⟨j+1,by omega,by go_num,f,K,?_⟩,by simp[intOf];omega⟩;rw[o.out];exact⟨y,HQ⟩
     | some u=>
      rw[O5 v]at ac;rw[v]at o;obtain⟨hk,Q,hB⟩:=G.out.us j u v;have A:=y.out.J5 v hk;have d2:wr.cell? ⟨(f.P j).b,2,none⟩=some (.bool u.air.lost):=(A.box (j:=0) rfl).cell 2
      cases Y:u.air.lost with
      | true=>
       rw[Y]at d2;have V:Hid (repTo C (j+1)=D):=o.out.trans (Ab Y);clear A Q hB o
       go_wp2_with fail;refine⟨⟨j+1,by omega,by go_num,f,K,?_⟩,by simp[intOf];omega⟩;rw[V.out];exact⟨y,HQ⟩
      | false=>
       rw[Y]at d2;have V:Hid (repTo C (j+1)=D.put j ({u with snd:=(u.snd.take u.rcv.Fx).m},D.t)):=by grind
       have c5:wr.cell? ⟨(f.P j).b,5,none⟩=some (pointer (some (f.P j).ps)):=(A.box (j:=0) rfl).cell 5;have c6:wr.cell? ⟨(f.P j).b,6,none⟩=some (pointer (some (f.P j).pr)):=(A.box (j:=0) rfl).cell 6;have R:=hid ((A.below ((Ad _ wr).drew)).AbV (j:=2) rfl (Al5 (f.P j).pr u.rcv wr.drew) 11);have HH:=hid v;clear A Q hB o v;go_upto_region 12 with fail
       go_region_held3 (fun w'=>w'.cell? ⟨(f.P j).b,5,none⟩=some (pointer (some (f.P j).ps))/\w'.cell? ⟨(f.P j).b,6,none⟩=some (pointer (some (f.P j).pr))) (first | exact⟨c5,c6⟩ | exact q1 | exact q2 | go_keep) (first
        | (go_at_call 33;refine R.out.mono ?_;rintro e w3 ⟨c',d',⟨a3,k3,rfl,am,rfl,rfl⟩,h5⟩;have H5:=hid h5;have q1:w3.cell? ⟨(f.P j).b,5,none⟩=some (pointer (some (f.P j).ps))/\w3.cell? ⟨(f.P j).b,6,none⟩=some (pointer (some (f.P j).pr)):=⟨(h5.box (j:=0) rfl).cell 5,(h5.box (j:=0) rfl).cell 6⟩;clear h5)
        | (go_at_call 32;refine(H5.out.Am1 (i:=1) (j:=11) rfl rfl (by omega) (AoX (f.P j).ps u.snd u.rcv.Fx a3 k3 w3 am)).mono ?_;rintro e w4 ⟨c',⟨rfl,rfl⟩,h6⟩;have H6:=hid h6;have q2:w4.cell? ⟨(f.P j).b,5,none⟩=some (pointer (some (f.P j).ps))/\w4.cell? ⟨(f.P j).b,6,none⟩=some (pointer (some (f.P j).pr)):=⟨(h6.box (j:=0) rfl).cell 5,(h6.box (j:=0) rfl).cell 6⟩;clear h6))
       clear q1 q2 R
       go_wp2_with fail;refine⟨⟨j+1,by omega,by go_num,f.put j (f.P j),K.trans (SameB.put rfl),?_⟩,by simp[intOf];omega⟩;rw[V.out];refine⟨?_,hid fun i=>(AaJ HH.out rfl _ i).trans (HQ.out i)⟩;refine y.out.put HH.out hk rfl ?_;exact(H6.out.drop 11).conv fun i=>by rcases i with _ | _ | _ | _ | _ | _ | _ | _ | _ | _ | _ | _ | i<;>rfl
    ·obtain rfl:j=17:=by omega
     have ak:¬((17:Nat):Int)<17:=by omega
     go_wp2_with fail
     go_end0;rw[HT.out];exact⟨rfl,f,K,y.out⟩
theorem AkX(B b:Nat)(c:List Value)(s:ByteArray)(w:World)(h:Lib.IsBuilder 186 5 B b c w)(a:c.length+s.size<=140737488355328)(d:B<=w.heap.size):Calls prog 86 #[pointer (some ⟨b,0,none⟩),string s] w fun e w'=>e=.returned (.tuple #[int i64 s.size,.nilIface])/\(Lib.BuilderAt 186 5 B b (pointer (some ⟨b,0,none⟩)) (c++Lib.strCells s) w'/\Below B w w'):=Any.Builder_WriteString {Tryz.XL with} Tryz.Im B b c s w h a d
theorem Ab0(B b:Nat)(a:List Value)(w:World)(h:Lib.IsBuilder 186 5 B b a w):Calls prog 142 #[pointer (some ⟨b,0,none⟩)] w fun e w'=>e=.returned (.tuple #[])/\(Lib.BuilderAt 186 5 B b (pointer (some ⟨b,0,none⟩)) a w'/\Below B w w'):=Any.Builder_copyCheck {Tryz.XL with} Tryz.Im.toX72 B b a w h
theorem Ah4(B b:Nat)(o:List Value)(c:Int)(w:World)(h:Lib.IsBuilder 186 5 B b o w)(C:o.length+1<=140737488355328)(H:B<=w.heap.size):Calls prog 87 #[pointer (some ⟨b,0,none⟩),.int .u8 c] w fun e w'=>e=.returned .nilIface/\(Lib.BuilderAt 186 5 B b (pointer (some ⟨b,0,none⟩)) (o++[.int .u8 c]) w'/\Below B w w'):=by
 obtain⟨K,hi,x,y,z⟩:=As Tryz.Im.infoByte;have F:=hid (Ab0 B b o w h);clear h;go_enter func87,ntmps87
 go_wp2_with(go_at_call 142;refine F.out.mono ?_);rintro e w1 ⟨rfl,G,i⟩;obtain⟨A,v,q,l,t⟩:=G;have c1:w1.cell? ⟨b,1,none⟩=some v:=by rw[Lib.cell_of_heap q];rfl
 go_wp2_with(at_builtin;refine CJ _ rfl _ _ 103 rfl B 5 K (.int .u8 0) 1 1 underlying103 hi x y z rfl (by decide) _ _ _ rfl (l.alloc _) ⟨w1.heap.size,0,none⟩ 1 1 [.int .u8 c] rfl rfl ?c1 ?c2 ?c3 ?c4 ?c5 ?_)
 case c1=>
  intro j u r
  match j,r with
  | 0,r=>simp at r;subst r;simp[Addr.add]
 case c2=>intro u D;simp at D;subst D;rfl
 case c3=>unfold maxLen;omega
 case c4=>omega
 case c5=>have:=i.size;simp;omega
 intro v' w2 d a _;have s:b<w1.heap.size:=by
  grind
 have n:w2.heap[b]?=some (.cells #[pointer (some ⟨b,0,none⟩),v] 186 (0,0)):=by
  rw[a.block b (by simp;omega) (fun e=>t e.symm),Lib.alloc_old w1 _ b s];exact q
 have L:w2.cell? ⟨b,1,none⟩=some v:=by rw[Lib.cell_of_heap n];rfl
 have M:w2.frozen? ⟨b,1,none⟩=false:=Lib.frozen_of_heap n 1;obtain⟨g,f,rfl⟩:∃g f,v'=.slice (some ⟨g,0,none⟩) (o.length+1) f:=by
  rcases d.2 with⟨_,N⟩ | ⟨g,f,cur,J,_⟩
  ·omega
  ·exact⟨g,f,J⟩
 go_wp2;go_ret;refine⟨rfl,?_,?_⟩
 ·exact Lib.BuilderAt.put (T:=186) (e:=5) A n (bs':=o++[.int .u8 c]) (by simpa using d) (by decide)
 ·exact((i.alloc (by have:=i.size;omega) _).grown a (by have:=i.size;simp;omega) (fun k I=>(l.lt k I).1)).setCell (p:=⟨b,1,none⟩) A _
theorem Agk(v:Int)(h:Gb v):(⟨(Lib.itoa v).toArray⟩:ByteArray).size<=21:=by
 obtain⟨a,b⟩:=h
 show(Lib.itoa v).toArray.size<=21;rw[A8];exact Lib.itoa_length_le v (by omega) (by omega)
def I8 (l:List ByteArray):List UInt8:=l.flatMap fun d=>d.data.toList++[10]
def Pa (l:List ByteArray):ByteArray:=(⟨(I8 l).toArray⟩:ByteArray)++⟨(Lib.itoa (l.length:Int)).toArray⟩++⟨#[32,116,111,108,100,10]⟩
theorem ZY(l:List ByteArray)(j:Nat)(h:j<l.length):I8 (l.take (j+1))=I8 (l.take j)++(l.getD j ByteArray.empty).data.toList++[10]:=by
 unfold I8;rw[Br,Ap h,Bd,Au,Ap h];simp
theorem TV(l:List ByteArray)(a:∀d∈l,d.size<=500):(I8 l).length<=501*l.length:=by
 induction l with
 | nil=>simp[I8]
 | cons d l ih=>
  have c:=ih fun x b=>a x (AU _ b)
  have e:=a d AL;unfold I8 at*;rw[Do,Ai,Ai,AE];have f:d.data.toList.length=d.size:=by rw[AH];rfl
  grind
theorem AgI(l:List ByteArray)(a:Option Addr)(n c:Nat)(w:World)(ht:Tb w)(P:l.length=n)(hn:n<=16777216)(hr:∀j,j<n->∃b o,a=some ⟨b,o,none⟩/\w.cell? ⟨b,o+j,none⟩=some (string (l.getD j ByteArray.empty)))(B:∀d∈l,d.size<=500):Calls prog 40 #[.slice a n c] w fun e w'=>e=.returned (string (Pa l))/\Below w.heap.size w w':=by
 have N:=Fc w 186 [pointer none,.slice none 0 0];have x:Below w.heap.size w (w.alloc (.cells #[pointer none,.slice none 0 0] 186)):=(Ad _ w).alloc (Ac _) _;have O:Lib.IsBuilder 186 5 w.heap.size w.heap.size (Lib.byteCells []) (w.alloc (.cells #[pointer none,.slice none 0 0] 186)):=.inl ⟨Ac _,.slice none 0 0,N,Bj _ _ _ _,fun q=>by cases q⟩;have D:=hid O;have C:=hid x;have T:=hid ht;have J:=hid B;have z:=hid P;obtain⟨g,A⟩:=E7 w.heap.size;rw[<-A]at D C;have v:=hid A;clear N x O ht B P;go_enter func40,ntmps40
 go_wp2_with fail;rw[<-A];generalize (w.alloc (.cells #[pointer none,.slice none 0 0] 186))=w1 at*;clear A
 go_loopw [8] (fun i wr=>∃j:Nat,j<=n/\i=int i64 (j:Int)/\Hid (Lib.IsBuilder 186 5 g g (Lib.byteCells (I8 (l.take j))) wr/\Below g w wr)) (fun i _=>n-(intOf i).toNat)
 case atStart=>exact⟨0,Af _,rfl,D.out,C.out⟩
 case round=>
  obtain⟨j,hj,rfl,t⟩:=hrel;clear D C
  by_cases y:j<n
  ·have aa:(j:Int)<(n:Int):=by omega
   have L:j<l.length:=by rw[z.out];exact y
   obtain⟨b,o,rfl,K⟩:=hr j y;have V:wr.cell? ⟨b,o+j,none⟩=some (string (l.getD j ByteArray.empty)):=(t.out.2.cell (by have:=Aj w _ K;have:=v.out;grind)).trans K;have R:=hid (ZY l j L);have W:(l.getD j ByteArray.empty).size<=500:=J.out _ (by grind);have ab:(I8 (l.take j)).length<=501*n:=by
    have:=TV (l.take j) fun d hd=>J.out d (Cr hd)
    grind
   generalize l.getD j ByteArray.empty=d at*;generalize I8 (l.take j)=X at*;have r:g<=wr.heap.size:=by have:=t.out.2.size;have:=v.out;omega
   have U:=hid (AkX g g (Lib.byteCells X) d wr t.out.1 (by rw[E3];omega) r);clear K
   go_wp2_with(first
    | (go_at_call 86;refine U.out.mono ?_;rintro e w2 ⟨rfl,M,f⟩;have I:=hid (Ah4 g g (Lib.byteCells X++Lib.strCells d) 10 w2 (.inr M) (by rw[Ai,E3,Lib.strCells_length];omega) (Ak r f.size));have h:=hid f;clear M f)
    | (go_at_call 87;refine I.out.mono ?_;rintro e w3 ⟨rfl,u,k⟩;have Q:=hid u;have s:=hid k;clear u k))
   refine⟨⟨j+1,by omega,by go_num,?_,t.out.2.trans (h.out.trans s.out)⟩,by simp[intOf];omega⟩;rw[R.out];have u:=Q.out;refine .inr ?_;unfold Lib.byteCells Lib.strCells at*
   grind
  ·obtain rfl:j=n:=by omega
   have u:=t.out.1;rw[Aw (by rw[z.out];exact Ac _)]at u;have r:g<=wr.heap.size:=by have:=t.out.2.size;have:=v.out;omega
   have G:=hid (show Calls prog 88 #[pointer (some ⟨g,0,none⟩)] wr fun e w'=>e=.returned (string ⟨(I8 l).toArray⟩)/\Below g wr w' from Any.Builder_String_any Tryz.AlE Tryz.Qd g g (I8 l) wr u r);have H:Hid (Pa l=(⟨(I8 l).toArray⟩:ByteArray)++⟨(Lib.itoa (j:Int)).toArray⟩++⟨#[32,116,111,108,100,10]⟩):=by unfold Pa;rw[z.out];exact rfl
   have F:=fun wz (B:Below g w wz)=>TN (j:Int) wz ⟨by omega,by omega⟩ (T.out.below (v.out▸B)).wd.tab
   have hY:(⟨(I8 l).toArray⟩:ByteArray).size<=501*j:=by show(I8 l).toArray.size<=_;rw[A8,<-z.out];exact TV l J.out
   have hZ:=Agk (j:Int) ⟨by omega,by omega⟩;generalize (⟨(I8 l).toArray⟩:ByteArray)=Y at*;generalize (⟨(Lib.itoa (j:Int)).toArray⟩:ByteArray)=Z at*;clear u
   go_wp2_with(first
    | (go_at_call 88;refine G.out.mono ?_;rintro e w2 ⟨rfl,f⟩;have h:=hid (t.out.2.trans f);clear f)
    | (go_at_call 11;refine(F w2 h.out).mono ?_;rintro e w3 ⟨rfl,k⟩;have s:=hid k;clear k))
   go_ret;rw[H.out];exact⟨rfl,v.out▸(h.out.trans (s.out.mono (by have:=h.out.size;have:=v.out;omega)))⟩
def Ji:ByteArray:=⟨#[116,105,99,107]⟩
def Pp:ByteArray:=⟨#[108,111,111,107]⟩
def MZ:ByteArray:=⟨#[116,111,108,100]⟩
def NM:ByteArray:=⟨#[117,115,101,114]⟩
def Pk:ByteArray:=⟨#[104,97,110,100]⟩
def OC:ByteArray:=⟨#[115,101,110,100]⟩
def Aig:ByteArray:=⟨#[97,105,114]⟩
structure OrdM where
 verb:ByteArray
 who:Nat
 num:Nat
 text:ByteArray
 air:AirM
def AlX (v:ByteArray)(k:Nat)(rest:ByteArray)(more:Bool):Option OrdM:=
 if v=Pp\/v=MZ then (if more then none else some ⟨v,k,0,⟨#[]⟩,⟨false,false,0⟩⟩)
 else if v=NM\/v=Pk then (Om rest).map fun n=>⟨v,k,n,⟨#[]⟩,⟨false,false,0⟩⟩
 else if v=OC then (if rest.size=0\/100<rest.size then none else some ⟨v,k,0,rest,⟨false,false,0⟩⟩)
 else if v=Aig then (PD rest).map fun a=>⟨v,k,0,⟨#[]⟩,a⟩
 else none
def MO (s:ByteArray):Option OrdM:=if s=Ji then some ⟨Ji,0,0,⟨#[]⟩,⟨false,false,0⟩⟩ else
 (Om (Tt (Mn s))).bind fun k=>AlX (Tt s) k (Mn (Mn s)) (Aln (Mn s))
structure OrdR(r:Option OrdM)(V:ByteArray)(k N:Int)(T:ByteArray)(l d:Bool)(x:Int):Prop where
 eq:∀o,r=some o->V=o.verb/\k=(o.who:Int)/\N=(o.num:Int)/\T=o.text/\l=o.air.lost/\d=o.air.deaf/\x=(o.air.rough:Int)
theorem OrdR.no(V:ByteArray)(k N:Int)(T:ByteArray)(l d:Bool)(x:Int):OrdR none V k N T l d x:=⟨fun o h=>by cases h⟩
theorem Zt(s:ByteArray):(Mn s).size<=s.size/\(Tt s).size<=s.size:=by
 have a:s.data.toList.length=s.size:=by rw[AH];rfl
 have b:(Lib.cut s.data.toList [32]).2.1.length<=s.data.toList.length/\(Lib.cut s.data.toList [32]).1.length<=s.data.toList.length:=by
  unfold Lib.cut
  grind
 have c:(Mn s).size=(Lib.cut s.data.toList [32]).2.1.length/\(Tt s).size=(Lib.cut s.data.toList [32]).1.length:=by
  unfold Mn Tt;exact⟨A8,A8⟩
 omega
theorem AdB(s:ByteArray):(Ns s).size<=s.size:=by
 have a:s.data.toList.length=s.size:=by rw[AH];rfl
 have b:=Lib.trimPrefix_le s.data.toList Oy.data.toList;have c:(Ns s).size=(Lib.trimPrefix s.data.toList Oy.data.toList).length:=by
  unfold Ns;exact A8
 omega
theorem IY{s t:ByteArray}(h:s≠t){l:List UInt8}(a:t.toList=l):(s.toList==l)=false:=by rw[<-a];exact O9 h
theorem At.seven{g:Nat}{T:TypeId}{a b c d e f h:Value}(q:At w g T [a,b,c,d,e,f,h]):(w.cell? ⟨g,0,none⟩=some a/\w.cell? ⟨g,1,none⟩=some b/\w.cell? ⟨g,2,none⟩=some c/\w.cell? ⟨g,3,none⟩=some d/\w.cell? ⟨g,4,none⟩=some e/\w.cell? ⟨g,5,none⟩=some f/\w.cell? ⟨g,6,none⟩=some h)/\w.frozen? ⟨g,0,none⟩=false/\w.frozen? ⟨g,1,none⟩=false/\w.frozen? ⟨g,2,none⟩=false/\w.frozen? ⟨g,3,none⟩=false/\w.frozen? ⟨g,4,none⟩=false/\w.frozen? ⟨g,5,none⟩=false/\w.frozen? ⟨g,6,none⟩=false:=⟨⟨q.cell 0,q.cell 1,q.cell 2,q.cell 3,q.cell 4,q.cell 5,q.cell 6⟩,q.free 0,q.free 1,q.free 2,q.free 3,q.free 4,q.free 5,q.free 6⟩
def Aap (V:ByteArray)(k N:Int)(T:ByteArray)(l d:Bool)(x:Int):List Value:=[string V,int i64 k,int i64 N,string T,.bool l,.bool d,int i64 x]
theorem AgT(s:ByteArray)(w:World)(ht:Tb w)(hs:s.size<=10000000):Calls prog 14 #[string s] w fun e w'=>∃V k N T l d x,e=.returned (.tuple #[.agg #[string V,int i64 k,int i64 N,string T,.bool l,.bool d,int i64 x],.bool (MO s).isSome])/\OrdR (MO s) V k N T l d x/\Below w.heap.size w w':=by
 by_cases h0:s=Ji
 ·subst h0;have e1:MO Ji=some ⟨Ji,0,0,⟨#[]⟩,⟨false,false,0⟩⟩:=Ab rfl;rw[e1];unfold Ji;clear e1;go_enter func14,ntmps14
  go_wp2_with fail
  (try simp only[Exit.inBlock,Exit.then])
  refine Ah (v:=.tuple #[.agg #[string ⟨#[116,105,99,107]⟩,int i64 0,int i64 0,string {data:=#[]},.bool false,.bool false,int i64 0],.bool true]) ?_ rfl ⟨_,_,_,_,_,_,_,rfl,⟨fun o B=>by grind⟩,?_⟩
  ·rw[AD rfl]
   go_simp
  ·repeat refine Below.setCell ?_ (Ac _) _
   exact(Ad _ w).alloc (Ac _) _
 ·have n0:=IY h0 (show Ji.toList=[116,105,99,107]by decide+kernel);obtain⟨z1,z2⟩:=Zt s;obtain⟨z3,z4⟩:=Zt (Mn s);have HO:Hid (MO s=(Om (Tt (Mn s))).bind fun k=>AlX (Tt s) k (Mn (Mn s)) (Aln (Mn s))):=Aa h0;have ax:Below w.heap.size w (w.alloc (.cells #[string {data:=#[]},int i64 0,int i64 0,string {data:=#[]},.bool false,.bool false,int i64 0] 51)):=(Ad _ w).alloc (Ac _) _;have aa:=Fc w 51 (Aap ⟨#[]⟩ 0 0 ⟨#[]⟩ false false 0);change At (w.alloc (.cells #[string {data:=#[]},int i64 0,int i64 0,string {data:=#[]},.bool false,.bool false,int i64 0] 51)) _ _ _ at aa;have Z:=hid ax;have Y:=hid aa;clear h0 ax aa;go_enter func14,ntmps14;go_upto_region 3 with fail
  generalize (w.alloc (.cells #[string {data:=#[]},int i64 0,int i64 0,string {data:=#[]},.bool false,.bool false,int i64 0] 51))=w1 at*;have ae:=ht.below Z.out;obtain⟨g2,av⟩:=E7 w.heap.size;rw[<-av]at Y |-;have aq:=hid (show w.heap.size<=g2 by omega);have an:=hid (Aez s w1 ae (by omega));clear ht n0 av;go_upto_region 4 with(go_at_call 26;refine an.out.mono ?_;rintro e w2 ⟨rfl,Q⟩)
  have af:=ae.below Q;have ak:=hid (Fr Z.out Q);have ah:=hid (Y.out.kept (S:=[]) (Kept.E5 Q) (by simp));have ao:=hid (Aez (Mn s) w2 af (by omega));clear an ae Z Y Q;go_upto_region 5 with(go_at_call 26;refine ao.out.mono ?_;rintro e w3 ⟨rfl,R⟩)
  have ag:=af.below R;have am:=hid (Fr ak.out R);have ai:=hid (ah.out.kept (S:=[]) (Kept.E5 R) (by simp));have ap:=hid (QR (Tt (Mn s)) w3 ag (by omega));clear ao af ak ah R;generalize Tt s=v at*;generalize Tt (Mn s)=wd at*;generalize Aln (Mn s)=y at*;have a5:(Mn (Mn s)).size<=10000000:=by omega
  generalize Mn (Mn s)=rest at*;clear z1 z2 z3 z4 hs;go_upto_region 6 with(go_at_call 27;refine ap.out.mono ?_;rintro e J ⟨kv,rfl,a4,ac,U⟩)
  have au:=hid (ag.below U);have L:=hid (Fr am.out U);have G:=ai.out.kept (S:=[]) (Kept.E5 U) (by simp);clear ap ag am ai U
  cases I:Om wd with
  | none=>
   have g:Hid (MO s=none):=by rw[HO.out,I];rfl
   dsimp only[Option.isSome];obtain⟨⟨c0,c1,c2,c3,c4,c5,c6⟩,f0,f1,f2,f3,f4,f5,f6⟩:=At.seven G;clear HO I ac G
   go_wp2_with fail
   (try simp only[Exit.inBlock,Exit.then])
   refine Ah (v:=.tuple #[.agg #[string {data:=#[]},int i64 0,int i64 0,string {data:=#[]},.bool false,.bool false,int i64 0],.bool false]) ?_ rfl ⟨_,_,_,_,_,_,_,by rw[g.out];rfl,by rw[g.out];exact OrdR.no _ _ _ _ _ _ _,?_⟩
   ·rw[AD rfl]
    go_simp
   ·repeat refine Below.setCell ?_ aq.out _
    exact L.out
  | some k=>
   have a1:=ac k I;subst a1;have g:Hid (MO s=AlX v k rest y):=by rw[HO.out,I];rfl
   dsimp only[Option.isSome];have aj:=hid G;have ab:=Fc J 51 (Aap v k 0 ⟨#[]⟩ false false 0);change At (J.alloc (.cells #[string v,int i64 (k:Int),int i64 0,string {data:=#[]},.bool false,.bool false,int i64 0] 51)) _ _ _ at ab;have ay:Below J.heap.size J (J.alloc (.cells #[string v,int i64 (k:Int),int i64 0,string {data:=#[]},.bool false,.bool false,int i64 0] 51)):=(Ad _ J).alloc (Ac _) _;have c:=hid ab;have M:=hid ay;have D:=hid (show g2≠J.heap.size by have:=G.lt;omega);have z:=hid (show w.heap.size<=J.heap.size from L.out.size);clear HO I ac G ab ay;go_upto_region 9 with fail
   generalize (J.alloc (.cells #[string v,int i64 (k:Int),int i64 0,string {data:=#[]},.bool false,.bool false,int i64 0] 51))=X at*;have O:=hid (au.out.below M.out);have j:=hid (Fr L.out M.out);have i:=hid (aj.out.kept (S:=[]) (Kept.E5 M.out) (by simp));obtain⟨A,aw⟩:=E7 J.heap.size;rw[<-aw]at c D z |-;clear au L aj M aw
   go_upto_block 0 with fail
   go_cut [10] (fun a3 wx=>a3=.bool (MO s).isSome/\∃N T l d x,Hid (OrdR (MO s) v k N T l d x/\Below w.heap.size w wx/\At wx g2 51 (Aap ⟨#[]⟩ 0 0 ⟨#[]⟩ false false 0)/\At wx A 51 (Aap v k N T l d x)))
   case first=>
    by_cases h1:v=Pp
    ·subst h1;have f:Hid (MO s=if y then none else some ⟨Pp,k,0,⟨#[]⟩,⟨false,false,0⟩⟩):=g.out.trans (Ab (.inl rfl));unfold Pp
     cases y with
     | true=>
      go_wp2_with fail
      go_meet;exact⟨by rw[f.out];rfl,0,⟨#[]⟩,false,false,0,by rw[f.out];exact OrdR.no _ _ _ _ _ _ _,j.out,i.out,c.out⟩
     | false=>
      go_wp2_with fail
      go_meet;exact⟨by rw[f.out];rfl,0,⟨#[]⟩,false,false,0,by rw[f.out];exact⟨fun o B=>by grind⟩,j.out,i.out,c.out⟩
    by_cases h2:v=MZ
    ·subst h2;have f:Hid (MO s=if y then none else some ⟨MZ,k,0,⟨#[]⟩,⟨false,false,0⟩⟩):=g.out.trans (Ab (.inr rfl));unfold MZ
     cases y with
     | true=>
      go_wp2_with fail
      go_meet;exact⟨by rw[f.out];rfl,0,⟨#[]⟩,false,false,0,by rw[f.out];exact OrdR.no _ _ _ _ _ _ _,j.out,i.out,c.out⟩
     | false=>
      go_wp2_with fail
      go_meet;exact⟨by rw[f.out];rfl,0,⟨#[]⟩,false,false,0,by rw[f.out];exact⟨fun o B=>by grind⟩,j.out,i.out,c.out⟩
    by_cases h3:v=NM
    ·subst h3;have f:Hid (MO s=(Om rest).map fun n=>⟨NM,k,n,⟨#[]⟩,⟨false,false,0⟩⟩):=g.out.trans ((Aa (by decide)).trans (Ab (.inl rfl)));have HP:=hid (QR rest X O.out (by omega));unfold NM
     go_wp2_with(go_at_call 27;refine HP.out.mono ?_;rintro e K ⟨nv,rfl, -,u,h⟩;have b:=c.out.kept (S:=[]) (Kept.E5 h) (by simp);have c2:K.cell? ⟨A,2,none⟩=some (int i64 0):=b.cell 2;have f2:=b.free 2;have C:=hid b;have r:=hid h;have F:=hid u;clear b h u)
     go_meet;refine⟨by rw[f.out,DJ],nv,⟨#[]⟩,false,false,0,⟨fun o B=>?_⟩,(Fr j.out r.out).setCell z.out _,((i.out.kept (S:=[]) (Kept.E5 r.out) (by simp)).kept (S:=[A]) ((Kept.refl _ K).setCell (by simp) _) (by simpa using D.out)),C.out.setCell _⟩;rw[f.out]at B;obtain⟨n,hn,rfl⟩:=Option.map_eq_some_iff.1 B;exact⟨rfl,rfl,F.out n hn,rfl,rfl,rfl,rfl⟩
    by_cases h4:v=Pk
    ·subst h4;have f:Hid (MO s=(Om rest).map fun n=>⟨Pk,k,n,⟨#[]⟩,⟨false,false,0⟩⟩):=g.out.trans ((Aa (by decide)).trans (Ab (.inr rfl)));have HP:=hid (QR rest X O.out (by omega));unfold Pk
     go_wp2_with(go_at_call 27;refine HP.out.mono ?_;rintro e K ⟨nv,rfl, -,u,h⟩;have b:=c.out.kept (S:=[]) (Kept.E5 h) (by simp);have c2:K.cell? ⟨A,2,none⟩=some (int i64 0):=b.cell 2;have f2:=b.free 2;have C:=hid b;have r:=hid h;have F:=hid u;clear b h u)
     go_meet;refine⟨by rw[f.out,DJ],nv,⟨#[]⟩,false,false,0,⟨fun o B=>?_⟩,(Fr j.out r.out).setCell z.out _,((i.out.kept (S:=[]) (Kept.E5 r.out) (by simp)).kept (S:=[A]) ((Kept.refl _ K).setCell (by simp) _) (by simpa using D.out)),C.out.setCell _⟩;rw[f.out]at B;obtain⟨n,hn,rfl⟩:=Option.map_eq_some_iff.1 B;exact⟨rfl,rfl,F.out n hn,rfl,rfl,rfl,rfl⟩
    have HX:=hid (g.out.trans ((Aa fun q=>q.elim h1 h2).trans (Aa fun q=>q.elim h3 h4)))
    by_cases h5:v=OC
    ·subst h5;have f:Hid (MO s=if rest.size=0\/100<rest.size then none else some ⟨OC,k,0,rest,⟨false,false,0⟩⟩):=HX.out.trans (Ab rfl);have c3:X.cell? ⟨A,3,none⟩=some (string {data:=#[]}):=c.out.cell 3;have f3:=c.out.free 3;have HE:Hid (Below w.heap.size w (X.setCell ⟨A,3,none⟩ (string rest))/\At (X.setCell ⟨A,3,none⟩ (string rest)) g2 51 (Aap ⟨#[]⟩ 0 0 ⟨#[]⟩ false false 0)/\At (X.setCell ⟨A,3,none⟩ (string rest)) A 51 (Aap OC k 0 rest false false 0)):=⟨j.out.setCell z.out _,i.out.kept (S:=[A]) ((Kept.refl _ X).setCell (by simp) _) (by simpa using D.out),c.out.setCell _⟩;clear g HX h1 h2 h3 h4;unfold OC
     by_cases W:rest.size=0
     ·have t:=hid (f.out.trans (Ab (.inl W)));have a0:=Qv W
      go_wp2_with fail
      go_meet;exact⟨by rw[t.out];rfl,0,rest,false,false,0,by rw[t.out];exact OrdR.no _ _ _ _ _ _ _,HE.out⟩
     ·have a0:=OQ (EO W)
      by_cases az:100<rest.size
      ·have t:=hid (f.out.trans (Ab (.inr az)));have a2:¬(rest.size:Int)<=100:=by omega
       go_wp2_with fail
       go_meet;exact⟨by rw[t.out];rfl,0,rest,false,false,0,by rw[t.out];exact OrdR.no _ _ _ _ _ _ _,HE.out⟩
      ·have t:=hid (f.out.trans (Aa fun q=>q.elim W az));have a2:(rest.size:Int)<=100:=by omega
       go_wp2_with fail
       go_meet;exact⟨by rw[t.out];rfl,0,rest,false,false,0,by rw[t.out];exact⟨fun o B=>by grind⟩,HE.out⟩
    have P:=hid (HX.out.trans (Aa h5))
    by_cases h6:v=Aig
    ·subst h6;have f:Hid (MO s=(PD rest).map fun a=>⟨Aig,k,0,⟨#[]⟩,a⟩):=P.out.trans (Ab rfl);have HP:=hid (AjQ rest X O.out (by have:=AdB rest;omega));clear g HX P h1 h2 h3 h4 h5;unfold Aig
     go_wp2_with(go_at_call 28;refine HP.out.mono ?_;rintro e K ⟨al,ad,ar,rfl, -,u,h⟩;have b:=c.out.kept (S:=[]) (Kept.E5 h) (by simp);have c4:K.cell? ⟨A,4,none⟩=some (.bool false):=b.cell 4;have c5:K.cell? ⟨A,5,none⟩=some (.bool false):=b.cell 5;have c6:K.cell? ⟨A,6,none⟩=some (int i64 0):=b.cell 6;have f4:=b.free 4;have f5:=b.free 5;have f6:=b.free 6;have C:=hid b;have r:=hid h;have F:=hid u;clear b h u)
     go_meet;refine⟨by rw[f.out,DJ],0,⟨#[]⟩,al,ad,ar,⟨fun o B=>?_⟩,(((Fr j.out r.out).setCell z.out _).setCell z.out _).setCell z.out _,((i.out.kept (S:=[]) (Kept.E5 r.out) (by simp)).kept (S:=[A]) ((((Kept.refl _ K).setCell (by simp) _).setCell (by simp) _).setCell (by simp) _) (by simpa using D.out)),((C.out.setCell _).setCell _).setCell _⟩;rw[f.out]at B;obtain⟨a,ha,rfl⟩:=Option.map_eq_some_iff.1 B;obtain⟨q1,q2,q3⟩:=F.out a ha
     grind
    have f:=hid (P.out.trans (Aa h6));have n1:=IY h1 (show Pp.toList=[108,111,111,107]by decide+kernel);have n2:=IY h2 (show MZ.toList=[116,111,108,100]by decide+kernel);have n3:=IY h3 (show NM.toList=[117,115,101,114]by decide+kernel);have n4:=IY h4 (show Pk.toList=[104,97,110,100]by decide+kernel);have n5:=IY h5 (show OC.toList=[115,101,110,100]by decide+kernel);have n6:=IY h6 (show Aig.toList=[97,105,114]by decide+kernel);clear g HX P h1 h2 h3 h4 h5 h6
    go_wp2_with fail
    go_meet;exact⟨by rw[f.out];rfl,0,⟨#[]⟩,false,false,0,by rw[f.out];exact OrdR.no _ _ _ _ _ _ _,j.out,i.out,c.out⟩
   case rest=>
    obtain⟨rfl,N,T,l,d,x,H⟩:=hcut;obtain⟨⟨c0,c1,c2,c3,c4,c5,c6⟩,f0,f1,f2,f3,f4,f5,f6⟩:=At.seven H.out.2.2.1;obtain⟨⟨d0,d1,d2,d3,d4,d5,d6⟩, -⟩:=At.seven H.out.2.2.2;clear i c O j
    go_wp2_with fail
    (try simp only[Exit.inBlock,Exit.then])
    refine Ah (v:=.tuple #[.agg #[string v,int i64 (k:Int),int i64 N,string T,.bool l,.bool d,int i64 x],.bool (MO s).isSome]) ?_ rfl ⟨_,_,_,_,_,_,_,rfl,H.out.1,?_⟩
    ·rw[AD rfl]
     go_simp
    ·repeat refine Below.setCell ?_ aq.out _
     exact H.out.2.1
end Go.Proofs.YtbjgfoiikhbonahGreatDoor
