import Derived.Test.YtbjgfoiikhbonahGreatDoorA41
import Derived.Lib.ItoaLen
import Derived.Deep.CutBlock
set_option linter.unusedVariables false
set_option linter.unusedSimpArgs false
set_option maxRecDepth 100000
set_option maxHeartbeats 4000000
namespace Go.Proofs.YtbjgfoiikhbonahGreatDoor
open Go.ChangeShapes Go.WideShapes Go.ChangeAt Go.RowKit Go.Proofs.Tryz
open Bool renaming false->A
open Option renaming none->C,some->F
open Value renaming string->D,pointer->G,int->I,bool->J
open IntKind renaming i64->K
variable {E:Nat->Nat->Option Cm}{S:List Nat}{m:NtM}{p:NtP}{w w0:World}
theorem OwnU.Apx{B n c:Nat}{a:Option Addr}{l:List UsM}(h:OwnU w B (.slice a n c) l):Usr w a l:=by
 intro b;obtain⟨gb,c',e, -, -,d⟩:=h.at (by grind)
 grind
theorem NtAt.lst{w0 w:World}{S:List Nat}{E:Nat->Nat->Option Cm}{p:NtP}{m:NtM}{T:TypeId}{k n:Nat}{v:Value}{xs:List Value}(h:NtAt w0 S w (setG E 103 (Jt (Ju T k v n xs))) p m):∃B,B<=w.heap.size/\w.ownsRow B T k v n xs:=(h.AbY (by omega)).lst (j:=0) rfl
theorem NtAt.Ao6{c:Cm}(h:NtAt w0 S w (setG E 103 (Jt c)) p m)(f:E 103=fun _=>C):NtAt w0 S w E p m:=by
 have e:=((h.AbY (by omega)).drop 0).conv (O':=fun _=>C) (fun j=>by rcases j with _ | j<;>rfl);rw[<-f,show E 103=Hn E p m 103 from rfl,Ig]at e;have a:=h.e1;have b:=h.e2;have d:=h.e3;rw[Fo E (by omega)]at a b d;exact⟨e,h.us,a,b,d⟩
theorem AgJ{L:Nat}(h:NtAt w0 S w E p m)(hE:E 103=fun _=>C)(hi:NInv L m)(hL:L<=100000000):Calls prog 15 #[Fa p.q.b] w fun e w'=>e=.returned (.tuple #[])/\∃p',SameB p p'/\NtAt w0 S w' E p' (AbD m):=by
 have c1:w.cell? ⟨p.q.b,1,C⟩=F (G (F ⟨p.q.r,0,C⟩)):=(h.net.box (j:=0) rfl).cell 1;have HW:=hid (AgL (h.below ((Ad _ w).drew)) hE (fun k u v=>⟨(hi.us k u v).1,(hi.us k u v).2.1.who,(hi.us k u v).2.2⟩));have ab:=hi.Abp (waitTo m 17);have HT:Hid (AbD m=repTo (useL ⟨m.us,m.t.Abp (waitTo m 17)⟩ (m.t.tst.J7 1 (waitTo m 17) 4)) 17):=rfl;have hS:=Ame hi.tu (waitTo m 17);have aa:=Akf (t:=m.t.tst) (q:=1) (l:=waitTo m 17) (E4:=4) hi.tu (by omega);have az:=waitTo_len m 17;have am:=hid hi.tu;obtain⟨l, el⟩ := E7 (waitTo m 17);rw[<-el]at HW ab HT hS aa az;unfold Fa at*;clear h el hi;go_enter func15,ntmps15;go_upto_region 0 with fail
 go_region_held3 (fun w'=>w'.cell? ⟨p.q.b,1,C⟩=F (G (F ⟨p.q.r,0,C⟩))) (first | exact c1 | exact q1 | exact q2 | go_keep) (first
  | (go_at_call 30;refine HW.out.mono ?_;rintro e w1 ⟨a,c,rfl,h1⟩;have q1:w1.cell? ⟨p.q.b,1,C⟩=F (G (F ⟨p.q.r,0,C⟩)):=(h1.net.box (j:=0) rfl).cell 1;have H1:=hid h1;clear h1)
  | (go_at_call 29;obtain⟨B1,aw,aq⟩:=H1.out.lst;refine(H1.out.turn (c0:=Ju 117 3 (.slice a l.length c) l.length (Jp l)) (IW _ _ _) (Ao2 p.q.r l.length c m.t.tst l a w1 am.out (OwnU.Apx aq) rfl (by unfold maxLen;omega))).mono ?_;rintro e w2 ⟨c',d,⟨a',k',rfl,rfl,rfl⟩,h2⟩;have H2:=hid (h2 (m.t.Abp l) rfl rfl rfl);have q2:w2.cell? ⟨p.q.b,1,C⟩=F (G (F ⟨p.q.r,0,C⟩)):=(H2.out.net.box (j:=0) rfl).cell 1;clear h2 aq))
 obtain⟨O, eO⟩ := E7 (m.t.tst.J7 1 l 4);rw[<-eO]at H2 HT hS aa ⊢;obtain⟨m1, ak⟩ := E7 (⟨m.us,m.t.Abp l⟩:NtM);rw[<-ak,Ahw]at H2;rw[<-ak]at HT ab;clear eO ak H1 q1 q2 HW c1 aw am;obtain⟨n, en⟩ := E7 O.length;rw[<-en]at H2 aa ⊢;have HN:=hid en;have ag:=hid ab;have HS:=hid hS;clear en ab hS
 go_wp2_with fail
 go_loopw [21] (fun i wr=>∃j:Nat,j<=n/\i= I K (j:Int)/\∃p',SameB p p'/\Hid (NtAt w0 S wr (setG E 103 (Jt (Ju 3 1 (.slice a' n k') n (O.map (Value.int K))))) p' (useL m1 (O.take j)))) (fun i _=>n-(intOf i).toNat)
 case atStart=>exact⟨0,Af _,rfl,p,SameB.refl p,H2.out⟩
 case round=>
  obtain⟨j,hj,rfl,p1,N,H⟩:=hrel;clear H2
  by_cases Y:j<n
  ·have ap:j<O.length:=by rw[<-HN.out];exact Y
   have a2:(j:Int)<(n:Int):=by omega
   have ah:=hid (Ah0 m1 O j ap);have Z:=hid (NInv.useL (O.take j) ag.out);obtain⟨ar,a1⟩:0<=O.getD j 0/\O.getD j 0<=16:=HS.out _ (by grind);obtain⟨B, -,ho⟩:=H.out.lst;obtain⟨ga,ca,ea⟩:=Lh ho (by omega);simp only[Aq]at ea;obtain⟨rfl, -,rfl⟩:=ea;have ax:wr.cell? ⟨ga,j,C⟩=F (I K (O.getD j 0)):=by
    rw[CX ho j (by omega),A9,Au,Ap ap];rfl
   generalize useL m1 (O.take j)=X at*;obtain⟨x,ex⟩:∃x:Nat,O.getD j 0=(x:Int):=⟨(O.getD j 0).toNat,by omega⟩;rw[ex]at ar a1 ah ax;have a5:(x:Int)<17:=by omega
   have au:x<17:=by omega
   have hc:wr.cell? ⟨p.q.b,2+x,C⟩=F (G (MP p1 X x)):=by
    rw[<-N.q,(H.out.net.box (j:=0) rfl).cell (2+x),show 2+x=x+1+1 by omega];exact H.out.at au
   have o:Hid (useL m1 (O.take (j+1))=match X.us x with
    | some u=>X.put x (P8 (u,X.t))
    | none=>X):=ah.out
   clear ho ex ah ar
   cases v:X.us x with
   | none=>
    rw[MQ v]at hc;rw[v]at o
    go_wp2_with fail;refine⟨⟨j+1,by omega,by go_num,p1,N,?_⟩,by simp[intOf];omega⟩;rw[o.out];exact H
   | some u=>
    rw[O5 v]at hc;rw[v]at o;obtain⟨hk,hv,hB⟩:=Z.out.us x u v;have a4:=H.out.n Z.out hL;have HC:=hid (Ajw (s:=(u,X.t)) (g:=x) (H.out.J5 v hk) (by omega) (by omega) (by omega) (by omega) H.out.e1 H.out.e2 H.out.e3 hB (by show u.who<=16;rw[hv.who];omega) hv.rough hv.ear hv.ok hv.inn (by show X.t.n<=_;omega));unfold Fa at HC;rw[N.q]at HC;have HU:=hid v;clear hv hB v
    go_wp2_with(go_at_call 31;refine HC.out.mono ?_;rintro e w3 ⟨rfl,eb,vt,h3⟩;have H3:=hid h3;clear h3);refine⟨⟨j+1,by omega,by go_num,p1.put x {p1.P x with eb:=eb,vt:=vt},N.trans (SameB.put rfl),?_⟩,by simp[intOf];omega⟩;rw[o.out];have h3:=H3.out;rw[<-N.q]at h3;exact H.out.put HU.out hk rfl h3
  ·obtain rfl:j=n:=by omega
   have av:=hid (NInv.useL O ag.out);have h3:=H.out;rw[Aw (by rw[<-HN.out];exact Ac _)]at h3;have h4:=h3.Ao6 hE;generalize useL m1 O=V at*;have H4:=hid h4;have ad:=h4.cells;have aj:=hid (fun j (hj:j<17)=>h4.at hj);have ae:p1.q.us.length=17:=by rw[h4.us];simp
   rw[N.q]at ad ae aj;obtain⟨us, an⟩ := E7 p.q.us;rw[<-an]at ad ae aj;clear h3 h4 H ag HS HN aa hj Y an
   go_wp2_with(first | (refine wpList_load_mid rfl 45 (.tmp 39) rfl p.q.b 2 rfl us _ ad underlying45 rfl (by rw[ae];kernel_rfl) ?_));clear ad ae
   go_loopw [41] (fun i wr=>∃j:Nat,j<=17/\i= I K (j:Int)/\∃p',SameB p p'/\Hid (NtAt w0 S wr E p' (repTo V j))/\Hid (∀i,MP p' (repTo V j) i=MP p1 V i)) (fun i _=>17-(intOf i).toNat)
   case atStart=>exact⟨0,Af _,rfl,p1,N,H4,hid fun _=>rfl⟩
   case round=>
    obtain⟨j,hj,rfl,f,ac,H,HQ⟩:=hrel;clear H4
    by_cases Y:j<17
    ·have ay:(j:Int)<17:=by omega
     have hx:=aj.out j Y;rw[<-HQ.out]at hx;have ao:=fun wz=>Ae0 us j _ Y hx wz
     have Z:=hid (av.out.repTo j)
     have o:Hid (repTo V (j+1)=match (repTo V j).us j with
      | some u=>if u.air.lost then repTo V j else (repTo V j).put j ({u with snd:=(u.snd.take u.rcv.Fx).m},(repTo V j).t)
      | none=>repTo V j):=Uu V j
     generalize repTo V j=X at*;clear hx
     cases v:X.us j with
     | none=>
      rw[MQ v]at ao;rw[v]at o
      go_wp2_with fail;refine⟨⟨j+1,by omega,by go_num,f,ac,?_⟩,by simp[intOf];omega⟩;rw[o.out];exact⟨H,HQ⟩
     | some u=>
      rw[O5 v]at ao;rw[v]at o;obtain⟨hk,hv,hB⟩:=Z.out.us j u v;have T:=H.out.J5 v hk;have d2:wr.cell? ⟨(f.P j).b,2,C⟩=F (J u.air.lost):=(T.box (j:=0) rfl).cell 2
      cases al:u.air.lost with
      | true=>
       rw[al]at d2;have ai:Hid (repTo V (j+1)=X):=o.out.trans (Ab al);clear T hv hB o
       go_wp2_with fail;refine⟨⟨j+1,by omega,by go_num,f,ac,?_⟩,by simp[intOf];omega⟩;rw[ai.out];exact⟨H,HQ⟩
      | false=>
       rw[al]at d2;have ai:Hid (repTo V (j+1)=X.put j ({u with snd:=(u.snd.take u.rcv.Fx).m},X.t)):=by grind
       have c5:wr.cell? ⟨(f.P j).b,5,C⟩=F (G (F (f.P j).ps)):=(T.box (j:=0) rfl).cell 5;have c6:wr.cell? ⟨(f.P j).b,6,C⟩=F (G (F (f.P j).pr)):=(T.box (j:=0) rfl).cell 6;have af:=hid ((T.below ((Ad _ wr).drew)).AbV (j:=2) rfl (Al5 (f.P j).pr u.rcv wr.drew) 11);have HH:=hid v;clear T hv hB o v;go_upto_region 12 with fail
       go_region_held3 (fun w'=>w'.cell? ⟨(f.P j).b,5,C⟩=F (G (F (f.P j).ps))/\w'.cell? ⟨(f.P j).b,6,C⟩=F (G (F (f.P j).pr))) (first | exact⟨c5,c6⟩ | exact q1 | exact q2 | go_keep) (first
        | (go_at_call 33;refine af.out.mono ?_;rintro e w3 ⟨c',d',⟨a3,k3,rfl,a0,rfl,rfl⟩,h5⟩;have H5:=hid h5;have q1:w3.cell? ⟨(f.P j).b,5,C⟩=F (G (F (f.P j).ps))/\w3.cell? ⟨(f.P j).b,6,C⟩=F (G (F (f.P j).pr)):=⟨(h5.box (j:=0) rfl).cell 5,(h5.box (j:=0) rfl).cell 6⟩;clear h5)
        | (go_at_call 32;refine(H5.out.Am1 (i:=1) (j:=11) rfl rfl (by omega) (AoX (f.P j).ps u.snd u.rcv.Fx a3 k3 w3 a0)).mono ?_;rintro e w4 ⟨c',⟨rfl,rfl⟩,h6⟩;have H6:=hid h6;have q2:w4.cell? ⟨(f.P j).b,5,C⟩=F (G (F (f.P j).ps))/\w4.cell? ⟨(f.P j).b,6,C⟩=F (G (F (f.P j).pr)):=⟨(h6.box (j:=0) rfl).cell 5,(h6.box (j:=0) rfl).cell 6⟩;clear h6))
       clear q1 q2 af
       go_wp2_with fail;refine⟨⟨j+1,by omega,by go_num,f.put j (f.P j),ac.trans (SameB.put rfl),?_⟩,by simp[intOf];omega⟩;rw[ai.out];refine⟨?_,hid fun i=>(AaJ HH.out rfl _ i).trans (HQ.out i)⟩;refine H.out.put HH.out hk rfl ?_;exact(H6.out.drop 11).conv fun i=>by rcases i with _ | _ | _ | _ | _ | _ | _ | _ | _ | _ | _ | _ | i<;>rfl
    ·obtain rfl:j=17:=by omega
     have ay:¬((17:Nat):Int)<17:=by omega
     go_wp2_with fail
     go_end0;rw[HT.out];exact⟨rfl,f,ac,H.out⟩
theorem AkX(B b:Nat)(c:List Value)(s:ByteArray)(w:World)(h:Lib.IsBuilder 186 5 B b c w)(a:c.length+s.size<=140737488355328)(d:B<=w.heap.size):Calls prog 86 #[G (F ⟨b,0,C⟩), D s] w fun e w'=>e=.returned (.tuple #[I K s.size,.nilIface])/\(Lib.BuilderAt 186 5 B b (G (F ⟨b,0,C⟩)) (c++Lib.strCells s) w'/\Below B w w'):=Any.Builder_WriteString {Tryz.XL with} Tryz.Im B b c s w h a d
theorem Ab0(B b:Nat)(a:List Value)(w:World)(h:Lib.IsBuilder 186 5 B b a w):Calls prog 142 #[G (F ⟨b,0,C⟩)] w fun e w'=>e=.returned (.tuple #[])/\(Lib.BuilderAt 186 5 B b (G (F ⟨b,0,C⟩)) a w'/\Below B w w'):=Any.Builder_copyCheck {Tryz.XL with} Tryz.Im.toX72 B b a w h
theorem Ah4(B b:Nat)(o:List Value)(c:Int)(w:World)(h:Lib.IsBuilder 186 5 B b o w)(O:o.length+1<=140737488355328)(Z:B<=w.heap.size):Calls prog 87 #[G (F ⟨b,0,C⟩),.int .u8 c] w fun e w'=>e=.returned .nilIface/\(Lib.BuilderAt 186 5 B b (G (F ⟨b,0,C⟩)) (o++[.int .u8 c]) w'/\Below B w w'):=by
 obtain⟨i0,hi,x,H,L⟩:=As Tryz.Im.infoByte;have X:=hid (Ab0 B b o w h);clear h;go_enter func87,ntmps87
 go_wp2_with(go_at_call 142;refine X.out.mono ?_);rintro e w1 ⟨rfl,Y,i⟩;obtain⟨N,v,q,l,t⟩:=Y;have c1:w1.cell? ⟨b,1,C⟩=F v:=by rw[Lib.cell_of_heap q];rfl
 go_wp2_with(at_builtin;refine CJ _ rfl _ _ 103 rfl B 5 i0 (.int .u8 0) 1 1 underlying103 hi x H L rfl (by decide) _ _ _ rfl (l.alloc _) ⟨w1.heap.size,0,C⟩ 1 1 [.int .u8 c] rfl rfl ?c1 ?c2 ?c3 ?c4 ?c5 ?_)
 case c1=>
  intro j u r
  match j,r with
  | 0,r=>simp at r;subst r;simp[Addr.add]
 case c2=>intro u V;simp at V;subst V;rfl
 case c3=>unfold maxLen;omega
 case c4=>omega
 case c5=>have:=i.size;simp;omega
 intro v' w2 d a _;have s:b<w1.heap.size:=by
  grind
 have n:w2.heap[b]?=F (.cells #[G (F ⟨b,0,C⟩),v] 186 (0,0)):=by
  rw[a.block b (by simp;omega) (fun e=>t e.symm),Lib.alloc_old w1 _ b s];exact q
 have d1:w2.cell? ⟨b,1,C⟩=F v:=by rw[Lib.cell_of_heap n];rfl
 have f1:w2.frozen? ⟨b,1,C⟩=A:=Lib.frozen_of_heap n 1;obtain⟨g,f,rfl⟩:∃g f,v'=.slice (F ⟨g,0,C⟩) (o.length+1) f:=by
  rcases d.2 with⟨_,h0⟩ | ⟨g,f,cur,hv,_⟩
  ·omega
  ·exact⟨g,f,hv⟩
 go_wp2;go_ret;refine⟨rfl,?_,?_⟩
 ·exact Lib.BuilderAt.put (T:=186) (e:=5) N n (bs':=o++[.int .u8 c]) (by simpa using d) (by decide)
 ·exact((i.alloc (by have:=i.size;omega) _).grown a (by have:=i.size;simp;omega) (fun k hk=>(l.lt k hk).1)).setCell (p:=⟨b,1,C⟩) N _
theorem Agk(v:Int)(h:Gb v):(⟨(Lib.itoa v).toArray⟩:ByteArray).size<=21:=by
 obtain⟨a,b⟩:=h
 show(Lib.itoa v).toArray.size<=21;rw[A8];exact Lib.itoa_length_le v (by omega) (by omega)
def I8 (l:List ByteArray):List UInt8:=l.flatMap fun d=>d.data.toList++[10]
def Pa (l:List ByteArray):ByteArray:=(⟨(I8 l).toArray⟩:ByteArray)++⟨(Lib.itoa (l.length:Int)).toArray⟩++⟨#[32,116,111,108,100,10]⟩
theorem ZY(l:List ByteArray)(j:Nat)(h:j<l.length):I8 (l.take (j+1))=I8 (l.take j)++(l.getD j ByteArray.empty).data.toList++[10]:=by
 unfold I8;rw[Br,Ap h,Bd,Au,Ap h];simp
theorem TV(l:List ByteArray)(a:∀d∈l,d.size<=500):(I8 l).length<=501*l.length:=by
 induction l with
 | nil=>simp[I8]
 | cons d l ih=>
  have c:=ih fun x b=>a x (AU _ b)
  have e:=a d AL;unfold I8 at*;rw[Do,Ai,Ai,AE];have f:d.data.toList.length=d.size:=by rw[AH];rfl
  grind
theorem AgI(l:List ByteArray)(a:Option Addr)(n c:Nat)(w:World)(ht:Tb w)(hl:l.length=n)(hn:n<=16777216)(hr:∀j,j<n->∃b o,a=F ⟨b,o,C⟩/\w.cell? ⟨b,o+j,C⟩=F (D (l.getD j ByteArray.empty)))(N:∀d∈l,d.size<=500):Calls prog 40 #[.slice a n c] w fun e w'=>e=.returned (D (Pa l))/\Below w.heap.size w w':=by
 have hA:=Fc w 186 [.pointer C,.slice C 0 0];have x:Below w.heap.size w (w.alloc (.cells #[.pointer C,.slice C 0 0] 186)):=(Ad _ w).alloc (Ac _) _;have hI:Lib.IsBuilder 186 5 w.heap.size w.heap.size (Lib.byteCells []) (w.alloc (.cells #[.pointer C,.slice C 0 0] 186)):=.inl ⟨Ac _,.slice C 0 0,hA,Bj _ _ _ _,fun q=>by cases q⟩;have T:=hid hI;have O:=hid x;have HT:=hid ht;have HZ:=hid N;have H:=hid hl;obtain⟨g, L⟩ := E7 w.heap.size;rw[<-L]at T O;have v:=hid L;clear hA x hI ht N hl;go_enter func40,ntmps40
 go_wp2_with fail;rw[<-L];generalize (w.alloc (.cells #[.pointer C,.slice C 0 0] 186))=w1 at*;clear L
 go_loopw [8] (fun i wr=>∃j:Nat,j<=n/\i= I K (j:Int)/\Hid (Lib.IsBuilder 186 5 g g (Lib.byteCells (I8 (l.take j))) wr/\Below g w wr)) (fun i _=>n-(intOf i).toNat)
 case atStart=>exact⟨0,Af _,rfl,T.out,O.out⟩
 case round=>
  obtain⟨j,hj,rfl,t⟩:=hrel;clear T O
  by_cases B:j<n
  ·have ag:(j:Int)<(n:Int):=by omega
   have ad:j<l.length:=by rw[H.out];exact B
   obtain⟨b,o,rfl,hc⟩:=hr j B;have ae:wr.cell? ⟨b,o+j,C⟩=F (D (l.getD j ByteArray.empty)):=(t.out.2.cell (by have:=Aj w _ hc;have:=v.out;grind)).trans hc;have HS:=hid (ZY l j ad);have af:(l.getD j ByteArray.empty).size<=500:=HZ.out _ (by grind);have ah:(I8 (l.take j)).length<=501*n:=by
    have:=TV (l.take j) fun d hd=>HZ.out d (Cr hd)
    grind
   generalize l.getD j ByteArray.empty=d at*;generalize I8 (l.take j)=X at*;have r:g<=wr.heap.size:=by have:=t.out.2.size;have:=v.out;omega
   have HW:=hid (AkX g g (Lib.byteCells X) d wr t.out.1 (by rw[E3];omega) r);clear hc
   go_wp2_with(first
    | (go_at_call 86;refine HW.out.mono ?_;rintro e w2 ⟨rfl,h2,f⟩;have ac:=hid (Ah4 g g (Lib.byteCells X++Lib.strCells d) 10 w2 (.inr h2) (by rw[Ai,E3,Lib.strCells_length];omega) (Ak r f.size));have h:=hid f;clear h2 f)
    | (go_at_call 87;refine ac.out.mono ?_;rintro e w3 ⟨rfl,u,k⟩;have H3:=hid u;have s:=hid k;clear u k))
   refine⟨⟨j+1,by omega,by go_num,?_,t.out.2.trans (h.out.trans s.out)⟩,by simp[intOf];omega⟩;rw[HS.out];have u:=H3.out;refine .inr ?_;unfold Lib.byteCells Lib.strCells at*
   grind
  ·obtain rfl:j=n:=by omega
   have u:=t.out.1;rw[Aw (by rw[H.out];exact Ac _)]at u;have r:g<=wr.heap.size:=by have:=t.out.2.size;have:=v.out;omega
   have aa:=hid (show Calls prog 88 #[G (F ⟨g,0,C⟩)] wr fun e w'=>e=.returned (D ⟨(I8 l).toArray⟩)/\Below g wr w' from Any.Builder_String_any Tryz.AlE Tryz.Qd g g (I8 l) wr u r);have ab:Hid (Pa l=(⟨(I8 l).toArray⟩:ByteArray)++⟨(Lib.itoa (j:Int)).toArray⟩++⟨#[32,116,111,108,100,10]⟩):=by unfold Pa;rw[H.out];exact rfl
   have V:=fun wz (N:Below g w wz)=>TN (j:Int) wz ⟨by omega,by omega⟩ (HT.out.below (v.out▸N)).wd.tab
   have hY:(⟨(I8 l).toArray⟩:ByteArray).size<=501*j:=by show(I8 l).toArray.size<=_;rw[A8,<-H.out];exact TV l HZ.out
   have hZ:=Agk (j:Int) ⟨by omega,by omega⟩;generalize (⟨(I8 l).toArray⟩:ByteArray)=Y at*;generalize (⟨(Lib.itoa (j:Int)).toArray⟩:ByteArray)=Z at*;clear u
   go_wp2_with(first
    | (go_at_call 88;refine aa.out.mono ?_;rintro e w2 ⟨rfl,f⟩;have h:=hid (t.out.2.trans f);clear f)
    | (go_at_call 11;refine(V w2 h.out).mono ?_;rintro e w3 ⟨rfl,k⟩;have s:=hid k;clear k))
   go_ret;rw[ab.out];exact⟨rfl,v.out▸(h.out.trans (s.out.mono (by have:=h.out.size;have:=v.out;omega)))⟩
def Ji:ByteArray:=⟨#[116,105,99,107]⟩
def Pp:ByteArray:=⟨#[108,111,111,107]⟩
def MZ:ByteArray:=⟨#[116,111,108,100]⟩
def NM:ByteArray:=⟨#[117,115,101,114]⟩
def Pk:ByteArray:=⟨#[104,97,110,100]⟩
def OC:ByteArray:=⟨#[115,101,110,100]⟩
def Aig:ByteArray:=⟨#[97,105,114]⟩
structure OrdM where
 verb:ByteArray
 who:Nat
 num:Nat
 text:ByteArray
 air:AirM
def AlX (v:ByteArray)(k:Nat)(rest:ByteArray)(more:Bool):Option OrdM:=
 if v=Pp\/v=MZ then (if more then C else F ⟨v,k,0,⟨#[]⟩,⟨A,A,0⟩⟩)
 else if v=NM\/v=Pk then (Om rest).map fun n=>⟨v,k,n,⟨#[]⟩,⟨A,A,0⟩⟩
 else if v=OC then (if rest.size=0\/100<rest.size then C else F ⟨v,k,0,rest,⟨A,A,0⟩⟩)
 else if v=Aig then (PD rest).map fun a=>⟨v,k,0,⟨#[]⟩,a⟩
 else C
def MO (s:ByteArray):Option OrdM:=if s=Ji then F ⟨Ji,0,0,⟨#[]⟩,⟨A,A,0⟩⟩ else
 (Om (Tt (Mn s))).bind fun k=>AlX (Tt s) k (Mn (Mn s)) (Aln (Mn s))
structure OrdR(r:Option OrdM)(V:ByteArray)(k N:Int)(T:ByteArray)(l d:Bool)(x:Int):Prop where
 eq:∀o,r=F o->V=o.verb/\k=(o.who:Int)/\N=(o.num:Int)/\T=o.text/\l=o.air.lost/\d=o.air.deaf/\x=(o.air.rough:Int)
theorem OrdR.no(V:ByteArray)(k N:Int)(T:ByteArray)(l d:Bool)(x:Int):OrdR C V k N T l d x:=⟨fun o h=>by cases h⟩
theorem Zt(s:ByteArray):(Mn s).size<=s.size/\(Tt s).size<=s.size:=by
 have a:s.data.toList.length=s.size:=by rw[AH];rfl
 have b:(Lib.cut s.data.toList [32]).2.1.length<=s.data.toList.length/\(Lib.cut s.data.toList [32]).1.length<=s.data.toList.length:=by
  unfold Lib.cut
  grind
 have c:(Mn s).size=(Lib.cut s.data.toList [32]).2.1.length/\(Tt s).size=(Lib.cut s.data.toList [32]).1.length:=by
  unfold Mn Tt;exact⟨A8,A8⟩
 omega
theorem AdB(s:ByteArray):(Ns s).size<=s.size:=by
 have a:s.data.toList.length=s.size:=by rw[AH];rfl
 have b:=Lib.trimPrefix_le s.data.toList Oy.data.toList;have c:(Ns s).size=(Lib.trimPrefix s.data.toList Oy.data.toList).length:=by
  unfold Ns;exact A8
 omega
theorem IY{s t:ByteArray}(h:s≠t){l:List UInt8}(a:t.toList=l):(s.toList==l)=A:=by rw[<-a];exact O9 h
theorem At.seven{g:Nat}{T:TypeId}{a b c d e f h:Value}(q:At w g T [a,b,c,d,e,f,h]):(w.cell? ⟨g,0,C⟩=F a/\w.cell? ⟨g,1,C⟩=F b/\w.cell? ⟨g,2,C⟩=F c/\w.cell? ⟨g,3,C⟩=F d/\w.cell? ⟨g,4,C⟩=F e/\w.cell? ⟨g,5,C⟩=F f/\w.cell? ⟨g,6,C⟩=F h)/\w.frozen? ⟨g,0,C⟩=A/\w.frozen? ⟨g,1,C⟩=A/\w.frozen? ⟨g,2,C⟩=A/\w.frozen? ⟨g,3,C⟩=A/\w.frozen? ⟨g,4,C⟩=A/\w.frozen? ⟨g,5,C⟩=A/\w.frozen? ⟨g,6,C⟩=A:=⟨⟨q.cell 0,q.cell 1,q.cell 2,q.cell 3,q.cell 4,q.cell 5,q.cell 6⟩,q.free 0,q.free 1,q.free 2,q.free 3,q.free 4,q.free 5,q.free 6⟩
def Aap (V:ByteArray)(k N:Int)(T:ByteArray)(l d:Bool)(x:Int):List Value:=[D V, I K k, I K N, D T, J l, J d, I K x]
theorem AgT(s:ByteArray)(w:World)(ht:Tb w)(hs:s.size<=10000000):Calls prog 14 #[D s] w fun e w'=>∃V k N T l d x,e=.returned (.tuple #[.agg #[D V, I K k, I K N, D T, J l, J d, I K x], J (MO s).isSome])/\OrdR (MO s) V k N T l d x/\Below w.heap.size w w':=by
 by_cases h0:s=Ji
 ·subst h0;have e1:MO Ji=F ⟨Ji,0,0,⟨#[]⟩,⟨A,A,0⟩⟩:=Ab rfl;rw[e1];unfold Ji;clear e1;go_enter func14,ntmps14
  go_wp2_with fail
  (try simp only[Exit.inBlock,Exit.then])
  refine Ah (v:=.tuple #[.agg #[D ⟨#[116,105,99,107]⟩, I K 0, I K 0, D {data:=#[]}, J A, J A, I K 0], J true]) ?_ rfl ⟨_,_,_,_,_,_,_,rfl,⟨fun o X=>by grind⟩,?_⟩
  ·rw[AD rfl]
   go_simp
  ·repeat refine Below.setCell ?_ (Ac _) _
   exact(Ad _ w).alloc (Ac _) _
 ·have n0:=IY h0 (show Ji.toList=[116,105,99,107]by decide+kernel);obtain⟨z1,z2⟩:=Zt s;obtain⟨z3,z4⟩:=Zt (Mn s);have HO:Hid (MO s=(Om (Tt (Mn s))).bind fun k=>AlX (Tt s) k (Mn (Mn s)) (Aln (Mn s))):=Aa h0;have ba:Below w.heap.size w (w.alloc (.cells #[D {data:=#[]}, I K 0, I K 0, D {data:=#[]}, J A, J A, I K 0] 51)):=(Ad _ w).alloc (Ac _) _;have ap:=Fc w 51 (Aap ⟨#[]⟩ 0 0 ⟨#[]⟩ A A 0);change At (w.alloc (.cells #[D {data:=#[]}, I K 0, I K 0, D {data:=#[]}, J A, J A, I K 0] 51)) _ _ _ at ap;have ao:=hid ba;have an:=hid ap;clear h0 ba ap;go_enter func14,ntmps14;go_upto_region 3 with fail
  generalize (w.alloc (.cells #[D {data:=#[]}, I K 0, I K 0, D {data:=#[]}, J A, J A, I K 0] 51))=w1 at*;have av:=ht.below ao.out;obtain⟨g2, a8⟩ := E7 w.heap.size;rw[<-a8]at an ⊢;have a6:=hid (show w.heap.size<=g2 by omega);have a3:=hid (Aez s w1 av (by omega));clear ht n0 a8;go_upto_region 4 with(go_at_call 26;refine a3.out.mono ?_;rintro e w2 ⟨rfl,ai⟩)
  have aw:=av.below ai;have a1:=hid (Fr ao.out ai);have ay:=hid (an.out.kept (S:=[]) (Kept.E5 ai) (by simp));have a4:=hid (Aez (Mn s) w2 aw (by omega));clear a3 av ao an ai;go_upto_region 5 with(go_at_call 26;refine a4.out.mono ?_;rintro e w3 ⟨rfl,aj⟩)
  have ax:=aw.below aj;have a2:=hid (Fr a1.out aj);have az:=hid (ay.out.kept (S:=[]) (Kept.E5 aj) (by simp));have a5:=hid (QR (Tt (Mn s)) w3 ax (by omega));clear a4 aw a1 ay aj;generalize Tt s=v at*;generalize Tt (Mn s)=wd at*;generalize Aln (Mn s)=B at*;have bi:(Mn (Mn s)).size<=10000000:=by omega
  generalize Mn (Mn s)=rest at*;clear z1 z2 z3 z4 hs;go_upto_region 6 with(go_at_call 27;refine a5.out.mono ?_;rintro e w4 ⟨kv,rfl,bh,au,ak⟩)
  have a7:=hid (ax.below ak);have ae:=hid (Fr a2.out ak);have ab:=az.out.kept (S:=[]) (Kept.E5 ak) (by simp);clear a5 ax a2 az ak
  cases ac:Om wd with
  | none=>
   have g:Hid (MO s=C):=by rw[HO.out,ac];rfl
   dsimp only[Option.isSome];obtain⟨⟨c0,c1,c2,c3,c4,c5,c6⟩,f0,f1,f2,f3,f4,f5,f6⟩:=At.seven ab;clear HO ac au ab
   go_wp2_with fail
   (try simp only[Exit.inBlock,Exit.then])
   refine Ah (v:=.tuple #[.agg #[D {data:=#[]}, I K 0, I K 0, D {data:=#[]}, J A, J A, I K 0], J A]) ?_ rfl ⟨_,_,_,_,_,_,_,by rw[g.out];rfl,by rw[g.out];exact OrdR.no _ _ _ _ _ _ _,?_⟩
   ·rw[AD rfl]
    go_simp
   ·repeat refine Below.setCell ?_ a6.out _
    exact ae.out
  | some k=>
   have be:=au k ac;subst be;have g:Hid (MO s=AlX v k rest B):=by rw[HO.out,ac];rfl
   dsimp only[Option.isSome];have a0:=hid ab;have aq:=Fc w4 51 (Aap v k 0 ⟨#[]⟩ A A 0);change At (w4.alloc (.cells #[D v, I K (k:Int), I K 0, D {data:=#[]}, J A, J A, I K 0] 51)) _ _ _ at aq;have bb:Below w4.heap.size w4 (w4.alloc (.cells #[D v, I K (k:Int), I K 0, D {data:=#[]}, J A, J A, I K 0] 51)):=(Ad _ w4).alloc (Ac _) _;have c:=hid aq;have af:=hid bb;have Z:=hid (show g2≠w4.heap.size by have:=ab.lt;omega);have L:=hid (show w.heap.size<=w4.heap.size from ae.out.size);clear HO ac au ab aq bb;go_upto_region 9 with fail
   generalize (w4.alloc (.cells #[D v, I K (k:Int), I K 0, D {data:=#[]}, J A, J A, I K 0] 51))=w5 at*;have ag:=hid (a7.out.below af.out);have j:=hid (Fr ae.out af.out);have i:=hid (a0.out.kept (S:=[]) (Kept.E5 af.out) (by simp));obtain⟨O, a9⟩ := E7 w4.heap.size;rw[<-a9]at c Z L ⊢;clear a7 ae a0 af a9
   go_upto_block 0 with fail
   go_cut [10] (fun bg wx=>bg= J (MO s).isSome/\∃N T l d x,Hid (OrdR (MO s) v k N T l d x/\Below w.heap.size w wx/\At wx g2 51 (Aap ⟨#[]⟩ 0 0 ⟨#[]⟩ A A 0)/\At wx O 51 (Aap v k N T l d x)))
   case first=>
    by_cases h1:v=Pp
    ·subst h1;have f:Hid (MO s=if B then C else F ⟨Pp,k,0,⟨#[]⟩,⟨A,A,0⟩⟩):=g.out.trans (Ab (.inl rfl));unfold Pp
     cases B with
     | true=>
      go_wp2_with fail
      go_meet;exact⟨by rw[f.out];rfl,0,⟨#[]⟩,A,A,0,by rw[f.out];exact OrdR.no _ _ _ _ _ _ _,j.out,i.out,c.out⟩
     | false=>
      go_wp2_with fail
      go_meet;exact⟨by rw[f.out];rfl,0,⟨#[]⟩,A,A,0,by rw[f.out];exact⟨fun o X=>by grind⟩,j.out,i.out,c.out⟩
    by_cases h2:v=MZ
    ·subst h2;have f:Hid (MO s=if B then C else F ⟨MZ,k,0,⟨#[]⟩,⟨A,A,0⟩⟩):=g.out.trans (Ab (.inr rfl));unfold MZ
     cases B with
     | true=>
      go_wp2_with fail
      go_meet;exact⟨by rw[f.out];rfl,0,⟨#[]⟩,A,A,0,by rw[f.out];exact OrdR.no _ _ _ _ _ _ _,j.out,i.out,c.out⟩
     | false=>
      go_wp2_with fail
      go_meet;exact⟨by rw[f.out];rfl,0,⟨#[]⟩,A,A,0,by rw[f.out];exact⟨fun o X=>by grind⟩,j.out,i.out,c.out⟩
    by_cases h3:v=NM
    ·subst h3;have f:Hid (MO s=(Om rest).map fun n=>⟨NM,k,n,⟨#[]⟩,⟨A,A,0⟩⟩):=g.out.trans ((Aa (by decide)).trans (Ab (.inl rfl)));have HP:=hid (QR rest w5 ag.out (by omega));unfold NM
     go_wp2_with(go_at_call 27;refine HP.out.mono ?_;rintro e w6 ⟨nv,rfl, -,u,h⟩;have b:=c.out.kept (S:=[]) (Kept.E5 h) (by simp);have c2:w6.cell? ⟨O,2,C⟩=F (I K 0):=b.cell 2;have f2:=b.free 2;have Y:=hid b;have r:=hid h;have aa:=hid u;clear b h u)
     go_meet;refine⟨by rw[f.out,DJ],nv,⟨#[]⟩,A,A,0,⟨fun o X=>?_⟩,(Fr j.out r.out).setCell L.out _,((i.out.kept (S:=[]) (Kept.E5 r.out) (by simp)).kept (S:=[O]) ((Kept.refl _ w6).setCell (by simp) _) (by simpa using Z.out)),Y.out.setCell _⟩;rw[f.out]at X;obtain⟨n,hn,rfl⟩:=Option.map_eq_some_iff.1 X;exact⟨rfl,rfl,aa.out n hn,rfl,rfl,rfl,rfl⟩
    by_cases h4:v=Pk
    ·subst h4;have f:Hid (MO s=(Om rest).map fun n=>⟨Pk,k,n,⟨#[]⟩,⟨A,A,0⟩⟩):=g.out.trans ((Aa (by decide)).trans (Ab (.inr rfl)));have HP:=hid (QR rest w5 ag.out (by omega));unfold Pk
     go_wp2_with(go_at_call 27;refine HP.out.mono ?_;rintro e w6 ⟨nv,rfl, -,u,h⟩;have b:=c.out.kept (S:=[]) (Kept.E5 h) (by simp);have c2:w6.cell? ⟨O,2,C⟩=F (I K 0):=b.cell 2;have f2:=b.free 2;have Y:=hid b;have r:=hid h;have aa:=hid u;clear b h u)
     go_meet;refine⟨by rw[f.out,DJ],nv,⟨#[]⟩,A,A,0,⟨fun o X=>?_⟩,(Fr j.out r.out).setCell L.out _,((i.out.kept (S:=[]) (Kept.E5 r.out) (by simp)).kept (S:=[O]) ((Kept.refl _ w6).setCell (by simp) _) (by simpa using Z.out)),Y.out.setCell _⟩;rw[f.out]at X;obtain⟨n,hn,rfl⟩:=Option.map_eq_some_iff.1 X;exact⟨rfl,rfl,aa.out n hn,rfl,rfl,rfl,rfl⟩
    have HX:=hid (g.out.trans ((Aa fun q=>q.elim h1 h2).trans (Aa fun q=>q.elim h3 h4)))
    by_cases h5:v=OC
    ·subst h5;have f:Hid (MO s=if rest.size=0\/100<rest.size then C else F ⟨OC,k,0,rest,⟨A,A,0⟩⟩):=HX.out.trans (Ab rfl);have c3:w5.cell? ⟨O,3,C⟩=F (D {data:=#[]}):=c.out.cell 3;have f3:=c.out.free 3;have HE:Hid (Below w.heap.size w (w5.setCell ⟨O,3,C⟩ (D rest))/\At (w5.setCell ⟨O,3,C⟩ (D rest)) g2 51 (Aap ⟨#[]⟩ 0 0 ⟨#[]⟩ A A 0)/\At (w5.setCell ⟨O,3,C⟩ (D rest)) O 51 (Aap OC k 0 rest A A 0)):=⟨j.out.setCell L.out _,i.out.kept (S:=[O]) ((Kept.refl _ w5).setCell (by simp) _) (by simpa using Z.out),c.out.setCell _⟩;clear g HX h1 h2 h3 h4;unfold OC
     by_cases am:rest.size=0
     ·have t:=hid (f.out.trans (Ab (.inl am)));have bd:=Qv am
      go_wp2_with fail
      go_meet;exact⟨by rw[t.out];rfl,0,rest,A,A,0,by rw[t.out];exact OrdR.no _ _ _ _ _ _ _,HE.out⟩
     ·have bd:=OQ (EO am)
      by_cases bc:100<rest.size
      ·have t:=hid (f.out.trans (Ab (.inr bc)));have bf:¬(rest.size:Int)<=100:=by omega
       go_wp2_with fail
       go_meet;exact⟨by rw[t.out];rfl,0,rest,A,A,0,by rw[t.out];exact OrdR.no _ _ _ _ _ _ _,HE.out⟩
      ·have t:=hid (f.out.trans (Aa fun q=>q.elim am bc));have bf:(rest.size:Int)<=100:=by omega
       go_wp2_with fail
       go_meet;exact⟨by rw[t.out];rfl,0,rest,A,A,0,by rw[t.out];exact⟨fun o X=>by grind⟩,HE.out⟩
    have ah:=hid (HX.out.trans (Aa h5))
    by_cases h6:v=Aig
    ·subst h6;have f:Hid (MO s=(PD rest).map fun a=>⟨Aig,k,0,⟨#[]⟩,a⟩):=ah.out.trans (Ab rfl);have HP:=hid (AjQ rest w5 ag.out (by have:=AdB rest;omega));clear g HX ah h1 h2 h3 h4 h5;unfold Aig
     go_wp2_with(go_at_call 28;refine HP.out.mono ?_;rintro e w6 ⟨al,ad,ar,rfl, -,u,h⟩;have b:=c.out.kept (S:=[]) (Kept.E5 h) (by simp);have c4:w6.cell? ⟨O,4,C⟩=F (J A):=b.cell 4;have c5:w6.cell? ⟨O,5,C⟩=F (J A):=b.cell 5;have c6:w6.cell? ⟨O,6,C⟩=F (I K 0):=b.cell 6;have f4:=b.free 4;have f5:=b.free 5;have f6:=b.free 6;have Y:=hid b;have r:=hid h;have aa:=hid u;clear b h u)
     go_meet;refine⟨by rw[f.out,DJ],0,⟨#[]⟩,al,ad,ar,⟨fun o X=>?_⟩,(((Fr j.out r.out).setCell L.out _).setCell L.out _).setCell L.out _,((i.out.kept (S:=[]) (Kept.E5 r.out) (by simp)).kept (S:=[O]) ((((Kept.refl _ w6).setCell (by simp) _).setCell (by simp) _).setCell (by simp) _) (by simpa using Z.out)),((Y.out.setCell _).setCell _).setCell _⟩;rw[f.out]at X;obtain⟨a,ha,rfl⟩:=Option.map_eq_some_iff.1 X;obtain⟨q1,q2,q3⟩:=aa.out a ha
     grind
    have f:=hid (ah.out.trans (Aa h6));have n1:=IY h1 (show Pp.toList=[108,111,111,107]by decide+kernel);have n2:=IY h2 (show MZ.toList=[116,111,108,100]by decide+kernel);have n3:=IY h3 (show NM.toList=[117,115,101,114]by decide+kernel);have n4:=IY h4 (show Pk.toList=[104,97,110,100]by decide+kernel);have n5:=IY h5 (show OC.toList=[115,101,110,100]by decide+kernel);have n6:=IY h6 (show Aig.toList=[97,105,114]by decide+kernel);clear g HX ah h1 h2 h3 h4 h5 h6
    go_wp2_with fail
    go_meet;exact⟨by rw[f.out];rfl,0,⟨#[]⟩,A,A,0,by rw[f.out];exact OrdR.no _ _ _ _ _ _ _,j.out,i.out,c.out⟩
   case rest=>
    obtain⟨rfl,N,T,l,d,x,H⟩:=hcut;obtain⟨⟨c0,c1,c2,c3,c4,c5,c6⟩,f0,f1,f2,f3,f4,f5,f6⟩:=At.seven H.out.2.2.1;obtain⟨⟨d0,d1,d2,d3,d4,d5,d6⟩, -⟩:=At.seven H.out.2.2.2;clear i c ag j
    go_wp2_with fail
    (try simp only[Exit.inBlock,Exit.then])
    refine Ah (v:=.tuple #[.agg #[D v, I K (k:Int), I K N, D T, J l, J d, I K x], J (MO s).isSome]) ?_ rfl ⟨_,_,_,_,_,_,_,rfl,H.out.1,?_⟩
    ·rw[AD rfl]
     go_simp
    ·repeat refine Below.setCell ?_ a6.out _
     exact H.out.2.1
end Go.Proofs.YtbjgfoiikhbonahGreatDoor
