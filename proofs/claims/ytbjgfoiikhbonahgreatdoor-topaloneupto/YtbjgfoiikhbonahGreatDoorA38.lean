import Derived.Test.YtbjgfoiikhbonahGreatDoorA37
set_option linter.unusedVariables false
set_option linter.unusedSimpArgs false
set_option maxRecDepth 100000
set_option maxHeartbeats 4000000
namespace Go.Proofs.YtbjgfoiikhbonahGreatDoor
open Go.ChangeShapes Go.WideShapes Go.ChangeAt Go.RowKit Go.Proofs.Tryz
open Option renaming some->E,none->I
open Value renaming pointer->J,string->Q,int->R,slice->U
open IntKind renaming i64->V
variable {B g j k n:Nat}{D:Nat->Nat->Option Cm}{O:Nat->Option Cm}{S:List Nat}{T:TypeId}{gr:Int->Option Value}{p:UsrP}{v:Value}{w w0:World}{xs:List Value}
def OutM.Vq(o:OutM)(l:List ByteArray):OutM:=l.foldl (fun o s=>(o.KW s).m) o
theorem OutM.AhH(o:OutM)(l:List ByteArray)(j:Nat)(h:j<l.length):o.Vq (l.take (j+1))=((o.Vq (l.take j)).KW (l.getD j ByteArray.empty)).m:=by
 unfold OutM.Vq;rw[Br,Ap h,Cf,Au,Ap h];rfl
def SdM.OE(m:SdM)(k:Int):List ByteArray:=(List.range m.wait.length).map fun i=>US k (m.beg+i) (m.wait.getD i ByteArray.empty)
theorem SdM.Ra(m:SdM)(k:Int):(m.OE k).length=m.wait.length:=by simp[SdM.OE]
theorem SdM.AkB(m:SdM)(k:Int)(j:Nat)(h:j<m.wait.length):(m.OE k).getD j ByteArray.empty=US k (m.beg+j) (m.wait.getD j ByteArray.empty):=by simp[SdM.OE,List.getD,h]
theorem SdM.Aif(m:SdM)(k:Int)(j:Nat)(h:j<m.wait.length):(m.NC k).getD j .zero=QQ k (m.beg+j) (m.wait.getD j ByteArray.empty):=by simp[SdM.NC,List.getD,h]
def UsrM.Tp(u:UsrM):SdM:=if 0<u.op.fst then u.sl.cf (u.op.fst-1) else u.sl
def UsrM.move(u:UsrM):UsrM:={u with key:=u.key+7,snd:=(OutM.new 8).Vq (u.Tp.OE ((u.key+7:Nat):Int)),rcv:=InM.new 8,blk:=SendM.new 4,sht:=RecvM.new,ear:=I,sl:=u.Tp.move ((u.key+7:Nat):Int),op:=u.op.move ((u.key+7:Nat):Int)}
theorem AiS(g:Nat)(m:GcM)(w:World):NS 137 #[J (E ⟨g,0,I⟩)] w (gcC g m) fun e c=>e=.returned (R V (m.fst:Int))/\c=gcC g m:=fun _ F _ ⟨v,e,h⟩=>(AcD h).mono fun _ _ ⟨a,b⟩=>⟨_,⟨a,rfl⟩,b▸Kept.refl _ _,F,⟨v,e,b▸h⟩,fun _ d=> .inl d⟩
theorem AhX{u:UsrM}(h:Hg w0 S w (setG D g (usO p u)))(a2:u.key<=2147483640):Calls prog 83 #[Fa p.b] w fun e w'=>∃p',p'.b=p.b/\p'.vt=p.vt/\e=.returned (.tuple #[])/\Hg w0 S w' (setG D g (usO p' u.move)):=by
 have aw:u.op.fst<=16777216:=by
  obtain⟨F,bm, -,hP⟩:=h.get (j:=8) rfl;exact hP.ok.few
 have M:w.cell? ⟨p.b,11,I⟩=E (J (E ⟨p.g2,0,I⟩)):=(h.box (j:=0) rfl).cell 11;have HC:=hid (h.act (j:=8) rfl (AiS p.g2 u.op w));obtain⟨a4, eN⟩ := E7 u.op.fst;rw[<-eN]at HC aw;have HN:=hid eN;unfold Fa;clear eN h;go_enter func83,ntmps83
 go_upto_if 13 with(go_at_call 137;refine HC.out.mono ?_;rintro e w1 ⟨c',⟨rfl,rfl⟩,o⟩;rw[Kr rfl]at o;have H1:=hid o;have L:w1.cell? ⟨p.b,10,I⟩=E (J (E ⟨p.g1,0,I⟩)):=(o.box (j:=0) rfl).cell 10;clear o)
 go_cut [] (fun wx=>Hg w0 S wx (setG D g (FQ (usO p u) 7 (E (sdC p.g1 u.Tp)))))
 case first=>
  by_cases hN:0<a4
  ·have d1:(0:Int)<(a4:Int):=by omega
   go_wp2_with(go_at_call 138;rw[show((a4:Int)-1)=((a4-1:Nat):Int)by omega];refine(H1.out.act (j:=7) rfl (Aot p.g1 u.sl (a4-1) w1)).mono ?_;rintro e w2 ⟨c',⟨⟨y9,rfl⟩,rfl⟩,h2⟩;have H2:=hid h2;clear h2)
   go_meet;have:u.Tp=u.sl.cf (a4-1):=by unfold UsrM.Tp;rw[<-HN.out,Ab hN]
   rw[this];exact H2.out
  ·have d1:¬(0:Int)<(a4:Int):=by omega
   go_wp2_with fail
   go_meet;have:u.Tp=u.sl:=by unfold UsrM.Tp;rw[<-HN.out,Aa hN]
   rw[this,Kr rfl];exact H1.out
 case rest=>
  have h2:=hcut;clear hcut H1 L M HC;generalize an:u.Tp=sd at*;have k1:wc.cell? ⟨p.b,1,I⟩=E (R V (u.key:Int)):=(h2.box (j:=0) rfl).cell 1;have l1:=(h2.box (j:=0) rfl).free 1;have ad:(u.key:Int)+7=((u.key+7:Nat):Int):=by omega
  have h3:=h2.GK (j:=0) rfl 1 (R V ((u.key+7:Nat):Int));have ag:KZ ((u.key+7:Nat):Int)=true:=by unfold KZ;simp;omega
  have HU:Hid (u.move={u with key:=u.key+7,snd:=(OutM.new 8).Vq (sd.OE ((u.key+7:Nat):Int)),rcv:=InM.new 8,blk:=SendM.new 4,sht:=RecvM.new,ear:=I,sl:=sd.move ((u.key+7:Nat):Int),op:=u.op.move ((u.key+7:Nat):Int)}):=by rw[<-an];rfl
  clear an;obtain⟨K, eK⟩ := E7 (u.key+7);rw[<-eK]at h3 ag ad HU;have HK:=hid ad;have HE:=hid eK;rw[<-ad]at h3;clear ad eK;go_upto_region 4 with fail
  generalize (wc.setCell ⟨p.b,1,I⟩ (R V ((u.key:Int)+7)))=w3 at*;rw[HK.out]at h3;have HP:Hid (Calls prog 76 #[] w3 fun e w'=>∃ps pr gb gs me,e=.returned (.agg #[J (E ps), J (E pr), J (E ⟨gb,0,I⟩), J (E ⟨gs,0,I⟩),.map (E me)])/\Hid (Hg w0 S w' (setG D g (AjS (FQ (FQ (usO p u) 7 (E (sdC p.g1 sd))) 0 (E (JP p.b 91 (S1 p {u with key:=K})))) ps pr gb gs me)))/\At w' p.b 91 (S1 p {u with key:=K})):=(Wi h3 rfl).mono fun e w' ⟨ps,pr,gb,gs,me,a,b⟩=>⟨ps,pr,gb,gs,me,a,b,b.box (j:=0) rfl⟩
  clear h2 h3 k1 l1;go_upto_region 5 with(go_at_call 76;refine HP.out.mono ?_;rintro e x ⟨ps,pr,gb,gs,me,rfl,H4,f⟩;have q5:=f.free 5;have q6:=f.free 6;have q7:=f.free 7;have q8:=f.free 8;have q9:=f.free 9;have k5:x.cell? ⟨p.b,5,I⟩=E (J (E p.ps)):=f.cell 5;have k6:x.cell? ⟨p.b,6,I⟩=E (J (E p.pr)):=f.cell 6;have k7:x.cell? ⟨p.b,7,I⟩=E (J (E ⟨p.gb,0,I⟩)):=f.cell 7;have k8:x.cell? ⟨p.b,8,I⟩=E (J (E ⟨p.gs,0,I⟩)):=f.cell 8;have k9:x.cell? ⟨p.b,9,I⟩=E (.map (E p.me)):=f.cell 9;clear f)
  have h5:=(((((H4.out.GK (j:=0) rfl 5 (J (E ps))).GK (j:=0) rfl 6 (J (E pr))).GK (j:=0) rfl 7 (J (E ⟨gb,0,I⟩))).GK (j:=0) rfl 8 (J (E ⟨gs,0,I⟩))).GK (j:=0) rfl 9 (.map (E me))).drop 6;obtain⟨c,aa⟩:∃q:UsrP,q={p with ps:=ps,pr:=pr,gb:=gb,gs:=gs,me:=me}:=⟨_,rfl⟩;have ah:c.b=p.b:=by rw[aa]
  have ar:=hid (show c.vt=p.vt by rw[aa]);obtain⟨u1,ab⟩:∃v:UsrM,v={u with key:=K,snd:=OutM.new 8,rcv:=InM.new 8,blk:=SendM.new 4,sht:=RecvM.new,ear:=I,sl:=sd}:=⟨_,rfl⟩;have s:=h5.conv (O':=usO c u1) fun j=>by
   rw[aa,ab]
   rcases j with _ | _ | _ | _ | _ | _ | _ | _ | _ | _ | _ | j
   case succ.succ.succ.succ.succ.zero=>
    show E (gmC _ _ _)=E (gmC _ _ _);rw[VU rfl];rfl
   all_goals rfl
  have af:u1.key=K:=by rw[ab]
  have ak:=hid ab;rw[<-ah]at s ⊢;have aq:=hid ah;generalize (((((x.setCell ⟨c.b,5,I⟩ (J (E ps))).setCell ⟨c.b,6,I⟩ (J (E pr))).setCell ⟨c.b,7,I⟩ (J (E ⟨gb,0,I⟩))).setCell ⟨c.b,8,I⟩ (J (E ⟨gs,0,I⟩))).setCell ⟨c.b,9,I⟩ (.map (E me)))=y at*;have M:y.cell? ⟨c.b,11,I⟩=E (J (E ⟨c.g2,0,I⟩)):=(s.box (j:=0) rfl).cell 11;have c1:y.cell? ⟨c.b,1,I⟩=E (R V (u1.key:Int)):=(s.box (j:=0) rfl).cell 1;have H6:=hid s;rw[af]at c1;have ai:=hid af;clear s h5 H4 HP ab aa q5 q6 q7 q8 q9 k5 k6 k7 k8 k9 af ah
  go_region_held3 (fun w'=>w'.cell? ⟨c.b,11,I⟩=E (J (E ⟨c.g2,0,I⟩))/\w'.cell? ⟨c.b,1,I⟩=E (R V (K:Int))) (first | exact⟨M,c1⟩ | exact q1 | go_keep) (first | (go_at_call 139;refine((H6.out.below ((Ad _ y).drew)).act (j:=8) rfl (Anf c.g2 u1.op (K:Int) y.drew ag)).mono ?_;rintro e w7 ⟨c',⟨rfl,rfl⟩,h7⟩;have H7:=hid h7;have q1:w7.cell? ⟨c.b,11,I⟩=E (J (E ⟨c.g2,0,I⟩))/\w7.cell? ⟨c.b,1,I⟩=E (R V (K:Int)):=⟨(h7.box (j:=0) rfl).cell 11,by rw[<-ai.out];exact(h7.box (j:=0) rfl).cell 1⟩;clear h7));clear q1 M c1 H6;go_upto_region 6 with fail
  have L:w7.cell? ⟨c.b,10,I⟩=E (J (E ⟨c.g1,0,I⟩)):=(H7.out.box (j:=0) rfl).cell 10;have c1:w7.cell? ⟨c.b,1,I⟩=E (R V (K:Int)):=by grind
  go_region_held3 (fun w'=>w'.cell? ⟨c.b,10,I⟩=E (J (E ⟨c.g1,0,I⟩))/\w'.cell? ⟨c.b,1,I⟩=E (R V (K:Int))) (first | exact⟨L,c1⟩ | exact q1 | go_keep) (first | (go_at_call 140;refine((H7.out.below ((Ad _ w7).drew)).AbV (j:=7) rfl (Ang c.g1 u1.sl (K:Int) w7.drew ag) 11).mono ?_;rintro e w8 ⟨c',d',⟨a3,rfl,rfl,rfl⟩,h8⟩;have H8:=hid h8;have q1:w8.cell? ⟨c.b,10,I⟩=E (J (E ⟨c.g1,0,I⟩))/\w8.cell? ⟨c.b,1,I⟩=E (R V (K:Int)):=⟨(h8.box (j:=0) rfl).cell 10,by rw[<-ai.out];exact(h8.box (j:=0) rfl).cell 1⟩;clear h8));clear q1 L c1 H7;obtain⟨n, en⟩ := E7 u1.sl.wait.length;have am:n<=16777216/\∀i,i<n->(u1.sl.wait.getD i ByteArray.empty).size<=500:=by
   obtain⟨F,v, -,hP⟩:=H8.out.get (j:=7) rfl;have:=hP.ok.few;have h2:=hP.ok.small;unfold SdM.move SdM.nxt at*
   grind
  obtain⟨hn,ao⟩:=am;have au:=hid ao;rw[<-en];have aj:=hid en;clear en ao;have h9:=H8.out.conv (O':=FQ (usO c {u1 with snd:=(OutM.new 8).Vq ((u1.sl.OE (K:Int)).take 0),op:=u1.op.move (K:Int),sl:=u1.sl.move (K:Int)}) 11 (E (JP a3 255 (FJ (u1.sl.NC (K:Int)))))) fun j=>by
   have:u1.snd=OutM.new 8:=by rw[ak.out]
   rcases j with _ | _ | _ | _ | _ | _ | _ | _ | _ | _ | _ | _ | j
   case succ.zero=>
    show E (RI _ _)=E (RI _ _);rw[this];rfl
   all_goals rfl
  go_wp2_with fail
  go_loopw [55] (fun i wr=>∃j:Nat,j<=n/\i= R V (j:Int)/\Hid (Hg w0 S wr (setG D g (FQ (usO c {u1 with snd:=(OutM.new 8).Vq ((u1.sl.OE (K:Int)).take j),op:=u1.op.move (K:Int),sl:=u1.sl.move (K:Int)}) 11 (E (JP a3 255 (FJ (u1.sl.NC (K:Int))))))))) (fun i _=>n-(intOf i).toNat)
  case atStart=>exact⟨0,Af _,rfl,h9⟩
  case round=>
   obtain⟨j,hj,rfl,HR⟩:=hrel;clear h9 H8
   by_cases al:j<n
   ·have ac:j<u1.sl.wait.length:=by rw[<-aj.out];exact al
    have az:=au.out j al;have hA:=HR.out.box (j:=11) rfl;have hc:∀t,t<3->wr.cell? ⟨a3,j*3+t,I⟩=(QQ (K:Int) (u1.sl.beg+j) (u1.sl.wait.getD j ByteArray.empty)).cells[t]?:=fun t ht=>by rw[hA.cell (j*3+t),PI _ j t (by rw[SdM.WZ];exact ac) ht,SdM.Aif _ _ _ ac]
    have HT:=hid (show((OutM.new 8).Vq ((u1.sl.OE (K:Int)).take (j+1)))=(((OutM.new 8).Vq ((u1.sl.OE (K:Int)).take j)).KW (US (K:Int) (u1.sl.beg+j) (u1.sl.wait.getD j ByteArray.empty))).m by rw[OutM.AhH _ _ _ (by rw[SdM.Ra];exact ac),SdM.AkB _ _ _ ac]);generalize u1.sl.wait.getD j ByteArray.empty=d at*;generalize u1.sl.beg+j=l at*;have a0:(LP d (Hb (K:Int) l)).size<=1500:=by rw[Lg];omega
    have a1:(If l d).size<=1500:=by rw[UH];omega
    have ay:=fun wz=>Ov (l % 4096) (LP d (Hb (K:Int) l)) (If l d) wz a0 a1
    have HE:Hid (Ou (l % 4096) (LP d (Hb (K:Int) l)) (If l d)=US (K:Int) l d):=rfl;have x0:wr.cell? ⟨a3,j*3,I⟩=E (R V ((l % 4096:Nat):Int)):=hc 0 (by omega);have x1:wr.cell? ⟨a3,j*3+1,I⟩=E (Q (LP d (Hb (K:Int) l))):=hc 1 (by omega);have x2:wr.cell? ⟨a3,j*3+2,I⟩=E (Q (If l d)):=hc 2 (by omega);generalize LP d (Hb (K:Int) l)=A at*;generalize If l d=B at*;generalize l % 4096=C at*;have o:=HR.out.Ii 12 255 [R V (C:Int), Q A, Q B];change Hg w0 S (wr.alloc (.cells #[R V (C:Int), Q A, Q B] 255)) _ at o;obtain⟨r, ae⟩ := E7 wr.heap.size;rw[<-ae]at o;have ap:=hid ae;clear hA hc HR az ae;go_upto_region 10 with fail
    rw[<-ap.out];generalize (wr.alloc (.cells #[R V (C:Int), Q A, Q B] 255))=x at*;clear x0 x1 x2;have c5:x.cell? ⟨c.b,5,I⟩=E (J (E c.ps)):=(o.box (j:=0) rfl).cell 5;have y0:x.cell? ⟨r,0,I⟩=E (R V (C:Int)):=(o.box (j:=12) rfl).cell 0;have y1:x.cell? ⟨r,1,I⟩=E (Q A):=(o.box (j:=12) rfl).cell 1;have y2:x.cell? ⟨r,2,I⟩=E (Q B):=(o.box (j:=12) rfl).cell 2;have ax:(Ou C A B).size<=maxLen:=by
     unfold Ou maxLen;rw[CH,CH,BP]
     show 2+_+_<=_;omega
    have H4:=hid o;clear o
    go_region_held3 (fun w'=>w'.cell? ⟨c.b,5,I⟩=E (J (E c.ps))/\w'.cell? ⟨r,0,I⟩=E (R V (C:Int))/\w'.cell? ⟨r,1,I⟩=E (Q A)/\w'.cell? ⟨r,2,I⟩=E (Q B)) (first | exact⟨c5,y0,y1,y2⟩ | exact q1 | exact q2 | go_keep) (first
     | (go_at_call 133;refine(ay _).mono ?_;rintro e y ⟨rfl,av⟩;have H5:=hid (H4.out.below (Fr ((Ad _ x).drew) av));have q1:y.cell? ⟨c.b,5,I⟩=E (J (E c.ps))/\y.cell? ⟨r,0,I⟩=E (R V (C:Int))/\y.cell? ⟨r,1,I⟩=E (Q A)/\y.cell? ⟨r,2,I⟩=E (Q B):=⟨(H5.out.box (j:=0) rfl).cell 5,(H5.out.box (j:=12) rfl).cell 0,(H5.out.box (j:=12) rfl).cell 1,(H5.out.box (j:=12) rfl).cell 2⟩)
     | (go_at_call 132;refine(H5.out.act (j:=1) rfl (Ae1 c.ps ((OutM.new 8).Vq ((u1.sl.OE (K:Int)).take j)) (Ou C A B) y ax)).mono ?_;rintro e w6 ⟨c',⟨rfl,rfl⟩,s⟩;have H6:=hid s;have q2:w6.cell? ⟨c.b,5,I⟩=E (J (E c.ps))/\w6.cell? ⟨r,0,I⟩=E (R V (C:Int))/\w6.cell? ⟨r,1,I⟩=E (Q A)/\w6.cell? ⟨r,2,I⟩=E (Q B):=⟨(s.box (j:=0) rfl).cell 5,(s.box (j:=12) rfl).cell 0,(s.box (j:=12) rfl).cell 1,(s.box (j:=12) rfl).cell 2⟩;clear s))
    go_wp2_with fail;refine⟨⟨j+1,by omega,by go_num,?_⟩,by simp[intOf];omega⟩;have h9:=H6.out.drop 12;rw[HE.out]at h9;refine h9.conv fun j=>?_
    rw[HT.out]
    rcases j with _ | _ | _ | _ | _ | _ | _ | _ | _ | _ | _ | _ | _ | j<;>rfl
   ·obtain rfl:j=n:=by omega
    go_wp2_with fail
    go_end0;refine⟨c,aq.out,ar.out,rfl,?_⟩;have h9:=HR.out.drop 11;rw[Aw (by rw[SdM.Ra,<-aj.out];exact Ac _)]at h9;refine h9.conv fun i=>?_
    rw[HU.out,ak.out]
    rcases i with _ | _ | _ | _ | _ | _ | _ | _ | _ | _ | _ | _ | i<;>rfl
def Ahl (M:Nat->Option ByteArray)(f:Nat):Nat->Nat
 | 0=>0
 | k+1=>if (M f).isSome then Ahl M (f+1) k+1 else 0
theorem Aa2(M:Nat->Option ByteArray):∀k f,M (f+k)=I->RunG M f (Ahl M f k)
 | 0,f,h=>⟨fun i hi=>absurd hi (CG _),h⟩
 | k+1,f,h=>by
  unfold Ahl
  split
  ·next hs=>
   obtain⟨a,b⟩:=Aa2 M k (f+1) (by rw[Nat.add_right_comm];exact h);refine⟨fun i hi=>?_,by grind⟩
   rcases i with _ | i
   ·exact hs
   grind
  ·next hs=>exact⟨fun i hi=>absurd hi (CG _),by simpa using hs⟩
def GcM.Abh(m:GcM)(p:PktM):Nat:=Ahl (m.put p).M m.fst 16777216
def GcM.take(m:GcM)(p:PktM):GcM:=if IX m p=0 then (m.put p).cut (m.Abh p) else m
def GcM.out(m:GcM)(p:PktM):List ByteArray:=if IX m p=0 then MY (m.put p).M m.fst (m.Abh p) else []
theorem Aow(g:Nat)(m:GcM)(p:PktM)(w:World)(C:p.sl.size<=140737488355328)(K:p.data.size<=140737488355328):YJ 209 #[J (E ⟨g,0,I⟩),p.val] w (gcC g m) fun e c d=>∃a k,e=.returned (.tuple #[U a (m.out p).length k, R V (IX m p)])/\(m.out p).length<=16777216/\c=gcC g (m.take p)/\d=Ju 9 1 (U a (m.out p).length k) (m.out p).length ((m.out p).map Value.string):=fun _ F _ ⟨o,e,h⟩=>by
 subst e;have f:∀x:Int,IX m p=x->x≠0->Calls prog 209 #[J (E ⟨g,0,I⟩),p.val] w (Qi w x)->Calls prog 209 #[J (E ⟨g,0,I⟩),p.val] w fun e w'=>∃c' d,(∃a k,e=.returned (.tuple #[U a (m.out p).length k, R V (IX m p)])/\(m.out p).length<=16777216/\c'=gcC g (m.take p)/\d=Ju 9 1 (U a (m.out p).length k) (m.out p).length ((m.out p).map Value.string))/\Kept (gcF g o) w w'/\∃F' D,c'.P w' F'/\Ga w.heap.size (gcF g o) F'/\d.P w' D/\∀x∈D,w.heap.size<=x/\x∉F':=fun x b h0 t=>by
  have e1:m.out p=[]:=by unfold GcM.out;rw[b,Aa h0]
  have e2:m.take p=m:=by unfold GcM.take;rw[b,Aa h0]
  rw[e1,e2,b];exact t.mono fun e w' ⟨L,r⟩=>⟨_,_,⟨I,0,L,Af _,rfl,rfl⟩,Kept.E5 r,gcF g o,[],⟨o,rfl,h.kept (S:=[]) (Kept.E5 r) (by simp)⟩,fun _ b=> .inl b,⟨rfl,0,Bj _ _ _ _⟩,by simp⟩
 by_cases l:IB p=true
 ·by_cases hi:N3 m.fst p.short=true
  ·by_cases i:p.sl=If (m.cnt p) (m.G9 p)
   ·have ht:IX m p=JQ m (m.cnt p):=by unfold IX;rw[Ab l,Ab hi,Ab i]
    by_cases b:JQ m (m.cnt p)=0
    ·have aa:=Qs hi;have t:m.cnt p<16777216:=by unfold GcM.cnt;omega
     have u:m.fst<=m.cnt p:=by
      unfold JQ at b
      grind
     have s:=h.ok.put t u;have hR:RunG (m.put p).M m.fst (m.Abh p):=Aa2 _ _ _ (s.top _ (by omega));have ab:=hR.le (m:=m.put p) s;have e1:m.out p=MY (m.put p).M m.fst (m.Abh p):=by unfold GcM.out;rw[ht,b,Ab rfl]
     have e2:m.take p=(m.put p).cut (m.Abh p):=by unfold GcM.take;rw[ht,b,Ab rfl]
     have e3:(m.out p).length=m.Abh p:=by rw[e1,Ny]
     rw[e3,e1,e2,ht,b];refine(Ai1 h p l hi i b hR).mono fun e w' ⟨v,L,r,q3,q4⟩=>?_
     obtain⟨a,c,rfl, -, -,ac⟩:=Fg r;refine⟨_,_,⟨a,c,L,by grind,rfl,rfl⟩,q3,gcF g o,_,⟨o,rfl,q4⟩,fun _ b=> .inl b,⟨rfl,_,r⟩,fun y hy=>?_⟩;have A:(U a (m.Abh p) c).ownBlock=E y:=by simpa using hy
     have hl:=(AB r y A).1;exact⟨hl,fun q=>by have:=h.lt y q;omega⟩
    ·exact f _ ht b (Agb h p l hi i _ rfl b)
   ·exact f 4 (by unfold IX;rw[Ab l,Ab hi,Aa i]) (by omega) (AcJ h p l hi i)
  ·exact f 3 (by unfold IX;rw[Ab l,Aa hi]) (by omega) (ZG h p l (by simpa using hi))
 ·exact f 3 (by unfold IX;rw[Aa l]) (by omega) (AcI p C K (by simpa using l))
theorem Hg.lst(h:Hg w0 S w (setG D g O))(hi:O j=E (Ju T k v n xs)):∃B,B<=w.heap.size/\w.ownsRow B T k v n xs:=by
 obtain⟨F, -,B,h⟩:=h.get hi
 cases a:v.ownBlock with
 | none=>
  rcases h with⟨b,⟨rfl,rfl⟩ | ⟨q,c,cur,rfl, -⟩⟩
  ·exact⟨0,Af _,b,.inl ⟨rfl,rfl⟩⟩
  ·cases a
 | some y=>exact⟨B,by have:=AB h y a;omega,h⟩
theorem Hg.AnK{w':World}(h:Hg w0 S w (setG D g O)){n':Nat}{v':Value}{a:List Value}(hi:O j=E (Ju T k v n xs))(e:w'.ownsRow B T k v' n' a)(hg:w.grownBy w' v.ownBlock)(f:v'.ownBlock=v.ownBlock\/v'.ownBlock=E w.heap.size):Hg w0 S w' (setG D g (FQ O j (E (Ju T k v' n' a)))):=by
 obtain⟨F,h⟩:=h;have b:(fun i:Nat×Nat=>setG D g O i.1 i.2) (g,j)=E (Ju T k v n xs):=by show setG D g O g j=_;rw[IW];exact hi
 obtain⟨d, -⟩:=(h.each _ _ b).1
 have c:=h.step (c':=Ju T k v' n' a) (F':=v'.ownBlock.toList) b (by rw[d];exact Kept.PR hg) ⟨rfl,B,e⟩ (fun x l=>by
  grind)
 rw[JI]at c;exact c
structure NetP where
 b:Nat
 c:Nat
 r:Nat
 us:List Value
structure NetM where
 co:CoM
 n:Nat
 last:Nat
 opn:Bool
 cr:Nat->Int
def FK (q:NetP)(t:NetM):Nat->Option Cm
 | 0=>E (JP q.b 47 (Fa q.c::Fa q.r::q.us))
 | 1=>E (coC q.c t.co t.n)
 | 2=>E (tuC q.r t.last t.opn t.cr)
 | _=>I
def NetM.Tk(t:NetM)(g b:Int):NetM:={t with co:=(t.co.Fx g 1 b true).m,n:=t.n+1}
theorem Sp{q:NetP}{t:NetM}(g b:Int)(h:Hg w0 S w (setG D 0 (FK q t)))(hg:Gb g)(m:Gb b)(o:t.n<Jf):Calls prog 80 #[Fa q.b, R V g, R V b] w fun e w'=>e=.returned (.tuple #[])/\Hg w0 S w' (setG D 0 (FK q (t.Tk g b))):=by
 have c0:w.cell? ⟨q.b,0,I⟩=E (J (E ⟨q.c,0,I⟩)):=(h.box (j:=0) rfl).cell 0;have i:=hid (h.act (j:=1) rfl (Alh (fun F l=>Zr (t.n+1) (g:=g) (t:=1) (b:=b) (f:=true) l hg ⟨by omega,by omega⟩ m o (Bx _) fun _=>Ac _)));unfold Fa Kt at*;clear h;go_enter func80,ntmps80
 go_wp2_with(go_at_call 134;refine i.out.mono ?_;rintro e w1 ⟨c',⟨rfl,rfl⟩,a⟩;have d:=hid a;clear a)
 go_end0;exact⟨rfl,d.out.conv fun j=>by rcases j with _ | _ | _ | j<;>rfl⟩
theorem Lh(h:w.ownsRow B T k v n xs)(b:0<n):∃g c,v= U (E ⟨g,0,I⟩) n c:=by
 rcases h with⟨-,⟨-,a⟩ | ⟨x,y,z,e, -⟩⟩
 ·omega
 ·exact⟨x,y,e⟩
def OpOk (m:GcM):Prop:=∀k x,m.M k=E x->x.size<=500
theorem OpOk.put{m:GcM}(h:OpOk m){p:PktM}(b:IB p=true):OpOk (m.put p):=fun k x a=>by
 unfold GcM.put KN at a;dsimp only at a
 split at a
 ·obtain rfl:=AX a;unfold GcM.G9;rw[Lg];exact(MK b).2.2
 ·exact h k x a
theorem Q8{m:GcM}{p:PktM}(h:IX m p=0):IB p=true:=by
 unfold IX at h
 grind
theorem OpOk.take{m:GcM}(h:OpOk m)(p:PktM):OpOk (m.take p):=by
 unfold GcM.take
 split
 ·next e=>
  intro k x a;unfold GcM.cut Tu at a;dsimp only at a
  split at a
  ·cases a
  ·exact h.put (Q8 e) k x a
 ·exact h
theorem OpOk.out{m:GcM}(h:OpOk m)(p:PktM)(j:Nat):((m.out p).getD j ByteArray.empty).size<=500:=by
 unfold GcM.out
 split
 ·next e=>
  by_cases b:j<m.Abh p
  ·rw[Au];simp only[MY,A9,Ch b,Cx,Ei]
   cases a:(m.put p).M (m.fst+j)with
   | none=>exact Af _
   | some x=>exact h.put (Q8 e) _ x a
  ·rw[Au,AY (by rw[Ny];omega)];exact Af _
 ·exact Af _
def grI (gr:Int->Option Value)(k:Int):Int:=match gr k with
 | some (.int _ x)=>x
 | _=>0
def GrOk (gr:Int->Option Value):Prop:=∀k v,gr k=E v->∃x,v= R V x/\Gb x
theorem GrOk.get(h:GrOk gr)(k:Int):(gr k).getD (R V 0)= R V (grI gr k)/\Gb (grI gr k):=by
 unfold grI
 cases e:gr k with
 | none=>exact⟨rfl,(by unfold Gb;omega:Gb 0)⟩
 | some v=>
  obtain⟨x,rfl,a⟩:=h k v e;exact⟨rfl,a⟩
theorem GrOk.del(h:GrOk gr)(k:Int):GrOk (J8 gr k I):=by grind [GrOk,J8]
def Jk (s:UsrM×NetM)(d:ByteArray):UsrM×NetM:=({s.1 with told:=s.1.told++[d],gr:=J8 s.1.gr (s.1.told.length:Int) I,grN:=s.1.grN-if (s.1.gr (s.1.told.length:Int)).isSome then 1 else 0},s.2.Tk (grI s.1.gr (s.1.told.length:Int)) (d.size:Int))
def JL (s:UsrM×NetM)(l:List ByteArray):UsrM×NetM:=l.foldl Jk s
theorem Ad3(s:UsrM×NetM)(l:List ByteArray)(j:Nat)(h:j<l.length):JL s (l.take (j+1))=Jk (JL s (l.take j)) (l.getD j ByteArray.empty):=by
 unfold JL;rw[Br,Ap h,Cf,Au,Ap h];rfl
theorem RO:∀(l:List ByteArray) (s:UsrM×NetM),(JL s l).1.told.length=s.1.told.length+l.length/\(JL s l).2.n=s.2.n+l.length/\(GrOk s.1.gr->GrOk (JL s l).1.gr)
 | [],s=>⟨rfl,rfl,id⟩
 | d::l,s=>by
  obtain⟨a,b,c⟩:=RO l (Jk s d);have e:JL s (d::l)=JL (Jk s d) l:=rfl;rw[e];refine⟨a.trans ?_,b.trans ?_,fun hg=>c (hg.del _)⟩
  ·show(s.1.told++[d]).length+_=_;simp;omega
  ·show s.2.n+1+_=_;simp;omega
def PU (s:UsrM×NetM)(t:ByteArray):UsrM×NetM:=if (LR t).2 then JL ({s.1 with op:=s.1.op.take (LR t).1},s.2) (s.1.op.out (LR t).1) else s
theorem AgU{t:ByteArray}(h:t.size<=n):(LR t).1.sl.size<=n/\(LR t).1.data.size<=n:=by
 unfold LR
 split
 ·exact⟨Af _,Af _⟩
 ·simp only[CF];omega
theorem AgF{q:NetP}{s:UsrM×NetM}(t:ByteArray)(h:Hg w0 S w (setG (setG D 0 (FK q s.2)) g (usO p s.1)))(an:g≠0)(ht:t.size<=100000)(hl:s.1.told.length=s.1.op.fst)(ap:GrOk s.1.gr)(aw:OpOk s.1.op)(hn:s.2.n<=1000000000000):Calls prog 168 #[Fa q.b,Fa p.b,.string t] w fun e w'=>∃vt,e=.returned (.tuple #[])/\Hg w0 S w' (setG (setG D 0 (FK q (PU s t).2)) g (usO {p with vt:=vt} (PU s t).1)):=by
 have l:=fun wz=>SQ t wz
 obtain⟨ax,ay⟩:=AgU ht;obtain⟨P, eP⟩ := E7 (LR t);have HM:Hid (PU s t=if P.2 then JL ({s.1 with op:=s.1.op.take P.1},s.2) (s.1.op.out P.1) else s):=by rw[eP];rfl
 rw[<-eP]at l ax ay;clear eP;obtain⟨⟨r,m,sl⟩,ok⟩:=P;unfold PktM.val at l;dsimp only at l ax ay HM;unfold Fa;have A:=fun wz (hb:Below w.heap.size w wz)=>(h.below hb).Ii 11 255 [.int V r,.string m,.string sl]
 have H:=hid h
 cases ok with
 | false=>
  clear h A;go_enter func168,ntmps168
  go_wp2_with(go_at_call 208;refine(l _).mono ?_;rintro e w1 ⟨rfl,K⟩)
  try simp only[Exit.inBlock,Exit.then]
  refine Ah (Cd rfl _ _ _) rfl ?_;refine⟨p.vt,rfl,?_⟩;rw[HM.out];exact H.out.below (Fr K ((Ad _ w1).alloc (Ac _) _))
 | true=>
  clear h;go_enter func168,ntmps168;go_upto_region 1 with(go_at_call 208;refine(l _).mono ?_;rintro e w1 ⟨rfl,K⟩)
  have o:=A w1 K;change Hg w0 S (w1.alloc (.cells #[.int V r,.string m,.string sl] 255)) _ at o;obtain⟨y, ak⟩ := E7 w1.heap.size;rw[<-ak]at o ⊢;generalize (w1.alloc (.cells #[.int V r,.string m,.string sl] 255))=w2 at*;clear K A H l ak;have x:w2.cell? ⟨p.b,11,I⟩=E (J (E ⟨p.g2,0,I⟩)):=(o.box (j:=0) rfl).cell 11;have HC:=hid (o.act (j:=8) rfl (AiS p.g2 s.1.op w2));obtain⟨c, aa⟩ := E7 s.1.op.fst;have bg:c<=16777216:=by
   obtain⟨F,bm, -,hP⟩:=o.get (j:=8) rfl;rw[aa];exact hP.ok.few
  rw[<-aa]at HC hl;clear o aa;go_upto_region 3 with(go_at_call 137;refine HC.out.mono ?_;rintro e w3 ⟨c',⟨rfl,rfl⟩,C⟩;rw[Kr rfl]at C;have H3:=hid C;clear C)
  clear x HC;have x:w3.cell? ⟨p.b,11,I⟩=E (J (E ⟨p.g2,0,I⟩)):=(H3.out.box (j:=0) rfl).cell 11;have y0:w3.cell? ⟨y,0,I⟩=E (.int V r):=(H3.out.box (j:=11) rfl).cell 0;have y1:w3.cell? ⟨y,1,I⟩=E (.string m):=(H3.out.box (j:=11) rfl).cell 1;have y2:w3.cell? ⟨y,2,I⟩=E (.string sl):=(H3.out.box (j:=11) rfl).cell 2;have HT:=hid ((H3.out.below ((Ad _ w3).drew)).AbV (j:=8) rfl (Aow p.g2 s.1.op ⟨r,m,sl⟩ w3.drew (by dsimp only;omega) (by dsimp only;omega)) 12);unfold PktM.val at HT;generalize IX s.1.op ⟨r,m,sl⟩=te at*
  go_region_held3 (fun w'=>w'.cell? ⟨p.b,11,I⟩=E (J (E ⟨p.g2,0,I⟩))/\w'.cell? ⟨y,0,I⟩=E (.int V r)/\w'.cell? ⟨y,1,I⟩=E (.string m)/\w'.cell? ⟨y,2,I⟩=E (.string sl)) (first | exact⟨x,y0,y1,y2⟩ | exact q1 | go_keep) (first | (go_at_call 209;refine HT.out.mono ?_;rintro e w4 ⟨c',d',⟨a,k,rfl,au,rfl,rfl⟩,h4⟩;have H4:=hid h4;have q1:w4.cell? ⟨p.b,11,I⟩=E (J (E ⟨p.g2,0,I⟩))/\w4.cell? ⟨y,0,I⟩=E (.int V r)/\w4.cell? ⟨y,1,I⟩=E (.string m)/\w4.cell? ⟨y,2,I⟩=E (.string sl):=⟨(h4.box (j:=0) rfl).cell 11,(h4.box (j:=11) rfl).cell 0,(h4.box (j:=11) rfl).cell 1,(h4.box (j:=11) rfl).cell 2⟩;clear h4));clear q1 y0 y1 y2 x HT H3;have ai:=hid (fun j=>aw.out ⟨r,m,sl⟩ j);obtain⟨L, eL⟩ := E7 (s.1.op.out ⟨r,m,sl⟩);obtain⟨s0, f⟩ := E7 (({s.1 with op:=s.1.op.take ⟨r,m,sl⟩},s.2):UsrM×NetM);rw[<-eL]at H4 au ai HM ⊢;rw[<-f]at HM;have HM:=hid (HM.out.trans (Ab trivial));have h5:=(H4.out.drop 11).conv (O':=FQ (usO p s0.1) 12 (E (Ju 9 1 (U a L.length k) L.length (L.map Value.string)))) fun j=>by
   rw[f]
   rcases j with _ | _ | _ | _ | _ | _ | _ | _ | _ | _ | _ | _ | _ | j<;>rfl
  have e2:s.2=s0.2:=by rw[f]
  have ag:=hid (show s0.1.told.length=c by rw[f];exact hl);have az:=hid (show GrOk s0.1.gr by rw[f];exact ap);have bj:s0.2.n<=1000000000000:=by rw[<-e2];exact hn
  rw[e2]at h5;obtain⟨nL,ab⟩:∃n,n=L.length:=⟨_,rfl⟩;rw[<-ab]at h5 au ⊢;have ah:=hid ab;obtain⟨B0, -,av⟩:=h5.lst (j:=10) rfl;obtain⟨a0,c0,ac, -⟩:=Fg av;rw[ag.out]at ac;have ep:{p with vt:= U a0 c c0}=p:=by rw[<-ac]
  rw[<-ep]at h5;clear eL f H4 aw ap hl hn e2 ab av ep ac
  go_wp2_with fail
  go_loopw [36] (fun i wr=>∃j:Nat,j<=nL/\i=.int V (j:Int)/\∃a1 c1,Hid (Hg w0 S wr (setG (setG D 0 (FK q (JL s0 (L.take j)).2)) g (FQ (usO {p with vt:= U a1 (c+j) c1} (JL s0 (L.take j)).1) 12 (E (Ju 9 1 (U a nL k) nL (L.map Value.string))))))) (fun i _=>nL-(intOf i).toNat)
  case atStart=>exact⟨0,Af _,rfl,a0,c0,h5⟩
  case round=>
   obtain⟨j,hj,rfl,a1,c1,HR⟩:=hrel;clear h5
   by_cases bd:j<nL
   ·have M:j<L.length:=by rw[<-ah.out];exact bd
    obtain⟨z1,z2,z3⟩:=RO (L.take j) s0;rw[Ay,B8 (Db M),ag.out]at z1;rw[Ay,B8 (Db M)]at z2;have z4:=z3 az.out;have HS:=hid (Ad3 s0 L j M);have bh:=ai.out j;obtain⟨B, -,ho⟩:=HR.out.lst (j:=12) rfl;obtain⟨ga,ca,ea⟩:=Lh ho (by omega);simp only[Aq]at ea;obtain⟨rfl, -,rfl⟩:=ea;have a9:wr.cell? ⟨ga,j,I⟩=E (.string (L.getD j ByteArray.empty)):=by
     rw[CX ho j (by omega),A9,Au,Ap M];rfl
    generalize JL s0 (L.take j)=u at*;generalize L.getD j ByteArray.empty=d at*;have a5:wr.cell? ⟨p.b,14,I⟩=E (U a1 (c+j) c1):=(HR.out.box (j:=0) rfl).cell 14;have A:=HR.out.Ii 13 9 [.string d];change Hg w0 S (wr.alloc (.cells #[.string d] 9)) _ at A;obtain⟨B1,a8,ae⟩:=A.lst (j:=10) rfl;have a7:=A.box (j:=13) rfl;have H1:=hid A;obtain⟨i0,hi,ba,bb,bc⟩:=As Tryz.Rr;have bi:(j:Int)<(nL:Int):=by omega
    clear z3 A ho HR;rw[z1]at ae;have aj:=hid z1;clear z1;go_upto_region 7 with fail
    go_wp2_with(at_builtin;refine I3 (W:=wr.alloc (.cells #[.string d] 9)) B1 wr.heap.size underlying22 hi ba bb bc rfl (by omega) ae rfl _ _ rfl rfl rfl (news:=[.string d]) rfl ?_ ?_ ?_ ?_ a8 ?_)
    ·rfl
    ·unfold maxLen;omega
    ·omega
    intro v' w4 af ao al;have o:=H1.out.AnK (j:=10) (v:= U a1 (c+j) c1) rfl af ao (by rw[Ax];exact al);obtain⟨a2,c2,rfl, -⟩:=Fg af;have be:w4.cell? ⟨p.b,14,I⟩=E (U a1 (c+j) c1):=(o.box (j:=0) rfl).cell 14;have a6:=(o.box (j:=0) rfl).free 14;have C:=o.GK (j:=0) rfl 14 (U a2 (c+j+1) c2);clear af ao al ae a7 o a9 a5 H1;go_upto_region 8 with fail
    generalize (w4.setCell ⟨p.b,14,I⟩ (U a2 (c+j+1) c2))=w5 at*;clear be a6;have a4:w5.cell? ⟨p.b,13,I⟩=E (.map (E p.mg)):=(C.box (j:=0) rfl).cell 13;have aq:Gb ((c:Int)+(j:Int)):=⟨by omega,by omega⟩;obtain⟨y1,y2⟩:=z4.get ((c:Int)+(j:Int));have ar:=(C.Ags (j:=9) rfl).im.TX (k:=(c:Int)+(j:Int)) aq underlying89 (zv:=.int V 0) (zeroValue3 _) y1 rfl false;simp only[Ct,AV]at ar;have am:Gb (d.size:Int):=⟨by omega,by omega⟩;have ad:=hid (Sp (q:=q) (t:=u.2) (grI u.1.gr ((c:Int)+(j:Int))) (d.size:Int) (by rw[JJ D (Ck an)]at C;exact C) y2 am (by unfold Jf;omega));have a3:=hid (show Jk u d=({u.1 with told:=u.1.told++[d],gr:=J8 u.1.gr ((c:Int)+(j:Int)) I,grN:=u.1.grN-if (u.1.gr ((c:Int)+(j:Int))).isSome then 1 else 0},u.2.Tk (grI u.1.gr ((c:Int)+(j:Int))) (d.size:Int))by unfold Jk;rw[aj.out];rfl);generalize grI u.1.gr ((c:Int)+(j:Int))=bk at*;unfold Fa at ad;clear C y1 y2 am aq;go_upto_region 9 with(go_at_call 80;refine ad.out.mono ?_;rintro e w6 ⟨rfl,h6⟩)
    rw[JJ D an]at h6;have a4:w6.cell? ⟨p.b,13,I⟩=E (.map (E p.mg)):=(h6.box (j:=0) rfl).cell 13;obtain⟨w7,bf,hM,hk⟩:=(h6.Ags (j:=9) rfl).del (k:=(c:Int)+(j:Int)) ⟨by omega,by omega⟩ underlying89 0;have h7:=h6.put (j:=9) rfl (c':=gmC p.mg _ _) (fun F ⟨e,_⟩=>by subst e;exact⟨hk,rfl,hM⟩);have H7:=hid h7;clear h7 h6 hk hM ad ar
    go_wp2_with fail;refine⟨⟨j+1,by omega,by go_num,a2,c2,?_⟩,by simp[intOf];omega⟩;rw[HS.out,a3.out];refine(H7.out.drop 13).conv fun i=>?_
    rcases i with _ | _ | _ | _ | _ | _ | _ | _ | _ | _ | _ | _ | _ | _ | i
    case succ.succ.succ.succ.succ.succ.succ.succ.succ.succ.zero=>
     show E (Ju _ _ _ _ _)=E (Ju _ _ _ _ _);rw[AR,Ai,aj.out];rfl
    all_goals rfl
   ·obtain rfl:j=nL:=by omega
    go_wp2_with fail
    go_end0;have h9:=HR.out.drop 12;rw[Aw (by rw[<-ah.out];exact Ac _),<-HM.out]at h9;exact⟨_,rfl,h9.conv fun i=>by rcases i with _ | _ | _ | _ | _ | _ | _ | _ | _ | _ | _ | _ | _ | i<;>rfl⟩
end Go.Proofs.YtbjgfoiikhbonahGreatDoor
