import Derived.Test.YtbjgfoiikhbonahGreatDoorD29
set_option linter.unusedVariables false
set_option linter.unusedSimpArgs false
set_option maxRecDepth 100000
set_option maxHeartbeats 4000000
namespace Go.Proofs.YtbjgfoiikhbonahGreatDoor
open Go.ChangeShapes Go.WideShapes Go.ChangeAt Go.RowKit Go.Proofs.Tryz
open Value (int slice pointer string)
open IntKind (i64)
variable {B b g j k n:Nat}{D:Nat->Nat->Option Cm}{N O:Nat->Option Cm}{S:List Nat}{T:TypeId}{c:Cm}{cs xs:List Value}{gr:Int->Option Value}{o:Oper}{p:UsrP}{pr:PrM}{v:Value}{w w0:World}{x:Operand}{ρ:Operand->Value}
def OutM.Vq(o:OutM)(l:List ByteArray):OutM:=l.foldl (fun o s=>(o.KW s).m) o
theorem OutM.AhH(o:OutM)(l:List ByteArray)(j:Nat)(h:j<l.length):o.Vq (l.take (j+1))=((o.Vq (l.take j)).KW (l.getD j ByteArray.empty)).m:=by
 unfold OutM.Vq;rw[Br,Ap h,Cf,Au,Ap h];rfl
def SdM.OE(m:SdM)(k:Int):List ByteArray:=(List.range m.wait.length).map fun i=>US k (m.beg+i) (m.wait.getD i ByteArray.empty)
theorem SdM.Ra(m:SdM)(k:Int):(m.OE k).length=m.wait.length:=by simp[SdM.OE]
theorem SdM.AkB(m:SdM)(k:Int)(j:Nat)(h:j<m.wait.length):(m.OE k).getD j ByteArray.empty=US k (m.beg+j) (m.wait.getD j ByteArray.empty):=by simp[SdM.OE,List.getD,h]
theorem SdM.Aif(m:SdM)(k:Int)(j:Nat)(h:j<m.wait.length):(m.NC k).getD j .zero=QQ k (m.beg+j) (m.wait.getD j ByteArray.empty):=by simp[SdM.NC,List.getD,h]
def UsrM.Tp(u:UsrM):SdM:=if 0<u.op.fst then u.sl.cf (u.op.fst-1) else u.sl
def UsrM.move(u:UsrM):UsrM:={u with key:=u.key+7,snd:=(OutM.new 8).Vq (u.Tp.OE ((u.key+7:Nat):Int)),rcv:=InM.new 8,blk:=SendM.new 4,sht:=RecvM.new,ear:=none,sl:=u.Tp.move ((u.key+7:Nat):Int),op:=u.op.move ((u.key+7:Nat):Int)}
theorem AiS(g:Nat)(m:GcM)(w:World):NS 137 #[pointer (some ⟨g,0,none⟩)] w (gcC g m) fun e c=>e=.returned (int i64 (m.fst:Int))/\c=gcC g m:=fun _ F _ ⟨v,e,h⟩=>(AcD h).mono fun _ _ ⟨a,b⟩=>⟨_,⟨a,rfl⟩,b▸Kept.refl _ _,F,⟨v,e,b▸h⟩,fun _ d=> .inl d⟩
theorem AhX{u:UsrM}(h:Hg w0 S w (setG D g (usO p u)))(av:u.key<=2147483640):Calls prog 83 #[Fa p.b] w fun e w'=>∃p',p'.b=p.b/\p'.vt=p.vt/\e=.returned (.tuple #[])/\Hg w0 S w' (setG D g (usO p' u.move)):=by
 have an:u.op.fst<=16777216:=by
  obtain⟨F,bm, -,hP⟩:=h.get (j:=8) rfl;exact hP.ok.few
 have J:w.cell? ⟨p.b,11,none⟩=some (pointer (some ⟨p.g2,0,none⟩)):=(h.box (j:=0) rfl).cell 11;have HC:=hid (h.act (j:=8) rfl (AiS p.g2 u.op w));obtain⟨N,eN⟩:=E7 u.op.fst;rw[<-eN]at HC an;have HN:=hid eN;unfold Fa;clear eN h;go_enter func83,ntmps83
 go_upto_if 13 with(go_at_call 137;refine HC.out.mono ?_;rintro e w1 ⟨c',⟨rfl,rfl⟩,s⟩;rw[Kr rfl]at s;have H1:=hid s;have I:w1.cell? ⟨p.b,10,none⟩=some (pointer (some ⟨p.g1,0,none⟩)):=(s.box (j:=0) rfl).cell 10;clear s)
 go_cut [] (fun wx=>Hg w0 S wx (setG D g (FQ (usO p u) 7 (some (sdC p.g1 u.Tp)))))
 case first=>
  by_cases hN:0<N
  ·have d1:(0:Int)<(N:Int):=by omega
   go_wp2_with(go_at_call 138;rw[show((N:Int)-1)=((N-1:Nat):Int)by omega];refine(H1.out.act (j:=7) rfl (Aot p.g1 u.sl (N-1) w1)).mono ?_;rintro e w2 ⟨c',⟨⟨y9,rfl⟩,rfl⟩,Q⟩;have H2:=hid Q;clear Q)
   go_meet;have:u.Tp=u.sl.cf (N-1):=by unfold UsrM.Tp;rw[<-HN.out,Ab hN]
   rw[this];exact H2.out
  ·have d1:¬(0:Int)<(N:Int):=by omega
   go_wp2_with fail
   go_meet;have:u.Tp=u.sl:=by unfold UsrM.Tp;rw[<-HN.out,Aa hN]
   rw[this,Kr rfl];exact H1.out
 case rest=>
  have Q:=hcut;clear hcut H1 I J HC;generalize ag:u.Tp=sd at*;have k1:wc.cell? ⟨p.b,1,none⟩=some (int i64 (u.key:Int)):=(Q.box (j:=0) rfl).cell 1;have l1:=(Q.box (j:=0) rfl).free 1;have P:(u.key:Int)+7=((u.key+7:Nat):Int):=by omega
  have h3:=Q.GK (j:=0) rfl 1 (int i64 ((u.key+7:Nat):Int));have W:KZ ((u.key+7:Nat):Int)=true:=by unfold KZ;simp;omega
  have HU:Hid (u.move={u with key:=u.key+7,snd:=(OutM.new 8).Vq (sd.OE ((u.key+7:Nat):Int)),rcv:=InM.new 8,blk:=SendM.new 4,sht:=RecvM.new,ear:=none,sl:=sd.move ((u.key+7:Nat):Int),op:=u.op.move ((u.key+7:Nat):Int)}):=by rw[<-ag];rfl
  clear ag;obtain⟨K,eK⟩:=E7 (u.key+7);rw[<-eK]at h3 W P HU;have HK:=hid P;have HE:=hid eK;rw[<-P]at h3;clear P eK;go_upto_region 4 with fail
  generalize (wc.setCell ⟨p.b,1,none⟩ (int i64 ((u.key:Int)+7)))=w3 at*;rw[HK.out]at h3;have HP:Hid (Calls prog 76 #[] w3 fun e w'=>∃ps pr gb gs me,e=.returned (.agg #[pointer (some ps),pointer (some pr),pointer (some ⟨gb,0,none⟩),pointer (some ⟨gs,0,none⟩),.map (some me)])/\Hid (Hg w0 S w' (setG D g (AjS (FQ (FQ (usO p u) 7 (some (sdC p.g1 sd))) 0 (some (JP p.b 91 (S1 p {u with key:=K})))) ps pr gb gs me)))/\At w' p.b 91 (S1 p {u with key:=K})):=(Wi h3 rfl).mono fun e w' ⟨ps,pr,gb,gs,me,a,b⟩=>⟨ps,pr,gb,gs,me,a,b,b.box (j:=0) rfl⟩
  clear Q h3 k1 l1;go_upto_region 5 with(go_at_call 76;refine HP.out.mono ?_;rintro e E ⟨ps,pr,gb,gs,me,rfl,H4,l⟩;have q5:=l.free 5;have q6:=l.free 6;have q7:=l.free 7;have q8:=l.free 8;have q9:=l.free 9;have k5:E.cell? ⟨p.b,5,none⟩=some (pointer (some p.ps)):=l.cell 5;have k6:E.cell? ⟨p.b,6,none⟩=some (pointer (some p.pr)):=l.cell 6;have k7:E.cell? ⟨p.b,7,none⟩=some (pointer (some ⟨p.gb,0,none⟩)):=l.cell 7;have k8:E.cell? ⟨p.b,8,none⟩=some (pointer (some ⟨p.gs,0,none⟩)):=l.cell 8;have k9:E.cell? ⟨p.b,9,none⟩=some (.map (some p.me)):=l.cell 9;clear l)
  have h5:=(((((H4.out.GK (j:=0) rfl 5 (pointer (some ps))).GK (j:=0) rfl 6 (pointer (some pr))).GK (j:=0) rfl 7 (pointer (some ⟨gb,0,none⟩))).GK (j:=0) rfl 8 (pointer (some ⟨gs,0,none⟩))).GK (j:=0) rfl 9 (.map (some me))).drop 6;obtain⟨f,L⟩:∃q:UsrP,q={p with ps:=ps,pr:=pr,gb:=gb,gs:=gs,me:=me}:=⟨_,rfl⟩;have X:f.b=p.b:=by rw[L]
  have ak:=hid (show f.vt=p.vt by rw[L]);obtain⟨u1,M⟩:∃v:UsrM,v={u with key:=K,snd:=OutM.new 8,rcv:=InM.new 8,blk:=SendM.new 4,sht:=RecvM.new,ear:=none,sl:=sd}:=⟨_,rfl⟩;have z:=h5.conv (O':=usO f u1) fun j=>by
   rw[L,M]
   rcases j with _ | _ | _ | _ | _ | _ | _ | _ | _ | _ | _ | j
   case succ.succ.succ.succ.succ.zero=>
    show some (gmC _ _ _)=some (gmC _ _ _);rw[VU rfl];rfl
   all_goals rfl
  have V:u1.key=K:=by rw[M]
  have ac:=hid M;rw[<-X]at z |-;have aj:=hid X;generalize (((((E.setCell ⟨f.b,5,none⟩ (pointer (some ps))).setCell ⟨f.b,6,none⟩ (pointer (some pr))).setCell ⟨f.b,7,none⟩ (pointer (some ⟨gb,0,none⟩))).setCell ⟨f.b,8,none⟩ (pointer (some ⟨gs,0,none⟩))).setCell ⟨f.b,9,none⟩ (.map (some me)))=H at*;have J:H.cell? ⟨f.b,11,none⟩=some (pointer (some ⟨f.g2,0,none⟩)):=(z.box (j:=0) rfl).cell 11;have c1:H.cell? ⟨f.b,1,none⟩=some (int i64 (u1.key:Int)):=(z.box (j:=0) rfl).cell 1;have H6:=hid z;rw[V]at c1;have aa:=hid V;clear z h5 H4 HP M L q5 q6 q7 q8 q9 k5 k6 k7 k8 k9 V X
  go_region_held3 (fun w'=>w'.cell? ⟨f.b,11,none⟩=some (pointer (some ⟨f.g2,0,none⟩))/\w'.cell? ⟨f.b,1,none⟩=some (int i64 (K:Int))) (first | exact⟨J,c1⟩ | exact Y | go_keep) (first | (go_at_call 139;refine((H6.out.below ((Ad _ H).drew)).act (j:=8) rfl (Anf f.g2 u1.op (K:Int) H.drew W)).mono ?_;rintro e Z ⟨c',⟨rfl,rfl⟩,h7⟩;have H7:=hid h7;have Y:Z.cell? ⟨f.b,11,none⟩=some (pointer (some ⟨f.g2,0,none⟩))/\Z.cell? ⟨f.b,1,none⟩=some (int i64 (K:Int)):=⟨(h7.box (j:=0) rfl).cell 11,by rw[<-aa.out];exact(h7.box (j:=0) rfl).cell 1⟩;clear h7));clear Y J c1 H6;go_upto_region 6 with fail
  have I:Z.cell? ⟨f.b,10,none⟩=some (pointer (some ⟨f.g1,0,none⟩)):=(H7.out.box (j:=0) rfl).cell 10;have c1:Z.cell? ⟨f.b,1,none⟩=some (int i64 (K:Int)):=by grind
  go_region_held3 (fun w'=>w'.cell? ⟨f.b,10,none⟩=some (pointer (some ⟨f.g1,0,none⟩))/\w'.cell? ⟨f.b,1,none⟩=some (int i64 (K:Int))) (first | exact⟨I,c1⟩ | exact Y | go_keep) (first | (go_at_call 140;refine((H7.out.below ((Ad _ Z).drew)).AbV (j:=7) rfl (Ang f.g1 u1.sl (K:Int) Z.drew W) 11).mono ?_;rintro e w8 ⟨c',d',⟨G,rfl,rfl,rfl⟩,h8⟩;have H8:=hid h8;have Y:w8.cell? ⟨f.b,10,none⟩=some (pointer (some ⟨f.g1,0,none⟩))/\w8.cell? ⟨f.b,1,none⟩=some (int i64 (K:Int)):=⟨(h8.box (j:=0) rfl).cell 10,by rw[<-aa.out];exact(h8.box (j:=0) rfl).cell 1⟩;clear h8));clear Y I c1 H7;obtain⟨n,en⟩:=E7 u1.sl.wait.length;have af:n<=16777216/\∀i,i<n->(u1.sl.wait.getD i ByteArray.empty).size<=500:=by
   obtain⟨F,v, -,hP⟩:=H8.out.get (j:=7) rfl;have:=hP.ok.few;have Q:=hP.ok.small
   grind [SdM.move,SdM.nxt]
  obtain⟨hn,ah⟩:=af;have al:=hid ah;rw[<-en];have ab:=hid en;clear en ah;have R:=H8.out.conv (O':=FQ (usO f {u1 with snd:=(OutM.new 8).Vq ((u1.sl.OE (K:Int)).take 0),op:=u1.op.move (K:Int),sl:=u1.sl.move (K:Int)}) 11 (some (JP G 255 (FJ (u1.sl.NC (K:Int)))))) fun j=>by
   have:u1.snd=OutM.new 8:=by rw[ac.out]
   rcases j with _ | _ | _ | _ | _ | _ | _ | _ | _ | _ | _ | _ | j
   case succ.zero=>
    show some (RI _ _)=some (RI _ _);rw[this];rfl
   all_goals rfl
  go_wp2_with fail
  go_loopw [55] (fun i wr=>∃j:Nat,j<=n/\i=int i64 (j:Int)/\Hid (Hg w0 S wr (setG D g (FQ (usO f {u1 with snd:=(OutM.new 8).Vq ((u1.sl.OE (K:Int)).take j),op:=u1.op.move (K:Int),sl:=u1.sl.move (K:Int)}) 11 (some (JP G 255 (FJ (u1.sl.NC (K:Int))))))))) (fun i _=>n-(intOf i).toNat)
  case atStart=>exact⟨0,Af _,rfl,R⟩
  case round=>
   obtain⟨j,hj,rfl,HR⟩:=hrel;clear R H8
   by_cases ae:j<n
   ·have ad:j<u1.sl.wait.length:=by rw[<-ab.out];exact ae
    have aq:=al.out j ae;have hA:=HR.out.box (j:=11) rfl;have hc:∀t,t<3->wr.cell? ⟨G,j*3+t,none⟩=(QQ (K:Int) (u1.sl.beg+j) (u1.sl.wait.getD j ByteArray.empty)).cells[t]?:=fun t ht=>by rw[hA.cell (j*3+t),PI _ j t (by rw[SdM.WZ];exact ad) ht,SdM.Aif _ _ _ ad]
    have HT:=hid (show((OutM.new 8).Vq ((u1.sl.OE (K:Int)).take (j+1)))=(((OutM.new 8).Vq ((u1.sl.OE (K:Int)).take j)).KW (US (K:Int) (u1.sl.beg+j) (u1.sl.wait.getD j ByteArray.empty))).m by grind [OutM.AhH,SdM.Ra,SdM.AkB]);generalize u1.sl.wait.getD j ByteArray.empty=d at*;generalize u1.sl.beg+j=r at*;have ar:(LP d (Hb (K:Int) r)).size<=1500:=by rw[Lg];omega
    have au:(If r d).size<=1500:=by rw[UH];omega
    have ap:=fun wz=>Ov (r % 4096) (LP d (Hb (K:Int) r)) (If r d) wz ar au
    have HE:Hid (Ou (r % 4096) (LP d (Hb (K:Int) r)) (If r d)=US (K:Int) r d):=rfl;have x0:wr.cell? ⟨G,j*3,none⟩=some (int i64 ((r % 4096:Nat):Int)):=hc 0 (by omega);have x1:wr.cell? ⟨G,j*3+1,none⟩=some (string (LP d (Hb (K:Int) r))):=hc 1 (by omega);have x2:wr.cell? ⟨G,j*3+2,none⟩=some (string (If r d)):=hc 2 (by omega);generalize LP d (Hb (K:Int) r)=A at*;generalize If r d=B at*;generalize r % 4096=C at*;have s:=HR.out.Ii 12 255 [int i64 (C:Int),string A,string B];change Hg w0 S (wr.alloc (.cells #[int i64 (C:Int),string A,string B] 255)) _ at s;obtain⟨y,U⟩:=E7 wr.heap.size;rw[<-U]at s;have ai:=hid U;clear hA hc HR aq U;go_upto_region 10 with fail
    rw[<-ai.out];generalize (wr.alloc (.cells #[int i64 (C:Int),string A,string B] 255))=E at*;clear x0 x1 x2;have c5:E.cell? ⟨f.b,5,none⟩=some (pointer (some f.ps)):=(s.box (j:=0) rfl).cell 5;have y0:E.cell? ⟨y,0,none⟩=some (int i64 (C:Int)):=(s.box (j:=12) rfl).cell 0;have y1:E.cell? ⟨y,1,none⟩=some (string A):=(s.box (j:=12) rfl).cell 1;have y2:E.cell? ⟨y,2,none⟩=some (string B):=(s.box (j:=12) rfl).cell 2;have ao:(Ou C A B).size<=maxLen:=by
     unfold Ou maxLen;rw[CH,CH,BP]
     show 2+_+_<=_;omega
    have H4:=hid s;clear s
    go_region_held3 (fun w'=>w'.cell? ⟨f.b,5,none⟩=some (pointer (some f.ps))/\w'.cell? ⟨y,0,none⟩=some (int i64 (C:Int))/\w'.cell? ⟨y,1,none⟩=some (string A)/\w'.cell? ⟨y,2,none⟩=some (string B)) (first | exact⟨c5,y0,y1,y2⟩ | exact Y | exact q2 | go_keep) (first
     | (go_at_call 133;refine(ap _).mono ?_;rintro e H ⟨rfl,am⟩;have H5:=hid (H4.out.below (Fr ((Ad _ E).drew) am));have Y:H.cell? ⟨f.b,5,none⟩=some (pointer (some f.ps))/\H.cell? ⟨y,0,none⟩=some (int i64 (C:Int))/\H.cell? ⟨y,1,none⟩=some (string A)/\H.cell? ⟨y,2,none⟩=some (string B):=⟨(H5.out.box (j:=0) rfl).cell 5,(H5.out.box (j:=12) rfl).cell 0,(H5.out.box (j:=12) rfl).cell 1,(H5.out.box (j:=12) rfl).cell 2⟩)
     | (go_at_call 132;refine(H5.out.act (j:=1) rfl (Ae1 f.ps ((OutM.new 8).Vq ((u1.sl.OE (K:Int)).take j)) (Ou C A B) H ao)).mono ?_;rintro e w6 ⟨c',⟨rfl,rfl⟩,z⟩;have H6:=hid z;have q2:w6.cell? ⟨f.b,5,none⟩=some (pointer (some f.ps))/\w6.cell? ⟨y,0,none⟩=some (int i64 (C:Int))/\w6.cell? ⟨y,1,none⟩=some (string A)/\w6.cell? ⟨y,2,none⟩=some (string B):=⟨(z.box (j:=0) rfl).cell 5,(z.box (j:=12) rfl).cell 0,(z.box (j:=12) rfl).cell 1,(z.box (j:=12) rfl).cell 2⟩;clear z))
    go_wp2_with fail;refine⟨⟨j+1,by omega,by go_num,?_⟩,by simp[intOf];omega⟩;have R:=H6.out.drop 12;rw[HE.out]at R;refine R.conv fun j=>?_
    rw[HT.out]
    rcases j with _ | _ | _ | _ | _ | _ | _ | _ | _ | _ | _ | _ | _ | j<;>rfl
   ·obtain rfl:j=n:=by omega
    go_wp2_with fail
    go_end0;refine⟨f,aj.out,ak.out,rfl,?_⟩;have R:=HR.out.drop 11;rw[Aw (by rw[SdM.Ra,<-ab.out];exact Ac _)]at R;refine R.conv fun i=>?_
    rw[HU.out,ac.out]
    rcases i with _ | _ | _ | _ | _ | _ | _ | _ | _ | _ | _ | _ | i<;>rfl
def Ahl (M:Nat->Option ByteArray)(f:Nat):Nat->Nat
 | 0=>0
 | k+1=>if (M f).isSome then Ahl M (f+1) k+1 else 0
theorem Aa2(M:Nat->Option ByteArray):∀k f,M (f+k)=none->RunG M f (Ahl M f k)
 | 0,f,h=>⟨fun i hi=>absurd hi (CG _),h⟩
 | k+1,f,h=>by
  unfold Ahl
  split
  ·next hs=>
   obtain⟨a,d⟩:=Aa2 M k (f+1) (by rw[Nat.add_right_comm];exact h);refine⟨fun i hi=>?_,by grind⟩
   rcases i with _ | i
   ·exact hs
   grind
  ·next hs=>exact⟨fun i hi=>absurd hi (CG _),by simpa using hs⟩
def GcM.Abh(m:GcM)(p:PktM):Nat:=Ahl (m.put p).M m.fst 16777216
def GcM.take(m:GcM)(p:PktM):GcM:=if IX m p=0 then (m.put p).cut (m.Abh p) else m
def GcM.out(m:GcM)(p:PktM):List ByteArray:=if IX m p=0 then MY (m.put p).M m.fst (m.Abh p) else []
theorem Aow(g:Nat)(m:GcM)(p:PktM)(w:World)(E:p.sl.size<=140737488355328)(G:p.data.size<=140737488355328):YJ 209 #[pointer (some ⟨g,0,none⟩),p.val] w (gcC g m) fun e c d=>∃a k,e=.returned (.tuple #[slice a (m.out p).length k,int i64 (IX m p)])/\(m.out p).length<=16777216/\c=gcC g (m.take p)/\d=Ju 9 1 (slice a (m.out p).length k) (m.out p).length ((m.out p).map Value.string):=fun _ F _ ⟨s,e,h⟩=>by
 subst e;have f:∀x:Int,IX m p=x->x≠0->Calls prog 209 #[pointer (some ⟨g,0,none⟩),p.val] w (Qi w x)->Calls prog 209 #[pointer (some ⟨g,0,none⟩),p.val] w fun e w'=>∃c' d,(∃a k,e=.returned (.tuple #[slice a (m.out p).length k,int i64 (IX m p)])/\(m.out p).length<=16777216/\c'=gcC g (m.take p)/\d=Ju 9 1 (slice a (m.out p).length k) (m.out p).length ((m.out p).map Value.string))/\Kept (gcF g s) w w'/\∃F' D,c'.P w' F'/\Ga w.heap.size (gcF g s) F'/\d.P w' D/\∀x∈D,w.heap.size<=x/\x∉F':=fun x i I z=>by
  have e1:m.out p=[]:=by unfold GcM.out;rw[i,Aa I]
  have e2:m.take p=m:=by unfold GcM.take;rw[i,Aa I]
  rw[e1,e2,i];exact z.mono fun e w' ⟨H,t⟩=>⟨_,_,⟨none,0,H,Af _,rfl,rfl⟩,Kept.E5 t,gcF g s,[],⟨s,rfl,h.kept (S:=[]) (Kept.E5 t) (by simp)⟩,fun _ i=> .inl i,⟨rfl,0,Bj _ _ _ _⟩,by simp⟩
 by_cases r:IB p=true
 ·by_cases hi:N3 m.fst p.short=true
  ·by_cases l:p.sl=If (m.cnt p) (m.G9 p)
   ·have ht:IX m p=JQ m (m.cnt p):=by unfold IX;rw[Ab r,Ab hi,Ab l]
    by_cases i:JQ m (m.cnt p)=0
    ·have K:=Qs hi;have z:m.cnt p<16777216:=by unfold GcM.cnt;omega
     have A:m.fst<=m.cnt p:=by
      grind [JQ]
     have u:=h.ok.put z A;have J:RunG (m.put p).M m.fst (m.Abh p):=Aa2 _ _ _ (u.top _ (by omega));have Q:=J.le (m:=m.put p) u;have e1:m.out p=MY (m.put p).M m.fst (m.Abh p):=by unfold GcM.out;rw[ht,i,Ab rfl]
     have e2:m.take p=(m.put p).cut (m.Abh p):=by unfold GcM.take;rw[ht,i,Ab rfl]
     have e3:(m.out p).length=m.Abh p:=by rw[e1,Ny]
     rw[e3,e1,e2,ht,i];refine(Ai1 h p r hi l i J).mono fun e w' ⟨v,H,t,V,W⟩=>?_
     obtain⟨a,c,rfl, -, -,R⟩:=Fg t;refine⟨_,_,⟨a,c,H,by grind,rfl,rfl⟩,V,gcF g s,_,⟨s,rfl,W⟩,fun _ i=> .inl i,⟨rfl,_,t⟩,fun y U=>?_⟩;have C:(slice a (m.Abh p) c).ownBlock=some y:=by simpa using U
     have L:=(AB t y C).1;exact⟨L,fun q=>by have:=h.lt y q;omega⟩
    ·exact f _ ht i (Agb h p r hi l _ rfl i)
   ·exact f 4 (by unfold IX;rw[Ab r,Ab hi,Aa l]) (by omega) (AcJ h p r hi l)
  ·exact f 3 (by unfold IX;rw[Ab r,Aa hi]) (by omega) (ZG h p r (by simpa using hi))
 ·exact f 3 (by unfold IX;rw[Aa r]) (by omega) (AcI p E G (by simpa using r))
theorem Hg.lst(h:Hg w0 S w (setG D g O))(hi:O j=some (Ju T k v n xs)):∃B,B<=w.heap.size/\w.ownsRow B T k v n xs:=by
 obtain⟨F, -,B,h⟩:=h.get hi
 cases a:v.ownBlock with
 | none=>
  rcases h with⟨d,⟨rfl,rfl⟩ | ⟨q,c,cur,rfl, -⟩⟩
  ·exact⟨0,Af _,d,.inl ⟨rfl,rfl⟩⟩
  ·cases a
 | some y=>exact⟨B,by have:=AB h y a;omega,h⟩
theorem Hg.AnK{w':World}(h:Hg w0 S w (setG D g O)){n':Nat}{v':Value}{a:List Value}(hi:O j=some (Ju T k v n xs))(l:w'.ownsRow B T k v' n' a)(hg:w.grownBy w' v.ownBlock)(m:v'.ownBlock=v.ownBlock\/v'.ownBlock=some w.heap.size):Hg w0 S w' (setG D g (FQ O j (some (Ju T k v' n' a)))):=by
 obtain⟨F,h⟩:=h;have d:(fun i:Nat×Nat=>setG D g O i.1 i.2) (g,j)=some (Ju T k v n xs):=by show setG D g O g j=_;rw[IW];exact hi
 obtain⟨f, -⟩:=(h.each _ _ d).1
 have e:=h.step (c':=Ju T k v' n' a) (F':=v'.ownBlock.toList) d (by rw[f];exact Kept.PR hg) ⟨rfl,B,l⟩ (fun x q=>by
  grind)
 rw[JI]at e;exact e
structure NetP where
 b:Nat
 c:Nat
 r:Nat
 us:List Value
structure NetM where
 co:CoM
 n:Nat
 last:Nat
 opn:Bool
 cr:Nat->Int
def FK (q:NetP)(t:NetM):Nat->Option Cm
 | 0=>some (JP q.b 47 (Fa q.c::Fa q.r::q.us))
 | 1=>some (coC q.c t.co t.n)
 | 2=>some (tuC q.r t.last t.opn t.cr)
 | _=>none
def NetM.Tk(t:NetM)(g b:Int):NetM:={t with co:=(t.co.Fx g 1 b true).m,n:=t.n+1}
theorem Sp{q:NetP}{t:NetM}(g b:Int)(h:Hg w0 S w (setG D 0 (FK q t)))(hg:Gb g)(m:Gb b)(r:t.n<Jf):Calls prog 80 #[Fa q.b,int i64 g,int i64 b] w fun e w'=>e=.returned (.tuple #[])/\Hg w0 S w' (setG D 0 (FK q (t.Tk g b))):=by
 have c0:w.cell? ⟨q.b,0,none⟩=some (pointer (some ⟨q.c,0,none⟩)):=(h.box (j:=0) rfl).cell 0;have i:=hid (h.act (j:=1) rfl (Alh (fun F l=>Zr (t.n+1) (g:=g) (t:=1) (b:=b) (f:=true) l hg ⟨by omega,by omega⟩ m r (Bx _) fun _=>Ac _)));unfold Fa Kt at*;clear h;go_enter func80,ntmps80
 go_wp2_with(go_at_call 134;refine i.out.mono ?_;rintro e w1 ⟨c',⟨rfl,rfl⟩,a⟩;have d:=hid a;clear a)
 go_end0;exact⟨rfl,d.out.conv fun j=>by rcases j with _ | _ | _ | j<;>rfl⟩
theorem Lh(h:w.ownsRow B T k v n xs)(d:0<n):∃g c,v=slice (some ⟨g,0,none⟩) n c:=by
 rcases h with⟨-,⟨-,a⟩ | ⟨x,y,z,e, -⟩⟩
 ·omega
 ·exact⟨x,y,e⟩
def OpOk (m:GcM):Prop:=∀k x,m.M k=some x->x.size<=500
theorem OpOk.put{m:GcM}(h:OpOk m){p:PktM}(d:IB p=true):OpOk (m.put p):=fun k x a=>by
 unfold GcM.put KN at a;dsimp only at a
 split at a
 ·obtain rfl:=AX a;unfold GcM.G9;rw[Lg];exact(MK d).2.2
 ·exact h k x a
theorem Q8{m:GcM}{p:PktM}(h:IX m p=0):IB p=true:=by
 unfold IX at h
 grind
theorem OpOk.take{m:GcM}(h:OpOk m)(p:PktM):OpOk (m.take p):=by
 unfold GcM.take
 split
 ·next e=>
  intro k x a;unfold GcM.cut Tu at a;dsimp only at a
  split at a
  ·cases a
  ·exact h.put (Q8 e) k x a
 ·exact h
theorem OpOk.out{m:GcM}(h:OpOk m)(p:PktM)(j:Nat):((m.out p).getD j ByteArray.empty).size<=500:=by
 unfold GcM.out
 split
 ·next e=>
  by_cases d:j<m.Abh p
  ·rw[Au];simp only[MY,A9,Ch d,Cx,Ei]
   cases a:(m.put p).M (m.fst+j)with
   | none=>exact Af _
   | some x=>exact h.put (Q8 e) _ x a
  ·rw[Au,AY (by rw[Ny];omega)];exact Af _
 ·exact Af _
def grI (gr:Int->Option Value)(k:Int):Int:=match gr k with
 | some (.int _ x)=>x
 | _=>0
def GrOk (gr:Int->Option Value):Prop:=∀k v,gr k=some v->∃x,v=int i64 x/\Gb x
theorem GrOk.get(h:GrOk gr)(k:Int):(gr k).getD (int i64 0)=int i64 (grI gr k)/\Gb (grI gr k):=by
 unfold grI
 cases e:gr k with
 | none=>exact⟨rfl,(by unfold Gb;omega:Gb 0)⟩
 | some v=>
  obtain⟨x,rfl,a⟩:=h k v e;exact⟨rfl,a⟩
theorem GrOk.del(h:GrOk gr)(k:Int):GrOk (J8 gr k none):=by grind [GrOk,J8]
def Jk (s:UsrM×NetM)(d:ByteArray):UsrM×NetM:=({s.1 with told:=s.1.told++[d],gr:=J8 s.1.gr (s.1.told.length:Int) none,grN:=s.1.grN-if (s.1.gr (s.1.told.length:Int)).isSome then 1 else 0},s.2.Tk (grI s.1.gr (s.1.told.length:Int)) (d.size:Int))
def JL (s:UsrM×NetM)(l:List ByteArray):UsrM×NetM:=l.foldl Jk s
theorem Ad3(s:UsrM×NetM)(l:List ByteArray)(j:Nat)(h:j<l.length):JL s (l.take (j+1))=Jk (JL s (l.take j)) (l.getD j ByteArray.empty):=by
 unfold JL;rw[Br,Ap h,Cf,Au,Ap h];rfl
theorem RO:∀(l:List ByteArray) (s:UsrM×NetM),(JL s l).1.told.length=s.1.told.length+l.length/\(JL s l).2.n=s.2.n+l.length/\(GrOk s.1.gr->GrOk (JL s l).1.gr)
 | [],s=>⟨rfl,rfl,id⟩
 | d::l,s=>by
  obtain⟨a,f,h⟩:=RO l (Jk s d);have e:JL s (d::l)=JL (Jk s d) l:=rfl;rw[e];refine⟨a.trans ?_,f.trans ?_,fun hg=>h (hg.del _)⟩
  ·show(s.1.told++[d]).length+_=_;simp;omega
  ·show s.2.n+1+_=_;simp;omega
def PU (s:UsrM×NetM)(t:ByteArray):UsrM×NetM:=if (LR t).2 then JL ({s.1 with op:=s.1.op.take (LR t).1},s.2) (s.1.op.out (LR t).1) else s
theorem AgU{t:ByteArray}(h:t.size<=n):(LR t).1.sl.size<=n/\(LR t).1.data.size<=n:=by
 unfold LR
 split
 ·exact⟨Af _,Af _⟩
 ·simp only[CF];omega
theorem AgF{q:NetP}{s:UsrM×NetM}(t:ByteArray)(h:Hg w0 S w (setG (setG D 0 (FK q s.2)) g (usO p s.1)))(ah:g≠0)(ht:t.size<=100000)(hl:s.1.told.length=s.1.op.fst)(aj:GrOk s.1.gr)(ao:OpOk s.1.op)(hn:s.2.n<=1000000000000):Calls prog 168 #[Fa q.b,Fa p.b,.string t] w fun e w'=>∃vt,e=.returned (.tuple #[])/\Hg w0 S w' (setG (setG D 0 (FK q (PU s t).2)) g (usO {p with vt:=vt} (PU s t).1)):=by
 have m:=fun wz=>SQ t wz
 obtain⟨ap,aq⟩:=AgU ht;obtain⟨P,eP⟩:=E7 (LR t);have M:Hid (PU s t=if P.2 then JL ({s.1 with op:=s.1.op.take P.1},s.2) (s.1.op.out P.1) else s):=by rw[eP];rfl
 rw[<-eP]at m ap aq;clear eP;obtain⟨⟨y,r,sl⟩,ok⟩:=P;unfold PktM.val at m;dsimp only at m ap aq M;unfold Fa;have E:=fun wz (hb:Below w.heap.size w wz)=>(h.below hb).Ii 11 255 [.int i64 y,.string r,.string sl]
 have H:=hid h
 cases ok with
 | false=>
  clear h E;go_enter func168,ntmps168
  go_wp2_with(go_at_call 208;refine(m _).mono ?_;rintro e w1 ⟨rfl,J⟩)
  try simp only[Exit.inBlock,Exit.then]
  refine Ah (Cd rfl _ _ _) rfl ?_;refine⟨p.vt,rfl,?_⟩;rw[M.out];exact H.out.below (Fr J ((Ad _ w1).alloc (Ac _) _))
 | true=>
  clear h;go_enter func168,ntmps168;go_upto_region 1 with(go_at_call 208;refine(m _).mono ?_;rintro e w1 ⟨rfl,J⟩)
  have u:=E w1 J;change Hg w0 S (w1.alloc (.cells #[.int i64 y,.string r,.string sl] 255)) _ at u;obtain⟨C,ae⟩:=E7 w1.heap.size;rw[<-ae]at u |-;generalize (w1.alloc (.cells #[.int i64 y,.string r,.string sl] 255))=w2 at*;clear J E H m ae;have A:w2.cell? ⟨p.b,11,none⟩=some (pointer (some ⟨p.g2,0,none⟩)):=(u.box (j:=0) rfl).cell 11;have HC:=hid (u.act (j:=8) rfl (AiS p.g2 s.1.op w2));obtain⟨f,Q⟩:=E7 s.1.op.fst;have ba:f<=16777216:=by
   obtain⟨F,bm, -,hP⟩:=u.get (j:=8) rfl;rw[Q];exact hP.ok.few
  rw[<-Q]at HC hl;clear u Q;go_upto_region 3 with(go_at_call 137;refine HC.out.mono ?_;rintro e w3 ⟨c',⟨rfl,rfl⟩,I⟩;rw[Kr rfl]at I;have H3:=hid I;clear I)
  clear A HC;have A:w3.cell? ⟨p.b,11,none⟩=some (pointer (some ⟨p.g2,0,none⟩)):=(H3.out.box (j:=0) rfl).cell 11;have y0:w3.cell? ⟨C,0,none⟩=some (.int i64 y):=(H3.out.box (j:=11) rfl).cell 0;have y1:w3.cell? ⟨C,1,none⟩=some (.string r):=(H3.out.box (j:=11) rfl).cell 1;have y2:w3.cell? ⟨C,2,none⟩=some (.string sl):=(H3.out.box (j:=11) rfl).cell 2;have HT:=hid ((H3.out.below ((Ad _ w3).drew)).AbV (j:=8) rfl (Aow p.g2 s.1.op ⟨y,r,sl⟩ w3.drew (by dsimp only;omega) (by dsimp only;omega)) 12);unfold PktM.val at HT;generalize IX s.1.op ⟨y,r,sl⟩=te at*
  go_region_held3 (fun w'=>w'.cell? ⟨p.b,11,none⟩=some (pointer (some ⟨p.g2,0,none⟩))/\w'.cell? ⟨C,0,none⟩=some (.int i64 y)/\w'.cell? ⟨C,1,none⟩=some (.string r)/\w'.cell? ⟨C,2,none⟩=some (.string sl)) (first | exact⟨A,y0,y1,y2⟩ | exact q1 | go_keep) (first | (go_at_call 209;refine HT.out.mono ?_;rintro e w4 ⟨c',d',⟨a,k,rfl,am,rfl,rfl⟩,h4⟩;have H4:=hid h4;have q1:w4.cell? ⟨p.b,11,none⟩=some (pointer (some ⟨p.g2,0,none⟩))/\w4.cell? ⟨C,0,none⟩=some (.int i64 y)/\w4.cell? ⟨C,1,none⟩=some (.string r)/\w4.cell? ⟨C,2,none⟩=some (.string sl):=⟨(h4.box (j:=0) rfl).cell 11,(h4.box (j:=11) rfl).cell 0,(h4.box (j:=11) rfl).cell 1,(h4.box (j:=11) rfl).cell 2⟩;clear h4));clear q1 y0 y1 y2 A HT H3;have ac:=hid (fun j=>ao.out ⟨y,r,sl⟩ j);obtain⟨L,eL⟩:=E7 (s.1.op.out ⟨y,r,sl⟩);obtain⟨s0,l⟩:=E7 (({s.1 with op:=s.1.op.take ⟨y,r,sl⟩},s.2):UsrM×NetM);rw[<-eL]at H4 am ac M |-;rw[<-l]at M;have M:=hid (M.out.trans (Ab trivial));have h5:=(H4.out.drop 11).conv (O':=FQ (usO p s0.1) 12 (some (Ju 9 1 (slice a L.length k) L.length (L.map Value.string)))) fun j=>by
   rw[l]
   rcases j with _ | _ | _ | _ | _ | _ | _ | _ | _ | _ | _ | _ | _ | j<;>rfl
  have e2:s.2=s0.2:=by rw[l]
  have aa:=hid (show s0.1.told.length=f by rw[l];exact hl);have ar:=hid (show GrOk s0.1.gr by rw[l];exact aj);have bd:s0.2.n<=1000000000000:=by rw[<-e2];exact hn
  rw[e2]at h5;obtain⟨Z,R⟩:∃n,n=L.length:=⟨_,rfl⟩;rw[<-R]at h5 am |-;have ab:=hid R;obtain⟨B0, -,an⟩:=h5.lst (j:=10) rfl;obtain⟨a0,c0,U, -⟩:=Fg an;rw[aa.out]at U;have ep:{p with vt:=slice a0 f c0}=p:=by rw[<-U]
  rw[<-ep]at h5;clear eL l H4 ao aj hl hn e2 R an ep U
  go_wp2_with fail
  go_loopw [36] (fun i wr=>∃j:Nat,j<=Z/\i=.int i64 (j:Int)/\∃a1 c1,Hid (Hg w0 S wr (setG (setG D 0 (FK q (JL s0 (L.take j)).2)) g (FQ (usO {p with vt:=slice a1 (f+j) c1} (JL s0 (L.take j)).1) 12 (some (Ju 9 1 (slice a Z k) Z (L.map Value.string))))))) (fun i _=>Z-(intOf i).toNat)
  case atStart=>exact⟨0,Af _,rfl,a0,c0,h5⟩
  case round=>
   obtain⟨j,hj,rfl,a1,c1,HR⟩:=hrel;clear h5
   by_cases a7:j<Z
   ·have K:j<L.length:=by rw[<-ab.out];exact a7
    obtain⟨z1,z2,z3⟩:=RO (L.take j) s0;rw[Ay,B8 (Db K),aa.out]at z1;rw[Ay,B8 (Db K)]at z2;have z4:=z3 ar.out;have HS:=hid (Ad3 s0 L j K);have bb:=ac.out j;obtain⟨B, -,ho⟩:=HR.out.lst (j:=12) rfl;obtain⟨ga,ca,ea⟩:=Lh ho (by omega);simp only[Aq]at ea;obtain⟨rfl, -,rfl⟩:=ea;have a3:wr.cell? ⟨ga,j,none⟩=some (.string (L.getD j ByteArray.empty)):=by
     rw[CX ho j (by omega),A9,Au,Ap K];rfl
    generalize JL s0 (L.take j)=z at*;generalize L.getD j ByteArray.empty=d at*;have aw:wr.cell? ⟨p.b,14,none⟩=some (slice a1 (f+j) c1):=(HR.out.box (j:=0) rfl).cell 14;have E:=HR.out.Ii 13 9 [.string d];change Hg w0 S (wr.alloc (.cells #[.string d] 9)) _ at E;obtain⟨B1,az,X⟩:=E.lst (j:=10) rfl;have ay:=E.box (j:=13) rfl;have H1:=hid E;obtain⟨i0,hi,a4,a5,a6⟩:=As Tryz.Rr;have bc:(j:Int)<(Z:Int):=by omega
    clear z3 E ho HR;rw[z1]at X;have ad:=hid z1;clear z1;go_upto_region 7 with fail
    go_wp2_with(at_builtin;refine I3 (W:=wr.alloc (.cells #[.string d] 9)) B1 wr.heap.size underlying22 hi a4 a5 a6 rfl (by omega) X rfl _ _ rfl rfl rfl (news:=[.string d]) rfl ?_ ?_ ?_ ?_ az ?_)
    ·rfl
    ·unfold maxLen;omega
    ·omega
    intro v' w4 Y ai af;have u:=H1.out.AnK (j:=10) (v:=slice a1 (f+j) c1) rfl Y ai (by rw[Ax];exact af);obtain⟨a2,c2,rfl, -⟩:=Fg Y;have a8:w4.cell? ⟨p.b,14,none⟩=some (slice a1 (f+j) c1):=(u.box (j:=0) rfl).cell 14;have ax:=(u.box (j:=0) rfl).free 14;have I:=u.GK (j:=0) rfl 14 (slice a2 (f+j+1) c2);clear Y ai af X ay u a3 aw H1;go_upto_region 8 with fail
    generalize (w4.setCell ⟨p.b,14,none⟩ (slice a2 (f+j+1) c2))=w5 at*;clear a8 ax;have av:w5.cell? ⟨p.b,13,none⟩=some (.map (some p.mg)):=(I.box (j:=0) rfl).cell 13;have ak:Gb ((f:Int)+(j:Int)):=⟨by omega,by omega⟩;obtain⟨y1,y2⟩:=z4.get ((f:Int)+(j:Int));have al:=(I.Ags (j:=9) rfl).im.TX (k:=(f:Int)+(j:Int)) ak underlying89 (zv:=.int i64 0) (zeroValue3 _) y1 rfl false;simp only[Ct,AV]at al;have ag:Gb (d.size:Int):=⟨by omega,by omega⟩;have V:=hid (Sp (q:=q) (t:=z.2) (grI z.1.gr ((f:Int)+(j:Int))) (d.size:Int) (by rw[JJ D (Ck ah)]at I;exact I) y2 ag (by unfold Jf;omega));have au:=hid (show Jk z d=({z.1 with told:=z.1.told++[d],gr:=J8 z.1.gr ((f:Int)+(j:Int)) none,grN:=z.1.grN-if (z.1.gr ((f:Int)+(j:Int))).isSome then 1 else 0},z.2.Tk (grI z.1.gr ((f:Int)+(j:Int))) (d.size:Int))by unfold Jk;rw[ad.out];rfl);generalize grI z.1.gr ((f:Int)+(j:Int))=G at*;unfold Fa at V;clear I y1 y2 ag ak;go_upto_region 9 with(go_at_call 80;refine V.out.mono ?_;rintro e w6 ⟨rfl,h6⟩)
    rw[JJ D ah]at h6;have av:w6.cell? ⟨p.b,13,none⟩=some (.map (some p.mg)):=(h6.box (j:=0) rfl).cell 13;obtain⟨w7,a9,hM,hk⟩:=(h6.Ags (j:=9) rfl).del (k:=(f:Int)+(j:Int)) ⟨by omega,by omega⟩ underlying89 0;have h7:=h6.put (j:=9) rfl (c':=gmC p.mg _ _) (fun F ⟨e,_⟩=>by subst e;exact⟨hk,rfl,hM⟩);have H7:=hid h7;clear h7 h6 hk hM V al
    go_wp2_with fail;refine⟨⟨j+1,by omega,by go_num,a2,c2,?_⟩,by simp[intOf];omega⟩;rw[HS.out,au.out];refine(H7.out.drop 13).conv fun i=>?_
    rcases i with _ | _ | _ | _ | _ | _ | _ | _ | _ | _ | _ | _ | _ | _ | i
    case succ.succ.succ.succ.succ.succ.succ.succ.succ.succ.zero=>
     show some (Ju _ _ _ _ _)=some (Ju _ _ _ _ _);rw[AR,Ai,ad.out];rfl
    all_goals rfl
   ·obtain rfl:j=Z:=by omega
    go_wp2_with fail
    go_end0;have h9:=HR.out.drop 12;rw[Aw (by rw[<-ab.out];exact Ac _),<-M.out]at h9;exact⟨_,rfl,h9.conv fun i=>by rcases i with _ | _ | _ | _ | _ | _ | _ | _ | _ | _ | _ | _ | _ | i<;>rfl⟩
theorem Uj(s:ByteArray):∀(f p:Nat) (l:List ItemM),Gg s f p=some l->∀x∈l,x.data.size<=s.size
 | 0,p,l,h,x,a=>by
  unfold Gg at h
  cases h
  cases a
 | f+1,p,l,h,x,a=>by
  unfold Gg at h
  split at h
  ·split at h
   ·cases h
   ·split at h
    ·cases h
    ·cases e:Gg s f (p+3+Gh s p)with
     | none=>rw[e]at h;cases h
     | some l'=>
      rw[e]at h
      cases h
      rcases Ar.1 a with rfl | a
      ·unfold Id;simp only[CF];omega
      ·exact Uj s f _ l' e x a
  ·cases h
   cases a
theorem AgY(t:ByteArray):(Yc t).1.data.size<=t.size:=by
 unfold Yc
 split
 ·exact Af _
 ·simp only[CF];omega
theorem Ado(s:ByteArray):(Hr s).1.data.size<=s.size:=by
 unfold Hr
 split
 ·next x e=>
  split
  ·refine Ak (AgY _) ?_;unfold KV at e
   split at e
   ·cases e
   ·split at e
    ·cases e
    ·next l hl=>
     split at e
     ·cases e;exact Uj s _ _ _ hl x AL
     ·cases e
  ·exact Af _
 ·exact Af _
def InOk (r:InM):Prop:=∀u n,r.len u=some n->n<=1500
theorem InOk.put{r:InM}(h:InOk r)(u:Nat){p:PieceM}(e:p.bad=false):InOk (r.put u p):=fun v n a=>by
 unfold InM.put at a;dsimp only at a
 split at a
 ·cases a;obtain⟨-, -, -, -,d, -⟩:=O3 e;exact d
 ·exact h v n a
theorem AbC(r:InM)(u:Nat):(r.RP u).size=(r.len u).getD 0:=by
 unfold InM.RP;simp[ByteArray.size]
theorem InOk.take{r:InM}(h:InOk r)(p:PieceM):InOk (r.take p).m/\∀j,((r.take p).out.getD j ByteArray.empty).size<=1500:=by
 have d:∀j,(([]:List ByteArray).getD j ByteArray.empty).size<=1500:=fun j=>Af _
 unfold InM.take
 split
 ·exact⟨h,d⟩
 ·next hb=>
  split
  ·exact⟨h,d⟩
  ·split
   ·exact⟨h,d⟩
   ·have f:=h.put (r.fst+E9 p.num r.fst) (p:=p) (by simpa using hb);generalize r.put (r.fst+E9 p.num r.fst) p=a at*;refine⟨f,fun j=>?_⟩;unfold InM.Ad2;dsimp only
    by_cases i:j<a.upto-a.fst
    ·rw[Au,A9,Ch i];simp only[Cx,Ei,AbC]
     cases e:a.len (a.fst+j)with
     | none=>exact Af _
     | some n=>exact f _ n e
    ·rw[Au,AY (by simp;omega)];exact Af _
structure UOk(u:UsrM):Prop where
 len:u.told.length=u.op.fst
 gr:GrOk u.gr
 op:OpOk u.op
theorem Adi(m:GcM)(p:PktM):(m.take p).fst=m.fst+(m.out p).length:=by
 unfold GcM.take GcM.out
 split
 ·rw[Ny];rfl
 ·rfl
theorem AbB:∀(l:List ByteArray) (s:UsrM×NetM),(JL s l).1.op=s.1.op/\(JL s l).1.rcv=s.1.rcv
 | [],_=>⟨rfl,rfl⟩
 | d::l,s=>AbB l (Jk s d)
structure OpKeep(s s':UsrM×NetM):Prop where
 ok:UOk s'.1
 n:s'.2.n+s.1.told.length=s.2.n+s'.1.told.length
 le:s.1.told.length<=s'.1.told.length
theorem OpKeep.refl{s:UsrM×NetM}(h:UOk s.1):OpKeep s s:=⟨h,rfl,Ac _⟩
theorem OpKeep.trans{a b c:UsrM×NetM}(h:OpKeep a b)(k:OpKeep b c):OpKeep a c:=⟨k.ok,by have:=h.n;have:=k.n;have:=h.le;have:=k.le;omega,Ak h.le k.le⟩
theorem X6{s:UsrM×NetM}(h:UOk s.1)(t:ByteArray):OpKeep s (PU s t):=by
 unfold PU
 split
 ·obtain⟨d,e,f⟩:=RO (s.1.op.out (LR t).1) ({s.1 with op:=s.1.op.take (LR t).1},s.2);have a:=(AbB (s.1.op.out (LR t).1) ({s.1 with op:=s.1.op.take (LR t).1},s.2)).1;have e1:=d;have e2:=e;generalize JL ({s.1 with op:=s.1.op.take (LR t).1},s.2) (s.1.op.out (LR t).1)=z at*;change z.1.told.length=s.1.told.length+_ at e1;change z.2.n=s.2.n+_ at e2;refine⟨⟨?_,f h.gr,?_⟩,?_,?_⟩
  ·rw[e1,a,Adi,h.len]
  ·rw[a];exact h.op.take _
  ·omega
  ·omega
 ·exact .refl h
def Ry (s:UsrM×NetM)(l:List ByteArray):UsrM×NetM:=l.foldl PU s
theorem AgQ(s:UsrM×NetM)(l:List ByteArray)(j:Nat)(h:j<l.length):Ry s (l.take (j+1))=PU (Ry s (l.take j)) (l.getD j ByteArray.empty):=by
 unfold Ry;rw[Br,Ap h,Cf,Au,Ap h];rfl
theorem X5:∀(l:List ByteArray) {s:UsrM×NetM},UOk s.1->OpKeep s (Ry s l)
 | [],_,h=> .refl h
 | d::l,_,h=>(X6 h d).trans (X5 l (X6 h d).ok)
theorem Hp.ren{C l:Nat×Nat->Option Cm}(h:Hp w0 S w C)(f:Nat×Nat->Nat×Nat)(m:∀i,l i≠none->l i=C (f i))(t:∀i j,l i≠none->l j≠none->i≠j->f i≠f j):Hp w0 S w l:=by
 obtain⟨F,a,b,c,d,e,k⟩:=h;exact⟨fun i=>F (f i),a,b,c,d,fun i x s=>e (f i) x ((m i (by rw[s];simp)).symm.trans s),fun i j q hi r=>k (f i) (f j) (t i j hi r q) (m i hi▸hi) (m j r▸r)⟩
def Jt (c:Cm):Nat->Option Cm:=fun j=>if j=0 then some c else none
theorem Hg.Al1{t:Nat}(h:Hg w0 S w (setG (setG D 0 N) g (FQ O t (some c))))(r:O t=none)(k:Nat)(l:k≠0)(m:k≠g):Hg w0 S w (setG (setG (setG D k (Jt c)) 0 N) g O):=by
 refine Hp.ren h (fun i=>if i.1=k then (g,t) else i) (fun⟨a,b⟩ hi=>?_) (fun⟨a,b⟩ ⟨a',q⟩ hi f d=>?_)
 ·unfold setG Jt at hi |-;unfold FQ
  by_cases e:a=k
  ·subst e
   grind
  ·by_cases e2:a=g
   ·subst e2;simp only[e,AV,AP]at hi |-
    grind
   ·simp[e,e2]
 ·unfold setG Jt at hi f
  grind
theorem Hg.UV(h:Hg w0 S w (setG (setG (setG D k (Jt c)) 0 N) g O))(l:D k=fun _=>none)(e:k≠0)(f:k≠g):Hg w0 S w (setG (setG D 0 N) g O):=by
 refine Hp.ren h id (fun⟨a,b⟩ hi=>?_) (fun i j _ _ d=>d);unfold setG at hi |-
 grind
theorem Hg.Adm{X:Nat->Option Cm}(h:Hg w0 S w (setG (setG (setG D k X) 0 N) g O))(a:k≠0)(d:k≠g):Hg w0 S w (setG (setG (setG D 0 N) g O) k X):=by
 rw[JJ D a,JJ _ d]at h;exact h
def Vu (s:UsrM×NetM)(b:ByteArray):UsrM×NetM:=if (Hr b).2 then Ry ({s.1 with rcv:=(s.1.rcv.take (Hr b).1).m},s.2) (s.1.rcv.take (Hr b).1).out else s
theorem Aaf{q:NetP}{s:UsrM×NetM}(t:ByteArray)(h:Hg w0 S w (setG (setG D 0 (FK q s.2)) g (usO p s.1)))(ad:g≠0)(Q:100≠g)(hD:D 100=fun _=>none)(ht:t.size<=65535)(hu:UOk s.1)(hr:InOk s.1.rcv)(hn:s.2.n<=900000000000):Calls prog 114 #[Fa q.b,Fa p.b,string t] w fun e w'=>∃vt,e=.returned (.tuple #[])/\Hg w0 S w' (setG (setG D 0 (FK q (Vu s t).2)) g (usO {p with vt:=vt} (Vu s t).1)):=by
 have l:=fun wz=>Aaz t wz ht
 have hz:=Ado t;obtain⟨P,eP⟩:=E7 (Hr t);have J:Hid (Vu s t=if P.2 then Ry ({s.1 with rcv:=(s.1.rcv.take P.1).m},s.2) (s.1.rcv.take P.1).out else s):=by rw[eP];rfl
 rw[<-eP]at l hz;clear eP;obtain⟨⟨I,E,G,C⟩,ok⟩:=P;unfold PieceM.val at l;dsimp only at l hz J;unfold Fa;have h1:=fun wz (hb:Below w.heap.size w wz)=>(h.below hb).Ii 11 216 [int i64 I,int i64 E,.bool G,string C]
 have H:=hid h
 cases ok with
 | false=>
  clear h h1;go_enter func114,ntmps114
  go_wp2_with(go_at_call 166;refine(l _).mono ?_;rintro e w1 ⟨rfl,A⟩)
  try simp only[Exit.inBlock,Exit.then]
  refine Ah (Cd rfl _ _ _) rfl ?_;refine⟨p.vt,rfl,?_⟩;rw[J.out];exact H.out.below (Fr A ((Ad _ w1).alloc (Ac _) _))
 | true=>
  clear h;go_enter func114,ntmps114;go_upto_region 2 with(go_at_call 166;refine(l _).mono ?_;rintro e w1 ⟨rfl,A⟩)
  have y:=h1 w1 A;change Hg w0 S (w1.alloc (.cells #[int i64 I,int i64 E,.bool G,string C] 216)) _ at y;obtain⟨r,Y⟩:=E7 w1.heap.size;rw[<-Y]at y |-;generalize (w1.alloc (.cells #[int i64 I,int i64 E,.bool G,string C] 216))=V at*;clear A h1 H l Y;have c6:V.cell? ⟨p.b,6,none⟩=some (pointer (some p.pr)):=(y.box (j:=0) rfl).cell 6;have y0:V.cell? ⟨r,0,none⟩=some (int i64 I):=(y.box (j:=11) rfl).cell 0;have y1:V.cell? ⟨r,1,none⟩=some (int i64 E):=(y.box (j:=11) rfl).cell 1;have y2:V.cell? ⟨r,2,none⟩=some (.bool G):=(y.box (j:=11) rfl).cell 2;have y3:V.cell? ⟨r,3,none⟩=some (string C):=(y.box (j:=11) rfl).cell 3;have HT:=hid ((y.below ((Ad _ V).drew)).AbV (j:=2) rfl (AoU p.pr s.1.rcv ⟨I,E,G,C⟩ V.drew (by unfold Wf;dsimp only;omega)) 12);unfold PieceM.val at HT;obtain⟨ah,R⟩:=hr.take ⟨I,E,G,C⟩;generalize ac:s.1.rcv.take ⟨I,E,G,C⟩=RT at*;obtain⟨rm,L,te⟩:=RT;dsimp only at HT R J;clear y ah ac
  go_region_held3 (fun w'=>w'.cell? ⟨p.b,6,none⟩=some (pointer (some p.pr))/\w'.cell? ⟨r,0,none⟩=some (int i64 I)/\w'.cell? ⟨r,1,none⟩=some (int i64 E)/\w'.cell? ⟨r,2,none⟩=some (.bool G)/\w'.cell? ⟨r,3,none⟩=some (string C)) (first | exact⟨c6,y0,y1,y2,y3⟩ | exact q1 | go_keep) (first | (go_at_call 167;refine HT.out.mono ?_;rintro e w4 ⟨c',d',⟨a,k,rfl,ae,rfl,rfl⟩,M⟩;have H4:=hid M;have q1:w4.cell? ⟨p.b,6,none⟩=some (pointer (some p.pr))/\w4.cell? ⟨r,0,none⟩=some (int i64 I)/\w4.cell? ⟨r,1,none⟩=some (int i64 E)/\w4.cell? ⟨r,2,none⟩=some (.bool G)/\w4.cell? ⟨r,3,none⟩=some (string C):=⟨(M.box (j:=0) rfl).cell 6,(M.box (j:=11) rfl).cell 0,(M.box (j:=11) rfl).cell 1,(M.box (j:=11) rfl).cell 2,(M.box (j:=11) rfl).cell 3⟩;clear M));clear q1 y0 y1 y2 y3 c6 HT;have aa:=hid R;obtain⟨s0,u⟩:=E7 (({s.1 with rcv:=rm},s.2):UsrM×NetM);rw[<-u]at J;have J:=hid (J.out.trans (Ab trivial));have z:=(H4.out.drop 11).conv (O':=FQ (usO p s0.1) 12 (some (Ju 9 1 (slice a L.length k) L.length (L.map Value.string)))) fun j=>by
   rw[u]
   rcases j with _ | _ | _ | _ | _ | _ | _ | _ | _ | _ | _ | _ | _ | j<;>rfl
  have e2:s.2=s0.2:=by rw[u]
  have ab:=hid (show UOk s0.1 by rw[u];exact⟨hu.len,hu.gr,hu.op⟩);have an:s0.2.n<=900000000000:=by rw[<-e2];exact hn
  rw[e2]at z;obtain⟨U,K⟩:∃n,n=L.length:=⟨_,rfl⟩;rw[<-K]at z ae |-;have W:=hid K;have z:=z.Al1 rfl 100 (by omega) Q;clear u H4 hu hn e2 K R
  go_wp2_with fail
  go_loopw [31] (fun i wr=>∃j:Nat,j<=U/\i=int i64 (j:Int)/\∃vt,Hid (Hg w0 S wr (setG (setG (setG D 100 (Jt (Ju 9 1 (slice a U k) U (L.map Value.string)))) 0 (FK q (Ry s0 (L.take j)).2)) g (usO {p with vt:=vt} (Ry s0 (L.take j)).1)))) (fun i _=>U-(intOf i).toNat)
  case atStart=>exact⟨0,Af _,rfl,p.vt,z⟩
  case round=>
   obtain⟨j,hj,rfl,vt,X⟩:=hrel;clear z
   by_cases af:j<U
   ·have Z:j<L.length:=by rw[<-W.out];exact af
    have f:=X5 (L.take j) ab.out;have HS:=hid (AgQ s0 L j Z);have ak:=aa.out j;obtain⟨B, -,ho⟩:=(X.out.Adm (by omega) Q).lst (j:=0) rfl;obtain⟨ga,ca,ea⟩:=Lh ho (by omega);simp only[Aq]at ea;obtain⟨rfl, -,rfl⟩:=ea;have aj:wr.cell? ⟨ga,j,none⟩=some (string (L.getD j ByteArray.empty)):=by
     rw[CX ho j (by omega),A9,Au,Ap Z];rfl
    generalize Ry s0 (L.take j)=sj at*;generalize L.getD j ByteArray.empty=d at*;have al:sj.1.op.fst<=16777216:=by
     obtain⟨F,bm, -,hP⟩:=X.out.get (j:=8) rfl;exact hP.ok.few
    have ag:sj.2.n<=1000000000000:=by
     have h1:=f.n;have y:=f.ok.len;omega
    have am:(j:Int)<(U:Int):=by omega
    have hO:=hid (AgF d X.out ad (by omega) f.ok.len f.ok.gr f.ok.op ag);unfold Fa at hO;clear X ho f
    go_wp2_with(go_at_call 168;refine hO.out.mono ?_;rintro e w5 ⟨ai,rfl,z⟩;have H5:=hid z;clear z);refine⟨⟨j+1,by omega,by go_num,ai,?_⟩,by simp[intOf];omega⟩;rw[HS.out];exact H5.out
   ·obtain rfl:j=U:=by omega
    go_wp2_with fail
    go_end0;have h9:=X.out.UV hD (by omega) Q;rw[Aw (by rw[<-W.out];exact Ac _),<-J.out]at h9;exact⟨_,rfl,h9⟩
theorem Hg.Mt(h:Hg w0 S w (setG (setG (setG D k (Jt (JP b T cs))) 0 N) g O))(a:k≠0)(d:k≠g):At w b T cs:=(h.Adm a d).box (j:=0) rfl
theorem Hg.Apr(h:Hg w0 S w (setG (setG (setG D k (Jt (JP b T cs))) 0 N) g O))(a:k≠0)(d:k≠g)(o:Nat)(v:Value):Hg w0 S (w.setCell ⟨b,o,none⟩ v) (setG (setG (setG D k (Jt (JP b T (cs.set o v)))) 0 N) g O):=by
 have e:=((h.Adm a d).GK (j:=0) rfl o v).conv (O':=Jt (JP b T (cs.set o v))) fun j=>by
  unfold FQ Jt
  split<;>rfl
 rw[JJ _ (Ck d),JJ _ (Ck a)]at e;exact e
theorem Wv(S:Setg)(s:List Int)(ps:List (Int×Int))(v:Int):(Kw S 20 s ps v).data.size<=20:=by
 unfold Kw
 split
 ·exact Af _
 ·split
  ·exact Af _
  ·split
   ·exact Af _
   ·unfold Mk
    split
    ·dsimp only;rw[BP,Lb,Ay];omega
    ·exact Af _
def UsrM.AnT(u:UsrM)(v:Nat)(fg:Bool)(d:ByteArray):ShotM:=⟨0,(v:Int),fg,(u.heard v fg d).data⟩
def UsrM.tk(u:UsrM)(v:Nat)(fg:Bool)(d:ByteArray):TookM:=u.sht.J7 (u.AnT v fg d) (u.heard v fg d).ok
def UsrM.tkn(u:UsrM)(v:Nat)(fg:Bool)(d:ByteArray):UsrM:={u.Agd v fg d with sht:=u.sht.next (u.AnT v fg d) (u.heard v fg d).ok}
def Vd (s:UsrM×NetM)(v:Nat)(fg:Bool)(d:ByteArray):UsrM×NetM:=if (s.1.tk v fg d).fresh then Vu (s.1.tkn v fg d,s.2) (s.1.tk v fg d).data else (s.1.tkn v fg d,s.2)
theorem Amt(u:UsrM)(v:Nat)(a:Bool)(d:ByteArray):(u.tk v a d).data.size<=20:=by
 have h:(u.AnT v a d).data.size<=20:=Wv _ _ _ _;unfold UsrM.tk RecvM.J7
 split
 ·exact Af _
 ·split
  ·exact Af _
  ·split
   ·exact Af _
   ·split
    ·exact h
    ·exact Af _
theorem Agy{q:NetP}{s:UsrM×NetM}(v:Nat)(a:Bool)(d:ByteArray)(h:Hg w0 S w (setG (setG D 0 (FK q s.2)) g (usO p s.1)))(aa:g≠0)(ab:100≠g)(f:101≠g)(X:D 100=fun _=>none)(Y:D 101=fun _=>none)(hw:s.1.who<=16)(hd:d.size=20)(hv:v<=3)(hr:s.1.air.rough<=9223372036854775807)(he:∀x,s.1.ear=some x->EarOk s.1.who x.sums)(hu:UOk s.1)(hi:InOk s.1.rcv)(hn:s.2.n<=900000000000):Calls prog 61 #[Fa q.b,Fa p.b,.agg #[int i64 0,int i64 (v:Int),.bool a,string d]] w fun e w'=>∃eb vt,e=.returned (.bool (s.1.tk v a d).yes)/\Hg w0 S w' (setG (setG D 0 (FK q (Vd s v a d).2)) g (usO {p with eb:=eb,vt:=vt} (Vd s v a d).1)):=by
 have F:=(h.Ii 11 127 [int i64 0,int i64 (v:Int),.bool a,string d]).Al1 rfl 101 (by omega) f;change Hg w0 S (w.alloc (.cells #[int i64 0,int i64 (v:Int),.bool a,string d] 127)) _ at F;obtain⟨i,l⟩:=E7 w.heap.size;rw[<-l]at F;have HG:=hid l;have ac:=Amt s.1 v a d;have U:Hid (Vd s v a d=if (s.1.tk v a d).fresh then Vu (s.1.tkn v a d,s.2) (s.1.tk v a d).data else (s.1.tkn v a d,s.2)):=rfl;have HK:Hid (s.1.tkn v a d={s.1.Agd v a d with sht:=s.1.sht.next ⟨0,(v:Int),a,(s.1.heard v a d).data⟩ (s.1.heard v a d).ok}):=rfl;have A:Hid (UOk (s.1.tkn v a d)/\InOk (s.1.tkn v a d).rcv):=⟨⟨hu.len,hu.gr,hu.op⟩,hi⟩;have E:Hid (s.1.tk v a d=s.1.sht.J7 ⟨0,(v:Int),a,(s.1.heard v a d).data⟩ (s.1.heard v a d).ok):=rfl;have Z:(s.1.heard v a d).data.size<=20:=Wv _ _ _ _;have V:Hid ((s.1.Agd v a d).sht=s.1.sht):=rfl;have R:=hid (fun wz hz=>AhW (w:=wz) v a d (D:=setG (setG D 101 (Jt (JP i 127 [int i64 0,int i64 (v:Int),.bool a,string d]))) 0 (FK q s.2)) (S:=S) (w0:=w0) (g:=g) (p:=p) (u:=s.1) hz hw hd hv hr he);unfold Fa at*;generalize s.1.tk v a d=K at*;generalize s.1.tkn v a d=uk at*;generalize s.1.heard v a d=T at*;generalize s.1.Agd v a d=uh at*;obtain⟨y,ad,te⟩:=T;dsimp only at HK E Z R;clear h l;go_enter func61,ntmps61;go_upto_region 1 with fail
 rw[<-HG.out];generalize (w.alloc (.cells #[int i64 0,int i64 (v:Int),.bool a,string d] 127))=w1 at*;have G:=F.Mt (by omega) f;have L:w1.cell? ⟨i,0,none⟩=some (int i64 0):=G.cell 0;have M:w1.cell? ⟨i,1,none⟩=some (int i64 (v:Int)):=G.cell 1;have P:w1.cell? ⟨i,2,none⟩=some (.bool a):=G.cell 2;have Q:w1.cell? ⟨i,3,none⟩=some (string d):=G.cell 3;have z:=hid (R.out w1 F);clear R F G;go_upto_region 2 with(go_at_call 112;refine z.out.mono ?_;rintro e w2 ⟨eb,rfl,J⟩)
 have k3:w2.cell? ⟨i,3,none⟩=some (string d):=(J.Mt (by omega) f).cell 3;have l3:=(J.Mt (by omega) f).free 3;have m:=J.Apr (by omega) f 3 (string y);clear L M P Q z J;go_upto_region 3 with fail
 generalize (w2.setCell ⟨i,3,none⟩ (string y))=t at*;clear k3 l3;have L:t.cell? ⟨i,0,none⟩=some (int i64 0):=(m.Mt (by omega) f).cell 0;have M:t.cell? ⟨i,1,none⟩=some (int i64 (v:Int)):=(m.Mt (by omega) f).cell 1;have P:t.cell? ⟨i,2,none⟩=some (.bool a):=(m.Mt (by omega) f).cell 2;have Q:t.cell? ⟨i,3,none⟩=some (string y):=(m.Mt (by omega) f).cell 3;have c8:t.cell? ⟨p.b,8,none⟩=some (pointer (some ⟨p.gs,0,none⟩)):=(m.box (j:=0) rfl).cell 8;have C:=hid ((m.below ((Ad _ t).drew)).act (j:=4) rfl (Aoy p.gs uh.sht (v:Int) a y ad t.drew (Ag (by omega)) (by omega)));rw[V.out,<-E.out]at C;unfold ShotM.val TookM.val at C;clear m;obtain⟨kd,kf,ky,ke⟩:=K;dsimp only at C ac U
 go_region_held3 (fun w'=>w'.cell? ⟨p.b,8,none⟩=some (pointer (some ⟨p.gs,0,none⟩))/\w'.cell? ⟨i,0,none⟩=some (int i64 0)/\w'.cell? ⟨i,1,none⟩=some (int i64 (v:Int))/\w'.cell? ⟨i,2,none⟩=some (.bool a)/\w'.cell? ⟨i,3,none⟩=some (string y)) (first | exact⟨c8,L,M,P,Q⟩ | exact q1 | go_keep) (first | (go_at_call 113;refine C.out.mono ?_;rintro e I ⟨c',⟨rfl,rfl⟩,r⟩;have H4:=hid r;have q1:I.cell? ⟨p.b,8,none⟩=some (pointer (some ⟨p.gs,0,none⟩))/\I.cell? ⟨i,0,none⟩=some (int i64 0)/\I.cell? ⟨i,1,none⟩=some (int i64 (v:Int))/\I.cell? ⟨i,2,none⟩=some (.bool a)/\I.cell? ⟨i,3,none⟩=some (string y):=⟨(r.box (j:=0) rfl).cell 8,(r.Mt (by omega) f).cell 0,(r.Mt (by omega) f).cell 1,(r.Mt (by omega) f).cell 2,(r.Mt (by omega) f).cell 3⟩;clear r));clear q1 L M P Q c8 C;have W:=(H4.out.UV Y (by omega) f).conv (O':=usO {p with eb:=eb} uk) fun j=>by
  rw[HK.out]
  rcases j with _ | _ | _ | _ | _ | _ | _ | _ | _ | _ | _ | j<;>rfl
 clear H4
 cases kf with
 | true=>
  have H:=hid (Aaf (s:=(uk,s.2)) kd W aa ab X (by omega) A.out.1 A.out.2 hn);unfold Fa at H;clear W
  go_wp2_with(go_at_call 114;refine H.out.mono ?_;rintro e w6 ⟨vt,rfl,h6⟩;have H6:=hid h6;clear h6);go_ret;refine⟨rfl,eb,vt,?_⟩;rw[U.out];exact H6.out
 | false=>
  go_wp2_with fail;go_ret;refine⟨rfl,eb,p.vt,?_⟩;rw[U.out];exact W
structure UFix(a b:UsrM):Prop where
 who:b.who=a.who
 key:b.key=a.key
 air:b.air=a.air
 snd:b.snd=a.snd
 blk:b.blk=a.blk
 sl:b.sl=a.sl
 sent:b.sent=a.sent
theorem UFix.refl(a:UsrM):UFix a a:=⟨rfl,rfl,rfl,rfl,rfl,rfl,rfl⟩
theorem UFix.trans{a b c:UsrM}(h:UFix a b)(k:UFix b c):UFix a c:=⟨k.1.trans h.1,k.2.trans h.2,k.3.trans h.3,k.4.trans h.4,k.5.trans h.5,k.6.trans h.6,k.7.trans h.7⟩
theorem WK:∀(l:List ByteArray) (s:UsrM×NetM),UFix s.1 (JL s l).1
 | [],_=> .refl _
 | d::l,s=>UFix.trans (b:=(Jk s d).1) ⟨rfl,rfl,rfl,rfl,rfl,rfl,rfl⟩ (WK l (Jk s d))
theorem AjG(s:UsrM×NetM)(t:ByteArray):UFix s.1 (PU s t).1:=by
 unfold PU
 split
 ·have h:=WK (s.1.op.out (LR t).1) ({s.1 with op:=s.1.op.take (LR t).1},s.2);exact⟨h.1,h.2,h.3,h.4,h.5,h.6,h.7⟩
 ·exact .refl _
theorem Aan:∀(l:List ByteArray) (s:UsrM×NetM),UFix s.1 (Ry s l).1
 | [],_=> .refl _
 | d::l,s=>(AjG s d).trans (Aan l (PU s d))
theorem AbG(s:UsrM×NetM)(t:ByteArray):UFix s.1 (Vu s t).1:=by
 unfold Vu
 split
 ·have h:=Aan (s.1.rcv.take (Hr t).1).out ({s.1 with rcv:=(s.1.rcv.take (Hr t).1).m},s.2);exact⟨h.1,h.2,h.3,h.4,h.5,h.6,h.7⟩
 ·exact .refl _
theorem AiE(s:UsrM×NetM)(v:Nat)(a:Bool)(d:ByteArray):UFix s.1 (Vd s v a d).1:=by
 unfold Vd
 split
 ·have h:=AbG (s.1.tkn v a d,s.2) (s.1.tk v a d).data;exact⟨h.1,h.2,h.3,h.4,h.5,h.6,h.7⟩
 ·exact⟨rfl,rfl,rfl,rfl,rfl,rfl,rfl⟩
theorem AkO(t:Nat):0<=PA t/\PA t<=3:=by grind [PA]
def UsrM.ver(u:UsrM):Nat:=(PA (u.blk.tat 0).tries).toNat
def UsrM.I5(u:UsrM):UsrM:={u with blk:=u.blk.set 0 (u.blk.tat 0).tried}
def SS (s:UsrM×NetM):UsrM×NetM:=if s.1.air.lost then (s.1.I5,s.2) else Vd (s.1.I5,s.2) s.1.ver (s.1.blk.tat 0).flag (s.1.blk.tat 0).data
def UsrM.yes(u:UsrM):Bool:=!u.air.lost && (u.I5.tk u.ver (u.blk.tat 0).flag (u.blk.tat 0).data).yes
def P8 (s:UsrM×NetM):UsrM×NetM:=if s.1.Hj.2=0 then ({(SS (s.1.Hj.1,s.2)).1 with blk:=(s.1.Hj.1.I5.blk).set 0 (s.1.Hj.1.I5.blk.GI 0 (s.1.Hj.1.yes && !s.1.air.deaf))},(SS (s.1.Hj.1,s.2)).2) else (s.1.Hj.1,s.2)
theorem AeV{u:UsrM}(h:Bk u.blk)(f:u.Hj.2=0):Bk u.Hj.1.blk/\(u.Hj.1.blk.tat 0).busy=true:=by
 unfold UsrM.Hj at f |-
 split
 ·next hb=>exact⟨h,hb⟩
 ·next hb=>
  rw[Aa hb]at f
  split
  ·next he=>
   obtain⟨a,b,l,d,e,hd⟩:=T9 he;have ht:=SendM.Lf h.ok.len (k:=0) (by omega) ((u.blk.tat 0).Sf (YZ (u.snd.next 12).p));refine⟨⟨h.ok.set (by omega) (Sg h.ok _ _),fun k i m=>?_,?_,fun _=>?_⟩,?_⟩
   ·show((u.blk.set 0 _).tat k).busy=false;rw[ht,Aa (by omega)];exact h.idle k i m
   ·show((u.blk.set 0 _).tat 0).opn=false;rw[ht,Ab rfl];rfl
   ·show((u.blk.set 0 _).tat 0).data.size=20;rw[ht,Ab rfl,e];exact(VH a b l d hd).1
   ·show((u.blk.set 0 _).tat 0).busy=true;rw[ht,Ab rfl];rfl
  grind
theorem AaI(u:UsrM):u.Hj.1.who=u.who/\u.Hj.1.air=u.air/\u.Hj.1.rcv=u.rcv/\u.Hj.1.ear=u.ear/\u.Hj.1.told=u.told/\u.Hj.1.op=u.op/\u.Hj.1.gr=u.gr:=by grind [UsrM.Hj]
theorem Abm{u:UsrM}(h:Bk u.blk)(a:(u.blk.tat 0).busy=true):u.I5.blk.Ok/\(u.I5.blk.tat 0).busy=true/\(u.I5.blk.tat 0).opn=true:=by
 have ht:=SendM.Lf h.ok.len (k:=0) (by omega) (u.blk.tat 0).tried 0;rw[Ab rfl]at ht;exact⟨h.ok.set (by omega) (SH h.ok (by omega) a h.opn),by show((u.blk.set 0 _).tat 0).busy=true;rw[ht];exact a,by show((u.blk.set 0 _).tat 0).opn=true;rw[ht];rfl⟩
theorem Aho(w:World){s:Nat}(a:o.op=.fieldAddr 91 x 3)(h:ρ x=pointer (some ⟨g,s,none⟩)):(execOp ρ o).run prog w=.ok (.value (pointer (some ⟨g,s+5,none⟩))) w:=by
 unfold execOp;simp only[a,h];simp[go_sem]
theorem Ahn(w:World){s:Nat}(a:o.op=.fieldAddr 86 x 2)(h:ρ x=pointer (some ⟨g,s,none⟩)):(execOp ρ o).run prog w=.ok (.value (pointer (some ⟨g,s+2,none⟩))) w:=by
 unfold execOp;simp only[a,h];simp[go_sem]
theorem Aj8(w:World)(d:o.op=.load 82 x)(h:ρ x=pointer (some ⟨g,j,none⟩))(a:w.cell? ⟨g,j,none⟩=some v):(execOp ρ o).run prog w=.ok (.value v) w:=by
 unfold execOp;simp only[d,h];simp[go_sem,a]
theorem Ajw{q:NetP}{s:UsrM×NetM}(h:Hg w0 S w (setG (setG D 0 (FK q s.2)) g (usO p s.1)))(ah:g≠0)(ai:100≠g)(aj:101≠g)(l:102≠g)(af:D 100=fun _=>none)(ag:D 101=fun _=>none)(aa:D 102=fun _=>none)(G:Bk s.1.blk)(hw:s.1.who<=16)(hr:s.1.air.rough<=9223372036854775807)(he:∀x,s.1.ear=some x->EarOk s.1.who x.sums)(hu:UOk s.1)(hi:InOk s.1.rcv)(hn:s.2.n<=900000000000):Calls prog 31 #[Fa q.b,Fa p.b] w fun e w'=>e=.returned (.tuple #[])/\∃eb vt,Hg w0 S w' (setG (setG D 0 (FK q (P8 s).2)) g (usO {p with eb:=eb,vt:=vt} (P8 s).1)):=by
 have HP:=hid (AhZ h G);have E:=AeV G;obtain⟨x1,x2,x3,x4,x5,x6,x7⟩:=AaI s.1;have A:Hid (s.1.Hj.2=0->P8 s=({(SS (s.1.Hj.1,s.2)).1 with blk:=(s.1.Hj.1.I5.blk).set 0 (s.1.Hj.1.I5.blk.GI 0 (s.1.Hj.1.yes && !s.1.Hj.1.air.deaf))},(SS (s.1.Hj.1,s.2)).2)):=fun e=>by unfold P8;rw[Ab e,x2]
 have C:Hid (¬s.1.Hj.2=0->P8 s=(s.1.Hj.1,s.2)):=fun e=>by unfold P8;rw[Aa e]
 generalize s.1.Hj=R at*;obtain⟨u1,e0⟩:=R;dsimp only at HP E x1 x2 x3 x4 x5 x6 x7 A C;unfold Fa at*;clear h G
 by_cases h0:e0=0
 ·subst h0;obtain⟨G,F⟩:=E rfl;clear E;rw[<-x2]at hr;have HM:=hid (A.out rfl);rw[<-x1]at hw he;rw[<-x4]at he;have P:UOk u1:=⟨by rw[x5,x6];exact hu.len,by rw[x7];exact hu.gr,by rw[x6];exact hu.op⟩;rw[<-x3]at hi;clear A C x1 x2 x3 x4 x5 x6 x7 hu;go_enter func31,ntmps31;go_upto_region 2 with(go_at_call 59;refine HP.out.mono ?_;rintro e w1 ⟨rfl,V⟩)
  clear HP;have X:w1.cell? ⟨p.b,7,none⟩=some (pointer (some ⟨p.gb,0,none⟩)):=(V.box (j:=0) rfl).cell 7;have HN:=hid (V.act (j:=3) rfl (Aod p.gb u1.blk w1 F G.opn));obtain⟨am,an⟩:=AkO (u1.blk.tat 0).tries;have ad:PA (u1.blk.tat 0).tries=(u1.ver:Int):=by unfold UsrM.ver;omega
  have al:u1.ver<=3:=by unfold UsrM.ver;omega
  rw[ad]at HN;have ak:=G.len F;have W:=hid (Abm G F);have y:Hid (u1.yes=(!u1.air.lost && (u1.I5.tk u1.ver (u1.blk.tat 0).flag (u1.blk.tat 0).data).yes)):=rfl;have r:Hid (SS (u1,s.2)=if u1.air.lost then (u1.I5,s.2) else Vd (u1.I5,s.2) u1.ver (u1.blk.tat 0).flag (u1.blk.tat 0).data):=rfl;generalize (u1.blk.tat 0).flag=U at*;generalize (u1.blk.tat 0).data=d at*;generalize u1.ver=v at*;clear am an ad V F G;go_upto_region 3 with(go_at_call 60;refine HN.out.mono ?_;rintro e w2 ⟨c',⟨rfl,rfl⟩,h2⟩)
  have z:=((h2.conv (O':=usO p u1.I5) fun j=>by rcases j with _ | _ | _ | _ | _ | _ | _ | _ | _ | _ | _ | j<;>rfl).Ii 11 127 [int i64 0,int i64 (v:Int),.bool U,string d]).Al1 rfl 102 (by omega) l;change Hg w0 S (w2.alloc (.cells #[int i64 0,int i64 (v:Int),.bool U,string d] 127)) _ at z;obtain⟨gx,Z⟩:=E7 w2.heap.size;rw[<-Z]at z |-;generalize (w2.alloc (.cells #[int i64 0,int i64 (v:Int),.bool U,string d] 127))=w3 at*;clear h2 HN X Z;have a2:w3.cell? ⟨p.b,2,none⟩=some (.bool u1.air.lost):=(z.box (j:=0) rfl).cell 2;have y0:w3.cell? ⟨gx,0,none⟩=some (int i64 0):=(z.Mt (by omega) l).cell 0;have y1:w3.cell? ⟨gx,1,none⟩=some (int i64 (v:Int)):=(z.Mt (by omega) l).cell 1;have y2:w3.cell? ⟨gx,2,none⟩=some (.bool U):=(z.Mt (by omega) l).cell 2;have y3:w3.cell? ⟨gx,3,none⟩=some (string d):=(z.Mt (by omega) l).cell 3
  go_cut [8] (fun x wx=>x=.bool u1.yes/\∃eb vt,Hg w0 S wx (setG (setG D 0 (FK q (SS (u1,s.2)).2)) g (usO {p with eb:=eb,vt:=vt} (SS (u1,s.2)).1)))
  case first=>
   cases hL:u1.air.lost with
   | true=>
    rw[hL]at a2 y r
    go_wp2_with fail
    go_meet;refine⟨by rw[y.out];rfl,p.eb,p.vt,?_⟩;rw[r.out];exact z.UV aa (by omega) l
   | false=>
    rw[hL]at a2 y r;have hC:=hid (Agy (s:=(u1.I5,s.2)) v U d z ah ai aj (by rw[Fo _ (by omega)];exact af) (by rw[Fo _ (by omega)];exact ag) hw ak al hr he ⟨P.len,P.gr,P.op⟩ hi hn);unfold Fa at hC;clear z
    go_wp2_with(go_at_call 61;refine hC.out.mono ?_;rintro e w4 ⟨eb,vt,rfl,J⟩;have H4:=hid J;clear J)
    go_meet;refine⟨by rw[y.out];rfl,eb,vt,?_⟩;rw[r.out];exact H4.out.UV aa (by omega) l
  case rest=>
   obtain⟨rfl,eb,vt,J⟩:=hcut;have t:UFix u1.I5 (SS (u1,s.2)).1:=by
    rw[r.out]
    split
    ·exact .refl _
    ·exact AiE (u1.I5,s.2) v U d
   have u:=HM.out;generalize SS (u1,s.2)=f at*;have X:wc.cell? ⟨p.b,7,none⟩=some (pointer (some ⟨p.gb,0,none⟩)):=(J.box (j:=0) rfl).cell 7;have c3:wc.cell? ⟨p.b,3,none⟩=some (.bool f.1.air.deaf):=(J.box (j:=0) rfl).cell 3;obtain⟨z1,z2,z3⟩:=W.out;have HA:=hid (fun wz (hb:Below wc.heap.size wc wz)=>(J.below hb).act (j:=3) rfl (Apg p.gb f.1.blk (u1.yes && !f.1.air.deaf) wz (by rw[t.blk];exact z1) (by rw[t.blk];exact z2) (by rw[t.blk];exact z3)));have u:=hid (show P8 s=({f.1 with blk:=f.1.blk.set 0 (f.1.blk.GI 0 (u1.yes && !f.1.air.deaf))},f.2)by rw[u,t.blk,show f.1.air.deaf=u1.air.deaf by rw[t.air];rfl]);generalize u1.yes=Y at*;obtain⟨De,I⟩:=E7 f.1.air.deaf;have ae:=hid I;rw[<-I]at c3 HA u;clear I;clear HM W y r t z J a2 y0 y1 y2 y3 z1 z2 z3
   have H:∀w5,Hg w0 S w5 (setG (setG D 0 (FK q f.2)) g (FQ (usO {p with eb:=eb,vt:=vt} f.1) 3 (some (S9 p.gb (f.1.blk.set 0 (f.1.blk.GI 0 (Y && !De)))))))->∃eb vt,Hg w0 S w5 (setG (setG D 0 (FK q (P8 s).2)) g (usO {p with eb:=eb,vt:=vt} (P8 s).1)):=fun w5 h=>⟨eb,vt,by
    rw[u.out]
    exact h.conv fun j=>by rcases j with _ | _ | _ | _ | _ | _ | _ | _ | _ | _ | _ | j<;>rfl⟩
   have HE:=hid H;clear H u
   cases Y with
   | true=>
    go_upto_region 4 with fail
    go_region_held3 (fun w'=>w'.cell? ⟨p.b,7,none⟩=some (pointer (some ⟨p.gb,0,none⟩))/\w'.cell? ⟨p.b,3,none⟩=some (.bool De)) (first | exact⟨X,c3⟩ | exact q1 | go_keep) (first | (go_at_call 62;refine(HA.out _ ((Ad _ wc).drew)).mono ?_;rintro e w6 ⟨c',⟨rfl,rfl⟩,L⟩;have H6:=hid L;have q1:w6.cell? ⟨p.b,7,none⟩=some (pointer (some ⟨p.gb,0,none⟩))/\w6.cell? ⟨p.b,3,none⟩=some (.bool De):=⟨(L.box (j:=0) rfl).cell 7,by rw[ae.out];exact(L.box (j:=0) rfl).cell 3⟩;clear L))
    go_wp2_with fail
    go_end0;exact⟨rfl,HE.out _ H6.out⟩
   | false=>
    go_upto_region 4 with fail
    have ab:prog.follows .mixedOrders=true:=by kernel_rfl
    refine Bi (Nr (Q:=fun e a' w'=>e=.normal/\a'=({tmps:=(_:List Value).toArray,defers:=[]}:Act)/\Hg w0 S w' (setG (setG D 0 (FK q f.2)) g (FQ (usO {p with eb:=eb,vt:=vt} f.1) 3 (some (S9 p.gb (f.1.blk.set 0 (f.1.blk.GI 0 (false && !De)))))))) 15 38 (pointer (some ⟨p.b,0,none⟩)) [(39,pointer (some ⟨p.b,0,none⟩)),(40,pointer (some ⟨p.b,0+5,none⟩)),(41,pointer (some ⟨p.b,0+5+2,none⟩)),(42,pointer (some ⟨p.gb,0,none⟩)),(43,int i64 0),(44,.bool false),(45,.bool false),(46,undef),(47,undef),(48,undef),(49,undef),(50,undef),(51,undef),(52,.bool false)]
     [[1],[38],[39],[40],[41],[4],[8],[44],[1,45],[46,45],[47,45],[48,45],[49,45],[50,45],[45,51]] [1,2,3,4,15,15,7,14,9,10,11,12,13,14,15] wc ab rfl rfl (show([38,39,40,41,42,43,44,45,46,47,48,49,50,51,52]:List Nat).Nodup by decide) (by kernel_rfl) (by kernel_rfl) (by kernel_rfl) (by kernel_rfl) (by kernel_rfl) (fun m ao ac wd M a Q K i=>by
     have h9:m=0\/m=1\/m=2\/m=3\/m=4\/m=5\/m=6\/m=7\/m=8\/m=9\/m=10\/m=11\/m=12\/m=13\/m=14:=by omega
     rcases h9 with rfl | rfl | rfl | rfl | rfl | rfl | rfl | rfl | rfl | rfl | rfl | rfl | rfl | rfl | rfl
     ·exact E6 rfl rfl (Fd wd rfl (a 1 (by decide))) (i wd (Fb wd))
     ·exact E6 rfl rfl (Ie wd rfl (a 38 (by decide))) (i wd (Fb wd))
     ·exact E6 rfl rfl (Aho wd rfl (a 39 (by decide))) (i wd (Fb wd))
     ·exact E6 rfl rfl (Ahn wd rfl (a 40 (by decide))) (i wd (Fb wd))
     ·exact E6 rfl rfl (Aj8 wd rfl (a 41 (by decide)) ((M.cell (Aj wc _ X)).trans X)) (i wd (Fb wd))
     ·exact E6 rfl rfl (Fd wd rfl (a 4 (by decide))) (i wd (Fb wd))
     ·exact E6 rfl rfl (Fd wd rfl (a 8 (by decide))) (i wd (Fb wd))
     ·exact E6 rfl rfl (Fd wd rfl (a 44 (by decide))) (i wd (Fb wd))
     ·exact IH (want:=true) rfl rfl rfl rfl (a 45 (by decide)) (i wd (Fb wd))
     ·exact IH (want:=true) rfl rfl rfl rfl (a 45 (by decide)) (i wd (Fb wd))
     ·exact IH (want:=true) rfl rfl rfl rfl (a 45 (by decide)) (i wd (Fb wd))
     ·exact IH (want:=true) rfl rfl rfl rfl (a 45 (by decide)) (i wd (Fb wd))
     ·exact IH (want:=true) rfl rfl rfl rfl (a 45 (by decide)) (i wd (Fb wd))
     ·exact IH (want:=true) rfl rfl rfl rfl (a 45 (by decide)) (i wd (Fb wd))
     ·exact E6 rfl rfl (RC wd rfl (a 45 (by decide)) rfl) (i wd (Fb wd)))
     (fun wd M=>by
      refine FM rfl rfl rfl (enters_of func62 (by kernel_rfl) rfl) (Z5 (Fj 42 (show([38,39,40,41,42,43,44,45,46,47,48,49,50,51,52]:List Nat).Nodup by decide) (by kernel_rfl)) (Fj 43 (show([38,39,40,41,42,43,44,45,46,47,48,49,50,51,52]:List Nat).Nodup by decide) (by kernel_rfl)) (Fj 52 (show([38,39,40,41,42,43,44,45,46,47,48,49,50,51,52]:List Nat).Nodup by decide) (by kernel_rfl))) (HA.out wd M) fun e w' ⟨c',⟨he,hc⟩,hh⟩=>?_
      subst hc
      exact⟨_,he,rfl,G4 _ _ _,hh⟩)) ?_
    rintro e a' w6 ⟨rfl,rfl,L⟩;have H6:=hid L;clear L;dsimp only[Ft,List.set,List.append_nil,List.cons_append,List.nil_append]
    go_wp2_with fail
    go_end0;exact⟨rfl,HE.out _ H6.out⟩
 ·have HM:=hid (C.out h0);have ap:(e0 !=0)=true:=by simpa using h0
  clear A C E;go_enter func31,ntmps31
  go_wp2_with(go_at_call 59;refine HP.out.mono ?_;rintro e w1 ⟨rfl,V⟩;have H1:=hid V;clear V)
  try simp only[Exit.inBlock,Exit.then]
  refine Ah (Cd rfl _ _ _) rfl ?_;refine⟨rfl,p.eb,p.vt,?_⟩;rw[HM.out];exact H1.out
theorem Agz{q:NetP}{t:NetM}(k:Nat)(v:Option Addr)(h:Hg w0 S w (setG D 0 (FK q t)))(m:k<=9223372036854775807)(f:k<17->q.us[k]?=some (.pointer v))(a:17<=k->v=none):Calls prog 18 #[Fa q.b,int i64 (k:Int)] w fun e w'=>e=.returned (.pointer v)/\w'=w:=by
 unfold Fa
 by_cases d:17<=k
 ·obtain rfl:=a d;have hi:(17:Int)<=(k:Int):=by omega
  clear h f a;go_enter func18,ntmps18
  go_wp2_with fail;go_ret;exact⟨rfl,rfl⟩
 ·have hi:¬(17:Int)<=(k:Int):=by omega
  have i:(k:Int)<17:=by omega
  have l:w.cell? ⟨q.b,2+k,none⟩=some (.pointer v):=by
   rw[(h.box (j:=0) rfl).cell (2+k),show 2+k=k+1+1 by omega];exact f (by omega)
  clear h f a;go_enter func18,ntmps18
  go_wp2_with fail;go_ret;exact⟨rfl,rfl⟩
theorem Hg.net(h:Hg w0 S w (setG (setG D k N) g O))(hg:g≠k):Hg w0 S w (setG (setG D g O) k N):=by
 rw[JJ D (Ck hg)]at h;exact h
theorem Wh{q:NetP}{u:UsrM}{t:NetM}(h:Hg w0 S w (setG (setG D 0 (FK q t)) g (usO p u)))(i:g≠0)(I:u.who<=16)(A:t.co.per (u.who:Int)=some pr)(G:pr.st=1):Calls prog 82 #[Fa q.b,Fa p.b] w fun e w'=>e=.returned (int i64 (pr.cell:Int))/\Below w.heap.size w w':=by
 have c0:w.cell? ⟨q.b,0,none⟩=some (pointer (some ⟨q.c,0,none⟩)):=((h.net i).box (j:=0) rfl).cell 0;have r:w.cell? ⟨p.b,0,none⟩=some (int i64 (u.who:Int)):=(h.box (j:=0) rfl).cell 0;obtain⟨F,y⟩:=(((h.net i).below ((Ad _ w).drew))).get (j:=1) rfl;have m:=hid (AfS y (k:=(u.who:Int)) ⟨by omega,by omega⟩);have l:t.co.Uh (u.who:Int)=[(pr.cell:Int)]:=by unfold CoM.Uh;rw[A];simp[G]
 unfold Iv at m;rw[l]at m;unfold Fa at*;generalize t.co.QN (u.who:Int)=J at*;clear y h A l;go_enter func82,ntmps82;go_upto_region 1 with fail
 go_region_held3 (fun w'=>w'.cell? ⟨q.b,0,none⟩=some (pointer (some ⟨q.c,0,none⟩))/\w'.cell? ⟨p.b,0,none⟩=some (int i64 (u.who:Int))) (first | exact⟨c0,r⟩ | exact C | go_keep) (first | (go_at_call 136;refine m.out.mono ?_;rintro e w1 ⟨a,cc,rfl,z,d⟩;have C:w1.cell? ⟨q.b,0,none⟩=some (pointer (some ⟨q.c,0,none⟩))/\w1.cell? ⟨p.b,0,none⟩=some (int i64 (u.who:Int)):=⟨(d.cell (Aj w.drew _ c0)).trans c0,(d.cell (Aj w.drew _ r)).trans r⟩));have f:w1.ownsRow w.drew.heap.size 3 1 (slice a 1 cc) 1 [int i64 (pr.cell:Int)]:=z;obtain⟨ga,H,s⟩:=Lh f (by omega);simp only[Aq]at s;obtain⟨rfl, -,rfl⟩:=s;have K:w1.cell? ⟨ga,0,none⟩=some (int i64 (pr.cell:Int)):=(CX f 0 (by omega)).trans rfl;have E:=hid d;clear z f d C m
 go_wp2_with fail;go_ret;exact⟨rfl,Fr ((Ad _ w).drew) E.out⟩
def NetM.with(t:NetM)(m:CoM)(n:Nat):NetM:={t with co:=m,n:=n}
def Mc (s:UsrM×NetM)(c:Int)(pr:PrM):(UsrM×NetM)×Int:=if (s.2.co.hand (s.1.who:Int) (pr.cell:Int) c).err=0 then ((s.1.move,s.2.with (s.2.co.hand (s.1.who:Int) (pr.cell:Int) c).m s.2.n),0) else ((s.1,s.2.with (s.2.co.hand (s.1.who:Int) (pr.cell:Int) c).m s.2.n),(s.2.co.hand (s.1.who:Int) (pr.cell:Int) c).err)
theorem AgA{q:NetP}{s:UsrM×NetM}(c:Int)(h:Hg w0 S w (setG (setG D 0 (FK q s.2)) g (usO p s.1)))(d:g≠0)(U:s.1.who<=16)(H:s.2.co.per (s.1.who:Int)=some pr)(Q:pr.st=1)(A:s.1.key<=2147483640):Calls prog 38 #[Fa q.b,Fa p.b,int i64 c] w fun e w'=>∃l,l.b=p.b/\e=.returned (int i64 (Mc s c pr).2)/\Hg w0 S w' (setG (setG D 0 (FK q (Mc s c pr).1.2)) g (usO l (Mc s c pr).1.1)):=by
 have c0:w.cell? ⟨q.b,0,none⟩=some (pointer (some ⟨q.c,0,none⟩)):=((h.net d).box (j:=0) rfl).cell 0;have i:w.cell? ⟨p.b,0,none⟩=some (int i64 (s.1.who:Int)):=(h.box (j:=0) rfl).cell 0;have hd:=h.below ((Ad _ w).drew);have C:=hid (Wh hd d U H Q);have r:=hid (fun wz (hb:Below w.drew.heap.size w.drew wz)=>((hd.below hb).net d).act (j:=1) rfl (Alh (fun F M=>Aiw (pr.cell:Int) c M (k:=(s.1.who:Int)) ⟨by omega,by omega⟩)));have t:Hid (Mc s c pr=if (s.2.co.hand (s.1.who:Int) (pr.cell:Int) c).err=0 then ((s.1.move,s.2.with (s.2.co.hand (s.1.who:Int) (pr.cell:Int) c).m s.2.n),0) else ((s.1,s.2.with (s.2.co.hand (s.1.who:Int) (pr.cell:Int) c).m s.2.n),(s.2.co.hand (s.1.who:Int) (pr.cell:Int) c).err)):=rfl;unfold Fa at*;generalize s.2.co.hand (s.1.who:Int) (pr.cell:Int) c=R at*;obtain⟨V,K⟩:=R;dsimp only at r t;clear hd h H;go_enter func38,ntmps38;go_upto_region 1 with fail
 go_region_held3 (fun w'=>w'.cell? ⟨q.b,0,none⟩=some (pointer (some ⟨q.c,0,none⟩))/\w'.cell? ⟨p.b,0,none⟩=some (int i64 (s.1.who:Int))) (first | exact⟨c0,i⟩ | exact I | exact J | go_keep) (first
  | (go_at_call 82;refine C.out.mono ?_;rintro e w1 ⟨rfl,a⟩;have I:w1.cell? ⟨q.b,0,none⟩=some (pointer (some ⟨q.c,0,none⟩))/\w1.cell? ⟨p.b,0,none⟩=some (int i64 (s.1.who:Int)):=⟨(a.cell (Aj w.drew _ c0)).trans c0,(a.cell (Aj w.drew _ i)).trans i⟩)
  | (go_at_call 81;refine(r.out w1 a).mono ?_;rintro e w2 ⟨c',⟨rfl,rfl⟩,u⟩;have f:=hid ((u.conv (O':=FK q (s.2.with V s.2.n)) fun j=>by rcases j with _ | _ | _ | j<;>rfl).net (Ck d));have J:w2.cell? ⟨q.b,0,none⟩=some (pointer (some ⟨q.c,0,none⟩))/\w2.cell? ⟨p.b,0,none⟩=some (int i64 (s.1.who:Int)):=⟨(u.box (j:=0) rfl).cell 0,(f.out.box (j:=0) rfl).cell 0⟩;clear u))
 clear r C I J a c0 i
 by_cases z:K=0
 ·subst z;have E:=hid (AhX f.out A);unfold Fa at E;clear f
  go_wp2_with(go_at_call 83;refine E.out.mono ?_;rintro e W ⟨l,y, -,rfl,G⟩;have L:=hid G;clear G);go_ret;refine⟨l,y,?_⟩;rw[t.out];exact⟨rfl,L.out⟩
 ·have P:(K !=0)=true:=by simpa using z
  go_wp2_with fail;go_ret;refine⟨p,rfl,?_⟩;have e1:=t.out.trans (Aa z);rw[e1];exact⟨rfl,f.out⟩
end Go.Proofs.YtbjgfoiikhbonahGreatDoor
