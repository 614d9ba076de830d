import Derived.Test.YtbjgfoiikhbonahGreatDoorA42
set_option linter.unusedVariables false
set_option linter.unusedSimpArgs false
set_option maxRecDepth 100000
set_option maxHeartbeats 4000000
namespace Go.Proofs.YtbjgfoiikhbonahGreatDoor
open Go.ChangeShapes Go.WideShapes Go.ChangeAt Go.RowKit Go.Proofs.Tryz
open Value renaming string->A,int->B,bool->J,slice->M
open Option renaming none->C,some->I
open Obj renaming cells->K
open Ending renaming returned->Q
open IntKind renaming i64->U
variable {E:Nat->Nat->Option Cm}{L k:Nat}{S:List Nat}{m:NtM}{p:NtP}{pr:PrM}{s:ByteArray}{t:NetM}{u:UsrM}{w w' w0:World}
def atT:ByteArray:=⟨#[97,116]⟩
def AmW:ByteArray:=⟨#[119,97,105,116,105,110,103]⟩
def AmM:ByteArray:=⟨#[108,101,102,116]⟩
def AmN:ByteArray:=⟨#[108,101,110,116]⟩
def Aoh:ByteArray:=⟨#[99,104,97,114,103,101,100]⟩
def Mg (u:UsrM)(t:NetM)(pr:PrM):List (ByteArray×Int):=[(NM,(u.who:Int)),(atT,(pr.cell:Int)),(MZ,(u.told.length:Int)),(AmW,(u.snd.wait:Int)),(AmM,((t.co.MR (u.who:Int)).1:Int)),(AmN,((t.co.MR (u.who:Int)).2.1:Int)),(Aoh,((t.co.MR (u.who:Int)).2.2:Int))]
def IL (xs:List (ByteArray×Int)):List ByteArray:=xs.flatMap fun x=>[x.1,⟨(Lib.itoa x.2).toArray⟩]
def ZZ (xs:List (ByteArray×Int)):ByteArray:=(⟨(Lib.join ((IL xs).map (·.data.toList)) [32]).toArray⟩:ByteArray)++⟨#[10]⟩
def Ml (xs:List (ByteArray×Int)):List Value:=xs.flatMap fun x=>[A x.1, B U x.2]
theorem AfF:∀(xs:List (ByteArray×Int)) (j:Nat),(Ml xs)[j*2]?=(xs[j]?).map (fun x=> A x.1)/\(Ml xs)[j*2+1]?=(xs[j]?).map (fun x=> B U x.2):=by intro a;induction a<;>grind [Ml]
theorem AbM(xs:List (ByteArray×Int))(j:Nat)(h:j<xs.length):IL (xs.take (j+1))=IL (xs.take j)++[(xs.getD j (⟨#[]⟩,0)).1,⟨(Lib.itoa (xs.getD j (⟨#[]⟩,0)).2).toArray⟩]:=by
 unfold IL;rw[Br,Ap h,Bd,Au,Ap h];simp
theorem Aej:∀xs:List (ByteArray×Int),(IL xs).length=2*xs.length:=by intro a;induction a<;>grind [IL]
theorem Rh:∀xs:List (ByteArray×Int),(∀x∈xs,Gb x.2/\x.1.size<=7)->(Lib.joinTail [32] ((IL xs).map (·.data.toList))).length<=30*xs.length
 | [],_=>Ac _
 | x::xs,h=>by
  have c:=Rh xs fun y b=>h y (AU _ b)
  obtain⟨a,d⟩:=h x AL;have e:(Lib.itoa x.2).length<=21:=Lib.itoa_length_le x.2 (by have:=a.1;omega) (by have:=a.2;omega);have e1:∀y:ByteArray,y.data.toList.length=y.size:=fun y=>by rw[AH];rfl
  show(Lib.joinTail [32] (x.1.data.toList::(⟨(Lib.itoa x.2).toArray⟩:ByteArray).data.toList::(IL xs).map (·.data.toList))).length<=_;unfold Lib.joinTail at*
  grind
theorem Aly(l:List (List UInt8))(sep:List UInt8):(Lib.join l sep).length<=(Lib.joinTail sep l).length:=by
 cases l with
 | nil=>exact Af _
 | cons x r=>
  rw[Lib.join_cons];unfold Lib.joinTail
  grind
theorem Ahg{m:CoM}{n:Nat}{k:Int}(h:m.Ok n)(a:m.per k=I pr):pr.cell<=100/\(m.MR k).1<=1000000000/\(m.MR k).2.1<=1000000000/\(m.MR k).2.2<=1000000000:=by
 obtain⟨-, -,b, -,c, -,d⟩:=h.pr k pr a;unfold CoM.MR;rw[a];unfold CoM.left
 grind
theorem P4(O:Nat->Option Cm)(j:Nat)(a b:Option Cm):FQ (FQ O j a) j b=FQ O j b:=funext fun k=>by unfold FQ;split<;>rfl
theorem AgC{D:Nat->Nat->Option Cm}{g:Nat}{q:NetP}{p:UsrP}(h:Hg w0 S w (setG (setG D 0 (FK q t)) g (usO p u)))(O:g≠0)(l:100≠g)(ay:101≠g)(ai:D 100=fun _=>C)(au:D 101=fun _=>C)(hw:u.who<=16)(hp:t.co.per (u.who:Int)=I pr)(hs:pr.st=1)(hl:u.told.length<=16777216)(bt:u.snd.wait<=9223372036854775807):Calls prog 39 #[Fa q.b,Fa p.b] w fun e w'=>e= Q (A (ZZ (Mg u t pr)))/\Hg w0 S w' (setG (setG D 0 (FK q t)) g (usO p u)):=by
 have c0:w.cell? ⟨q.b,0,C⟩=I (.pointer (I ⟨q.c,0,C⟩)):=((h.net O).box (j:=0) rfl).cell 0;have d0:w.cell? ⟨p.b,0,C⟩=I (B U (u.who:Int)):=(h.box (j:=0) rfl).cell 0;have ao:Hid (∀x∈Mg u t pr,Gb x.2/\x.1.size<=7):=by
  obtain⟨F,N, -,hP⟩:=(h.net O).get (j:=1) rfl;obtain⟨b1,b2,b3,b4⟩:=Ahg hP.ok hp;intro x hx;unfold Mg at hx;simp only[Ar,Bt,BF]at hx
  rcases hx with rfl | rfl | rfl | rfl | rfl | rfl | rfl
  all_goals refine⟨⟨by dsimp only;omega,by dsimp only;omega⟩,by dsimp only;decide+kernel⟩
 have H:=hid h;have HC:Hid (∀o,Below w.heap.size w o->Calls prog 84 #[Fa q.c, B U (u.who:Int)] o fun e w'=>e= Q (.tuple #[AjX t.co (u.who:Int), B U (t.co.PZ (u.who:Int))])/\Below o.heap.size o w'):=fun o hb=>by
  obtain⟨F,hP⟩:=((H.out.below hb).net O).get (j:=1) rfl;exact Zq hP (k:=(u.who:Int)) ⟨by omega,by omega⟩
 have HX:Hid (Mg u t pr=[(NM,(u.who:Int)),(atT,(pr.cell:Int)),(MZ,(u.told.length:Int)),(AmW,(u.snd.wait:Int)),(AmM,((t.co.MR (u.who:Int)).1:Int)),(AmN,((t.co.MR (u.who:Int)).2.1:Int)),(Aoh,((t.co.MR (u.who:Int)).2.2:Int))]):=rfl;unfold AjX at HC;unfold Fa at*;generalize t.co.PZ (u.who:Int)=re at*;generalize (t.co.MR (u.who:Int)).1=r1 at*;generalize (t.co.MR (u.who:Int)).2.1=r2 at*;generalize (t.co.MR (u.who:Int)).2.2=r3 at*;clear h;go_enter func39,ntmps39;go_upto_region 1 with fail
 go_cut [5] (fun v wx=>∃gr,v=.pointer (I ⟨gr,0,C⟩)/\Hid (Hg w0 S wx (setG (setG D 0 (FK q t)) g (FQ (usO p u) 11 (I (JP gr 157 [B U (r1:Int), B U (r2:Int), B U (r3:Int)]))))))
 case first=>
  have b1:Below w.heap.size w (w.alloc (K #[B U 0, B U 0, B U 0] 157)):=(Ad _ w).alloc (Ac _) _;have H1:=hid (H.out.Ii 11 157 [B U 0, B U 0, B U 0])
  go_region_held3 (fun w'=>w'.cell? ⟨q.b,0,C⟩=I (.pointer (I ⟨q.c,0,C⟩))/\w'.cell? ⟨p.b,0,C⟩=I (B U (u.who:Int))) (first | exact⟨c0,d0⟩ | exact q1 | exact q2 | exact q3 | go_keep) (first
   | (go_at_call 84;refine(HC.out _ (b1.drew)).mono ?_;rintro e w1 ⟨rfl,aa⟩;have V:=hid (H1.out.below (Fr ((Ad _ _).drew) aa));have q1:w1.cell? ⟨q.b,0,C⟩=I (.pointer (I ⟨q.c,0,C⟩))/\w1.cell? ⟨p.b,0,C⟩=I (B U (u.who:Int)):=⟨((V.out.net O).box (j:=0) rfl).cell 0,(V.out.box (j:=0) rfl).cell 0⟩;have k0:w1.cell? ⟨w.heap.size,0,C⟩=I (B U 0):=(V.out.box (j:=11) rfl).cell 0;have k1:w1.cell? ⟨w.heap.size,1,C⟩=I (B U 0):=(V.out.box (j:=11) rfl).cell 1;have k2:w1.cell? ⟨w.heap.size,2,C⟩=I (B U 0):=(V.out.box (j:=11) rfl).cell 2;have l0:=(V.out.box (j:=11) rfl).free 0;have l1:=(V.out.box (j:=11) rfl).free 1;have l2:=(V.out.box (j:=11) rfl).free 2;have H4:=hid (((V.out.GK (j:=11) rfl 0 (B U (r1:Int))).GK (j:=11) rfl 1 (B U (r2:Int))).GK (j:=11) rfl 2 (B U (r3:Int)));have q3:(((w1.setCell ⟨w.heap.size,0,C⟩ (B U (r1:Int))).setCell ⟨w.heap.size,1,C⟩ (B U (r2:Int))).setCell ⟨w.heap.size,2,C⟩ (B U (r3:Int))).cell? ⟨q.b,0,C⟩=I (.pointer (I ⟨q.c,0,C⟩))/\(((w1.setCell ⟨w.heap.size,0,C⟩ (B U (r1:Int))).setCell ⟨w.heap.size,1,C⟩ (B U (r2:Int))).setCell ⟨w.heap.size,2,C⟩ (B U (r3:Int))).cell? ⟨p.b,0,C⟩=I (B U (u.who:Int)):=⟨((H4.out.net O).box (j:=0) rfl).cell 0,(H4.out.box (j:=0) rfl).cell 0⟩)
   | (go_at_call 84;refine(HC.out _ ((Ad _ w).drew)).mono ?_;rintro e w1 ⟨rfl,aa⟩;have H3:=hid (H.out.below (Fr ((Ad _ _).drew) aa));have q2:w1.cell? ⟨q.b,0,C⟩=I (.pointer (I ⟨q.c,0,C⟩))/\w1.cell? ⟨p.b,0,C⟩=I (B U (u.who:Int)):=⟨((H3.out.net O).box (j:=0) rfl).cell 0,(H3.out.box (j:=0) rfl).cell 0⟩))
  all_goals first
   | (go_wp2_with fail;go_meet;have h9:=H4.out;rw[P4,P4,P4]at h9;exact⟨_,rfl,h9⟩)
   | (go_wp2_with fail;go_meet;exact⟨_,rfl,H3.out.Ii 11 157 [B U (r1:Int), B U (r2:Int), B U (r3:Int)]⟩)
 case rest=>
  obtain⟨gr,rfl,V⟩:=hcut;clear H HC c0 d0;have h3:=V.out.Al1 rfl 100 (by omega) l;obtain⟨B0, -,a5⟩:=h3.lst (j:=10) rfl;obtain⟨a0,k0,ag, -⟩:=Fg a5;have c0:wc.cell? ⟨p.b,0,C⟩=I (B U (u.who:Int)):=(h3.box (j:=0) rfl).cell 0;have c5:wc.cell? ⟨p.b,5,C⟩=I (.pointer (I p.ps)):=(h3.box (j:=0) rfl).cell 5;have ap:wc.cell? ⟨p.b,14,C⟩=I (M a0 u.told.length k0):=by rw[<-ag];exact(h3.box (j:=0) rfl).cell 14
  have e0:wc.cell? ⟨gr,0,C⟩=I (B U (r1:Int)):=(h3.Mt (by omega) l).cell 0;have e1:wc.cell? ⟨gr,1,C⟩=I (B U (r2:Int)):=(h3.Mt (by omega) l).cell 1;have e2:wc.cell? ⟨gr,2,C⟩=I (B U (r3:Int)):=(h3.Mt (by omega) l).cell 2;have hd:=h3.below ((Ad _ wc).drew);have HC:=hid (Wh hd O hw hp hs);have hW:=fun o=>Ake p.ps u.snd o
  have HF:Hid (∀o,Hg w0 S o (setG (setG (setG D 100 (Jt (JP gr 157 [B U (r1:Int), B U (r2:Int), B U (r3:Int)]))) 0 (FK q t)) g (usO p u))->o.cell? ⟨p.b,0,C⟩=I (B U (u.who:Int))/\o.cell? ⟨p.b,5,C⟩=I (.pointer (I p.ps))/\o.cell? ⟨p.b,14,C⟩=I (M a0 u.told.length k0)/\o.cell? ⟨gr,0,C⟩=I (B U (r1:Int))/\o.cell? ⟨gr,1,C⟩=I (B U (r2:Int))/\o.cell? ⟨gr,2,C⟩=I (B U (r3:Int))):=fun o hz=>⟨(hz.box (j:=0) rfl).cell 0,(hz.box (j:=0) rfl).cell 5,by rw[<-ag];exact(hz.box (j:=0) rfl).cell 14,(hz.Mt (by omega) l).cell 0,(hz.Mt (by omega) l).cell 1,(hz.Mt (by omega) l).cell 2⟩
  have HD:=hid hd;unfold Fa at HC;generalize u.told.length=nt at*;generalize u.snd.wait=sw at*;generalize u.who=uw at*;generalize pr.cell=pc at*;clear hp hs a5 ag h3 hd V;go_upto_region 3 with fail
  go_cut [53,54,55] (fun bo bp bq wx=>∃ga,bo= M (I ⟨ga,0,C⟩) 7 7/\bp= B U 7/\bq= B U 0/\Hid (Hg w0 S wx (setG (setG (setG D 0 (FK q t)) g (usO p u)) 100 (Jt (JP ga 181 (Ml (Mg u t pr)))))))
  case first=>
   go_region_held3 (fun w'=>w'.cell? ⟨p.b,0,C⟩=I (B U (uw:Int))/\w'.cell? ⟨p.b,5,C⟩=I (.pointer (I p.ps))/\w'.cell? ⟨p.b,14,C⟩=I (M a0 nt k0)/\w'.cell? ⟨gr,0,C⟩=I (B U (r1:Int))/\w'.cell? ⟨gr,1,C⟩=I (B U (r2:Int))/\w'.cell? ⟨gr,2,C⟩=I (B U (r3:Int))) (first | exact⟨c0,c5,ap,e0,e1,e2⟩ | exact q1 | exact q2 | go_keep) (first
    | (go_at_call 82;refine HC.out.mono ?_;rintro e w1 ⟨rfl,aa⟩;have H1:=hid (HD.out.below aa);have q1:=HF.out w1 H1.out;clear aa)
    | (go_at_call 58;refine(H1.out.act (j:=1) rfl (hW w1)).mono ?_;rintro e w2 ⟨c',⟨rfl,rfl⟩,h2⟩;rw[Kr rfl]at h2;have V:=hid h2;have q2:=HF.out w2 h2;clear h2))
   go_wp2_with fail
   go_meet;refine⟨_,rfl,rfl,rfl,?_⟩;have h4:=V.out.UV ai (by omega) l;have e9:setG (setG D 0 (FK q t)) g (usO p u)=setG (setG (setG D 0 (FK q t)) g (usO p u)) 100 (fun _=>C):=by
    rw[<-ai,show D 100=setG (setG D 0 (FK q t)) g (usO p u) 100 by rw[Fo _ l,Fo _ (by omega)],Ig]
   rw[e9]at h4;have h5:=h4.Ii 0 181 (Ml (Mg u t pr));rw[HX.out]at h5 ⊢;exact h5
  case rest=>
   obtain⟨ga,rfl,rfl,rfl,H3⟩:=hcut;have ab:Hid ((Mg u t pr).length=7):=rfl;have h4:=H3.out;have e9:setG (setG (setG D 0 (FK q t)) g (usO p u)) 100 (Jt (JP ga 181 (Ml (Mg u t pr))))=setG (setG (setG (setG D 0 (FK q t)) g (usO p u)) 100 (Jt (JP ga 181 (Ml (Mg u t pr))))) 101 (fun _=>C):=by
    rw[<-au,show D 101=setG (setG (setG D 0 (FK q t)) g (usO p u)) 100 (Jt (JP ga 181 (Ml (Mg u t pr)))) 101 by rw[Fo _ (by omega),Fo _ ay,Fo _ (by omega)],Ig]
   rw[e9]at h4;have H4:=hid (h4.new 0 (Kept.refl _ wc) (d:=Ju 9 1 (M C 0 0) 0 []) (L:=[]) ⟨rfl,0,Bj _ _ _ _⟩ (by simp));have bc:Hid (setG (setG (setG D 0 (FK q t)) g (usO p u)) 100 (fun _=>C)=setG (setG D 0 (FK q t)) g (usO p u)):=by
    rw[<-ai,show D 100=setG (setG D 0 (FK q t)) g (usO p u) 100 by rw[Fo _ l,Fo _ (by omega)],Ig];exact rfl
   have bd:Hid (setG (setG (setG D 0 (FK q t)) g (usO p u)) 101 (fun _=>C)=setG (setG D 0 (FK q t)) g (usO p u)):=by
    rw[<-au,show D 101=setG (setG D 0 (FK q t)) g (usO p u) 101 by rw[Fo _ ay,Fo _ (by omega)],Ig];exact rfl
   generalize av:setG (setG D 0 (FK q t)) g (usO p u)=G at*;generalize a8:Mg u t pr=xs at*;have be:=hid av;have bi:=hid a8;clear av a8;clear h4 e9 H3 HX HC HF HD hW c0 c5 ap e0 e1 e2
   go_wp2_with fail
   go_loopw [7,55] (fun v i wr=>∃j:Nat,j<=7/\i= B U (j:Int)/\∃a c,v= M a (2*j) c/\Hid (Hg w0 S wr (setG (setG G 100 (Jt (JP ga 181 (Ml xs)))) 101 (Jt (Ju 9 1 v (2*j) ((IL (xs.take j)).map Value.string)))))) (fun _ i _=>7-(intOf i).toNat)
   case atStart=>exact⟨0,Af _,rfl,C,0,rfl,H4.out⟩
   case round=>
    obtain⟨j,hj,rfl,a,c,rfl,HR⟩:=hrel;clear H4
    by_cases bl:j<7
    ·have bs:(j:Int)<7:=by omega
     have al:j<xs.length:=by rw[ab.out];exact bl
     have HS:=hid (AbM xs j al);obtain⟨bn,bu⟩:=ao.out (xs.getD j (⟨#[]⟩,0)) (by grind);obtain⟨z1,z2⟩:=AfF xs j;have e7:xs[j]?=I (xs.getD j (⟨#[]⟩,0)):=by grind
     rw[e7]at z1 z2;have ak:=(HR.out.net (by omega)).box (j:=0) rfl;have k1:wr.cell? ⟨ga,j*2,C⟩=I (A (xs.getD j (⟨#[]⟩,0)).1):=(ak.cell (j*2)).trans z1;have k2:wr.cell? ⟨ga,j*2+1,C⟩=I (B U (xs.getD j (⟨#[]⟩,0)).2):=(ak.cell (j*2+1)).trans z2;generalize (xs.getD j (⟨#[]⟩,0)).1=T at*;generalize (xs.getD j (⟨#[]⟩,0)).2=x2 at*;clear ak z1 z2 e7;have ah:=Fc wr 181 [A T, B U x2];have aw:Below wr.heap.size wr (wr.alloc (K #[A T, B U x2] 181)):=(Ad _ wr).alloc (Ac _) _;change At (wr.alloc (K #[A T, B U x2] 181)) _ _ _ at ah;have ae:=hid ah;have am:=hid aw;obtain⟨gx, af⟩ := E7 wr.heap.size;rw[<-af]at ae;go_upto_region 6 with fail
     rw[<-af];generalize (wr.alloc (K #[A T, B U x2] 181))=w3 at*;have H3:=hid (HR.out.below am.out);have bh:Hid (∀y,(M a (2*j) c).ownBlock=I y->y≠gx):=fun y hy e=>by
      obtain⟨B1, -,n⟩:=HR.out.lst (j:=0) rfl;have:=(AB n y hy).2;omega
     clear HR am ah aw af k1 k2;have k1:w3.cell? ⟨gx,0,C⟩=I (A T):=ae.out.cell 0;have k2:w3.cell? ⟨gx,1,C⟩=I (B U x2):=ae.out.cell 1;have HI:=hid (TN x2 w3.drew bn (H3.out.tb.below ((Ad _ w3).drew)).wd.tab);generalize (⟨(Lib.itoa x2).toArray⟩:ByteArray)=d at*;obtain⟨i0,hi,a2,a3,a4⟩:=As Tryz.Rr;have bb:Hid (∀R,Below w3.heap.size w3 R->∃a' c' w5,(Builtin.append_ #[22,22] 22 #[M a (2*j) c, M (I ⟨R.heap.size,0,C⟩) 2 2]).run prog (R.alloc (K #[A T, A d] 9))=.ok (M a' (2*j+2) c') w5/\Hid (Hg w0 S w5 (setG (setG G 100 (Jt (JP ga 181 (Ml xs)))) 101 (Jt (Ju 9 1 (M a' (2*j+2) c') (2*j+2) ((IL (xs.take j)).map Value.string++[A T, A d])))))/\w5.cell? ⟨gx,0,C⟩=I (A T)/\w5.cell? ⟨gx,1,C⟩=I (B U x2)):=fun R r=>by
      have h6:=H3.out.below (Fr r ((Ad _ R).alloc (Ac _) (K #[A T, A d] 9)));obtain⟨B1,bk,n⟩:=h6.lst (j:=0) rfl;have bj:=Fc R 9 [A T, A d];obtain⟨v',w5,hr,a6,az, -,ac⟩:=Ec (P:=prog) (w:=R.alloc (K #[A T, A d] 9)) B1 22 22 9 i0 _ 1 16 underlying22 hi a2 a3 a4 rfl (by omega) _ _ _ n ⟨R.heap.size,0,C⟩ 2 2 [A T, A d] rfl (fun k u hk=>by rw[BT,Ao];exact(bj.cell k).trans hk) (by intro u hu;simp only[Ar,Bt,BF]at hu;rcases hu with rfl | rfl<;>rfl) (by unfold maxLen;omega) (by omega) bk;have h7:=h6.AnK (j:=0) rfl a6 az (by grind);obtain⟨a',c',rfl, -⟩:=Fg a6;refine⟨a',c',w5,hr,h7.conv fun i=>by rcases i with _ | i<;>rfl,?_⟩;have aj:=Fr r ((Ad _ R).alloc (Ac _) (K #[A T, A d] 9));have a1:=Aj w3 _ k1;have ax:=az.block gx (by have:=aj.size;exact AI a1 this) (fun e=>bh.out gx e.symm rfl);exact⟨(AF ax).trans ((aj.cell a1).trans k1),(AF ax).trans ((aj.cell (Aj w3 _ k2)).trans k2)⟩
     clear hi a2 a3 a4
     go_region_held3 (fun w'=>w'.cell? ⟨gx,0,C⟩=I (A T)/\w'.cell? ⟨gx,1,C⟩=I (B U x2)) (first | exact⟨k1,k2⟩ | exact q1 | exact q2 | go_keep) (first
      | (go_at_call 11;refine HI.out.mono ?_;rintro e R ⟨rfl,r⟩;have ac:=Fr ((Ad _ w3).drew) r;have q1:R.cell? ⟨gx,0,C⟩=I (A T)/\R.cell? ⟨gx,1,C⟩=I (B U x2):=⟨(ac.cell (Aj w3 _ k1)).trans k1,(ac.cell (Aj w3 _ k2)).trans k2⟩;obtain⟨a',c',w5,ad,H5,q2⟩:=bb.out R ac;have an:=hid ad;clear ad)
      | (refine KJ rfl .append (.tmp 59) (.tmp 65) 22 22 rfl (M a (2*j) c) (M (I ⟨R.heap.size,0,C⟩) 2 2) (by simp[Act.eval]) (by simp[Act.eval]) (GG an.out) ?_))
     go_wp2_with fail;refine⟨⟨j+1,by omega,by go_num,a',c',by grind,?_⟩,by simp[intOf];omega⟩;rw[HS.out,AR,show 2*(j+1)=2*j+2 by omega];exact H5
    ·obtain rfl:j=7:=by omega
     have h3:=HR.out;rw[Aw (by rw[ab.out];exact Ac _)]at h3;obtain⟨B1, -,n⟩:=h3.lst (j:=0) rfl;obtain⟨gl,cl,el⟩:=Lh n (by omega);simp only[Aq]at el;obtain⟨rfl, -,rfl⟩:=el;obtain⟨a9,c9,e9,br, -⟩:=Fg n;simp only[Aq]at e9;obtain⟨-, -,rfl⟩:=e9;have bm:(IL xs).length=14:=by rw[Aej,ab.out]
     have a7:=Rh xs ao.out;have al:=Aly ((IL xs).map (·.data.toList)) [32];rw[ab.out]at a7
     have HJ:=hid (Any.strings_Join Tryz.XL Tryz.Im gl 0 c (IL xs) ⟨#[32]⟩ wr (fun k x hk=>by
      rw[Ao,CX n k (by grind),A9,hk]
      rfl) (AB n gl rfl).2 (by omega) (by omega) (by grind))
     rw[bm]at HJ;have bg:Hid (ZZ xs=(⟨(Lib.join ((IL xs).map (·.data.toList)) [32]).toArray⟩:ByteArray)++⟨#[10]⟩):=rfl;have bv:(⟨(Lib.join ((IL xs).map (·.data.toList)) [32]).toArray⟩:ByteArray).size<=1000:=by show(Lib.join _ _).toArray.size<=_;rw[A8];omega
     have bf:Hid (Calls prog 85 #[M (I ⟨gl,0,C⟩) 14 c, A ⟨#[32]⟩] wr fun e w'=>e= Q (A ⟨(Lib.join ((IL xs).map (·.data.toList)) [32]).toArray⟩)/\Below wr.heap.size wr w'):=HJ.out;generalize (⟨(Lib.join ((IL xs).map (·.data.toList)) [32]).toArray⟩:ByteArray)=bw at*;have H9:=hid h3;clear h3 n HR HJ a7 al
     go_wp2_with(go_at_call 85;refine bf.out.mono ?_;rintro e R ⟨rfl,r⟩;have ba:=hid (H9.out.below r);clear r);go_ret;rw[bi.out,bg.out,be.out];refine⟨rfl,?_⟩;have aq:=(ba.out.drop 0).conv (O':=fun _=>C) (fun i=>by rcases i with _ | i<;>rfl);rw[JJ G (by omega),bd.out]at aq;have ar:=(aq.drop 0).conv (O':=fun _=>C) (fun i=>by rcases i with _ | i<;>rfl);rw[bc.out]at ar;exact ar
def Alb:ByteArray:=⟨#[98,97,100,10]⟩
def Xy (m:NtM)(k:Nat)(u:UsrM)(o:OrdM):NtM×ByteArray:=
 if o.verb=OC then (m.put k (KH (u,m.t) o.text).1,NQ (KH (u,m.t) o.text).2.toNat)
 else if o.verb=Pk then (match m.t.co.per (u.who:Int)with
  | some pr=>(m.put k (Mc (u,m.t) o.num pr).1,NQ (Mc (u,m.t) o.num pr).2.toNat)
  | none=>(m,Alb))
 else if o.verb=Pp then (match m.t.co.per (u.who:Int)with
  | some pr=>(m,ZZ (Mg u m.t pr))
  | none=>(m,Alb))
 else if o.verb=MZ then (m,Pa u.told)
 else (m.put k ({u with air:=o.air},m.t),NQ 0)
theorem Akm(s:UsrM×NetM)(d:ByteArray):0<=(KH s d).2/\(KH s d).2<100:=by grind [KH,CoM.Gu]
theorem Ai2(s:UsrM×NetM)(c:Int)(pr:PrM):0<=(Mc s c pr).2/\(Mc s c pr).2<100:=by grind [Mc,CoM.hand,CoM.move]
structure OrdOk(o:OrdM):Prop where
 who:o.who<=9223372036854775807
 num:o.num<=9223372036854775807
 text:o.text.size<=100
 rough:o.air.rough<=9223372036854775807
theorem OK{x:Int}(h:0<=x/\x<100)(w:World):Calls prog 16 #[B U x] w fun e w'=>e= Q (A (NQ x.toNat))/\w'=w:=by
 have:=Z9 x.toNat (by omega) w
 rwa [show((x.toNat:Nat):Int)=x by omega]at this
theorem NtAt.Aps(h:NtAt w0 S w E p m)(c:m.us k=I u)(b:1<=k/\k<=16)(a:Hg w0 S w' (setG (setG (Hn E p m) 0 (FK p.q m.t)) k (usO (p.P k) u))):NtAt w0 S w' E p m:=by
 rw[Rw c b]at a;exact {h with hg:=a}
theorem Aju(o:OrdM)(h:NtAt w0 S w E p m)(hi:NInv L m)(hL:L<=2000000)(T:m.us k=I u)(ho:OrdOk o):Calls prog 19 #[Fa p.q.b,Fa (p.P k).b,.agg #[.string o.verb,.int U (o.who:Int),.int U (o.num:Int),.string o.text,.bool o.air.lost,.bool o.air.deaf,.int U (o.air.rough:Int)]] w fun e w'=>e= Q (.string (Xy m k u o).2)/\∃p',SameB p p'/\NtAt w0 S w' E p' (Xy m k u o).1:=by
 obtain⟨hk,g,hB⟩:=hi.us k u T;have hn:=h.n hi (by omega);have ab:Below w.heap.size w (w.alloc (K #[.string o.verb,.int U (o.who:Int),.int U (o.num:Int),.string o.text,.bool o.air.lost,.bool o.air.deaf,.int U (o.air.rough:Int)] 51)):=(Ad _ w).alloc (Ac _) _;have hA:=Fc w 51 (Aap o.verb o.who o.num o.text o.air.lost o.air.deaf o.air.rough);change At (w.alloc (K #[.string o.verb,.int U (o.who:Int),.int U (o.num:Int),.string o.text,.bool o.air.lost,.bool o.air.deaf,.int U (o.air.rough:Int)] 51)) _ _ _ at hA;have h1:=h.below ab;have G:=hid h1;have a:=hid (h1.J5 T hk);obtain⟨pr,y⟩:∃pr,m.t.co.per (u.who:Int)=I pr:=by
  cases e:m.t.co.per (u.who:Int)with
  | none=>
   rw[g.who]at e;rw[(hi.per k).1 e]at T
   cases T
  | some pr=>exact⟨pr,rfl⟩
 have af:=hi.st _ pr y;obtain⟨⟨c0,c1,c2,c3,c4,c5,c6⟩, -⟩:=At.seven hA
 have i:Hid (Xy m k u o=if o.verb=OC then (m.put k (KH (u,m.t) o.text).1,NQ (KH (u,m.t) o.text).2.toNat)
  else if o.verb=Pk then (m.put k (Mc (u,m.t) o.num pr).1,NQ (Mc (u,m.t) o.num pr).2.toNat)
  else if o.verb=Pp then (m,ZZ (Mg u m.t pr))
  else if o.verb=MZ then (m,Pa u.told)
  else (m.put k ({u with air:=o.air},m.t),NQ 0)):=by
  show Xy m k u o=_;unfold Xy;rw[y]
 have ac:u.op.fst<=16777216:=by
  obtain⟨F,bm, -,hP⟩:=a.out.get (j:=8) rfl;exact hP.ok.few
 have al:u.snd.wait<=64:=by
  obtain⟨F,b,ua,c,us, -, -, -,hM⟩:=a.out.get (j:=1) rfl;rw[hM.wait];exact hM.few
 have ak:m.t.co.loans.length<=m.t.n:=by
  obtain⟨F,N, -,hP⟩:=(a.out.net (by omega)).get (j:=1) rfl;exact hP.ok.len
 have ae:SameB p p:=SameB.refl p;clear h h1 hA ab;unfold Fa at*;obtain⟨g5, d⟩ := E7 w.heap.size;rw[<-d]at c0 c1 c2 c3 c4 c5 c6;have l:=hid d;obtain⟨v, ev⟩ := E7 o.verb;rw[<-ev]at c0 c1 c2 c3 c4 c5 c6 G a i ⊢;clear ev
 by_cases e1:v=OC
 ·subst e1;have H:=hid (i.out.trans (Ab rfl));have hX:m.t.co.QF (u.who:Int)<=500:=by
   unfold CoM.QF CoM.Pn;rw[y,hi.unit]
   grind
  have hG:m.t.co.Lu (u.who:Int)<=1000000000000:=by unfold CoM.Lu;split<;>omega
  have D:=hid (AgG (s:=(u,m.t)) o.text a.out (by omega) (by show u.who<=16;rw[g.who];omega) (by have:=ho.text;omega) hX hG (by have:=g.nxt;show u.sl.nxt<_;omega) (by have:=g.sent;show u.sent<=_;omega) (by have:=g.grN;show u.grN<=_;omega) (by show m.t.n<=_;omega));have HR:=hid (OK (Akm (u,m.t) o.text));unfold Fa at D;generalize KH (u,m.t) o.text=R at*;unfold OC at*;clear hX hG i g hi hB;go_enter func19,ntmps19;go_upto_region 3 with fail
  rw[<-d];clear d l;generalize (w.alloc (K #[.string {data:=#[115,101,110,100]},.int U (o.who:Int),.int U (o.num:Int),.string o.text,.bool o.air.lost,.bool o.air.deaf,.int U (o.air.rough:Int)] 51))=w1 at*
  go_wp2_with(first | (go_at_call 37;refine D.out.mono ?_;rintro e w2 ⟨rfl,O⟩;have V:=hid O;clear O) | (go_at_call 16;refine(HR.out w2).mono ?_;rintro e w3 ⟨rfl,rfl⟩));go_ret;rw[H.out];exact⟨rfl,_,SameB.put rfl,G.out.put T hk rfl V.out⟩
 by_cases e2:v=Pk
 ·subst e2;have H:=hid (i.out.trans ((Aa e1).trans (Ab rfl)));have D:=hid (AgA (s:=(u,m.t)) (pr:=pr) (o.num:Int) a.out (by omega) (by show u.who<=16;rw[g.who];omega) y af (by have:=g.key;show u.key<=_;omega));have HR:=hid (OK (Ai2 (u,m.t) (o.num:Int) pr));unfold Fa at D;generalize Mc (u,m.t) (o.num:Int) pr=R at*;unfold Pk at*;clear i g hi hB e1;go_enter func19,ntmps19;go_upto_region 5 with fail
  rw[<-d];clear d l;generalize (w.alloc (K #[.string {data:=#[104,97,110,100]},.int U (o.who:Int),.int U (o.num:Int),.string o.text,.bool o.air.lost,.bool o.air.deaf,.int U (o.air.rough:Int)] 51))=w1 at*
  go_wp2_with(first | (go_at_call 38;refine D.out.mono ?_;rintro e w2 ⟨p',ad,rfl,O⟩;have V:=hid O;clear O) | (go_at_call 16;refine(HR.out w2).mono ?_;rintro e w3 ⟨rfl,rfl⟩));go_ret;rw[H.out];exact⟨rfl,_,SameB.put ad,G.out.put T hk ad V.out⟩
 by_cases e3:v=Pp
 ·subst e3;have H:=hid (i.out.trans ((Aa e1).trans ((Aa e2).trans (Ab rfl))));have D:=hid (AgC (pr:=pr) a.out (by omega) (by omega) (by omega) G.out.e1 G.out.e2 (by rw[g.who];omega) y af (by rw[g.ok.len];exact ac) (by omega));unfold Fa at D;generalize ZZ (Mg u m.t pr)=R at*;unfold Pp at*;clear i g hi hB e1 e2;go_enter func19,ntmps19;go_upto_region 7 with fail
  rw[<-d];clear d l;generalize (w.alloc (K #[.string {data:=#[108,111,111,107]},.int U (o.who:Int),.int U (o.num:Int),.string o.text,.bool o.air.lost,.bool o.air.deaf,.int U (o.air.rough:Int)] 51))=w1 at*
  go_wp2_with(go_at_call 39;refine D.out.mono ?_;rintro e w2 ⟨rfl,O⟩;have V:=hid O;clear O);go_ret;rw[H.out];exact⟨rfl,p,ae,G.out.Aps T hk V.out⟩
 by_cases e4:v=MZ
 ·subst e4;have H:=hid (i.out.trans ((Aa e1).trans ((Aa e2).trans ((Aa e3).trans (Ab rfl)))));obtain⟨B0, -,r⟩:=a.out.lst (j:=10) rfl;obtain⟨a0,k0,aa, -, -,ai⟩:=Fg r;have ag:=g.tld;rw[aa]at r;have aj:(w.alloc (K #[.string MZ,.int U (o.who:Int),.int U (o.num:Int),.string o.text,.bool o.air.lost,.bool o.air.deaf,.int U (o.air.rough:Int)] 51)).cell? ⟨(p.P k).b,14,C⟩=I (M a0 u.told.length k0):=by rw[<-aa];exact(a.out.box (j:=0) rfl).cell 14
  have D:=hid (AgI u.told a0 u.told.length k0 _ G.out.hg.tb rfl (by rw[g.ok.len];exact ac) (fun j hj=>by
   obtain⟨gl,cl,el⟩:=Lh r (by omega);simp only[Aq]at el;obtain⟨rfl, -,rfl⟩:=el;refine⟨gl,0,rfl,?_⟩;rw[Ao,CX r j (by omega),A9,Au,Ap hj]
   rfl) ag)
  generalize Pa u.told=R at*;generalize u.told.length=nt at*;unfold MZ at*;clear i g hi hB e1 e2 e3 r aa ai ag;go_enter func19,ntmps19;go_upto_region 9 with fail
  rw[<-d];clear d l;generalize (w.alloc (K #[.string {data:=#[116,111,108,100]},.int U (o.who:Int),.int U (o.num:Int),.string o.text,.bool o.air.lost,.bool o.air.deaf,.int U (o.air.rough:Int)] 51))=w1 at*
  go_wp2_with(go_at_call 40;refine D.out.mono ?_;rintro e w2 ⟨rfl,ah⟩);go_ret;rw[H.out];exact⟨rfl,p,ae,G.out.below ah⟩
 have H:=hid (i.out.trans ((Aa e1).trans ((Aa e2).trans ((Aa e3).trans (Aa e4)))));have n1:=IY e1 (show OC.toList=[115,101,110,100]by decide+kernel);have n2:=IY e2 (show Pk.toList=[104,97,110,100]by decide+kernel);have n3:=IY e3 (show Pp.toList=[108,111,111,107]by decide+kernel);have n4:=IY e4 (show MZ.toList=[116,111,108,100]by decide+kernel);have HR:=hid (OK (x:=0) (by omega));clear i g hi hB e1 e2 e3 e4;go_enter func19,ntmps19;go_upto_region 10 with fail
 rw[<-d];clear d l n1 n2 n3 n4;generalize (w.alloc (K #[.string v,.int U (o.who:Int),.int U (o.num:Int),.string o.text,.bool o.air.lost,.bool o.air.deaf,.int U (o.air.rough:Int)] 51))=w1 at*;have k2:w1.cell? ⟨(p.P k).b,2,C⟩=I (.bool u.air.lost):=(a.out.box (j:=0) rfl).cell 2;have k3:w1.cell? ⟨(p.P k).b,3,C⟩=I (.bool u.air.deaf):=(a.out.box (j:=0) rfl).cell 3;have k4:w1.cell? ⟨(p.P k).b,4,C⟩=I (.int U (u.air.rough:Int)):=(a.out.box (j:=0) rfl).cell 4;have l2:=(a.out.box (j:=0) rfl).free 2;have l3:=(a.out.box (j:=0) rfl).free 3;have l4:=(a.out.box (j:=0) rfl).free 4;have V:=hid (((a.out.GK (j:=0) rfl 2 (.bool o.air.lost)).GK (j:=0) rfl 3 (.bool o.air.deaf)).GK (j:=0) rfl 4 (.int U (o.air.rough:Int)))
 go_wp2_with(go_at_call 16;refine(HR.out _).mono ?_;rintro e w3 ⟨rfl,rfl⟩);go_ret;rw[H.out];refine⟨rfl,_,SameB.put (x:=p.P k) rfl,G.out.put T hk rfl ?_⟩;exact V.out.conv fun j=>by rcases j with _ | _ | _ | _ | _ | _ | _ | _ | _ | _ | _ | j<;>rfl
def doM (m:NtM)(s:ByteArray):NtM×ByteArray:=match MO s with
 | none=>(m,Alb)
 | some o=>if o.verb=Ji then (AbD m,NQ 0) else if o.verb=NM then ((jnM m o.who o.num).1,NQ (jnM m o.who o.num).2.toNat)
  else match m.us o.who with
   | none=>(m,NQ 12)
   | some u=>Xy m o.who u o
theorem Adb(h:Om s=I k):k<=9223372036854775807:=by
 unfold Om at h
 split at h
 ·cases h
 ·split at h
  ·next v hv=>
   split at h
   ·next hc=>
    have a:v<=9223372036854775807:=by
     unfold VF at hv
     split at hv
     ·next x hx=>
      obtain rfl:=AX hv;have:=Lib.atoiAll_bounds hx;omega
     ·cases hv
    have:=AX h;omega
   ·cases h
  ·cases h
theorem Am2{a:AirM}(h:PD s=I a):a.rough<=9223372036854775807:=by
 unfold PD at h
 split at h
 ·cases h;exact Af _
 ·split at h
  ·cases h;exact Af _
  ·split at h
   ·cases h;exact Af _
   ·split at h
    ·obtain⟨k,b,rfl⟩:=Option.map_eq_some_iff.1 h;exact Adb b
    ·cases h
theorem AjK{o:OrdM}(h:MO s=I o):OrdOk o:=by
 unfold MO at h
 split at h
 ·cases h;exact⟨Af _,Af _,by decide+kernel,Af _⟩
 ·obtain⟨k,b,h⟩:=Option.bind_eq_some_iff.1 h;have b:=Adb b;have c:(⟨#[]⟩:ByteArray).size<=100:=by decide+kernel
  unfold AlX at h
  split at h
  ·split at h
   ·cases h
   ·cases h;exact⟨b,Af _,c,Af _⟩
  ·split at h
   ·obtain⟨n,e,rfl⟩:=Option.map_eq_some_iff.1 h;exact⟨b,Adb e,c,Af _⟩
   ·split at h
    ·split at h
     ·cases h
     ·cases h;exact⟨b,Af _,by dsimp only;omega,Af _⟩
    ·split at h
     ·obtain⟨a,d,rfl⟩:=Option.map_eq_some_iff.1 h;exact⟨b,Af _,c,Am2 d⟩
     ·cases h
theorem Anr(m:NtM)(k:Nat)(x:Int):0<=(jnM m k x).2/\(jnM m k x).2<100:=by grind [jnM,CoM.Kx,CoM.join]
theorem NInv.Apo(h:NInv L m)(s:ByteArray)(c:m.t.co.loans.length<=1000000000000):NInv (L+1) (doM m s).1:=by
 have a:=h.mono (Bx L);unfold doM
 split
 ·exact a
 ·next o ho=>
  have b:=AjK ho
  split
  ·exact a.Apu
  ·split
   ·exact h.join _
   ·split
    ·exact a
    ·next u hu=>
     unfold Xy
     split
     ·exact h.Mw hu _ c
     ·split
      ·split
       ·exact h.hand hu _ _
       ·exact a
      ·split
       ·split<;>exact a
       ·split
        ·exact a
        ·obtain⟨e,hi,d⟩:=a.us _ u hu;exact a.put (Ac _) hu ⟨hi.who,hi.key,b.rough,hi.ear,⟨hi.ok.len,hi.ok.gr,hi.ok.op⟩,hi.inn,hi.nxt,hi.sent,hi.grN,hi.tld⟩ d (by grind) (fun j=>CI) h.st rfl rfl
theorem NtAt.join{x:UsrP}(h:NtAt w0 S w E p m)(g:1<=k/\k<=16)(d:Hg w0 S w' (setG (setG (Hn E p m) 0 (FK (p.q.AaN k (Fa x.b)) t)) k (usO x u))):NtAt w0 S w' E ⟨p.q.AaN k (Fa x.b),P7 p.P k x⟩ ⟨P7 m.us k (I u),t⟩:=by
 have e:setG (setG (Hn E p m) 0 (FK (p.q.AaN k (Fa x.b)) t)) k (usO x u)=Hn E ⟨p.q.AaN k (Fa x.b),P7 p.P k x⟩ ⟨P7 m.us k (I u),t⟩:=funext fun j=>by
  unfold setG Hn usG
  by_cases e:j=k
  ·subst e;rw[Ab rfl,Aa (by omega),Ab g.2];simp only[I0]
  ·rw[Aa e];simp only[Hx _ _ e]
   grind
 rw[e]at d;refine⟨d,?_,h.e1,h.e2,h.e3⟩
 show p.q.us.set k (Fa x.b)=_;rw[h.us];refine Bf fun j=>?_
 rw[BW,A9,A9];simp only[Bo,C1]
 by_cases a:k=j
 ·subst a;rw[Ab rfl,Ab (by omega),Ch (by omega)];simp only[Cx,MP,I0];rfl
 ·rw[Aa a];unfold MP
  by_cases c:j<17
  ·rw[Ch c];simp only[Cx,Hx _ _ (Ck a)]
  grind
theorem AlN(s:ByteArray)(h:NtAt w0 S w E p m)(hE:E 103=fun _=>C)(hi:NInv L m)(hL:L<=2000000)(hs:s.size<=10000000):Calls prog 6 #[Fa p.q.b, A s] w fun e w'=>e= Q (A (doM m s).2)/\∃r,r.q.b=p.q.b/\NtAt w0 S w' E r (doM m s).1:=by
 have HP:=hid (AgT s w h.hg.tb hs);have H:=hid h;have hn:=h.n hi (by omega);unfold Fa;clear h
 cases ho:MO s with
 | none=>
  have HD:Hid (doM m s=(m,Alb)):=by show doM m s=_;unfold doM;rw[ho]
  rw[ho]at HP;clear ho hi;go_enter func6,ntmps6
  go_wp2_with(go_at_call 14;refine HP.out.mono ?_;rintro e w1 ⟨V,k,N,T,l,d,x,rfl, -,G⟩);go_ret;rw[HD.out];exact⟨rfl,p,rfl,H.out.below (Fr G ((Ad _ w1).alloc (Ac _) _))⟩
 | some o=>
  have a:=AjK ho
  have HD:Hid (doM m s=if o.verb=Ji then (AbD m,NQ 0) else if o.verb=NM then ((jnM m o.who o.num).1,NQ (jnM m o.who o.num).2.toNat)
   else match m.us o.who with
    | none=>(m,NQ 12)
    | some u=>Xy m o.who u o):=by show doM m s=_;unfold doM;rw[ho]<;>exact rfl
  rw[ho]at HP;clear ho;go_enter func6,ntmps6;go_upto_region 2 with(go_at_call 14;refine HP.out.mono ?_;rintro e w1 ⟨V,k,N,T,l,d,x,rfl,hR,G⟩;obtain⟨rfl,rfl,rfl,rfl,rfl,rfl,rfl⟩:=hR.eq o rfl)
  have ac:=Fr G ((Ad _ w1).alloc (Ac _) (K #[A o.verb, B U (o.who:Int), B U (o.num:Int), A o.text, J o.air.lost, J o.air.deaf, B U (o.air.rough:Int)] 51));have hA:=Fc w1 51 (Aap o.verb o.who o.num o.text o.air.lost o.air.deaf o.air.rough);change At (w1.alloc (K #[A o.verb, B U (o.who:Int), B U (o.num:Int), A o.text, J o.air.lost, J o.air.deaf, B U (o.air.rough:Int)] 51)) _ _ _ at hA;have c:=hid (H.out.below ac);obtain⟨⟨c0,c1,c2,c3,c4,c5,c6⟩, -⟩:=At.seven hA;generalize (w1.alloc (K #[A o.verb, B U (o.who:Int), B U (o.num:Int), A o.text, J o.air.lost, J o.air.deaf, B U (o.air.rough:Int)] 51))=w2 at*;obtain⟨g5, ab⟩ := E7 w1.heap.size;rw[<-ab]at c0 c1 c2 c3 c4 c5 c6 ⊢;obtain⟨v, ev⟩ := E7 o.verb;rw[<-ev]at c0 HD ⊢;have ad:=hid ev;clear hA ac HP G hR H ab ev
  by_cases e1:v=Ji
  ·have HV:=hid (HD.out.trans (Ab e1));subst e1;unfold Ji at*;have y:=hid (AgJ c.out hE hi (by omega));have HR:=hid (OK (x:=0) (by omega));unfold Fa at y;clear hi HD a
   go_wp2_with(first | (go_at_call 15;refine y.out.mono ?_;rintro e g ⟨rfl,r,i,h3⟩;have H3:=hid h3;clear h3) | (go_at_call 16;refine(HR.out g).mono ?_;rintro e w4 ⟨rfl,rfl⟩));go_ret;rw[HV.out];exact⟨rfl,r,by rw[i.q],H3.out⟩
  have D:=hid (HD.out.trans (Aa e1));have n1:=IY e1 (show Ji.toList=[116,105,99,107]by decide+kernel)
  by_cases e2:v=NM
  ·have HV:=hid (D.out.trans (Ab e2));subst e2;unfold NM at*;have ae:p.q.us.length=17:=by rw[c.out.us];simp
   have y:=hid (AgB o.who (o.num:Int) c.out.net a.who (by omega) ae (fun he=>by
    obtain⟨b1,b2, -⟩:=QC he;have hk:1<=o.who/\o.who<=16:=by omega
    refine⟨hk.1,hk.2,?_⟩;have hz:=(hi.per o.who).1 b2;unfold Hn usG
    rw[Aa (by omega),Ab hk.2,hz]))
   have HR:=hid (OK (Anr m o.who (o.num:Int)))
   have HX:Hid (∀(e:Ending) (g:World),((m.t.co.join (o.who:Int) (o.num:Int)).err≠0/\e= Q (B U (m.t.co.join (o.who:Int) (o.num:Int)).err)/\Hg w0 S g (setG (Hn E p m) 0 (FK p.q (m.t.with (m.t.co.join (o.who:Int) (o.num:Int)).m (m.t.n+1)))))\/
    ((m.t.co.join (o.who:Int) (o.num:Int)).err=0/\((m.t.co.join (o.who:Int) (o.num:Int)).m.FV (o.who:Int) 1).err≠0/\e= Q (B U ((m.t.co.join (o.who:Int) (o.num:Int)).m.FV (o.who:Int) 1).err)/\Hg w0 S g (setG (Hn E p m) 0 (FK p.q (m.t.with ((m.t.co.join (o.who:Int) (o.num:Int)).m.FV (o.who:Int) 1).m (m.t.n+1)))))\/
    ((m.t.co.join (o.who:Int) (o.num:Int)).err=0/\((m.t.co.join (o.who:Int) (o.num:Int)).m.FV (o.who:Int) 1).err=0/\e= Q (B U 0)/\∃x,Hg w0 S g (setG (setG (Hn E p m) 0 (FK (p.q.AaN o.who (Fa x.b)) (m.t.with ((m.t.co.join (o.who:Int) (o.num:Int)).m.FV (o.who:Int) 1).m (m.t.n+1)))) o.who (usO x (UsrM.new o.who))))->
    e= Q (B U (jnM m o.who (o.num:Int)).2)/\∃r,r.q.b=p.q.b/\NtAt w0 S g E r (jnM m o.who (o.num:Int)).1):=fun e g hq=>by
    rcases hq with⟨q1,q2,q3⟩ | ⟨q1,q2, -⟩ | ⟨q1,q2,q3,x,q4⟩
    ·unfold jnM;rw[Aa q1];have e9:Hn E p ⟨m.us,m.t.with (m.t.co.join (o.who:Int) (o.num:Int)).m (m.t.n+1)⟩=setG (Hn E p m) 0 (FK p.q (m.t.with (m.t.co.join (o.who:Int) (o.num:Int)).m (m.t.n+1))):=funext fun j=>by
      unfold setG Hn
      by_cases ej:j=0
      ·rw[Ab ej,Ab ej]
      ·rw[Aa ej,Aa ej,Aa ej];rfl
     rw[<-e9]at q3;exact⟨q2,p,rfl,q3,c.out.us,c.out.e1,c.out.e2,c.out.e3⟩
    ·exact absurd (QC q1).2.2.1 q2
    ·obtain⟨b1, -⟩:=QC q1;unfold jnM;rw[Ab q1];exact⟨q3,⟨p.q.AaN o.who (Fa x.b),P7 p.P o.who x⟩,rfl,c.out.join (by omega) q4⟩
   unfold Fa at y HX;generalize jnM m o.who (o.num:Int)=R at*;clear hi HD D a
   go_wp2_with(first | (go_at_call 17;refine y.out.mono ?_;rintro e g hq;obtain⟨rfl,r,i,h3⟩:=HX.out e g hq;clear hq;have H3:=hid h3;clear h3) | (go_at_call 16;refine(HR.out g).mono ?_;rintro e w4 ⟨rfl,rfl⟩));go_ret;rw[HV.out];exact⟨rfl,r,i,H3.out⟩
  have F:=hid (D.out.trans (Aa e2));have n2:=IY e2 (show NM.toList=[117,115,101,114]by decide+kernel)
  have aa:17<=o.who->MP p m o.who=C:=fun h=>MQ (by
   cases O:m.us o.who with
   | none=>rfl
   | some u=>
    have:=(hi.us _ u O).1
    omega)
  have HF:=hid (Agz o.who (MP p m o.who) c.out.net a.who (fun hk=>c.out.at hk) aa);unfold Fa at HF;clear HD D e1 e2 aa
  cases O:m.us o.who with
  | none=>
   rw[MQ O]at HF;have HV:Hid (doM m s=(m,NQ 12)):=by rw[F.out,O];exact rfl
   have HR:=hid (OK (x:=12) (by omega));clear hi F O a
   go_wp2_with(first | (go_at_call 18;refine HF.out.mono ?_;rintro e g ⟨rfl,rfl⟩) | (go_at_call 16;refine(HR.out _).mono ?_;rintro e w4 ⟨rfl,rfl⟩));go_ret;rw[HV.out];exact⟨rfl,p,rfl,c.out⟩
  | some u=>
   rw[O5 O]at HF;have HV:Hid (doM m s=Xy m o.who u o):=by rw[F.out,O];exact rfl
   have y:=hid (Aju o c.out hi hL O a);rw[<-ad.out]at y;unfold Fa at y;clear hi F O a
   go_wp2_with(first | (go_at_call 18;refine HF.out.mono ?_;rintro e g ⟨rfl,rfl⟩) | (go_at_call 19;refine y.out.mono ?_;rintro e w4 ⟨rfl,r,i,h4⟩;have H4:=hid h4;clear h4));go_ret;rw[HV.out];exact⟨rfl,r,by rw[i.q],H4.out⟩
end Go.Proofs.YtbjgfoiikhbonahGreatDoor
