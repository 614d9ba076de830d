import Derived.Test.YtbjgfoiikhbonahGreatDoorD32
import Derived.Test.YtbjgfoiikhbonahGreatDoorTie
import Derived.Test.YtbjgfoiikhbonahGreatDoorCards
import Derived.LaidMore
import Derived.SevenTiedAt
import Derived.Stop.LaidErr
import Derived.Look8
import Derived.Deep.Strs
set_option linter.unusedVariables false
set_option linter.unusedSimpArgs false
set_option maxRecDepth 100000
set_option maxHeartbeats 4000000
namespace Go.Proofs.YtbjgfoiikhbonahGreatDoor
open Go.ChangeShapes Go.WideShapes Go.ChangeAt Go.RowKit Go.Deep Go.Proofs.Tryz
open Value (int slice string)
open IntKind (i64)
variable {E:Nat->Nat->Option Cm}{F S:List Nat}{H:Type}{L g k:Nat}{W w w' w0:World}{p:NtP}{pr:PrM}{s:ByteArray}{t:NetM}{u:UsrM}
def atT:ByteArray:=⟨#[97,116]⟩
def AmW:ByteArray:=⟨#[119,97,105,116,105,110,103]⟩
def AmM:ByteArray:=⟨#[108,101,102,116]⟩
def AmN:ByteArray:=⟨#[108,101,110,116]⟩
def Aoh:ByteArray:=⟨#[99,104,97,114,103,101,100]⟩
def Mg (u:UsrM)(t:NetM)(pr:PrM):List (ByteArray×Int):=[(NM,(u.who:Int)),(atT,(pr.cell:Int)),(MZ,(u.told.length:Int)),(AmW,(u.snd.wait:Int)),(AmM,((t.co.MR (u.who:Int)).1:Int)),(AmN,((t.co.MR (u.who:Int)).2.1:Int)),(Aoh,((t.co.MR (u.who:Int)).2.2:Int))]
def IL (xs:List (ByteArray×Int)):List ByteArray:=xs.flatMap fun x=>[x.1,⟨(Lib.itoa x.2).toArray⟩]
def ZZ (xs:List (ByteArray×Int)):ByteArray:=(⟨(Lib.join ((IL xs).map (·.data.toList)) [32]).toArray⟩:ByteArray)++⟨#[10]⟩
def Ml (xs:List (ByteArray×Int)):List Value:=xs.flatMap fun x=>[string x.1,int i64 x.2]
theorem AfF:∀(xs:List (ByteArray×Int)) (j:Nat),(Ml xs)[j*2]?=(xs[j]?).map (fun x=> string x.1)/\(Ml xs)[j*2+1]?=(xs[j]?).map (fun x=> int i64 x.2):=by intro a;induction a<;>grind [Ml]
theorem AbM(xs:List (ByteArray×Int))(j:Nat)(h:j<xs.length):IL (xs.take (j+1))=IL (xs.take j)++[(xs.getD j (⟨#[]⟩,0)).1,⟨(Lib.itoa (xs.getD j (⟨#[]⟩,0)).2).toArray⟩]:=by
 unfold IL;rw[Br,Ap h,Bd,Au,Ap h];simp
theorem Aej:∀xs:List (ByteArray×Int),(IL xs).length=2*xs.length:=by intro a;induction a<;>grind [IL]
theorem Rh:∀xs:List (ByteArray×Int),(∀x∈xs,Gb x.2/\x.1.size<=7)->(Lib.joinTail [32] ((IL xs).map (·.data.toList))).length<=30*xs.length
 | [],_=>Ac _
 | x::xs,h=>by
  have c:=Rh xs fun y b=>h y (AU _ b)
  obtain⟨a,d⟩:=h x AL;have e:(Lib.itoa x.2).length<=21:=Lib.itoa_length_le x.2 (by have:=a.1;omega) (by have:=a.2;omega);have e1:∀y:ByteArray,y.data.toList.length=y.size:=fun y=>by rw[AH];rfl
  show(Lib.joinTail [32] (x.1.data.toList::(⟨(Lib.itoa x.2).toArray⟩:ByteArray).data.toList::(IL xs).map (·.data.toList))).length<=_;unfold Lib.joinTail at*
  grind
theorem Aly(l:List (List UInt8))(sep:List UInt8):(Lib.join l sep).length<=(Lib.joinTail sep l).length:=by
 cases l with
 | nil=>exact Af _
 | cons x r=>
  rw[Lib.join_cons];unfold Lib.joinTail
  grind
theorem Ahg{m:CoM}{n:Nat}{k:Int}(h:m.Ok n)(a:m.per k=some pr):pr.cell<=100/\(m.MR k).1<=1000000000/\(m.MR k).2.1<=1000000000/\(m.MR k).2.2<=1000000000:=by
 obtain⟨-, -,b, -,c, -,d⟩:=h.pr k pr a
 grind [CoM.MR,CoM.left]
theorem P4(O:Nat->Option Cm)(j:Nat)(a b:Option Cm):FQ (FQ O j a) j b=FQ O j b:=funext fun k=>by unfold FQ;split<;>rfl
theorem AgC{D:Nat->Nat->Option Cm}{q:NetP}{p:UsrP}(h:Hg w0 S w (setG (setG D 0 (FK q t)) g (usO p u)))(o:g≠0)(l:100≠g)(bn:101≠g)(be:D 100=fun _=>none)(bm:D 101=fun _=>none)(hw:u.who<=16)(hp:t.co.per (u.who:Int)=some pr)(hs:pr.st=1)(hl:u.told.length<=16777216)(bp:u.snd.wait<=9223372036854775807):Calls prog 39 #[Fa q.b,Fa p.b] w fun e w'=>e=.returned (string (ZZ (Mg u t pr)))/\Hg w0 S w' (setG (setG D 0 (FK q t)) g (usO p u)):=by
 have c0:w.cell? ⟨q.b,0,none⟩=some (.pointer (some ⟨q.c,0,none⟩)):=((h.net o).box (j:=0) rfl).cell 0;have d0:w.cell? ⟨p.b,0,none⟩=some (int i64 (u.who:Int)):=(h.box (j:=0) rfl).cell 0;have aj:Hid (∀x∈Mg u t pr,Gb x.2/\x.1.size<=7):=by
  obtain⟨F,N, -,hP⟩:=(h.net o).get (j:=1) rfl;obtain⟨b1,b2,b3,b4⟩:=Ahg hP.ok hp;intro x hx;unfold Mg at hx;simp only[Ar,Bt,BF]at hx
  rcases hx with rfl | rfl | rfl | rfl | rfl | rfl | rfl
  all_goals refine⟨⟨by dsimp only;omega,by dsimp only;omega⟩,by dsimp only;decide+kernel⟩
 have H:=hid h;have V:Hid (∀m,Below w.heap.size w m->Calls prog 84 #[Fa q.c,int i64 (u.who:Int)] m fun e w'=>e=.returned (.tuple #[AjX t.co (u.who:Int),int i64 (t.co.PZ (u.who:Int))])/\Below m.heap.size m w'):=fun m hb=>by
  obtain⟨F,hP⟩:=((H.out.below hb).net o).get (j:=1) rfl;exact Zq hP (k:=(u.who:Int)) ⟨by omega,by omega⟩
 have HX:Hid (Mg u t pr=[(NM,(u.who:Int)),(atT,(pr.cell:Int)),(MZ,(u.told.length:Int)),(AmW,(u.snd.wait:Int)),(AmM,((t.co.MR (u.who:Int)).1:Int)),(AmN,((t.co.MR (u.who:Int)).2.1:Int)),(Aoh,((t.co.MR (u.who:Int)).2.2:Int))]):=rfl;unfold AjX at V;unfold Fa at*;generalize t.co.PZ (u.who:Int)=re at*;generalize (t.co.MR (u.who:Int)).1=R at*;generalize (t.co.MR (u.who:Int)).2.1=T at*;generalize (t.co.MR (u.who:Int)).2.2=U at*;clear h;go_enter func39,ntmps39;go_upto_region 1 with fail
 go_cut [5] (fun v wx=>∃gr,v=.pointer (some ⟨gr,0,none⟩)/\Hid (Hg w0 S wx (setG (setG D 0 (FK q t)) g (FQ (usO p u) 11 (some (JP gr 157 [int i64 (R:Int),int i64 (T:Int),int i64 (U:Int)]))))))
 case first=>
  have b1:Below w.heap.size w (w.alloc (.cells #[int i64 0,int i64 0,int i64 0] 157)):=(Ad _ w).alloc (Ac _) _;have H1:=hid (H.out.Ii 11 157 [int i64 0,int i64 0,int i64 0])
  go_region_held3 (fun w'=>w'.cell? ⟨q.b,0,none⟩=some (.pointer (some ⟨q.c,0,none⟩))/\w'.cell? ⟨p.b,0,none⟩=some (int i64 (u.who:Int))) (first | exact⟨c0,d0⟩ | exact q1 | exact q2 | exact q3 | go_keep) (first
   | (go_at_call 84;refine(V.out _ (b1.drew)).mono ?_;rintro e w1 ⟨rfl,C⟩;have A:=hid (H1.out.below (Fr ((Ad _ _).drew) C));have q1:w1.cell? ⟨q.b,0,none⟩=some (.pointer (some ⟨q.c,0,none⟩))/\w1.cell? ⟨p.b,0,none⟩=some (int i64 (u.who:Int)):=⟨((A.out.net o).box (j:=0) rfl).cell 0,(A.out.box (j:=0) rfl).cell 0⟩;have k0:w1.cell? ⟨w.heap.size,0,none⟩=some (int i64 0):=(A.out.box (j:=11) rfl).cell 0;have Z:w1.cell? ⟨w.heap.size,1,none⟩=some (int i64 0):=(A.out.box (j:=11) rfl).cell 1;have k2:w1.cell? ⟨w.heap.size,2,none⟩=some (int i64 0):=(A.out.box (j:=11) rfl).cell 2;have l0:=(A.out.box (j:=11) rfl).free 0;have l1:=(A.out.box (j:=11) rfl).free 1;have l2:=(A.out.box (j:=11) rfl).free 2;have H4:=hid (((A.out.GK (j:=11) rfl 0 (int i64 (R:Int))).GK (j:=11) rfl 1 (int i64 (T:Int))).GK (j:=11) rfl 2 (int i64 (U:Int)));have q3:(((w1.setCell ⟨w.heap.size,0,none⟩ (int i64 (R:Int))).setCell ⟨w.heap.size,1,none⟩ (int i64 (T:Int))).setCell ⟨w.heap.size,2,none⟩ (int i64 (U:Int))).cell? ⟨q.b,0,none⟩=some (.pointer (some ⟨q.c,0,none⟩))/\(((w1.setCell ⟨w.heap.size,0,none⟩ (int i64 (R:Int))).setCell ⟨w.heap.size,1,none⟩ (int i64 (T:Int))).setCell ⟨w.heap.size,2,none⟩ (int i64 (U:Int))).cell? ⟨p.b,0,none⟩=some (int i64 (u.who:Int)):=⟨((H4.out.net o).box (j:=0) rfl).cell 0,(H4.out.box (j:=0) rfl).cell 0⟩)
   | (go_at_call 84;refine(V.out _ ((Ad _ w).drew)).mono ?_;rintro e w1 ⟨rfl,C⟩;have M:=hid (H.out.below (Fr ((Ad _ _).drew) C));have q2:w1.cell? ⟨q.b,0,none⟩=some (.pointer (some ⟨q.c,0,none⟩))/\w1.cell? ⟨p.b,0,none⟩=some (int i64 (u.who:Int)):=⟨((M.out.net o).box (j:=0) rfl).cell 0,(M.out.box (j:=0) rfl).cell 0⟩))
  all_goals first
   | (go_wp2_with fail;go_meet;have h9:=H4.out;rw[P4,P4,P4]at h9;exact⟨_,rfl,h9⟩)
   | (go_wp2_with fail;go_meet;exact⟨_,rfl,M.out.Ii 11 157 [int i64 (R:Int),int i64 (T:Int),int i64 (U:Int)]⟩)
 case rest=>
  obtain⟨gr,rfl,A⟩:=hcut;clear H V c0 d0;have B:=A.out.Al1 rfl 100 (by omega) l;obtain⟨B0, -,ax⟩:=B.lst (j:=10) rfl;obtain⟨a0,k0,ac, -⟩:=Fg ax;have c0:wc.cell? ⟨p.b,0,none⟩=some (int i64 (u.who:Int)):=(B.box (j:=0) rfl).cell 0;have c5:wc.cell? ⟨p.b,5,none⟩=some (.pointer (some p.ps)):=(B.box (j:=0) rfl).cell 5;have ak:wc.cell? ⟨p.b,14,none⟩=some (slice a0 u.told.length k0):=by rw[<-ac];exact(B.box (j:=0) rfl).cell 14
  have e0:wc.cell? ⟨gr,0,none⟩=some (int i64 (R:Int)):=(B.Mt (by omega) l).cell 0;have e1:wc.cell? ⟨gr,1,none⟩=some (int i64 (T:Int)):=(B.Mt (by omega) l).cell 1;have e2:wc.cell? ⟨gr,2,none⟩=some (int i64 (U:Int)):=(B.Mt (by omega) l).cell 2;have hd:=B.below ((Ad _ wc).drew);have V:=hid (Wh hd o hw hp hs);have hW:=fun m=>Ake p.ps u.snd m
  have HF:Hid (∀m,Hg w0 S m (setG (setG (setG D 100 (Jt (JP gr 157 [int i64 (R:Int),int i64 (T:Int),int i64 (U:Int)]))) 0 (FK q t)) g (usO p u))->m.cell? ⟨p.b,0,none⟩=some (int i64 (u.who:Int))/\m.cell? ⟨p.b,5,none⟩=some (.pointer (some p.ps))/\m.cell? ⟨p.b,14,none⟩=some (slice a0 u.told.length k0)/\m.cell? ⟨gr,0,none⟩=some (int i64 (R:Int))/\m.cell? ⟨gr,1,none⟩=some (int i64 (T:Int))/\m.cell? ⟨gr,2,none⟩=some (int i64 (U:Int))):=fun m hz=>⟨(hz.box (j:=0) rfl).cell 0,(hz.box (j:=0) rfl).cell 5,by rw[<-ac];exact(hz.box (j:=0) rfl).cell 14,(hz.Mt (by omega) l).cell 0,(hz.Mt (by omega) l).cell 1,(hz.Mt (by omega) l).cell 2⟩
  have HD:=hid hd;unfold Fa at V;generalize u.told.length=nt at*;generalize u.snd.wait=sw at*;generalize u.who=uw at*;generalize pr.cell=pc at*;clear hp hs ax ac B hd A;go_upto_region 3 with fail
  go_cut [53,54,55] (fun bi bj bk wx=>∃ga,bi=slice (some ⟨ga,0,none⟩) 7 7/\bj=int i64 7/\bk=int i64 0/\Hid (Hg w0 S wx (setG (setG (setG D 0 (FK q t)) g (usO p u)) 100 (Jt (JP ga 181 (Ml (Mg u t pr)))))))
  case first=>
   go_region_held3 (fun w'=>w'.cell? ⟨p.b,0,none⟩=some (int i64 (uw:Int))/\w'.cell? ⟨p.b,5,none⟩=some (.pointer (some p.ps))/\w'.cell? ⟨p.b,14,none⟩=some (slice a0 nt k0)/\w'.cell? ⟨gr,0,none⟩=some (int i64 (R:Int))/\w'.cell? ⟨gr,1,none⟩=some (int i64 (T:Int))/\w'.cell? ⟨gr,2,none⟩=some (int i64 (U:Int))) (first | exact⟨c0,c5,ak,e0,e1,e2⟩ | exact q1 | exact q2 | go_keep) (first
    | (go_at_call 82;refine V.out.mono ?_;rintro e w1 ⟨rfl,C⟩;have H1:=hid (HD.out.below C);have q1:=HF.out w1 H1.out;clear C)
    | (go_at_call 58;refine(H1.out.act (j:=1) rfl (hW w1)).mono ?_;rintro e w2 ⟨c',⟨rfl,rfl⟩,h2⟩;rw[Kr rfl]at h2;have A:=hid h2;have q2:=HF.out w2 h2;clear h2))
   go_wp2_with fail
   go_meet;refine⟨_,rfl,rfl,rfl,?_⟩;have h4:=A.out.UV be (by omega) l;have e9:setG (setG D 0 (FK q t)) g (usO p u)=setG (setG (setG D 0 (FK q t)) g (usO p u)) 100 (fun _=>none):=by
    grind [setG,FK,usO,Fo,Ig]
   rw[e9]at h4;have h5:=h4.Ii 0 181 (Ml (Mg u t pr));rw[HX.out]at h5 |-;exact h5
  case rest=>
   obtain⟨ga,rfl,rfl,rfl,M⟩:=hcut;have O:Hid ((Mg u t pr).length=7):=rfl;have h4:=M.out;have e9:setG (setG (setG D 0 (FK q t)) g (usO p u)) 100 (Jt (JP ga 181 (Ml (Mg u t pr))))=setG (setG (setG (setG D 0 (FK q t)) g (usO p u)) 100 (Jt (JP ga 181 (Ml (Mg u t pr))))) 101 (fun _=>none):=by
    grind [setG,FK,usO,Jt,JP,Ml,Mg,Fo,Ig]
   rw[e9]at h4;have H4:=hid (h4.new 0 (Kept.refl _ wc) (d:=Ju 9 1 (slice none 0 0) 0 []) (L:=[]) ⟨rfl,0,Bj _ _ _ _⟩ (by simp));have a4:Hid (setG (setG (setG D 0 (FK q t)) g (usO p u)) 100 (fun _=>none)=setG (setG D 0 (FK q t)) g (usO p u)):=by
    grind [setG,FK,usO,Fo,Ig]
   have a5:Hid (setG (setG (setG D 0 (FK q t)) g (usO p u)) 101 (fun _=>none)=setG (setG D 0 (FK q t)) g (usO p u)):=by
    grind [setG,FK,usO,Fo,Ig]
   generalize an:setG (setG D 0 (FK q t)) g (usO p u)=G at*;generalize a1:Mg u t pr=xs at*;have a6:=hid an;have bb:=hid a1;clear an a1;clear h4 e9 M HX V HF HD hW c0 c5 ak e0 e1 e2
   go_wp2_with fail
   go_loopw [7,55] (fun v i wr=>∃j:Nat,j<=7/\i=int i64 (j:Int)/\∃a c,v=slice a (2*j) c/\Hid (Hg w0 S wr (setG (setG G 100 (Jt (JP ga 181 (Ml xs)))) 101 (Jt (Ju 9 1 v (2*j) ((IL (xs.take j)).map Value.string)))))) (fun _ i _=>7-(intOf i).toNat)
   case atStart=>exact⟨0,Af _,rfl,none,0,rfl,H4.out⟩
   case round=>
    obtain⟨j,hj,rfl,a,c,rfl,HR⟩:=hrel;clear H4
    by_cases bf:j<7
    ·have bo:(j:Int)<7:=by omega
     have ag:j<xs.length:=by rw[O.out];exact bf
     have HS:=hid (AbM xs j ag);obtain⟨bh,bq⟩:=aj.out (xs.getD j (⟨#[]⟩,0)) (by grind);obtain⟨z1,z2⟩:=AfF xs j;have e7:xs[j]?=some (xs.getD j (⟨#[]⟩,0)):=by grind
     rw[e7]at z1 z2;have af:=(HR.out.net (by omega)).box (j:=0) rfl;have Z:wr.cell? ⟨ga,j*2,none⟩=some (string (xs.getD j (⟨#[]⟩,0)).1):=(af.cell (j*2)).trans z1;have k2:wr.cell? ⟨ga,j*2+1,none⟩=some (int i64 (xs.getD j (⟨#[]⟩,0)).2):=(af.cell (j*2+1)).trans z2;generalize (xs.getD j (⟨#[]⟩,0)).1=z at*;generalize (xs.getD j (⟨#[]⟩,0)).2=K at*;clear af z1 z2 e7;have ad:=Fc wr 181 [string z,int i64 K];have ao:Below wr.heap.size wr (wr.alloc (.cells #[string z,int i64 K] 181)):=(Ad _ wr).alloc (Ac _) _;change At (wr.alloc (.cells #[string z,int i64 K] 181)) _ _ _ at ad;have aa:=hid ad;have ah:=hid ao;obtain⟨I,ab⟩:=E7 wr.heap.size;rw[<-ab]at aa;go_upto_region 6 with fail
     rw[<-ab];generalize (wr.alloc (.cells #[string z,int i64 K] 181))=J at*;have M:=hid (HR.out.below ah.out);have ba:Hid (∀y,(slice a (2*j) c).ownBlock=some y->y≠I):=fun y hy e=>by
      obtain⟨B1, -,f⟩:=HR.out.lst (j:=0) rfl;have:=(AB f y hy).2;omega
     clear HR ah ad ao ab Z k2;have Z:J.cell? ⟨I,0,none⟩=some (string z):=aa.out.cell 0;have k2:J.cell? ⟨I,1,none⟩=some (int i64 K):=aa.out.cell 1;have HI:=hid (TN K J.drew bh (M.out.tb.below ((Ad _ J).drew)).wd.tab);generalize (⟨(Lib.itoa K).toArray⟩:ByteArray)=d at*;obtain⟨i0,hi,au,av,aw⟩:=As Tryz.Rr;have a3:Hid (∀r,Below J.heap.size J r->∃a' c' w5,(Builtin.append_ #[22,22] 22 #[slice a (2*j) c,slice (some ⟨r.heap.size,0,none⟩) 2 2]).run prog (r.alloc (.cells #[string z,string d] 9))=.ok (slice a' (2*j+2) c') w5/\Hid (Hg w0 S w5 (setG (setG G 100 (Jt (JP ga 181 (Ml xs)))) 101 (Jt (Ju 9 1 (slice a' (2*j+2) c') (2*j+2) ((IL (xs.take j)).map Value.string++[string z,string d])))))/\w5.cell? ⟨I,0,none⟩=some (string z)/\w5.cell? ⟨I,1,none⟩=some (int i64 K)):=fun r n=>by
      have h6:=M.out.below (Fr n ((Ad _ r).alloc (Ac _) (.cells #[string z,string d] 9)));obtain⟨B1,bd,f⟩:=h6.lst (j:=0) rfl;have bc:=Fc r 9 [string z,string d];obtain⟨v',w5,hr,ay,aq, -,Q⟩:=Ec (P:=prog) (w:=r.alloc (.cells #[string z,string d] 9)) B1 22 22 9 i0 _ 1 16 underlying22 hi au av aw rfl (by omega) _ _ _ f ⟨r.heap.size,0,none⟩ 2 2 [string z,string d] rfl (fun k u hk=>by rw[BT,Ao];exact(bc.cell k).trans hk) (by intro u hu;simp only[Ar,Bt,BF]at hu;rcases hu with rfl | rfl<;>rfl) (by unfold maxLen;omega) (by omega) bd;have h7:=h6.AnK (j:=0) rfl ay aq (by grind);obtain⟨a',c',rfl, -⟩:=Fg ay;refine⟨a',c',w5,hr,h7.conv fun i=>by rcases i with _ | i<;>rfl,?_⟩;have ae:=Fr n ((Ad _ r).alloc (Ac _) (.cells #[string z,string d] 9));have ar:=Aj J _ Z;have ap:=aq.block I (by have:=ae.size;exact AI ar this) (fun e=>ba.out I e.symm rfl);exact⟨(AF ap).trans ((ae.cell ar).trans Z),(AF ap).trans ((ae.cell (Aj J _ k2)).trans k2)⟩
     clear hi au av aw
     go_region_held3 (fun w'=>w'.cell? ⟨I,0,none⟩=some (string z)/\w'.cell? ⟨I,1,none⟩=some (int i64 K)) (first | exact⟨Z,k2⟩ | exact q1 | exact q2 | go_keep) (first
      | (go_at_call 11;refine HI.out.mono ?_;rintro e r ⟨rfl,n⟩;have Q:=Fr ((Ad _ J).drew) n;have q1:r.cell? ⟨I,0,none⟩=some (string z)/\r.cell? ⟨I,1,none⟩=some (int i64 K):=⟨(Q.cell (Aj J _ Z)).trans Z,(Q.cell (Aj J _ k2)).trans k2⟩;obtain⟨a',c',w5,X,H5,q2⟩:=a3.out r Q;have ai:=hid X;clear X)
      | (refine KJ rfl .append (.tmp 59) (.tmp 65) 22 22 rfl (slice a (2*j) c) (slice (some ⟨r.heap.size,0,none⟩) 2 2) (by simp[Act.eval]) (by simp[Act.eval]) (GG ai.out) ?_))
     go_wp2_with fail;refine⟨⟨j+1,by omega,by go_num,a',c',by grind,?_⟩,by simp[intOf];omega⟩;rw[HS.out,AR,show 2*(j+1)=2*j+2 by omega];exact H5
    ·obtain rfl:j=7:=by omega
     have B:=HR.out;rw[Aw (by rw[O.out];exact Ac _)]at B;obtain⟨B1, -,f⟩:=B.lst (j:=0) rfl;obtain⟨gl,cl,el⟩:=Lh f (by omega);simp only[Aq]at el;obtain⟨rfl, -,rfl⟩:=el;obtain⟨a9,c9,e9,bl, -⟩:=Fg f;simp only[Aq]at e9;obtain⟨-, -,rfl⟩:=e9;have bg:(IL xs).length=14:=by rw[Aej,O.out]
     have az:=Rh xs aj.out;have ag:=Aly ((IL xs).map (·.data.toList)) [32];rw[O.out]at az
     have HJ:=hid (Any.strings_Join Tryz.XL Tryz.Im gl 0 c (IL xs) ⟨#[32]⟩ wr (fun k x hk=>by
      rw[Ao,CX f k (by grind),A9,hk]
      rfl) (AB f gl rfl).2 (by omega) (by omega) (by grind))
     rw[bg]at HJ;have a8:Hid (ZZ xs=(⟨(Lib.join ((IL xs).map (·.data.toList)) [32]).toArray⟩:ByteArray)++⟨#[10]⟩):=rfl;have br:(⟨(Lib.join ((IL xs).map (·.data.toList)) [32]).toArray⟩:ByteArray).size<=1000:=by show(Lib.join _ _).toArray.size<=_;rw[A8];omega
     have a7:Hid (Calls prog 85 #[slice (some ⟨gl,0,none⟩) 14 c,string ⟨#[32]⟩] wr fun e w'=>e=.returned (string ⟨(Lib.join ((IL xs).map (·.data.toList)) [32]).toArray⟩)/\Below wr.heap.size wr w'):=HJ.out;generalize (⟨(Lib.join ((IL xs).map (·.data.toList)) [32]).toArray⟩:ByteArray)=Y at*;have H9:=hid B;clear B f HR HJ az ag
     go_wp2_with(go_at_call 85;refine a7.out.mono ?_;rintro e r ⟨rfl,n⟩;have a2:=hid (H9.out.below n);clear n);go_ret;rw[bb.out,a8.out,a6.out];refine⟨rfl,?_⟩;have al:=(a2.out.drop 0).conv (O':=fun _=>none) (fun i=>by rcases i with _ | i<;>rfl);rw[JJ G (by omega),a5.out]at al;have am:=(al.drop 0).conv (O':=fun _=>none) (fun i=>by rcases i with _ | i<;>rfl);rw[a4.out]at am;exact am
def Alb:ByteArray:=⟨#[98,97,100,10]⟩
def Xy (m:NtM)(k:Nat)(u:UsrM)(o:OrdM):NtM×ByteArray:=
 if o.verb=OC then (m.put k (KH (u,m.t) o.text).1,NQ (KH (u,m.t) o.text).2.toNat)
 else if o.verb=Pk then (match m.t.co.per (u.who:Int)with
  | some pr=>(m.put k (Mc (u,m.t) o.num pr).1,NQ (Mc (u,m.t) o.num pr).2.toNat)
  | none=>(m,Alb))
 else if o.verb=Pp then (match m.t.co.per (u.who:Int)with
  | some pr=>(m,ZZ (Mg u m.t pr))
  | none=>(m,Alb))
 else if o.verb=MZ then (m,Pa u.told)
 else (m.put k ({u with air:=o.air},m.t),NQ 0)
theorem Akm(s:UsrM×NetM)(d:ByteArray):0<=(KH s d).2/\(KH s d).2<100:=by grind [KH,CoM.Gu]
theorem Ai2(s:UsrM×NetM)(c:Int)(pr:PrM):0<=(Mc s c pr).2/\(Mc s c pr).2<100:=by grind [Mc,CoM.hand,CoM.move]
structure OrdOk(o:OrdM):Prop where
 who:o.who<=9223372036854775807
 num:o.num<=9223372036854775807
 text:o.text.size<=100
 rough:o.air.rough<=9223372036854775807
theorem OK{x:Int}(h:0<=x/\x<100)(w:World):Calls prog 16 #[int i64 x] w fun e w'=>e=.returned (string (NQ x.toNat))/\w'=w:=by
 have:=Z9 x.toNat (by omega) w
 rwa [show((x.toNat:Nat):Int)=x by omega]at this
theorem NtAt.Aps{m:NtM}(h:NtAt w0 S w E p m)(c:m.us k=some u)(b:1<=k/\k<=16)(a:Hg w0 S w' (setG (setG (Hn E p m) 0 (FK p.q m.t)) k (usO (p.P k) u))):NtAt w0 S w' E p m:=by
 rw[Rw c b]at a;exact {h with hg:=a}
theorem Aju{m:NtM}(o:OrdM)(h:NtAt w0 S w E p m)(hi:NInv L m)(hL:L<=2000000)(D:m.us k=some u)(ho:OrdOk o):Calls prog 19 #[Fa p.q.b,Fa (p.P k).b,.agg #[.string o.verb,.int i64 (o.who:Int),.int i64 (o.num:Int),.string o.text,.bool o.air.lost,.bool o.air.deaf,.int i64 (o.air.rough:Int)]] w fun e w'=>e=.returned (.string (Xy m k u o).2)/\∃p',SameB p p'/\NtAt w0 S w' E p' (Xy m k u o).1:=by
 obtain⟨Q,f,K⟩:=hi.us k u D;have hn:=h.n hi (by omega);have M:Below w.heap.size w (w.alloc (.cells #[.string o.verb,.int i64 (o.who:Int),.int i64 (o.num:Int),.string o.text,.bool o.air.lost,.bool o.air.deaf,.int i64 (o.air.rough:Int)] 51)):=(Ad _ w).alloc (Ac _) _;have hA:=Fc w 51 (Aap o.verb o.who o.num o.text o.air.lost o.air.deaf o.air.rough);change At (w.alloc (.cells #[.string o.verb,.int i64 (o.who:Int),.int i64 (o.num:Int),.string o.text,.bool o.air.lost,.bool o.air.deaf,.int i64 (o.air.rough:Int)] 51)) _ _ _ at hA;have Z:=h.below M;have A:=hid Z;have a:=hid (Z.J5 D Q);obtain⟨pr,y⟩:∃pr,m.t.co.per (u.who:Int)=some pr:=by
  cases e:m.t.co.per (u.who:Int)with
  | none=>
   rw[f.who]at e;rw[(hi.per k).1 e]at D
   cases D
  | some pr=>exact⟨pr,rfl⟩
 have V:=hi.st _ pr y;obtain⟨⟨c0,c1,c2,c3,c4,c5,c6⟩, -⟩:=At.seven hA
 have i:Hid (Xy m k u o=if o.verb=OC then (m.put k (KH (u,m.t) o.text).1,NQ (KH (u,m.t) o.text).2.toNat)
  else if o.verb=Pk then (m.put k (Mc (u,m.t) o.num pr).1,NQ (Mc (u,m.t) o.num pr).2.toNat)
  else if o.verb=Pp then (m,ZZ (Mg u m.t pr))
  else if o.verb=MZ then (m,Pa u.told)
  else (m.put k ({u with air:=o.air},m.t),NQ 0)):=by
  show Xy m k u o=_;unfold Xy;rw[y]
 have O:u.op.fst<=16777216:=by
  obtain⟨F,bm, -,hP⟩:=a.out.get (j:=8) rfl;exact hP.ok.few
 have ae:u.snd.wait<=64:=by
  obtain⟨F,b,ua,c,us, -, -, -,hM⟩:=a.out.get (j:=1) rfl;rw[hM.wait];exact hM.few
 have ad:m.t.co.loans.length<=m.t.n:=by
  obtain⟨F,N, -,hP⟩:=(a.out.net (by omega)).get (j:=1) rfl;exact hP.ok.len
 have U:SameB p p:=SameB.refl p;clear h Z hA M;unfold Fa at*;obtain⟨g5,d⟩:=E7 w.heap.size;rw[<-d]at c0 c1 c2 c3 c4 c5 c6;have l:=hid d;obtain⟨v,ev⟩:=E7 o.verb;rw[<-ev]at c0 c1 c2 c3 c4 c5 c6 A a i |-;clear ev
 by_cases e1:v=OC
 ·subst e1;have B:=hid (i.out.trans (Ab rfl));have hX:m.t.co.QF (u.who:Int)<=500:=by
   unfold CoM.QF CoM.Pn;rw[y,hi.unit]
   grind
  have hG:m.t.co.Lu (u.who:Int)<=1000000000000:=by unfold CoM.Lu;split<;>omega
  have z:=hid (AgG (s:=(u,m.t)) o.text a.out (by omega) (by show u.who<=16;rw[f.who];omega) (by have:=ho.text;omega) hX hG (by have:=f.nxt;show u.sl.nxt<_;omega) (by have:=f.sent;show u.sent<=_;omega) (by have:=f.grN;show u.grN<=_;omega) (by show m.t.n<=_;omega));have J:=hid (OK (Akm (u,m.t) o.text));unfold Fa at z;generalize KH (u,m.t) o.text=R at*;unfold OC at*;clear hX hG i f hi K;go_enter func19,ntmps19;go_upto_region 3 with fail
  rw[<-d];clear d l;generalize (w.alloc (.cells #[.string {data:=#[115,101,110,100]},.int i64 (o.who:Int),.int i64 (o.num:Int),.string o.text,.bool o.air.lost,.bool o.air.deaf,.int i64 (o.air.rough:Int)] 51))=w1 at*
  go_wp2_with(first | (go_at_call 37;refine z.out.mono ?_;rintro e w2 ⟨rfl,C⟩;have G:=hid C;clear C) | (go_at_call 16;refine(J.out w2).mono ?_;rintro e w3 ⟨rfl,rfl⟩));go_ret;rw[B.out];exact⟨rfl,_,SameB.put rfl,A.out.put D Q rfl G.out⟩
 by_cases e2:v=Pk
 ·subst e2;have B:=hid (i.out.trans ((Aa e1).trans (Ab rfl)));have z:=hid (AgA (s:=(u,m.t)) (pr:=pr) (o.num:Int) a.out (by omega) (by show u.who<=16;rw[f.who];omega) y V (by have:=f.key;show u.key<=_;omega));have J:=hid (OK (Ai2 (u,m.t) (o.num:Int) pr));unfold Fa at z;generalize Mc (u,m.t) (o.num:Int) pr=R at*;unfold Pk at*;clear i f hi K e1;go_enter func19,ntmps19;go_upto_region 5 with fail
  rw[<-d];clear d l;generalize (w.alloc (.cells #[.string {data:=#[104,97,110,100]},.int i64 (o.who:Int),.int i64 (o.num:Int),.string o.text,.bool o.air.lost,.bool o.air.deaf,.int i64 (o.air.rough:Int)] 51))=w1 at*
  go_wp2_with(first | (go_at_call 38;refine z.out.mono ?_;rintro e w2 ⟨p',T,rfl,C⟩;have G:=hid C;clear C) | (go_at_call 16;refine(J.out w2).mono ?_;rintro e w3 ⟨rfl,rfl⟩));go_ret;rw[B.out];exact⟨rfl,_,SameB.put T,A.out.put D Q T G.out⟩
 by_cases e3:v=Pp
 ·subst e3;have B:=hid (i.out.trans ((Aa e1).trans ((Aa e2).trans (Ab rfl))));have z:=hid (AgC (pr:=pr) a.out (by omega) (by omega) (by omega) A.out.e1 A.out.e2 (by rw[f.who];omega) y V (by rw[f.ok.len];exact O) (by omega));unfold Fa at z;generalize ZZ (Mg u m.t pr)=R at*;unfold Pp at*;clear i f hi K e1 e2;go_enter func19,ntmps19;go_upto_region 7 with fail
  rw[<-d];clear d l;generalize (w.alloc (.cells #[.string {data:=#[108,111,111,107]},.int i64 (o.who:Int),.int i64 (o.num:Int),.string o.text,.bool o.air.lost,.bool o.air.deaf,.int i64 (o.air.rough:Int)] 51))=w1 at*
  go_wp2_with(go_at_call 39;refine z.out.mono ?_;rintro e w2 ⟨rfl,C⟩;have G:=hid C;clear C);go_ret;rw[B.out];exact⟨rfl,p,U,A.out.Aps D Q G.out⟩
 by_cases Y:v=MZ
 ·subst Y;have B:=hid (i.out.trans ((Aa e1).trans ((Aa e2).trans ((Aa e3).trans (Ab rfl)))));obtain⟨B0, -,r⟩:=a.out.lst (j:=10) rfl;obtain⟨a0,k0,I, -, -,ab⟩:=Fg r;have X:=f.tld;rw[I]at r;have ac:(w.alloc (.cells #[.string MZ,.int i64 (o.who:Int),.int i64 (o.num:Int),.string o.text,.bool o.air.lost,.bool o.air.deaf,.int i64 (o.air.rough:Int)] 51)).cell? ⟨(p.P k).b,14,none⟩=some (slice a0 u.told.length k0):=by rw[<-I];exact(a.out.box (j:=0) rfl).cell 14
  have z:=hid (AgI u.told a0 u.told.length k0 _ A.out.hg.tb rfl (by rw[f.ok.len];exact O) (fun j hj=>by
   obtain⟨gl,cl,el⟩:=Lh r (by omega);simp only[Aq]at el;obtain⟨rfl, -,rfl⟩:=el;refine⟨gl,0,rfl,?_⟩;rw[Ao,CX r j (by omega),A9,Au,Ap hj]
   rfl) X)
  generalize Pa u.told=R at*;generalize u.told.length=nt at*;unfold MZ at*;clear i f hi K e1 e2 e3 r I ab X;go_enter func19,ntmps19;go_upto_region 9 with fail
  rw[<-d];clear d l;generalize (w.alloc (.cells #[.string {data:=#[116,111,108,100]},.int i64 (o.who:Int),.int i64 (o.num:Int),.string o.text,.bool o.air.lost,.bool o.air.deaf,.int i64 (o.air.rough:Int)] 51))=w1 at*
  go_wp2_with(go_at_call 40;refine z.out.mono ?_;rintro e w2 ⟨rfl,aa⟩);go_ret;rw[B.out];exact⟨rfl,p,U,A.out.below aa⟩
 have B:=hid (i.out.trans ((Aa e1).trans ((Aa e2).trans ((Aa e3).trans (Aa Y)))));have n1:=IY e1 (show OC.toList=[115,101,110,100]by decide+kernel);have n2:=IY e2 (show Pk.toList=[104,97,110,100]by decide+kernel);have n3:=IY e3 (show Pp.toList=[108,111,111,107]by decide+kernel);have n4:=IY Y (show MZ.toList=[116,111,108,100]by decide+kernel);have J:=hid (OK (x:=0) (by omega));clear i f hi K e1 e2 e3 Y;go_enter func19,ntmps19;go_upto_region 10 with fail
 rw[<-d];clear d l n1 n2 n3 n4;generalize (w.alloc (.cells #[.string v,.int i64 (o.who:Int),.int i64 (o.num:Int),.string o.text,.bool o.air.lost,.bool o.air.deaf,.int i64 (o.air.rough:Int)] 51))=w1 at*;have k2:w1.cell? ⟨(p.P k).b,2,none⟩=some (.bool u.air.lost):=(a.out.box (j:=0) rfl).cell 2;have k3:w1.cell? ⟨(p.P k).b,3,none⟩=some (.bool u.air.deaf):=(a.out.box (j:=0) rfl).cell 3;have k4:w1.cell? ⟨(p.P k).b,4,none⟩=some (.int i64 (u.air.rough:Int)):=(a.out.box (j:=0) rfl).cell 4;have l2:=(a.out.box (j:=0) rfl).free 2;have l3:=(a.out.box (j:=0) rfl).free 3;have l4:=(a.out.box (j:=0) rfl).free 4;have G:=hid (((a.out.GK (j:=0) rfl 2 (.bool o.air.lost)).GK (j:=0) rfl 3 (.bool o.air.deaf)).GK (j:=0) rfl 4 (.int i64 (o.air.rough:Int)))
 go_wp2_with(go_at_call 16;refine(J.out _).mono ?_;rintro e w3 ⟨rfl,rfl⟩);go_ret;rw[B.out];refine⟨rfl,_,SameB.put (x:=p.P k) rfl,A.out.put D Q rfl ?_⟩;exact G.out.conv fun j=>by rcases j with _ | _ | _ | _ | _ | _ | _ | _ | _ | _ | _ | j<;>rfl
def doM (m:NtM)(s:ByteArray):NtM×ByteArray:=match MO s with
 | none=>(m,Alb)
 | some o=>if o.verb=Ji then (AbD m,NQ 0) else if o.verb=NM then ((jnM m o.who o.num).1,NQ (jnM m o.who o.num).2.toNat)
  else match m.us o.who with
   | none=>(m,NQ 12)
   | some u=>Xy m o.who u o
theorem Adb(h:Om s=some k):k<=9223372036854775807:=by
 unfold Om at h
 split at h
 ·cases h
 ·split at h
  ·next v hv=>
   split at h
   ·next hc=>
    have a:v<=9223372036854775807:=by
     unfold VF at hv
     split at hv
     ·next x hx=>
      obtain rfl:=AX hv;have:=Lib.atoiAll_bounds hx;omega
     ·cases hv
    have:=AX h;omega
   ·cases h
  ·cases h
theorem Am2{a:AirM}(h:PD s=some a):a.rough<=9223372036854775807:=by
 unfold PD at h
 split at h
 ·cases h;exact Af _
 ·split at h
  ·cases h;exact Af _
  ·split at h
   ·cases h;exact Af _
   ·split at h
    ·obtain⟨k,b,rfl⟩:=Option.map_eq_some_iff.1 h;exact Adb b
    ·cases h
theorem AjK{o:OrdM}(h:MO s=some o):OrdOk o:=by
 unfold MO at h
 split at h
 ·cases h;exact⟨Af _,Af _,by decide+kernel,Af _⟩
 ·obtain⟨k,b,h⟩:=Option.bind_eq_some_iff.1 h;have b:=Adb b;have c:(⟨#[]⟩:ByteArray).size<=100:=by decide+kernel
  unfold AlX at h
  split at h
  ·split at h
   ·cases h
   ·cases h;exact⟨b,Af _,c,Af _⟩
  ·split at h
   ·obtain⟨n,e,rfl⟩:=Option.map_eq_some_iff.1 h;exact⟨b,Adb e,c,Af _⟩
   ·split at h
    ·split at h
     ·cases h
     ·cases h;exact⟨b,Af _,by dsimp only;omega,Af _⟩
    ·split at h
     ·obtain⟨a,d,rfl⟩:=Option.map_eq_some_iff.1 h;exact⟨b,Af _,c,Am2 d⟩
     ·cases h
theorem Anr(m:NtM)(k:Nat)(x:Int):0<=(jnM m k x).2/\(jnM m k x).2<100:=by grind [jnM,CoM.Kx,CoM.join]
theorem NInv.Apo{m:NtM}(h:NInv L m)(s:ByteArray)(c:m.t.co.loans.length<=1000000000000):NInv (L+1) (doM m s).1:=by
 have a:=h.mono (Bx L);unfold doM
 split
 ·exact a
 ·next o ho=>
  have b:=AjK ho
  split
  ·exact a.Apu
  ·split
   ·exact h.join _
   ·split
    ·exact a
    ·next u hu=>
     unfold Xy
     split
     ·exact h.Mw hu _ c
     ·split
      ·split
       ·exact h.hand hu _ _
       ·exact a
      ·split
       ·split<;>exact a
       ·split
        ·exact a
        ·obtain⟨e,hi,d⟩:=a.us _ u hu;exact a.put (Ac _) hu ⟨hi.who,hi.key,b.rough,hi.ear,⟨hi.ok.len,hi.ok.gr,hi.ok.op⟩,hi.inn,hi.nxt,hi.sent,hi.grN,hi.tld⟩ d (by grind) (fun j=>CI) h.st rfl rfl
theorem NtAt.join{m:NtM}{x:UsrP}(h:NtAt w0 S w E p m)(f:1<=k/\k<=16)(d:Hg w0 S w' (setG (setG (Hn E p m) 0 (FK (p.q.AaN k (Fa x.b)) t)) k (usO x u))):NtAt w0 S w' E ⟨p.q.AaN k (Fa x.b),P7 p.P k x⟩ ⟨P7 m.us k (some u),t⟩:=by
 have e:setG (setG (Hn E p m) 0 (FK (p.q.AaN k (Fa x.b)) t)) k (usO x u)=Hn E ⟨p.q.AaN k (Fa x.b),P7 p.P k x⟩ ⟨P7 m.us k (some u),t⟩:=funext fun j=>by
  unfold setG Hn usG
  by_cases e:j=k
  ·subst e;rw[Ab rfl,Aa (by omega),Ab f.2];simp only[I0]
  ·rw[Aa e];simp only[Hx _ _ e]
   grind
 rw[e]at d;refine⟨d,?_,h.e1,h.e2,h.e3⟩
 show p.q.us.set k (Fa x.b)=_;rw[h.us];refine Bf fun j=>?_
 rw[BW,A9,A9];simp only[Bo,C1]
 by_cases a:k=j
 ·subst a;rw[Ab rfl,Ab (by omega),Ch (by omega)];simp only[Cx,MP,I0];rfl
 ·rw[Aa a];unfold MP
  by_cases c:j<17
  ·rw[Ch c];simp only[Cx,Hx _ _ (Ck a)]
  grind
theorem AlN{m:NtM}(s:ByteArray)(h:NtAt w0 S w E p m)(hE:E 103=fun _=>none)(hi:NInv L m)(hL:L<=2000000)(hs:s.size<=10000000):Calls prog 6 #[Fa p.q.b,string s] w fun e w'=>e=.returned (string (doM m s).2)/\∃r,r.q.b=p.q.b/\NtAt w0 S w' E r (doM m s).1:=by
 have O:=hid (AgT s w h.hg.tb hs);have H:=hid h;have hn:=h.n hi (by omega);unfold Fa;clear h
 cases J:MO s with
 | none=>
  have D:Hid (doM m s=(m,Alb)):=by show doM m s=_;unfold doM;rw[J]
  rw[J]at O;clear J hi;go_enter func6,ntmps6
  go_wp2_with(go_at_call 14;refine O.out.mono ?_;rintro e w1 ⟨V,k,N,T,l,d,x,rfl, -,B⟩);go_ret;rw[D.out];exact⟨rfl,p,rfl,H.out.below (Fr B ((Ad _ w1).alloc (Ac _) _))⟩
 | some o=>
  have a:=AjK J
  have D:Hid (doM m s=if o.verb=Ji then (AbD m,NQ 0) else if o.verb=NM then ((jnM m o.who o.num).1,NQ (jnM m o.who o.num).2.toNat)
   else match m.us o.who with
    | none=>(m,NQ 12)
    | some u=>Xy m o.who u o):=by show doM m s=_;unfold doM;rw[J]<;>exact rfl
  rw[J]at O;clear J;go_enter func6,ntmps6;go_upto_region 2 with(go_at_call 14;refine O.out.mono ?_;rintro e w1 ⟨V,k,N,T,l,d,x,rfl,hR,B⟩;obtain⟨rfl,rfl,rfl,rfl,rfl,rfl,rfl⟩:=hR.eq o rfl)
  have Z:=Fr B ((Ad _ w1).alloc (Ac _) (.cells #[string o.verb,int i64 (o.who:Int),int i64 (o.num:Int),string o.text,.bool o.air.lost,.bool o.air.deaf,int i64 (o.air.rough:Int)] 51));have hA:=Fc w1 51 (Aap o.verb o.who o.num o.text o.air.lost o.air.deaf o.air.rough);change At (w1.alloc (.cells #[string o.verb,int i64 (o.who:Int),int i64 (o.num:Int),string o.text,.bool o.air.lost,.bool o.air.deaf,int i64 (o.air.rough:Int)] 51)) _ _ _ at hA;have c:=hid (H.out.below Z);obtain⟨⟨c0,c1,c2,c3,c4,c5,c6⟩, -⟩:=At.seven hA;generalize (w1.alloc (.cells #[string o.verb,int i64 (o.who:Int),int i64 (o.num:Int),string o.text,.bool o.air.lost,.bool o.air.deaf,int i64 (o.air.rough:Int)] 51))=w2 at*;obtain⟨g5,U⟩:=E7 w1.heap.size;rw[<-U]at c0 c1 c2 c3 c4 c5 c6 |-;obtain⟨v,ev⟩:=E7 o.verb;rw[<-ev]at c0 D |-;have aa:=hid ev;clear hA Z O B hR H U ev
  by_cases e1:v=Ji
  ·have I:=hid (D.out.trans (Ab e1));subst e1;unfold Ji at*;have y:=hid (AgJ c.out hE hi (by omega));have Q:=hid (OK (x:=0) (by omega));unfold Fa at y;clear hi D a
   go_wp2_with(first | (go_at_call 15;refine y.out.mono ?_;rintro e f ⟨rfl,r,i,Y⟩;have H3:=hid Y;clear Y) | (go_at_call 16;refine(Q.out f).mono ?_;rintro e w4 ⟨rfl,rfl⟩));go_ret;rw[I.out];exact⟨rfl,r,by rw[i.q],H3.out⟩
  have z:=hid (D.out.trans (Aa e1));have n1:=IY e1 (show Ji.toList=[116,105,99,107]by decide+kernel)
  by_cases e2:v=NM
  ·have I:=hid (z.out.trans (Ab e2));subst e2;unfold NM at*;have ab:p.q.us.length=17:=by rw[c.out.us];simp
   have y:=hid (AgB o.who (o.num:Int) c.out.net a.who (by omega) ab (fun he=>by
    obtain⟨b1,b2, -⟩:=QC he;have hk:1<=o.who/\o.who<=16:=by omega
    refine⟨hk.1,hk.2,?_⟩;have hz:=(hi.per o.who).1 b2;unfold Hn usG
    rw[Aa (by omega),Ab hk.2,hz]))
   have Q:=hid (OK (Anr m o.who (o.num:Int)))
   have HX:Hid (∀(e:Ending) (f:World),((m.t.co.join (o.who:Int) (o.num:Int)).err≠0/\e=.returned (int i64 (m.t.co.join (o.who:Int) (o.num:Int)).err)/\Hg w0 S f (setG (Hn E p m) 0 (FK p.q (m.t.with (m.t.co.join (o.who:Int) (o.num:Int)).m (m.t.n+1)))))\/
    ((m.t.co.join (o.who:Int) (o.num:Int)).err=0/\((m.t.co.join (o.who:Int) (o.num:Int)).m.FV (o.who:Int) 1).err≠0/\e=.returned (int i64 ((m.t.co.join (o.who:Int) (o.num:Int)).m.FV (o.who:Int) 1).err)/\Hg w0 S f (setG (Hn E p m) 0 (FK p.q (m.t.with ((m.t.co.join (o.who:Int) (o.num:Int)).m.FV (o.who:Int) 1).m (m.t.n+1)))))\/
    ((m.t.co.join (o.who:Int) (o.num:Int)).err=0/\((m.t.co.join (o.who:Int) (o.num:Int)).m.FV (o.who:Int) 1).err=0/\e=.returned (int i64 0)/\∃x,Hg w0 S f (setG (setG (Hn E p m) 0 (FK (p.q.AaN o.who (Fa x.b)) (m.t.with ((m.t.co.join (o.who:Int) (o.num:Int)).m.FV (o.who:Int) 1).m (m.t.n+1)))) o.who (usO x (UsrM.new o.who))))->
    e=.returned (int i64 (jnM m o.who (o.num:Int)).2)/\∃r,r.q.b=p.q.b/\NtAt w0 S f E r (jnM m o.who (o.num:Int)).1):=fun e f hq=>by
    rcases hq with⟨K,q2,q3⟩ | ⟨K,q2, -⟩ | ⟨K,q2,q3,x,q4⟩
    ·unfold jnM;rw[Aa K];have e9:Hn E p ⟨m.us,m.t.with (m.t.co.join (o.who:Int) (o.num:Int)).m (m.t.n+1)⟩=setG (Hn E p m) 0 (FK p.q (m.t.with (m.t.co.join (o.who:Int) (o.num:Int)).m (m.t.n+1))):=funext fun j=>by
      unfold setG Hn
      by_cases X:j=0
      ·rw[Ab X,Ab X]
      ·rw[Aa X,Aa X,Aa X];rfl
     rw[<-e9]at q3;exact⟨q2,p,rfl,q3,c.out.us,c.out.e1,c.out.e2,c.out.e3⟩
    ·exact absurd (QC K).2.2.1 q2
    ·obtain⟨b1, -⟩:=QC K;unfold jnM;rw[Ab K];exact⟨q3,⟨p.q.AaN o.who (Fa x.b),P7 p.P o.who x⟩,rfl,c.out.join (by omega) q4⟩
   unfold Fa at y HX;generalize jnM m o.who (o.num:Int)=R at*;clear hi D z a
   go_wp2_with(first | (go_at_call 17;refine y.out.mono ?_;rintro e f hq;obtain⟨rfl,r,i,Y⟩:=HX.out e f hq;clear hq;have H3:=hid Y;clear Y) | (go_at_call 16;refine(Q.out f).mono ?_;rintro e w4 ⟨rfl,rfl⟩));go_ret;rw[I.out];exact⟨rfl,r,i,H3.out⟩
  have A:=hid (z.out.trans (Aa e2));have n2:=IY e2 (show NM.toList=[117,115,101,114]by decide+kernel)
  have G:17<=o.who->MP p m o.who=none:=fun h=>MQ (by
   cases C:m.us o.who with
   | none=>rfl
   | some u=>
    have:=(hi.us _ u C).1
    omega)
  have M:=hid (Agz o.who (MP p m o.who) c.out.net a.who (fun hk=>c.out.at hk) G);unfold Fa at M;clear D z e1 e2 G
  cases C:m.us o.who with
  | none=>
   rw[MQ C]at M;have I:Hid (doM m s=(m,NQ 12)):=by rw[A.out,C];exact rfl
   have Q:=hid (OK (x:=12) (by omega));clear hi A C a
   go_wp2_with(first | (go_at_call 18;refine M.out.mono ?_;rintro e f ⟨rfl,rfl⟩) | (go_at_call 16;refine(Q.out _).mono ?_;rintro e w4 ⟨rfl,rfl⟩));go_ret;rw[I.out];exact⟨rfl,p,rfl,c.out⟩
  | some u=>
   rw[O5 C]at M;have I:Hid (doM m s=Xy m o.who u o):=by rw[A.out,C];exact rfl
   have y:=hid (Aju o c.out hi hL C a);rw[<-aa.out]at y;unfold Fa at y;clear hi A C a
   go_wp2_with(first | (go_at_call 18;refine M.out.mono ?_;rintro e f ⟨rfl,rfl⟩) | (go_at_call 19;refine y.out.mono ?_;rintro e w4 ⟨rfl,r,i,h4⟩;have H4:=hid h4;clear h4));go_ret;rw[I.out];exact⟨rfl,r,by rw[i.q],H4.out⟩
def noE:Nat->Nat->Option Cm:=fun _ _=>none
structure NetAt(b:Nat)(m:NtM)(w:World)(F:List Nat)(p:NtP)(G:Nat×Nat->List Nat):Prop where
 b:p.q.b=b
 us:p.q.us=(List.range 17).map fun k=> .pointer (MP p m k)
 each:∀i c,Hn noE p m i.1 i.2=some c->c.P w (G i)/\∀x∈G i,x∈F
 ap:∀i j,i≠j->Hn noE p m i.1 i.2≠none->Hn noE p m j.1 j.2≠none->∀x∈G i,x∉G j
 lt:∀x∈F,x<w.heap.size
def T5 (b:Nat)(m:NtM):Cm:=⟨fun w F=>∃p G,NetAt b m w F p G,fun _ _ ⟨_,_,h⟩=>h.lt,fun w w' F S ⟨p,G,h⟩ hk hn=>⟨p,G,h.b,h.us,fun i c hi=>⟨c.kept _ _ _ _ (h.each i c hi).1 hk fun x hx=>hn x ((h.each i c hi).2 x hx),(h.each i c hi).2⟩,h.ap,fun x hx=>AI (h.lt x hx) hk.size⟩⟩
theorem NetAt.net{b:Nat}{m:NtM}{G:Nat×Nat->List Nat}(h:NetAt b m w F p G)(ht:Tb w)(hF:∀x∈F,Oe<=x):NtAt w F w noE p m:=
 ⟨⟨G,Kept.refl _ w,ht,hF,ht.lt,fun i c hi=>⟨(h.each i c hi).1,fun x a=> .inl ((h.each i c hi).2 x a)⟩,h.ap⟩,h.us,rfl,rfl,rfl⟩
def AlO (w w':World)(F:List Nat):List Nat:=F++(List.range w'.heap.size).filter fun x=>decide (w.heap.size<=x)
theorem QH{x:Nat}:x∈AlO w w' F↔x∈F\/(x<w'.heap.size/\w.heap.size<=x):=by
 unfold AlO;simp
theorem NtAt.AmV{m:NtM}(h:NtAt w F w' noE p m)(hF:∀x∈F,x<w.heap.size):Kept F w w'/\(T5 p.q.b m).P w' (AlO w w' F)/\Ga w.heap.size F (AlO w w' F):=by
 obtain⟨G,a⟩:=h.hg;refine⟨a.kep,⟨p,G,rfl,h.us,fun i c hi=>⟨(a.each i c hi).1,fun x d=>?_⟩,a.ap,fun x d=>?_⟩,fun x d=>?_⟩
 ·have e:=c.lt _ _ (a.each i c hi).1 x d
  rcases (a.each i c hi).2 x d with q | q
  ·exact QH.2 (.inl q)
  ·exact QH.2 (.inr ⟨e,q⟩)
 ·rcases QH.1 d with q | q
  ·exact AI (hF x q) a.kep.size
  ·exact q.1
 ·rcases QH.1 d with q | q
  ·exact .inl q
  ·exact .inr q.2
theorem nDo(b:Nat)(m:NtM)(s:ByteArray)(w:World)(hi:NInv L m)(r:L<=2000000)(z:s.size<=10000000):NS 6 #[Fa b,string s] w (T5 b m) fun e c=>e=.returned (string (doM m s).2)/\c=T5 b (doM m s).1/\NInv (L+1) (doM m s).1:=fun ht F hF ⟨p,G,h⟩=>by
 have d:=h.net ht hF;have x:m.t.co.loans.length<=m.t.n:=by
  obtain⟨F',N, -,v⟩:=d.net.get (j:=1) rfl;exact v.ok.len
 have y:=d.n hi (by omega);have i:=AlN s d rfl hi r z;rw[h.b]at i;refine i.mono ?_;rintro e w' ⟨rfl,A,a,l⟩;obtain⟨o,f,q⟩:=l.AmV h.lt;rw[a]at f;exact⟨_,⟨rfl,rfl,hi.Apo s (by omega)⟩,o,_,f,q⟩
def NtM.new:NtM:=⟨fun _=>none,NetM.new⟩
theorem NInv.new:NInv 0 NtM.new:=⟨fun k u h=>(by cases h),fun k=>⟨fun _=>rfl,fun _=>rfl⟩,fun k pr h=>(by cases h),rfl,Af _,TSt.XX⟩
theorem App(w:World)(ht:Tb w):Calls prog 5 #[] w fun e w'=>∃b F,e=.returned (Fa b)/\(T5 b NtM.new).P w' F/\(∀x∈F,w.heap.size<=x)/\Kept [] w w':=by
 have d:Hg w [] w (setG noE 0 fun _=>none):=by
  rw[show(fun _=>none:Nat->Option Cm)=noE 0 from rfl,Ig];exact Hg.SF ht
 refine(Ajv d).mono ?_;rintro e w' ⟨q,rfl,m,a⟩;have c:setG noE 0 (FK q NetM.new)=Hn noE ⟨q,fun _=>⟨0,⟨0,0,none⟩,⟨0,0,none⟩,0,0,0,0,0,0,0,slice none 0 0⟩⟩ NtM.new:=funext fun j=>by
  unfold setG Hn
  by_cases e:j=0
  ·rw[Ab e,Ab e];rfl
  ·rw[Aa e,Aa e]
   split<;>rfl
 rw[c]at a;have f:NtAt w [] w' noE ⟨q,fun _=>⟨0,⟨0,0,none⟩,⟨0,0,none⟩,0,0,0,0,0,0,0,slice none 0 0⟩⟩ NtM.new:=⟨a,by rw[m];rfl,rfl,rfl,rfl⟩;obtain⟨h,i,l⟩:=f.AmV (by simp);exact⟨q.b,_,rfl,i,fun x n=>(l x n).elim (fun q=>by cases q) id,h⟩
def doL (m:NtM)(l:List ByteArray):NtM:=l.foldl (fun m s=>(doM m s).1) m
theorem Zx(m:NtM)(l:List ByteArray)(j:Nat)(h:j<l.length):doL m (l.take (j+1))=(doM (doL m (l.take j)) (l.getD j ByteArray.empty)).1:=by
 unfold doL;rw[Br,Ap h,Cf,Au,Ap h];rfl
def alM (l:List ByteArray)(j:Nat):NtM:=doL (doM NtM.new Ji).1 (l.take j)
def alB (l:List ByteArray)(j:Nat):NtM:=doL NtM.new (l.take j)
def alO (b1 b2 b3:Nat)(m1 m2:NtM):Nat->Option Cm
 | 0=>some (T5 b1 m1)
 | 1=>some (T5 b2 m2)
 | 2=>some (T5 b3 m1)
 | _=>none
theorem WN(m:NtM):(doM m Ji).2=NQ 0:=by grind [doM,Ji,NQ,MO]
theorem Afl(A B:List ByteArray)(aA aB:Option Addr)(c o cA cB:Nat)(w:World)(ht:Tb w)(hA:Txs w aA A)(hB:Txs w aB B)(am:A.length=c)(an:B.length=o)(ao:c<=1900000)(ap:o<=1900000)(ai:∀j,(A.getD j ByteArray.empty).size<=10000000)(aj:∀j,(B.getD j ByteArray.empty).size<=10000000):Calls prog 4 #[slice aA c cA,slice aB o cB] w fun e w'=>e=.returned (.bool true)/\Below w.heap.size w w':=by
 have H0:=hid (Hg.SF ht);have HN:=hid App;clear ht;go_enter func4,ntmps4
 go_upto_region 2 with(first
  | (go_at_call 5;refine(HN.out w H0.out.tb).mono ?_;rintro e w1 ⟨b1,F1,rfl,Y,U,af⟩;have H1:=hid (Hg.new (g:=0) (O:=fun _=>none) (D:=noE) (by rw[show(fun _=>none:Nat->Option Cm)=noE 0 from rfl,Ig];exact H0.out) 0 af Y U);clear Y U af)
  | (go_at_call 5;refine(HN.out w1 H1.out.tb).mono ?_;rintro e w2 ⟨n,F2,rfl,Z,V,ag⟩;have H2:=hid (H1.out.new 1 ag Z V);clear Z V ag)
  | (go_at_call 5;refine(HN.out w2 H2.out.tb).mono ?_;rintro e w3 ⟨b,F3,rfl,aa,X,ah⟩;have H3:=hid (H2.out.new 2 ah aa X);clear aa X ah))
 have T:=H3.out.conv (O':=alO b1 n b NtM.new NtM.new) fun j=>by rcases j with _ | _ | _ | j<;>rfl
 have f:Hid (Calls prog 6 #[.pointer (some ⟨b1,0,none⟩),string {data:=#[116,105,99,107]}] w3 fun e w'=>e=.returned (string {data:=#[111,107,10]})/\NInv 1 (doM NtM.new Ji).1/\Hg w [] w' (setG noE 0 (FQ (alO b1 n b NtM.new NtM.new) 0 (some (T5 b1 (doM NtM.new Ji).1))))):=(T.act (j:=0) rfl (nDo b1 NtM.new Ji w3 NInv.new (by omega) (by decide+kernel))).mono fun e w' ⟨c',⟨y,z,q3⟩,m⟩=>⟨by rw[y,WN];rfl,q3,by rw[<-z];exact m⟩
 have h:Hid (∀I,Hg w [] I (setG noE 0 (FQ (alO b1 n b NtM.new NtM.new) 0 (some (T5 b1 (doM NtM.new Ji).1))))->Calls prog 6 #[.pointer (some ⟨b,0,none⟩),string {data:=#[116,105,99,107]}] I fun e w'=>e=.returned (string {data:=#[111,107,10]})/\Hg w [] w' (setG noE 0 (alO b1 n b (doM NtM.new Ji).1 NtM.new))):=fun I h5=>(h5.act (j:=2) rfl (nDo b NtM.new Ji I NInv.new (by omega) (by decide+kernel))).mono fun e w' ⟨c',⟨y,z,q3⟩,m⟩=>⟨by rw[y,WN];rfl,by
  rw[z]at m
  exact m.conv fun j=>by rcases j with _ | _ | _ | j<;>rfl⟩
 unfold Fa at*;have C:=hid ai;have P:=hid aj;have HA:=hid hA;have HB:=hid hB;clear T H0 H1 H2 H3 HN ai aj hA hB
 go_upto_region 4 with(first
  | (go_at_call 6;refine f.out.mono ?_;rintro e I ⟨rfl,ad,T⟩;have H4:=hid T;clear T f)
  | (go_at_call 6;refine(h.out I H4.out).mono ?_;rintro e w5 ⟨rfl,h5⟩;have H5:=hid h5;clear h5))
 have N:=hid ad;clear ad h H4
 go_wp2_with fail
 go_loopw [8] (fun i wr=>∃j:Nat,j<=1900000/\i=int i64 (j:Int)/\Hid (Hg w [] wr (setG noE 0 (alO b1 n b (alM A j) (alB B j)))/\NInv (j+1) (alM A j)/\NInv (j+1) (alB B j))) (fun i _=>max c o-(intOf i).toNat)
 case atStart=>exact⟨0,Af _,rfl,H5.out,N.out,NInv.new.mono (Af _)⟩
 case round=>
  obtain⟨j,hj,rfl,r⟩:=hrel;clear H5 N
  by_cases hx:c<=j/\o<=j
  ·have x1:¬(j:Int)<(c:Int):=by omega
   have x2:¬(j:Int)<(o:Int):=by omega
   go_wp2_with fail;go_ret;exact⟨rfl,r.out.1.kep.below (Ac _) (by simp)⟩
  ·go_upto_region 5 with fail
   go_cut [29] (fun v wx=>v=.bool true/\wx=wr)
   case first=>
    by_cases y1:j<c
    ·have x1:(j:Int)<(c:Int):=by omega
     go_wp2_with fail
     go_meet;exact⟨rfl,rfl⟩
    ·have x1:¬(j:Int)<(c:Int):=by omega
     have x2:(j:Int)<(o:Int):=by omega
     go_wp2_with fail
     go_meet;exact⟨rfl,rfl⟩
   case rest=>
    obtain⟨rfl,rfl⟩:=hcut
    go_upto_if 35 with fail
    go_cut [] (fun wx=>Hid (Hg w [] wx (setG noE 0 (alO b1 n b (alM A j) (alB B (j+1))))/\NInv (j+1) (alM A j)/\NInv (j+1+1) (alB B (j+1))))
    case first=>
     by_cases y2:j<o
     ·have x2:(j:Int)<(o:Int):=by omega
      have a:j<B.length:=by rw[an];exact y2
      obtain⟨bb,ob,rfl,ac⟩:=HB.out.at a;have x:=ac j a;clear ac;have kb:wc.cell? ⟨bb,ob+j,none⟩=some (string (B.getD j ByteArray.empty)):=r.out.1.kep.AmH x (by simp);have M:Hid (alB B (j+1)=(doM (alB B j) (B.getD j ByteArray.empty)).1):=Zx _ B j a;have l:=P.out j;generalize B.getD j ByteArray.empty=sb at*;have HD:=hid (r.out.1.act (j:=1) rfl (nDo n (alB B j) sb wc r.out.2.2 (by omega) l));unfold Fa at HD
      go_wp2_with(go_at_call 6;refine HD.out.mono ?_;rintro e w6 ⟨c',⟨rfl,rfl,ae⟩,h6⟩;have d:=hid h6;have al:=hid ae;clear h6 ae HD)
      go_meet;exact⟨by rw[M.out];exact d.out.conv fun i=>by rcases i with _ | _ | _ | i<;>rfl,r.out.2.1,by rw[M.out];exact al.out⟩
     ·have x2:¬(j:Int)<(o:Int):=by omega
      have e9:alB B (j+1)=alB B j:=by unfold alB;rw[Aw (by omega),Aw (by omega)]
      go_wp2_with fail
      go_meet;rw[e9];exact⟨r.out.1,r.out.2.1,r.out.2.2.mono (by omega)⟩
    case rest=>
     have d:=hcut;clear hcut r P HB
     by_cases y1:j<c
     ·have x1:(j:Int)<(c:Int):=by omega
      have a:j<A.length:=by rw[am];exact y1
      obtain⟨Q,oa,rfl,ab⟩:=HA.out.at a;have x:=ab j a;clear ab;have K:Hid (alM A (j+1)=(doM (alM A j) (A.getD j ByteArray.empty)).1):=Zx _ A j a;have l:=C.out j;generalize A.getD j ByteArray.empty=q at*;have HK:Hid (∀wz,Kept [] w wz->wz.cell? ⟨Q,oa+j,none⟩=some (string q)):=fun wz hz=>hz.AmH x (by simp)
      obtain⟨R,G⟩:=E7 (doM (alM A j) q);have f:Hid (Calls prog 6 #[.pointer (some ⟨b1,0,none⟩),string q] wc.drew fun e w'=>e=.returned (string R.2)/\Hid (NInv (j+1+1) R.1/\Hg w [] w' (setG noE 0 (FQ (alO b1 n b (alM A j) (alB B (j+1))) 0 (some (T5 b1 R.1)))))/\w'.cell? ⟨Q,oa+j,none⟩=some (string q)):=((d.out.1.below ((Ad _ wc).drew)).act (j:=0) rfl (nDo b1 (alM A j) q wc.drew d.out.2.1 (by omega) l)).mono fun e w' ⟨c',⟨y,z,q3⟩,m⟩=>⟨by rw[y,G],⟨by rw[G];exact q3,by rw[G,<-z];exact m⟩,HK.out w' m.kep⟩
      have h:Hid (∀J,Hg w [] J (setG noE 0 (FQ (alO b1 n b (alM A j) (alB B (j+1))) 0 (some (T5 b1 R.1))))->Calls prog 6 #[.pointer (some ⟨b,0,none⟩),string q] J fun e w'=>e=.returned (string R.2)/\Hid (Hg w [] w' (setG noE 0 (alO b1 n b R.1 (alB B (j+1)))))/\w'.cell? ⟨Q,oa+j,none⟩=some (string q)):=fun J h7=>(h7.act (j:=2) rfl (nDo b (alM A j) q J d.out.2.1 (by omega) l)).mono fun e w' ⟨c',⟨y,z,q3⟩,m⟩=>⟨by rw[y,G],by
       rw[z,<-G]at m
       exact m.conv fun i=>by rcases i with _ | _ | _ | i<;>rfl,HK.out w' m.kep⟩
      have ca:wc.cell? ⟨Q,oa+j,none⟩=some (string q):=HK.out wc d.out.1.kep;have HE:Hid (alM A (j+1)=R.1):=by rw[K.out,G];exact rfl
      have ak:=hid d.out.2.2;generalize R.1=R1 at*;generalize R.2=R2 at*;clear G K HK x l d HA C;go_upto_region 9 with fail
      go_region_held3 (fun w'=>w'.cell? ⟨Q,oa+j,none⟩=some (string q)) (first | exact ca | exact y | exact z | go_keep) (first
       | (go_at_call 6;refine f.out.mono ?_;rintro e J ⟨rfl,H7,y⟩;clear f)
       | (go_at_call 6;refine(h.out J H7.out.2).mono ?_;rintro e w8 ⟨rfl,H8,z⟩;clear h))
      go_wp2_with fail;refine⟨⟨j+1,by omega,by go_num,?_⟩,by simp[intOf];omega⟩;rw[HE.out];exact⟨H8.out,H7.out.1,ak.out⟩
     ·have x1:¬(j:Int)<(c:Int):=by omega
      have e9:alM A (j+1)=alM A j:=by unfold alM;rw[Aw (by omega),Aw (by omega)]
      have HE:=hid e9;clear e9 HA C;go_upto_region 9 with fail
      go_quiet (fail);have H7:=hid (d.out.1.below (below_drewN wc nq))
      go_wp2_with fail;refine⟨⟨j+1,by omega,by go_num,?_⟩,by simp[intOf];omega⟩;rw[HE.out];exact⟨H7.out,d.out.2.1.mono (by omega),d.out.2.2⟩
theorem Nz{nm:String}{cs:Array Value}(hg:prog.globalNamed nm=some g)(h:W.var? prog nm=some cs):∃T fr,W.heap[g]?=some (.cells cs T fr):=by
 simp only[World.var?,hg,Option.bind_some]at h
 grind
theorem XU(h:W.ShapedOpen prog):∃m,W.cell? ⟨0,0,none⟩=some (.int i64 m):=by
 obtain⟨cs,c,d,f⟩:=h.1 0 #[.int i64 0] 3 (AQ (by kernel_rfl)) (by kernel_rfl);obtain⟨l,i, -,j⟩:=f (by kernel_rfl);have a:prog.cellTypes prog.depth 3=some [3]:=by kernel_rfl
 obtain rfl:=AX (a.symm.trans i);have e:cs.size=1:=d;obtain⟨v,b⟩:∃v,cs[0]?=some v:=⟨_,Eu (by omega)⟩;obtain⟨u,e1,e2⟩:=j 0 v b;obtain rfl:3=u:=AX e1;unfold Cell.ok at e2;rw[underlying3]at e2
 cases v with
 | int k n=>
  obtain⟨rfl, -⟩:=e2;exact⟨n,by simp[World.cell?,c,b]⟩
 | _=>exact e2.elim
theorem Ad0(h:laidMetH prog Rows.topAloneUptoRow.laid W)(o:W.ShapedOpen prog):Tb W:=by
 have l:laidMet prog Rows.topAloneUptoRow.laid W:=by
  have:=h
  rwa [MakeChecks.laidMetH_plain _ _ _ (by kernel_rfl)]at this
 have b:laidMet prog [("internal/strconv.uint64pow10",Rows.laid_internal_strconv_uint64pow10),("unicode/utf8.acceptRanges",Rows.laid_unicode_utf8_acceptRanges),("strconv.ErrRange",Rows.laid_strconv_ErrRange),("strconv.ErrSyntax",Rows.laid_strconv_ErrSyntax),("roamwave/conv.taps",Rows.laid_roamwave_conv_taps),("roamwave/harq.versions",Rows.laid_roamwave_harq_versions),("roamwave/match.columns",Rows.laid_roamwave_match_columns),("roamwave/polar.worths",Rows.laid_roamwave_polar_worths),("unicode/utf8.first",Rows.laid_unicode_utf8_first)] W:=laidMet.tail (laidMet.tail l);have r:=Lib.tabIs_of_head (k:=.u64) (zs:=Lib.pow10Tab) (g:=4) (by kernel_rfl) (by kernel_rfl) underlying278 underlying195 (by kernel_rfl) (by kernel_rfl) b;have c:=laidMet.tail (laidMet.tail b);have a: "*" ++ "errors.errorString" = "*errors.errorString" :=by decide+kernel
 have j:∀u,prog.typeName? 3 u=some "*errors.errorString" ->u=274:=fun u n=>typeName_ptr_named (nm:= "errors.errorString") (by rw[a];kernel_rfl) (by kernel_rfl) (by decide) u (by rw[a];exact n)
 obtain⟨z,B,v1, -⟩:=laid_sentinel c (g:=2) (by kernel_rfl) (by kernel_rfl) underlying30 j underlying274 underlying276 rfl rfl underlying9 (by kernel_rfl) (by kernel_rfl);have d:=laidMet.tail c;obtain⟨A,C,v2, -⟩:=laid_sentinel d (g:=1) (by kernel_rfl) (by kernel_rfl) underlying30 j underlying274 underlying276 rfl rfl underlying9 (by kernel_rfl) (by kernel_rfl);have e:=laidMet.tail d;have v:=Lib.tabIs_of_head (k:=.u64) (zs:=[79,109,87]) (g:=9) (by kernel_rfl) (by kernel_rfl) underlying412 underlying194 (by kernel_rfl) (by kernel_rfl) e;have f:=laidMet.tail e;have x:=Lib.tabIs_of_head (k:= i64) (zs:=[0,2,3,1]) (g:=3) (by kernel_rfl) (by kernel_rfl) underlying228 underlying3 (by kernel_rfl) (by kernel_rfl) f;have i:=laidMet.tail f;have q:=Lib.tabIs_of_head (k:= i64) (zs:=[0,4,2,6,1,5,3,7]) (g:=10) (by kernel_rfl) (by kernel_rfl) underlying421 underlying3 (by kernel_rfl) (by kernel_rfl) i;have m:=laidMet.tail i;have y:=Lib.tabIs_of_head (k:= i64) (zs:=[1000,1189,1414,1681,2000,2378,2828,3363,4000]) (g:=11) (by kernel_rfl) (by kernel_rfl) underlying422 underlying3 (by kernel_rfl) (by kernel_rfl) m;exact⟨⟨Nz (by kernel_rfl) v,Nz (by kernel_rfl) y,Nz (by kernel_rfl) q⟩,Nz (by kernel_rfl) x,⟨_,_,v2⟩,⟨_,_,v1⟩,XU o,r⟩
theorem Aie(b a j:Nat):(⟨b,a,none⟩:Addr).add j=⟨b,a+j,none⟩:=by unfold Addr.add;split<;>simp_all
theorem Afy(d:DataW H):1<=Rows.uptoBulk d:=by
 cases d with
 | lit l=>cases l<;>simp[Rows.uptoBulk]
 | nil=>simp[Rows.uptoBulk]
 | ptr d=>simp[Rows.uptoBulk]
 | slice elems spare=>simp[Rows.uptoBulk]
 | agg parts=>simp[Rows.uptoBulk]
 | iface t d=>simp[Rows.uptoBulk]
 | map es=>simp[Rows.uptoBulk]
 | held h=>simp[Rows.uptoBulk]
theorem VK{H:Type}:∀l:List (DataW H),l.length<=Rows.uptoBulkAll l
 | []=>by simp
 | d::l=>by
  have a:=Afy d;have b:=VK l;simp only[AE,Rows.uptoBulkAll];omega
theorem VL{H:Type}:∀{l:List (DataW H)} {d:DataW H},d∈l->Rows.uptoBulk d<=Rows.uptoBulkAll l
 | d'::l,d,h=>by
  simp only[Rows.uptoBulkAll]
  rcases Ar.1 h with rfl | h
  ·omega
  ·have:=VL h;omega
theorem Wl{enc:TypeId×Value->H}{P:Program}{t e:TypeId}{v:Value}{x:DataW H×List MemPlace}{n:Nat}(ht:P.underlying t=some (.slice e))(G:P.underlying e=some .string)(D:P.cellsOf e=1)(I:DataW.trod enc P W 0 (fun _=>true) true n t [v]=some x):
 ∃a c l,v=slice a l.length c/\Txs W a l/\l.length<=c/\c<=maxLen/\l.length<=Rows.uptoBulk x.1/\∀i,i<l.length->(l.getD i ByteArray.empty).size<=Rows.uptoBulk x.1:=by
 rcases Deep.open_strs ht G D I with⟨d,A⟩ | ⟨a,len,B,m,j,d,_,O,J,o,hd,A⟩
 ·simp at d;subst d;exact⟨none,0,[],rfl,fun h=>absurd rfl h,by simp,by unfold maxLen;omega,by simp,fun i hi=>by simp at hi⟩
 ·simp at d;subst d;simp at o;subst o;have f:((List.range len).map j).length=len:=by simp
  have r:∀i,i<len->((List.range len).map j).getD i ByteArray.empty=j i:=by grind
  refine⟨some a,m,(List.range len).map j,by rw[f],?_,by omega,J,?_,fun i hi=>?_⟩
  ·intro K;have Q:0<len:=by
    grind
   obtain⟨b,M,q⟩:=a;have y:=(A 0 (by omega)).1;have z:q=none:=by simpa [Addr.add]using World.cell?_spot y
   grind [Aie]
  ·rw[f,hd];simp only[Rows.uptoBulk];have:=VK ((List.range len).map fun i=>(DataW.lit (.string (j i).data.toList):DataW H))
   grind
  ·rw[f]at hi;rw[r i hi,hd];simp only[Rows.uptoBulk];have C:=VL (l:=(List.range len).map fun i=>(DataW.lit (.string (j i).data.toList):DataW H)) (Bb.2 ⟨i,Bv.2 hi,rfl⟩);simp only[Rows.uptoBulk,AH]at C;have N:(j i).data.size=(j i).size:=rfl;omega
theorem Tryz.AeP:laidOutB prog=true:=by kernel_rfl
end Go.Proofs.YtbjgfoiikhbonahGreatDoor
