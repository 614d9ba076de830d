import Derived.Test.YtbjgfoiikhbonahGreatDoorA25
import Derived.Test.YtbjgfoiikhbonahGreatDoorA14
set_option linter.unusedVariables false
set_option linter.unusedSimpArgs false
set_option maxRecDepth 100000
set_option maxHeartbeats 4000000
namespace Go.Proofs.YtbjgfoiikhbonahGreatDoor
open Go.ChangeShapes Go.WideShapes Go.ChangeAt Go.RowKit Go.Proofs.Tryz
open Value renaming int->C,string->G,pointer->H,slice->I,bool->J
open Option renaming some->D,none->F
open Obj renaming cells->O
open Go renaming World->R
open IntKind renaming i64->T
variable {B L N4 Z b bx c fs g i j n:Nat}{LL:List GapM}{M nx p q r:Int}{S:List Nat}{V v:Value}{W w:R}{a:Option Addr}{o:Oper}{x y:Operand}{ρ:Operand->Value}
structure TkOk(x:TkP):Prop where
 srt:Srt x.th
 hi:G8 x.th<=1500
 lh:x.len<=1500
 dl:x.data.length=G8 x.th
theorem TkOk.few{x:TkP}(h:TkOk x):x.th.length<=1500:=Ak (h.srt.few h.srt.Tz) h.hi
theorem TkOk.zero:TkOk .zero:=⟨Srt.nil,Af _,Af _,rfl⟩
theorem TkOk.add{x x':TkP}{a:Nat}{s:ByteArray}{last:Bool}(h:TkOk x)(e:AddM x x' a b s last)(k:a<b)(t:b<=1500):TkOk x':=by
 have l:=e.ends h.srt k;refine⟨e.srt,by rw[l];have:=h.hi;omega,?_,by rw[l,e.dl,h.dl]⟩;rw[e.ln];have:=h.lh
 split<;>omega
theorem AkL{us:List TkP}{x':TkP}(h:∀j,TkOk (us.getD j .zero))(e:TkOk x')(hi:i<us.length):∀j,TkOk ((us.set i x').getD j .zero):=by grind [GM,ID]
theorem O3{x:PieceM}(h:x.bad=false):0<=x.num/\x.num<=63/\0<=x.frm/\x.a<x.b/\x.b<=1500/\0<x.data.size:=by grind [PieceM.bad,PieceM.a,PieceM.b]
def S2 (w:R)(b fs g c:Nat)(us:List TkP)(i:Nat)(x:PieceM):Ending->R->Prop:=fun e w'=>∃x' w6,AddM (us.getD i .zero) x' x.a x.b x.data x.last/\PRcv w6 b fs g c (us.set i x')/\Kept (Mu b g us) w w6/\Ga w.heap.size (Mu b g us) (Mu b g (us.set i x'))/\∃k a cc,e=.returned (.tuple #[I a k cc, C T 0])/\Lj w6 b fs g c (us.set i x') (.returned (I a k cc)) w'
def TAd (W:R)(b fs g c:Nat)(us:List TkP)(i:Nat)(x:PieceM):Ending->R->Prop:=fun e w'=>e=.returned (.tuple #[])/\∃x',AddM (us.getD i .zero) x' x.a x.b x.data x.last/\PRcv w' b fs g c (us.set i x')/\Kept (Mu b g us) W w'/\Ga W.heap.size (Mu b g us) (Mu b g (us.set i x'))
theorem Amq{us:List TkP}{x:PieceM}(h:PRcv W b fs g c us)(l:∀j,TkOk (us.getD j .zero))(hi:i<us.length)(N:x.bad=false):
 Calls prog 206 #[H (D ⟨g,i*3,F⟩),x.val] W (TAd W b fs g c us i x):=by
 obtain⟨P,Q,u,h4,z,A⟩:=O3 N;obtain⟨cur,E, -⟩:=F9 h.own;refine(Akz x (h.un hi) E (l i).srt (l i).hi (l i).dl u z A).mono ?_;rintro e w' ⟨rfl,x',s,K⟩;refine⟨rfl,x',K,h.upd hi s,s.kept.Fn (fun q t=>?_),AjW hi s.nk⟩;rw[Ar,BH]at t
 rcases t with rfl | e | e
 ·exact Ye _ _ _
 ·exact Up (i:=i) (k:=false) (by simpa using e)
 ·exact Up (i:=i) (k:=true) (by simpa using e)
theorem P2{us:List TkP}(x:PieceM)(h:PRcv w b fs g c us)(an:us.length<=32)(ai:fs<64)(aj:∀j,TkOk (us.getD j .zero))(hs:x.data.size<=Wf)(E:Int)
 (hE:(x.bad=true/\E=3)\/(x.bad=false/\us.length<=E9 x.num fs/\E=8)\/(x.bad=false/\E9 x.num fs<us.length/\(us.getD (E9 x.num fs) .zero).J9 x=true/\E=3)):
 Calls prog 167 #[H (D ⟨b,0,F⟩),x.val] w fun e w'=>e=.returned (.tuple #[I F 0 0, C T E])/\Below w.heap.size w w':=by
 have c0:w.cell? ⟨b,0,F⟩=D (C T (fs:Int)):=h.hd.cell 0;have c1:w.cell? ⟨b,1,F⟩=D (I (D ⟨g,0,F⟩) us.length c):=h.hd.cell 1;have t:=fun W=>N2 (w:=W) x hs
 obtain⟨K, s⟩ := E7 ((w.alloc (O #[C T x.num, C T x.frm, J x.last, G x.data] 216)).alloc (O #[C T x.num, C T x.frm, J x.last, G x.data] 216));have hk:Kept [] w K:=by rw[s];exact((Kept.refl _ w).alloc _).alloc _
 have af:Below w.heap.size w K:=hk.below (Ac _) (by simp);have z:At K w.heap.size 216 x.cells:=by
  rw[s];exact At.kept (Fc w _ x.cells) ((Kept.refl [] _).alloc _) (by simp)
 have x0:K.cell? ⟨w.heap.size,0,F⟩=D (C T x.num):=z.cell 0;have x1:K.cell? ⟨w.heap.size,1,F⟩=D (C T x.frm):=z.cell 1;have x2:K.cell? ⟨w.heap.size,2,F⟩=D (J x.last):=z.cell 2;have x3:K.cell? ⟨w.heap.size,3,F⟩=D (G x.data):=z.cell 3;have k0:=E8 hk c0 (by simp);have k1:=E8 hk c1 (by simp);have u:=Fc w 216 x.cells;have v0:(w.alloc (O #[C T x.num, C T x.frm, J x.last, G x.data] 216)).cell? ⟨w.heap.size,0,F⟩=D (C T x.num):=u.cell 0;have v1:(w.alloc (O #[C T x.num, C T x.frm, J x.last, G x.data] 216)).cell? ⟨w.heap.size,1,F⟩=D (C T x.frm):=u.cell 1;have v2:(w.alloc (O #[C T x.num, C T x.frm, J x.last, G x.data] 216)).cell? ⟨w.heap.size,2,F⟩=D (J x.last):=u.cell 2;have v3:(w.alloc (O #[C T x.num, C T x.frm, J x.last, G x.data] 216)).cell? ⟨w.heap.size,3,F⟩=D (G x.data):=u.cell 3;obtain⟨N, hN⟩ := E7 us.length;rw[<-hN]at k1 hE;have HB:=hid af;generalize hP:(fun(e:Ending) (w':R)=>e=.returned (.tuple #[I F 0 0, C T E])/\Below w.heap.size w w')=P;have HP:=hid hP;have ae:=fun(n:Nat)=>h.kept (w':=K.drewN n) (hk.drewN n) (by simp)
 have ak:=hid ae;have Q:=hid aj;have HN:=hid hN;clear h hk af z u hP ae aj c0 c1 hN
 rcases hE with⟨l,rfl⟩ | ⟨l,hq,rfl⟩ | ⟨l,hq,ah,rfl⟩
 ·rw[l,Ab rfl]at t;clear l;obtain⟨num,frm,last,data⟩:=x;dsimp only[PieceM.val]at*;go_enter func167,ntmps167
  go_wp2_with(go_at_call 204;refine(t _).mono ?_;rintro e w1 ⟨rfl,rfl⟩);rw[<-HP.out,<-s];exact⟨rfl,HB.out⟩
 ·rw[l,Aa (by simp)]at t;obtain⟨ab,ac, -⟩:=O3 l;have aa:=fun W=>Ll (k:=x.num) (bg:=fs) W ai ab ac
  clear l;obtain⟨num,frm,last,data⟩:=x;dsimp only[PieceM.val]at*;have ad:E9 num fs<64:=by unfold E9;omega
  generalize E9 num fs=A at*;have d1:decide ((N:Int)<=(A:Int))=true:=Ag (by omega);go_enter func167,ntmps167;go_upto_region 4 with(go_at_call 204;refine(t _).mono ?_;rintro e w1 ⟨rfl,rfl⟩)
  rw[<-s];clear s v0 v1 v2 v3
  go_quiet (first | (go_at_call 65;exact Ba (aa _)))
  go_wp2_with fail;rw[<-HP.out];exact⟨rfl,JO HB.out _⟩
 ·rw[l,Aa (by simp)]at t;obtain⟨ab,ac,al,ao,ap,aq⟩:=O3 l;have aa:=fun W=>Ll (k:=x.num) (bg:=fs) W ai ab ac
  have ag:=fun n=>UP x ((ak.out n).un (i:=E9 x.num fs) (by rw[<-HN.out];exact hq)) (by have:=(Q.out (E9 x.num fs)).lh;omega) (by have:=(Q.out (E9 x.num fs)).hi;omega) (by have:=(Q.out (E9 x.num fs)).few;omega) al (by omega)
  rw[ah,Ab rfl]at ag;clear l ah;obtain⟨num,frm,last,data⟩:=x;dsimp only[PieceM.val]at*;have ad:E9 num fs<64:=by unfold E9;omega
  generalize E9 num fs=A at*;have d1:decide ((N:Int)<=(A:Int))=false:=Ae (by omega);have am:¬(N<=A):=by omega
  go_enter func167,ntmps167;go_upto_region 4 with(go_at_call 204;refine(t _).mono ?_;rintro e w1 ⟨rfl,rfl⟩)
  rw[<-s];clear s v0 v1 v2 v3
  go_quiet (first | (go_at_call 65;exact Ba (aa _)))
  go_wp2_with(go_at_call 205;refine(ag _).mono ?_;rintro e w5 ⟨rfl,rfl⟩);rw[<-HP.out];exact⟨rfl,(JO HB.out _).alloc (by have:=HB.out.size;simpa using this) _⟩
theorem AdD{us:List TkP}(x:PieceM)(h:PRcv w b fs g c us)(hl:us.length<=32)(ar:fs<64)(aw:∀j,TkOk (us.getD j .zero))(hs:x.data.size<=Wf)(ab:x.bad=false)(hE:E9 x.num fs<us.length)(aq:(us.getD (E9 x.num fs) .zero).J9 x=false):
 Calls prog 167 #[H (D ⟨b,0,F⟩),x.val] w (S2 w b fs g c us (E9 x.num fs) x):=by
 have c0:w.cell? ⟨b,0,F⟩=D (C T (fs:Int)):=h.hd.cell 0;have c1:w.cell? ⟨b,1,F⟩=D (I (D ⟨g,0,F⟩) us.length c):=h.hd.cell 1;have ad:=fun W=>N2 (w:=W) x hs
 obtain⟨l, aa⟩ := E7 ((w.alloc (O #[C T x.num, C T x.frm, J x.last, G x.data] 216)).alloc (O #[C T x.num, C T x.frm, J x.last, G x.data] 216));have hk:Kept [] w l:=by rw[aa];exact((Kept.refl _ w).alloc _).alloc _
 have ao:Below w.heap.size w l:=hk.below (Ac _) (by simp);have z:At l w.heap.size 216 x.cells:=by
  rw[aa];exact At.kept (Fc w _ x.cells) ((Kept.refl [] _).alloc _) (by simp)
 have x0:l.cell? ⟨w.heap.size,0,F⟩=D (C T x.num):=z.cell 0;have x1:l.cell? ⟨w.heap.size,1,F⟩=D (C T x.frm):=z.cell 1;have x2:l.cell? ⟨w.heap.size,2,F⟩=D (J x.last):=z.cell 2;have x3:l.cell? ⟨w.heap.size,3,F⟩=D (G x.data):=z.cell 3;have k0:=E8 hk c0 (by simp);have k1:=E8 hk c1 (by simp);have Q:=Fc w 216 x.cells;have v0:(w.alloc (O #[C T x.num, C T x.frm, J x.last, G x.data] 216)).cell? ⟨w.heap.size,0,F⟩=D (C T x.num):=Q.cell 0;have v1:(w.alloc (O #[C T x.num, C T x.frm, J x.last, G x.data] 216)).cell? ⟨w.heap.size,1,F⟩=D (C T x.frm):=Q.cell 1;have v2:(w.alloc (O #[C T x.num, C T x.frm, J x.last, G x.data] 216)).cell? ⟨w.heap.size,2,F⟩=D (J x.last):=Q.cell 2;have v3:(w.alloc (O #[C T x.num, C T x.frm, J x.last, G x.data] 216)).cell? ⟨w.heap.size,3,F⟩=D (G x.data):=Q.cell 3;obtain⟨N, hN⟩ := E7 us.length;rw[<-hN]at k1 hE hl;have HB:=hid ao;generalize hP:S2 w b fs g c us (E9 x.num fs) x=P;have HP:=hid hP;have al:=fun(n:Nat)=>h.kept (w':=l.drewN n) (hk.drewN n) (by simp)
 have aj:=hid al;have s:=hid aw;have HN:=hid hN;clear h hk ao z Q hP al aw c0 c1 hN;have hq:=hE;rw[ab,Aa (by simp)]at ad;obtain⟨a5,a6,a7,a8,a9,bc⟩:=O3 ab;have an:=fun W=>Ll (k:=x.num) (bg:=fs) W ar a5 a6
 have ac:=fun n=>UP x ((aj.out n).un (i:=E9 x.num fs) (by rw[<-HN.out];exact hq)) (by have:=(s.out (E9 x.num fs)).lh;omega) (by have:=(s.out (E9 x.num fs)).hi;omega) (by have:=(s.out (E9 x.num fs)).few;omega) a7 (by omega)
 rw[aq,Aa (by simp)]at ac;have a4:Hid (us.length<=32):=hid (by rw[<-HN.out];exact hl);have u:=fun n=>Amq (i:=E9 x.num fs) (x:=x) (W:=(l.drewN n).alloc (O #[C T x.num, C T x.frm, J x.last, G x.data] 216)) ((aj.out n).kept ((Kept.refl [] _).alloc _) (by simp)) s.out (by rw[<-HN.out];exact hq) ab
 have az:=hid ar;have HT:Hid (∀x' w6,AddM (us.getD (E9 x.num fs) .zero) x' x.a x.b x.data x.last->PRcv w6 b fs g c (us.set (E9 x.num fs) x')->Calls prog 207 #[H (D ⟨b,0,F⟩)] w6 (Lj w6 b fs g c (us.set (E9 x.num fs) x'))):=hid fun x' w6 ha h6=>by
  have hu:=AkL (i:=E9 x.num fs) s.out ((s.out (E9 x.num fs)).add ha a8 a9) (by rw[<-HN.out];exact hq);exact AkA h6 (by rw[An];exact a4.out) az.out (fun i=>by have:=(hu i).few;omega) (fun i=>by have:=(hu i).lh;omega) (fun i=>by have:=(hu i).hi;have:=(hu i).dl;omega)
 have ah:Hid (S2 w b fs g c us (E9 x.num fs) x=P):=HP;obtain⟨XV, t⟩ := E7 x;rw[<-t]at HT ah u;have ax:x.val=.agg #[C T x.num, C T x.frm, J x.last, G x.data]:=rfl;have ag:XV.val=.agg #[C T x.num, C T x.frm, J x.last, G x.data]:=by rw[t];rfl
 rw[ag]at u;rw[ax]at ac ad ⊢;have af:XV.num=x.num:=by rw[t]
 have ae:XV.frm=x.frm:=by rw[t]
 have K:XV.last=x.last:=by rw[t]
 have E:XV.data=x.data:=by rw[t]
 rw[af]at u HT ah;rw[ae,K,E]at u;clear ab aq ax ag af ae K E HP hE hs;generalize E9 x.num fs=A at*;generalize x.num=num at*;generalize x.frm=frm at*;generalize x.last=last at*;generalize x.data=data at*;have bb:¬(N<=A):=by omega
 go_enter func167,ntmps167;go_upto_region 4 with(go_at_call 204;refine(ad _).mono ?_;rintro e w1 ⟨rfl,rfl⟩)
 rw[<-aa];clear aa v0 v1 v2 v3
 go_quiet (first | (go_at_call 65;exact Ba (an _)));have am:=u nq;have ap:=ac nq;have ai:=hid (JO HB.out nq);have bd:((l.drewN nq).alloc (O #[C T num, C T frm, J last, G data] 216)).cell? ⟨w.heap.size,0,F⟩=D (C T num):=E8 ((Kept.refl [] l).drewN nq |>.alloc _) x0 (by simp);have be:((l.drewN nq).alloc (O #[C T num, C T frm, J last, G data] 216)).cell? ⟨w.heap.size,1,F⟩=D (C T frm):=E8 ((Kept.refl [] l).drewN nq |>.alloc _) x1 (by simp);have z:((l.drewN nq).alloc (O #[C T num, C T frm, J last, G data] 216)).cell? ⟨w.heap.size,2,F⟩=D (J last):=E8 ((Kept.refl [] l).drewN nq |>.alloc _) x2 (by simp);have bf:((l.drewN nq).alloc (O #[C T num, C T frm, J last, G data] 216)).cell? ⟨w.heap.size,3,F⟩=D (G data):=E8 ((Kept.refl [] l).drewN nq |>.alloc _) x3 (by simp);have ak:=hid (ai.out.alloc (by have:=ai.out.size;simpa using this) (O #[C T num, C T frm, J last, G data] 216));clear u ac ad an ai;generalize (l.drewN nq).alloc (O #[C T num, C T frm, J last, G data] 216)=W5 at*
 go_wp2_with(first
  | (go_at_call 205;refine ap.mono ?_;rintro e w5 ⟨rfl,a3⟩;subst a3)
  | (go_at_call 206;refine am.mono ?_;rintro e w6 ⟨rfl,x',ha,h6,av,au⟩;have ay:=hid ha;have H6:=hid h6;have a1:=hid av;have a0:=hid au;have ba:=HT.out x' w6 ha h6;clear ha h6 av au)
  | (go_at_call 207;refine ba.mono ?_;rintro e w7 hT;obtain⟨k,a,cc,q1,rfl,q2⟩:=id hT;have a2:=hid hT;clear hT q1 q2))
 rw[<-ah.out];refine⟨x',w6,ay.out,H6.out,?_,?_,k,a,cc,rfl,a2.out⟩
 ·exact(Kept.E5 ak.out).trans a1.out
 ·exact fun q hq=>(a0.out q hq).elim .inl (fun h=> .inr (Ak ak.out.size h))
theorem Tryz.Anm:(prog.info? 154).map (fun i=>(i.zero,i.size,i.bytes))=D (D (.agg #[C T 0, C T 0, C T 0]),3,24):=by kernel_rfl
def GS (l:List GapM):List Value:=l.flatMap GapM.cells
theorem Y4(l r:List GapM):GS (l++r)=GS l++GS r:=by simp[GS]
theorem Acc(l:List GapM):∀i k,i<l.length->k<3->(GS l)[i*3+k]?=(l.getD i .zero).cells[k]?:=by
 induction l with
 | nil=>intro i k hi;simp at hi
 | cons x l ih=>
  intro i k hi h;have e:GS (x::l)=x.cells++GS l:=rfl
  cases i with
  | zero=>rw[e,BB (by show 0*3+k<3;omega),CT,Ao];rfl
  | succ i=>
   rw[AE]at hi;rw[e,BL (by show 3<=_;omega),show(i+1)*3+k-x.cells.length=i*3+k by show _-3=_;omega,ih i k (by omega) h];rfl
theorem AeH{l:List GapM}(h:w.ownsRow B 154 3 (I a n c) l.length (GS l)):Gps w a l:=by
 intro z;have Q:0<l.length:=Ek.2 z;have P:=O6 h;subst P;obtain⟨a',c',e, -, -,hx⟩:=Fg h;simp only[Aq]at e;obtain⟨rfl, -,rfl⟩:=e
 rcases h.2 with⟨t,E⟩ | ⟨g,A,cur,t, -, -⟩
 ·omega
 ·simp only[Aq]at t;obtain⟨rfl, -, -⟩:=t;obtain⟨cur,K, -, -, -, -,u, -⟩:=F9 h;refine⟨g,0,rfl,fun i hi=>?_⟩;have s:∀k,k<3->w.cell? ⟨g,0+i*3+k,F⟩=(l.getD i .zero).cells[k]?:=fun k N=>by
   rw[Ao,K.cell,<-Acc l i k hi N,<-u,A3 (by omega)]
  exact⟨s 0 (by omega),s 1 (by omega),s 2 (by omega)⟩
def Nc (fs i:Nat)(x:TkP):List GapM:=x.NR.map fun q=>⟨(((fs+i) % 64:Nat):Int),q.1,q.2⟩
def Hh (fs:Nat)(us:List TkP)(i:Nat):List GapM:=(List.range i).flatMap fun i=>Nc fs i (us.getD i .zero)
theorem Sd(fs:Nat)(us:List TkP)(i:Nat):Hh fs us (i+1)=Hh fs us i++Nc fs i (us.getD i .zero):=by
 unfold Hh;rw[Az,Bd];simp
theorem TkP.ZB{x:TkP}(h:x.th.length<=n):x.NR.length<=n+2:=by grind [TkP.NR,G8,Hi,OR]
theorem PP{fs:Nat}{us:List TkP}{n:Nat}(h:∀i,(us.getD i .zero).th.length<=n):∀i,(Hh fs us i).length<=i*(n+2)
 | 0=>by simp[Hh]
 | i+1=>by
  rw[Sd,Ai];have e:=PP h i (fs:=fs);have k:(Nc fs i (us.getD i .zero)).length<=n+2:=by unfold Nc;rw[Bo];exact TkP.ZB (h i)
  rw[CD];omega
structure RpAt(w wr:R)(nx:Int)(L:List GapM)(a:Option Addr)(c:Nat):Prop where
 row:At wr (w.heap.size+1) 95 [C T nx, I a L.length c]
 res:At wr w.heap.size 95 [C T 0, I F 0 0]
 own:wr.ownsRow (w.heap.size+2) 154 3 (I a L.length c) L.length (GS L)
 bel:Below w.heap.size w wr
theorem RpAt.later{wr w':R}{L:List GapM}(h:RpAt w wr nx L a c)(k:Below wr.heap.size wr w'):RpAt w w' nx L a c:=by
 have e:Kept [] wr w':=Kept.E5 k;refine⟨h.row.kept e (by simp),h.res.kept e (by simp),?_,h.bel.trans (k.mono h.bel.size)⟩;have l:=FY (B:=w.heap.size+2) h.own e (by simp);exact l
theorem ltOf{o:Obj}(h:w.heap[b]?=D o):b<w.heap.size:=(Array.getElem?_eq_some_iff.1 h).1
theorem UC(w:R)(k:o.op=.load 3 x)(h:ρ x= H (D ⟨g,j,F⟩))(e:w.cell? ⟨g,j,F⟩=D v):(execOp ρ o).run prog w=.ok (.value v) w:=by
 unfold execOp;simp only[k,h];simp[go_sem,e]
theorem Aa7(w:R)(e:o.op=.fieldAddr 95 x 1)(h:ρ x= H (D ⟨g,j,F⟩)):(execOp ρ o).run prog w=.ok (.value (H (D ⟨g,j+1,F⟩))) w:=by
 unfold execOp;simp only[e,h];simp[go_sem]
theorem Aj3(w:R)(e:o.op=.fieldAddr 149 x 0)(h:ρ x= H (D ⟨g,j,F⟩)):(execOp ρ o).run prog w=.ok (.value (H (D ⟨g,j,F⟩))) w:=by
 unfold execOp;simp only[e,h];simp[go_sem]
theorem Aj4(w:R)(e:o.op=.fieldAddr 146 x 0)(h:ρ x= H (D ⟨g,j,F⟩)):(execOp ρ o).run prog w=.ok (.value (H (D ⟨g,j,F⟩))) w:=by
 unfold execOp;simp only[e,h];simp[go_sem]
theorem Aj5(w:R)(e:o.op=.fieldAddr 146 x 1)(h:ρ x= H (D ⟨g,j,F⟩)):(execOp ρ o).run prog w=.ok (.value (H (D ⟨g,j+1,F⟩))) w:=by
 unfold execOp;simp only[e,h];simp[go_sem]
theorem Aj9(w:R)(k:o.op=.load 93 x)(h:ρ x= H (D ⟨g,j,F⟩))(e:w.cell? ⟨g,j,F⟩=D v):(execOp ρ o).run prog w=.ok (.value v) w:=by
 unfold execOp;simp only[k,h];simp[go_sem,e]
theorem Aj1(w:R){z:Operand}(l:o.op=.build 154 #[(0,x),(1,y),(2,z)])(h:ρ x= C T p)(k:ρ y= C T q)(e:ρ z= C T r):(execOp ρ o).run prog w=.ok (.value (.agg #[C T p, C T q, C T r])) w:=by
 unfold execOp;simp only[l];simp[go_sem,h,k,e]
theorem Aj2(w:R)(e:o.op=.buildSlice 93 1 #[(0,x)])(h:ρ x=.agg #[C T p, C T q, C T r]):(execOp ρ o).run prog w=.ok (.value (I (D ⟨w.heap.size,0,F⟩) 1 1)) (w.alloc (O #[C T p, C T q, C T r] 154)):=by
 unfold execOp;simp only[e];simp[go_sem,h]
theorem Akc(w:R){u:Value}(s:o.op=.store 93 x y)(h:ρ x= H (D ⟨g,j,F⟩))(e:ρ y= I a n c)(k:w.cell? ⟨g,j,F⟩=D u)(l:w.frozen? ⟨g,j,F⟩=false):(execOp ρ o).run prog w=.ok .skip (w.setCell ⟨g,j,F⟩ (I a n c)):=by
 unfold execOp;simp only[s,h,e];simp[go_sem,k,l]
theorem AjE{ops:Array Oper}{Q:Exit->Act->R->Prop}{a:Act}{K:Act->R->Prop}{xs:List Value}{e:TypeInfo}(hi:ops[i]?=D o)(hg:o.guard=F)(k:prog.info? 154=D e)(l:e.zero=D (.agg #[C T 0, C T 0, C T 0]))(t:e.size=3)(z:e.bytes=24)(B:Nat)(p q r:Int)(gb:Nat){s:Operand}
 (ho:o.op=.call {callee:=.builtin .append,args:=#[s,x],argTypes:=#[93,93]}) (hs:a.eval s=v) (hx:a.eval x= I (D ⟨gb,0,F⟩) 1 1) (hown:W.ownsRow B 154 3 v L xs) (hc:At W gb 154 [C T p, C T q, C T r]) (hlen:L<=100000) (hB:B<=W.heap.size)
 (h:∀v' w',w'.ownsRow B 154 3 v' (L+1) (xs++[C T p, C T q, C T r])->W.grownBy w' v.ownBlock->(v'.ownBlock=v.ownBlock\/v'.ownBlock=D W.heap.size)->K (a.put o.dst v') w'):wpOp prog ops Q i K a W:=by
 unfold wpOp;rw[hi];have P:Region.wanted o (yielded ops a.tmps)=true:=by simp[Region.wanted,hg]
 simp only[P,AP]
 left;have A:=AdT (ops:=ops) (K:=K) (Q:=Q) (E:=True) B gb underlying93 k l t z rfl (by decide) hown hg s x ho hs hx (news:=[C T p, C T q, C T r]) rfl (fun j u hj=>(hc.cell j).trans hj) (by intro u N;simp at N;rcases N with rfl | rfl | rfl<;>rfl) (by unfold maxLen;omega) (by omega) hB h;rw[Ab P]at A;exact A
def AaV (N4 b bx:Nat)(fs i M p q:Int)(V:Value)(B L Z:Nat)(LL:List GapM)(S:List Nat):Nat->(Nat->Value)->R->Prop
 | 0,σ,_=>σ 0= H (D ⟨N4,1,F⟩)
 | 1,σ,_=>σ 1=V
 | 2,σ,_=>σ 2= H (D ⟨b,0,F⟩)
 | 3,σ,_=>σ 3= H (D ⟨b,0,F⟩)
 | 4,σ,_=>σ 4= H (D ⟨b,0,F⟩)
 | 5,σ,_=>σ 5= C T fs
 | 6,σ,_=>σ 6= C T i
 | 7,σ,_=>σ 7= C T M
 | 8,σ,_=>σ 8= H (D ⟨bx,0,F⟩)
 | 9,σ,_=>σ 9= C T p
 | 10,σ,_=>σ 10= H (D ⟨bx,1,F⟩)
 | 11,σ,_=>σ 11= C T q
 | 12,σ,_=>σ 12=.agg #[C T M, C T p, C T q]
 | 13,σ,w=>∃gx,gx∉S/\σ 13= I (D ⟨gx,0,F⟩) 1 1/\At w gx 154 [C T M, C T p, C T q]
 | 14,σ,w=>∃a' c',σ 14= I a' (L+1) c'/\w.ownsRow B 154 3 (I a' (L+1) c') (L+1) (GS LL++[C T M, C T p, C T q])/\(∀x,(I a' (L+1) c').ownBlock=D x->V.ownBlock=D x\/Z<=x)
 | 15,σ,_=>σ 15= H (D ⟨N4,1,F⟩)
 | _,_,_=>True
theorem Ahh{fs i:Int}(j:Nat)(σ e:Nat->Value)(w:R)(h:σ j=e j)(k:AaV N4 b bx fs i M p q V B L Z LL S j σ w):AaV N4 b bx fs i M p q V B L Z LL S j e w:=by simp_all[AaV];grind
theorem Ahi{fs i:Int}(j:Nat)(σ:Nat->Value)(w w':R)(l:AaV N4 b bx fs i M p q V B L Z LL S j σ w)(s:Kept [] w w'):AaV N4 b bx fs i M p q V B L Z LL S j σ w':=by
 match j with
 | 0 | 1 | 2 | 3 | 4 | 5 | 6 | 7 | 8 | 9 | 10 | 11 | 12 | 15=>exact l
 | 13=>obtain⟨t,e,h,k⟩:=l;exact⟨t,e,h,k.kept s (by simp)⟩
 | 14=>obtain⟨a',c',e,h,k⟩:=l;exact⟨a',c',e,FY h s (by simp),k⟩
 | n+16=>trivial
theorem AdA{fs i:Int}(j:Nat)(σ:Nat->Value)(w w':R)(t:j≠14)(h:AaV N4 b bx fs i M p q V B L Z LL S j σ w)(u:Kept S w w'):AaV N4 b bx fs i M p q V B L Z LL S j σ w':=by
 match j with
 | 0 | 1 | 2 | 3 | 4 | 5 | 6 | 7 | 8 | 9 | 10 | 11 | 12 | 15=>exact h
 | 13=>obtain⟨k,e,l,s⟩:=h;exact⟨k,e,l,s.kept u e⟩
 | 14=>exact absurd rfl t
 | n+16=>trivial
theorem RpAt.AoT{E wc:R}{L:List GapM}{a':Option Addr}{c':Nat}{q:GapM}(h:RpAt w E nx L a c)(t:Kept (I a L.length c).ownBlock.toList E wc)(A:wc.ownsRow (w.heap.size+2) 154 3 (I a' (L.length+1) c') (L.length+1) (GS L++q.cells)):RpAt w (wc.setCell ⟨w.heap.size+1,1,F⟩ (I a' (L.length+1) c')) nx (L++[q]) a' c':=by
 have k:∀x,x∈(I a L.length c).ownBlock.toList->w.heap.size+2<=x:=fun x l=>(AB h.own x (by simpa using l)).1
 have z:(L++[q]).length=L.length+1:=by simp
 have s:Below w.heap.size w wc:=h.bel.trans (t.below h.bel.size (fun x l=>by have:=k x l;omega));refine⟨?_,?_,?_,?_⟩
 ·rw[z];exact(h.row.kept t (fun u=>by have:=k _ u;omega)).setCell _
 ·exact(h.res.kept t (fun u=>by have:=k _ u;omega)).MU _ _ (by grind)
 ·rw[z,Y4];have e:GS [q]=q.cells:=by simp[GS]
  rw[e];refine FY A (FT wc (w.heap.size+1) 1 _) (fun x l=>?_);have:=(AB A x l).1;simp;omega
 ·exact s.setCell (by grind) _
end Go.Proofs.YtbjgfoiikhbonahGreatDoor
