import Derived.Test.YtbjgfoiikhbonahGreatDoorD20
import Derived.Test.YtbjgfoiikhbonahGreatDoorD12
set_option linter.unusedVariables false
set_option linter.unusedSimpArgs false
set_option maxRecDepth 100000
set_option maxHeartbeats 4000000
namespace Go.Proofs.YtbjgfoiikhbonahGreatDoor
open Go.ChangeShapes Go.WideShapes Go.ChangeAt Go.RowKit Go.Proofs.Tryz
open Value (int slice pointer string)
open IntKind (i64)
variable {B L N4 Z b bx c fs g i j n:Nat}{F S:List Nat}{LL:List GapM}{M nx p q:Int}{V v:Value}{W w w':World}{a:Option Addr}{o:Oper}{r:InM}{x y:Operand}{xs:List Value}{ρ:Operand->Value}
structure TkOk(x:TkP):Prop where
 srt:Srt x.th
 hi:G8 x.th<=1500
 lh:x.len<=1500
 dl:x.data.length=G8 x.th
theorem TkOk.few{x:TkP}(h:TkOk x):x.th.length<=1500:=Ak (h.srt.few h.srt.Tz) h.hi
theorem TkOk.zero:TkOk .zero:=⟨Srt.nil,Af _,Af _,rfl⟩
theorem TkOk.add{x x':TkP}{a:Nat}{s:ByteArray}{last:Bool}(h:TkOk x)(d:AddM x x' a b s last)(e:a<b)(k:b<=1500):TkOk x':=by
 have f:=d.ends h.srt e;refine⟨d.srt,by rw[f];have:=h.hi;omega,?_,by rw[f,d.dl,h.dl]⟩;rw[d.ln];have:=h.lh
 split<;>omega
theorem AkL{us:List TkP}{x':TkP}(h:∀j,TkOk (us.getD j .zero))(d:TkOk x')(hi:i<us.length):∀j,TkOk ((us.set i x').getD j .zero):=by grind [GM,ID]
theorem O3{x:PieceM}(h:x.bad=false):0<=x.num/\x.num<=63/\0<=x.frm/\x.a<x.b/\x.b<=1500/\0<x.data.size:=by grind [PieceM.bad,PieceM.a,PieceM.b]
def S2 (w:World)(b fs g c:Nat)(us:List TkP)(i:Nat)(x:PieceM):Ending->World->Prop:=fun e w'=>∃x' w6,AddM (us.getD i .zero) x' x.a x.b x.data x.last/\PRcv w6 b fs g c (us.set i x')/\Kept (Mu b g us) w w6/\Ga w.heap.size (Mu b g us) (Mu b g (us.set i x'))/\∃k a cc,e=.returned (.tuple #[slice a k cc,int i64 0])/\Lj w6 b fs g c (us.set i x') (.returned (slice a k cc)) w'
def TAd (W:World)(b fs g c:Nat)(us:List TkP)(i:Nat)(x:PieceM):Ending->World->Prop:=fun e w'=>e=.returned (.tuple #[])/\∃x',AddM (us.getD i .zero) x' x.a x.b x.data x.last/\PRcv w' b fs g c (us.set i x')/\Kept (Mu b g us) W w'/\Ga W.heap.size (Mu b g us) (Mu b g (us.set i x'))
theorem Amq{us:List TkP}{x:PieceM}(h:PRcv W b fs g c us)(d:∀j,TkOk (us.getD j .zero))(hi:i<us.length)(u:x.bad=false):
 Calls prog 206 #[pointer (some ⟨g,i*3,none⟩),x.val] W (TAd W b fs g c us i x):=by
 obtain⟨z,A,k,C,l,m⟩:=O3 u;obtain⟨cur,s, -⟩:=F9 h.own;refine(Akz x (h.un hi) s (d i).srt (d i).hi (d i).dl k l m).mono ?_;rintro e w' ⟨rfl,x',f,t⟩;refine⟨rfl,x',t,h.upd hi f,f.kept.Fn (fun q D=>?_),AjW hi f.nk⟩
 grind [Ye,Up]
theorem P2{us:List TkP}(x:PieceM)(h:PRcv w b fs g c us)(ac:us.length<=32)(O:fs<64)(R:∀j,TkOk (us.getD j .zero))(hs:x.data.size<=Wf)(E:Int)
 (hE:(x.bad=true/\E=3)\/(x.bad=false/\us.length<=E9 x.num fs/\E=8)\/(x.bad=false/\E9 x.num fs<us.length/\(us.getD (E9 x.num fs) .zero).J9 x=true/\E=3)):
 Calls prog 167 #[pointer (some ⟨b,0,none⟩),x.val] w fun e w'=>e=.returned (.tuple #[slice none 0 0,int i64 E])/\Below w.heap.size w w':=by
 have c0:w.cell? ⟨b,0,none⟩=some (int i64 (fs:Int)):=h.hd.cell 0;have c1:w.cell? ⟨b,1,none⟩=some (slice (some ⟨g,0,none⟩) us.length c):=h.hd.cell 1;have l:=fun W=>N2 (w:=W) x hs
 obtain⟨t,f⟩:=E7 ((w.alloc (.cells #[int i64 x.num,int i64 x.frm,.bool x.last,string x.data] 216)).alloc (.cells #[int i64 x.num,int i64 x.frm,.bool x.last,string x.data] 216));have Q:Kept [] w t:=by rw[f];exact((Kept.refl _ w).alloc _).alloc _
 have I:Below w.heap.size w t:=Q.below (Ac _) (by simp);have s:At t w.heap.size 216 x.cells:=by
  rw[f];exact At.kept (Fc w _ x.cells) ((Kept.refl [] _).alloc _) (by simp)
 have x0:t.cell? ⟨w.heap.size,0,none⟩=some (int i64 x.num):=s.cell 0;have x1:t.cell? ⟨w.heap.size,1,none⟩=some (int i64 x.frm):=s.cell 1;have x2:t.cell? ⟨w.heap.size,2,none⟩=some (.bool x.last):=s.cell 2;have x3:t.cell? ⟨w.heap.size,3,none⟩=some (string x.data):=s.cell 3;have k0:=E8 Q c0 (by simp);have k1:=E8 Q c1 (by simp);have m:=Fc w 216 x.cells;have v0:(w.alloc (.cells #[int i64 x.num,int i64 x.frm,.bool x.last,string x.data] 216)).cell? ⟨w.heap.size,0,none⟩=some (int i64 x.num):=m.cell 0;have v1:(w.alloc (.cells #[int i64 x.num,int i64 x.frm,.bool x.last,string x.data] 216)).cell? ⟨w.heap.size,1,none⟩=some (int i64 x.frm):=m.cell 1;have v2:(w.alloc (.cells #[int i64 x.num,int i64 x.frm,.bool x.last,string x.data] 216)).cell? ⟨w.heap.size,2,none⟩=some (.bool x.last):=m.cell 2;have v3:(w.alloc (.cells #[int i64 x.num,int i64 x.frm,.bool x.last,string x.data] 216)).cell? ⟨w.heap.size,3,none⟩=some (string x.data):=m.cell 3;obtain⟨N,Y⟩:=E7 us.length;rw[<-Y]at k1 hE;have T:=hid I;generalize hP:(fun(e:Ending) (w':World)=>e=.returned (.tuple #[slice none 0 0,int i64 E])/\Below w.heap.size w w')=P;have U:=hid hP;have H:=fun(n:Nat)=>h.kept (w':=t.drewN n) (Q.drewN n) (by simp)
 have X:=hid H;have u:=hid R;have HN:=hid Y;clear h Q I s m hP H R c0 c1 Y
 rcases hE with⟨d,rfl⟩ | ⟨d,hq,rfl⟩ | ⟨d,hq,K,rfl⟩
 ·rw[d,Ab rfl]at l;clear d;obtain⟨num,frm,last,data⟩:=x;dsimp only[PieceM.val]at*;go_enter func167,ntmps167
  go_wp2_with(go_at_call 204;refine(l _).mono ?_;rintro e w1 ⟨rfl,rfl⟩);rw[<-U.out,<-f];exact⟨rfl,T.out⟩
 ·rw[d,Aa (by simp)]at l;obtain⟨C,D, -⟩:=O3 d;have z:=fun W=>Ll (k:=x.num) (bg:=fs) W O C D
  clear d;obtain⟨num,frm,last,data⟩:=x;dsimp only[PieceM.val]at*;have G:E9 num fs<64:=by unfold E9;omega
  generalize E9 num fs=A at*;have d1:decide ((N:Int)<=(A:Int))=true:=Ag (by omega);go_enter func167,ntmps167;go_upto_region 4 with(go_at_call 204;refine(l _).mono ?_;rintro e w1 ⟨rfl,rfl⟩)
  rw[<-f];clear f v0 v1 v2 v3
  go_quiet (first | (go_at_call 65;exact Ba (z _)))
  go_wp2_with fail;rw[<-U.out];exact⟨rfl,JO T.out _⟩
 ·rw[d,Aa (by simp)]at l;obtain⟨C,D,aa,ad,ae,af⟩:=O3 d;have z:=fun W=>Ll (k:=x.num) (bg:=fs) W O C D
  have J:=fun n=>UP x ((X.out n).un (i:=E9 x.num fs) (by rw[<-HN.out];exact hq)) (by have:=(u.out (E9 x.num fs)).lh;omega) (by have:=(u.out (E9 x.num fs)).hi;omega) (by have:=(u.out (E9 x.num fs)).few;omega) aa (by omega)
  rw[K,Ab rfl]at J;clear d K;obtain⟨num,frm,last,data⟩:=x;dsimp only[PieceM.val]at*;have G:E9 num fs<64:=by unfold E9;omega
  generalize E9 num fs=A at*;have d1:decide ((N:Int)<=(A:Int))=false:=Ae (by omega);have ab:¬(N<=A):=by omega
  go_enter func167,ntmps167;go_upto_region 4 with(go_at_call 204;refine(l _).mono ?_;rintro e w1 ⟨rfl,rfl⟩)
  rw[<-f];clear f v0 v1 v2 v3
  go_quiet (first | (go_at_call 65;exact Ba (z _)))
  go_wp2_with(go_at_call 205;refine(J _).mono ?_;rintro e w5 ⟨rfl,rfl⟩);rw[<-U.out];exact⟨rfl,(JO T.out _).alloc (by have:=T.out.size;simpa using this) _⟩
theorem AdD{us:List TkP}(x:PieceM)(h:PRcv w b fs g c us)(hl:us.length<=32)(af:fs<64)(ai:∀j,TkOk (us.getD j .zero))(hs:x.data.size<=Wf)(D:x.bad=false)(hE:E9 x.num fs<us.length)(ae:(us.getD (E9 x.num fs) .zero).J9 x=false):
 Calls prog 167 #[pointer (some ⟨b,0,none⟩),x.val] w (S2 w b fs g c us (E9 x.num fs) x):=by
 have c0:w.cell? ⟨b,0,none⟩=some (int i64 (fs:Int)):=h.hd.cell 0;have c1:w.cell? ⟨b,1,none⟩=some (slice (some ⟨g,0,none⟩) us.length c):=h.hd.cell 1;have G:=fun W=>N2 (w:=W) x hs
 obtain⟨d,C⟩:=E7 ((w.alloc (.cells #[int i64 x.num,int i64 x.frm,.bool x.last,string x.data] 216)).alloc (.cells #[int i64 x.num,int i64 x.frm,.bool x.last,string x.data] 216));have hk:Kept [] w d:=by rw[C];exact((Kept.refl _ w).alloc _).alloc _
 have ac:Below w.heap.size w d:=hk.below (Ac _) (by simp);have s:At d w.heap.size 216 x.cells:=by
  rw[C];exact At.kept (Fc w _ x.cells) ((Kept.refl [] _).alloc _) (by simp)
 have x0:d.cell? ⟨w.heap.size,0,none⟩=some (int i64 x.num):=s.cell 0;have x1:d.cell? ⟨w.heap.size,1,none⟩=some (int i64 x.frm):=s.cell 1;have x2:d.cell? ⟨w.heap.size,2,none⟩=some (.bool x.last):=s.cell 2;have x3:d.cell? ⟨w.heap.size,3,none⟩=some (string x.data):=s.cell 3;have k0:=E8 hk c0 (by simp);have k1:=E8 hk c1 (by simp);have z:=Fc w 216 x.cells;have v0:(w.alloc (.cells #[int i64 x.num,int i64 x.frm,.bool x.last,string x.data] 216)).cell? ⟨w.heap.size,0,none⟩=some (int i64 x.num):=z.cell 0;have v1:(w.alloc (.cells #[int i64 x.num,int i64 x.frm,.bool x.last,string x.data] 216)).cell? ⟨w.heap.size,1,none⟩=some (int i64 x.frm):=z.cell 1;have v2:(w.alloc (.cells #[int i64 x.num,int i64 x.frm,.bool x.last,string x.data] 216)).cell? ⟨w.heap.size,2,none⟩=some (.bool x.last):=z.cell 2;have v3:(w.alloc (.cells #[int i64 x.num,int i64 x.frm,.bool x.last,string x.data] 216)).cell? ⟨w.heap.size,3,none⟩=some (string x.data):=z.cell 3;obtain⟨N,hN⟩:=E7 us.length;rw[<-hN]at k1 hE hl;have HB:=hid ac;generalize hP:S2 w b fs g c us (E9 x.num fs) x=P;have HP:=hid hP;have Y:=fun(n:Nat)=>h.kept (w':=d.drewN n) (hk.drewN n) (by simp)
 have R:=hid Y;have f:=hid ai;have HN:=hid hN;clear h hk ac s z hP Y ai c0 c1 hN;have hq:=hE;rw[D,Aa (by simp)]at G;obtain⟨ar,au,av,aw,ax,a0⟩:=O3 D;have ab:=fun W=>Ll (k:=x.num) (bg:=fs) W af ar au
 have E:=fun n=>UP x ((R.out n).un (i:=E9 x.num fs) (by rw[<-HN.out];exact hq)) (by have:=(f.out (E9 x.num fs)).lh;omega) (by have:=(f.out (E9 x.num fs)).hi;omega) (by have:=(f.out (E9 x.num fs)).few;omega) av (by omega)
 rw[ae,Aa (by simp)]at E;have aq:Hid (us.length<=32):=hid (by rw[<-HN.out];exact hl);have m:=fun n=>Amq (i:=E9 x.num fs) (x:=x) (W:=(d.drewN n).alloc (.cells #[int i64 x.num,int i64 x.frm,.bool x.last,string x.data] 216)) ((R.out n).kept ((Kept.refl [] _).alloc _) (by simp)) f.out (by rw[<-HN.out];exact hq) D
 have al:=hid af;have HT:Hid (∀x' Q,AddM (us.getD (E9 x.num fs) .zero) x' x.a x.b x.data x.last->PRcv Q b fs g c (us.set (E9 x.num fs) x')->Calls prog 207 #[pointer (some ⟨b,0,none⟩)] Q (Lj Q b fs g c (us.set (E9 x.num fs) x'))):=hid fun x' Q ha U=>by
  have hu:=AkL (i:=E9 x.num fs) f.out ((f.out (E9 x.num fs)).add ha aw ax) (by rw[<-HN.out];exact hq);exact AkA U (by rw[An];exact aq.out) al.out (fun i=>by have:=(hu i).few;omega) (fun i=>by have:=(hu i).lh;omega) (fun i=>by have:=(hu i).hi;have:=(hu i).dl;omega)
 have K:Hid (S2 w b fs g c us (E9 x.num fs) x=P):=HP;obtain⟨T,l⟩:=E7 x;rw[<-l]at HT K m;have aj:x.val=.agg #[int i64 x.num,int i64 x.frm,.bool x.last,string x.data]:=rfl;have J:T.val=.agg #[int i64 x.num,int i64 x.frm,.bool x.last,string x.data]:=by rw[l];rfl
 rw[J]at m;rw[aj]at E G |-;have I:T.num=x.num:=by rw[l]
 have H:T.frm=x.frm:=by rw[l]
 have u:T.last=x.last:=by rw[l]
 have t:T.data=x.data:=by rw[l]
 rw[I]at m HT K;rw[H,u,t]at m;clear D ae aj J I H u t HP hE hs;generalize E9 x.num fs=A at*;generalize x.num=num at*;generalize x.frm=frm at*;generalize x.last=last at*;generalize x.data=data at*;have az:¬(N<=A):=by omega
 go_enter func167,ntmps167;go_upto_region 4 with(go_at_call 204;refine(G _).mono ?_;rintro e w1 ⟨rfl,rfl⟩)
 rw[<-C];clear C v0 v1 v2 v3
 go_quiet (first | (go_at_call 65;exact Ba (ab _)));have aa:=m nq;have ad:=E nq;have O:=hid (JO HB.out nq);have a1:((d.drewN nq).alloc (.cells #[int i64 num,int i64 frm,.bool last,string data] 216)).cell? ⟨w.heap.size,0,none⟩=some (int i64 num):=E8 ((Kept.refl [] d).drewN nq |>.alloc _) x0 (by simp);have a2:((d.drewN nq).alloc (.cells #[int i64 num,int i64 frm,.bool last,string data] 216)).cell? ⟨w.heap.size,1,none⟩=some (int i64 frm):=E8 ((Kept.refl [] d).drewN nq |>.alloc _) x1 (by simp);have s:((d.drewN nq).alloc (.cells #[int i64 num,int i64 frm,.bool last,string data] 216)).cell? ⟨w.heap.size,2,none⟩=some (.bool last):=E8 ((Kept.refl [] d).drewN nq |>.alloc _) x2 (by simp);have a3:((d.drewN nq).alloc (.cells #[int i64 num,int i64 frm,.bool last,string data] 216)).cell? ⟨w.heap.size,3,none⟩=some (string data):=E8 ((Kept.refl [] d).drewN nq |>.alloc _) x3 (by simp);have X:=hid (O.out.alloc (by have:=O.out.size;simpa using this) (.cells #[int i64 num,int i64 frm,.bool last,string data] 216));clear m E G ab O;generalize (d.drewN nq).alloc (.cells #[int i64 num,int i64 frm,.bool last,string data] 216)=W5 at*
 go_wp2_with(first
  | (go_at_call 205;refine ad.mono ?_;rintro e w5 ⟨rfl,ap⟩;subst ap)
  | (go_at_call 206;refine aa.mono ?_;rintro e Q ⟨rfl,x',ha,U,ah,ag⟩;have ak:=hid ha;have H6:=hid U;have an:=hid ah;have am:=hid ag;have ay:=HT.out x' Q ha U;clear ha U ah ag)
  | (go_at_call 207;refine ay.mono ?_;rintro e w7 hT;obtain⟨k,a,cc,q1,rfl,q2⟩:=id hT;have ao:=hid hT;clear hT q1 q2))
 rw[<-K.out];refine⟨x',Q,ak.out,H6.out,?_,?_,k,a,cc,rfl,ao.out⟩
 ·exact(Kept.E5 X.out).trans an.out
 ·exact fun q hq=>(am.out q hq).elim .inl (fun h=> .inr (Ak X.out.size h))
theorem Tryz.Anm:(prog.info? 154).map (fun i=>(i.zero,i.size,i.bytes))=some (some (.agg #[int i64 0,int i64 0,int i64 0]),3,24):=by kernel_rfl
def GS (l:List GapM):List Value:=l.flatMap GapM.cells
theorem Y4(l r:List GapM):GS (l++r)=GS l++GS r:=by simp[GS]
theorem Acc(l:List GapM):∀i k,i<l.length->k<3->(GS l)[i*3+k]?=(l.getD i .zero).cells[k]?:=by
 induction l with
 | nil=>intro i k hi;simp at hi
 | cons x l ih=>
  intro i k hi d;have e:GS (x::l)=x.cells++GS l:=rfl
  cases i with
  | zero=>rw[e,BB (by show 0*3+k<3;omega),CT,Ao];rfl
  | succ i=>
   rw[AE]at hi;rw[e,BL (by show 3<=_;omega),show(i+1)*3+k-x.cells.length=i*3+k by show _-3=_;omega,ih i k (by omega) d];rfl
theorem AeH{l:List GapM}(h:w.ownsRow B 154 3 (slice a n c) l.length (GS l)):Gps w a l:=by
 intro s;have D:0<l.length:=Ek.2 s;have C:=O6 h;subst C;obtain⟨a',c',e, -, -,E⟩:=Fg h;simp only[Aq]at e;obtain⟨rfl, -,rfl⟩:=e
 rcases h.2 with⟨f,u⟩ | ⟨g,t,cur,f, -, -⟩
 ·omega
 ·simp only[Aq]at f;obtain⟨rfl, -, -⟩:=f;obtain⟨cur,z, -, -, -, -,m, -⟩:=F9 h;refine⟨g,0,rfl,fun i hi=>?_⟩;have d:∀k,k<3->w.cell? ⟨g,0+i*3+k,none⟩=(l.getD i .zero).cells[k]?:=fun k A=>by
   rw[Ao,z.cell,<-Acc l i k hi A,<-m,A3 (by omega)]
  exact⟨d 0 (by omega),d 1 (by omega),d 2 (by omega)⟩
def Nc (fs i:Nat)(x:TkP):List GapM:=x.NR.map fun q=>⟨(((fs+i) % 64:Nat):Int),q.1,q.2⟩
def Hh (fs:Nat)(us:List TkP)(i:Nat):List GapM:=(List.range i).flatMap fun i=>Nc fs i (us.getD i .zero)
theorem Sd(fs:Nat)(us:List TkP)(i:Nat):Hh fs us (i+1)=Hh fs us i++Nc fs i (us.getD i .zero):=by
 unfold Hh;rw[Az,Bd];simp
theorem TkP.ZB{x:TkP}(h:x.th.length<=n):x.NR.length<=n+2:=by grind [TkP.NR,G8,Hi,OR]
theorem PP{fs:Nat}{us:List TkP}{n:Nat}(h:∀i,(us.getD i .zero).th.length<=n):∀i,(Hh fs us i).length<=i*(n+2)
 | 0=>by simp[Hh]
 | i+1=>by
  rw[Sd,Ai];have d:=PP h i (fs:=fs);have e:(Nc fs i (us.getD i .zero)).length<=n+2:=by unfold Nc;rw[Bo];exact TkP.ZB (h i)
  rw[CD];omega
structure RpAt(w wr:World)(nx:Int)(L:List GapM)(a:Option Addr)(c:Nat):Prop where
 row:At wr (w.heap.size+1) 95 [int i64 nx,slice a L.length c]
 res:At wr w.heap.size 95 [int i64 0,slice none 0 0]
 own:wr.ownsRow (w.heap.size+2) 154 3 (slice a L.length c) L.length (GS L)
 bel:Below w.heap.size w wr
theorem RpAt.later{wr:World}{L:List GapM}(h:RpAt w wr nx L a c)(e:Below wr.heap.size wr w'):RpAt w w' nx L a c:=by
 have d:Kept [] wr w':=Kept.E5 e;refine⟨h.row.kept d (by simp),h.res.kept d (by simp),?_,h.bel.trans (e.mono h.bel.size)⟩;have f:=FY (B:=w.heap.size+2) h.own d (by simp);exact f
theorem ltOf{o:Obj}(h:w.heap[b]?=some o):b<w.heap.size:=(Array.getElem?_eq_some_iff.1 h).1
theorem UC(w:World)(e:o.op=.load 3 x)(h:ρ x=pointer (some ⟨g,j,none⟩))(d:w.cell? ⟨g,j,none⟩=some v):(execOp ρ o).run prog w=.ok (.value v) w:=by
 unfold execOp;simp only[e,h];simp[go_sem,d]
theorem Aa7(w:World)(d:o.op=.fieldAddr 95 x 1)(h:ρ x=pointer (some ⟨g,j,none⟩)):(execOp ρ o).run prog w=.ok (.value (pointer (some ⟨g,j+1,none⟩))) w:=by
 unfold execOp;simp only[d,h];simp[go_sem]
theorem Aj3(w:World)(d:o.op=.fieldAddr 149 x 0)(h:ρ x=pointer (some ⟨g,j,none⟩)):(execOp ρ o).run prog w=.ok (.value (pointer (some ⟨g,j,none⟩))) w:=by
 unfold execOp;simp only[d,h];simp[go_sem]
theorem Aj4(w:World)(d:o.op=.fieldAddr 146 x 0)(h:ρ x=pointer (some ⟨g,j,none⟩)):(execOp ρ o).run prog w=.ok (.value (pointer (some ⟨g,j,none⟩))) w:=by
 unfold execOp;simp only[d,h];simp[go_sem]
theorem Aj5(w:World)(d:o.op=.fieldAddr 146 x 1)(h:ρ x=pointer (some ⟨g,j,none⟩)):(execOp ρ o).run prog w=.ok (.value (pointer (some ⟨g,j+1,none⟩))) w:=by
 unfold execOp;simp only[d,h];simp[go_sem]
theorem Aj9(w:World)(e:o.op=.load 93 x)(h:ρ x=pointer (some ⟨g,j,none⟩))(d:w.cell? ⟨g,j,none⟩=some v):(execOp ρ o).run prog w=.ok (.value v) w:=by
 unfold execOp;simp only[e,h];simp[go_sem,d]
theorem Aj1(w:World){z:Operand}{r:Int}(f:o.op=.build 154 #[(0,x),(1,y),(2,z)])(h:ρ x=int i64 p)(e:ρ y=int i64 q)(d:ρ z=int i64 r):(execOp ρ o).run prog w=.ok (.value (.agg #[int i64 p,int i64 q,int i64 r])) w:=by
 unfold execOp;simp only[f];simp[go_sem,h,e,d]
theorem Aj2(w:World){r:Int}(d:o.op=.buildSlice 93 1 #[(0,x)])(h:ρ x=.agg #[int i64 p,int i64 q,int i64 r]):(execOp ρ o).run prog w=.ok (.value (slice (some ⟨w.heap.size,0,none⟩) 1 1)) (w.alloc (.cells #[int i64 p,int i64 q,int i64 r] 154)):=by
 unfold execOp;simp only[d];simp[go_sem,h]
theorem Akc(w:World){u:Value}(k:o.op=.store 93 x y)(h:ρ x=pointer (some ⟨g,j,none⟩))(d:ρ y=slice a n c)(e:w.cell? ⟨g,j,none⟩=some u)(f:w.frozen? ⟨g,j,none⟩=false):(execOp ρ o).run prog w=.ok .skip (w.setCell ⟨g,j,none⟩ (slice a n c)):=by
 unfold execOp;simp only[k,h,d];simp[go_sem,e,f]
theorem AjE{ops:Array Oper}{Q:Exit->Act->World->Prop}{a:Act}{K:Act->World->Prop}{d:TypeInfo}(hi:ops[i]?=some o)(hg:o.guard=none)(e:prog.info? 154=some d)(f:d.zero=some (.agg #[int i64 0,int i64 0,int i64 0]))(k:d.size=3)(l:d.bytes=24)(B:Nat)(p q r:Int)(gb:Nat){s:Operand}
 (C:o.op=.call {callee:=.builtin .append,args:=#[s,x],argTypes:=#[93,93]}) (hs:a.eval s=v) (hx:a.eval x=slice (some ⟨gb,0,none⟩) 1 1) (hown:W.ownsRow B 154 3 v L xs) (hc:At W gb 154 [int i64 p,int i64 q,int i64 r]) (hlen:L<=100000) (hB:B<=W.heap.size)
 (h:∀v' w',w'.ownsRow B 154 3 v' (L+1) (xs++[int i64 p,int i64 q,int i64 r])->W.grownBy w' v.ownBlock->(v'.ownBlock=v.ownBlock\/v'.ownBlock=some W.heap.size)->K (a.put o.dst v') w'):wpOp prog ops Q i K a W:=by
 unfold wpOp;rw[hi];have z:Region.wanted o (yielded ops a.tmps)=true:=by simp[Region.wanted,hg]
 simp only[z,AP]
 left;have m:=AdT (ops:=ops) (K:=K) (Q:=Q) (E:=True) B gb underlying93 e f k l rfl (by decide) hown hg s x C hs hx (news:=[int i64 p,int i64 q,int i64 r]) rfl (fun j u A=>(hc.cell j).trans A) (by intro u t;simp at t;rcases t with rfl | rfl | rfl<;>rfl) (by unfold maxLen;omega) (by omega) hB h;rw[Ab z]at m;exact m
def AaV (N4 b bx:Nat)(fs i M p q:Int)(V:Value)(B L Z:Nat)(LL:List GapM)(S:List Nat):Nat->(Nat->Value)->World->Prop
 | 0,σ,_=>σ 0=pointer (some ⟨N4,1,none⟩)
 | 1,σ,_=>σ 1=V
 | 2,σ,_=>σ 2=pointer (some ⟨b,0,none⟩)
 | 3,σ,_=>σ 3=pointer (some ⟨b,0,none⟩)
 | 4,σ,_=>σ 4=pointer (some ⟨b,0,none⟩)
 | 5,σ,_=>σ 5=int i64 fs
 | 6,σ,_=>σ 6=int i64 i
 | 7,σ,_=>σ 7=int i64 M
 | 8,σ,_=>σ 8=pointer (some ⟨bx,0,none⟩)
 | 9,σ,_=>σ 9=int i64 p
 | 10,σ,_=>σ 10=pointer (some ⟨bx,1,none⟩)
 | 11,σ,_=>σ 11=int i64 q
 | 12,σ,_=>σ 12=.agg #[int i64 M,int i64 p,int i64 q]
 | 13,σ,w=>∃gx,gx∉S/\σ 13=slice (some ⟨gx,0,none⟩) 1 1/\At w gx 154 [int i64 M,int i64 p,int i64 q]
 | 14,σ,w=>∃a' c',σ 14=slice a' (L+1) c'/\w.ownsRow B 154 3 (slice a' (L+1) c') (L+1) (GS LL++[int i64 M,int i64 p,int i64 q])/\(∀x,(slice a' (L+1) c').ownBlock=some x->V.ownBlock=some x\/Z<=x)
 | 15,σ,_=>σ 15=pointer (some ⟨N4,1,none⟩)
 | _,_,_=>True
theorem Ahh{fs i:Int}(j:Nat)(σ d:Nat->Value)(w:World)(h:σ j=d j)(e:AaV N4 b bx fs i M p q V B L Z LL S j σ w):AaV N4 b bx fs i M p q V B L Z LL S j d w:=by simp_all[AaV];grind
theorem Ahi{fs i:Int}(j:Nat)(σ:Nat->Value)(w w':World)(h:AaV N4 b bx fs i M p q V B L Z LL S j σ w)(k:Kept [] w w'):AaV N4 b bx fs i M p q V B L Z LL S j σ w':=by
 match j with
 | 0 | 1 | 2 | 3 | 4 | 5 | 6 | 7 | 8 | 9 | 10 | 11 | 12 | 15=>exact h
 | 13=>obtain⟨l,d,e,f⟩:=h;exact⟨l,d,e,f.kept k (by simp)⟩
 | 14=>obtain⟨a',c',d,e,f⟩:=h;exact⟨a',c',d,FY e k (by simp),f⟩
 | n+16=>trivial
theorem AdA{fs i:Int}(j:Nat)(σ:Nat->Value)(w w':World)(l:j≠14)(e:AaV N4 b bx fs i M p q V B L Z LL S j σ w)(m:Kept S w w'):AaV N4 b bx fs i M p q V B L Z LL S j σ w':=by
 match j with
 | 0 | 1 | 2 | 3 | 4 | 5 | 6 | 7 | 8 | 9 | 10 | 11 | 12 | 15=>exact e
 | 13=>obtain⟨f,d,h,k⟩:=e;exact⟨f,d,h,k.kept m d⟩
 | 14=>exact absurd rfl l
 | n+16=>trivial
theorem RpAt.AoT{u wc:World}{L:List GapM}{a':Option Addr}{c':Nat}{q:GapM}(h:RpAt w u nx L a c)(l:Kept (slice a L.length c).ownBlock.toList u wc)(t:wc.ownsRow (w.heap.size+2) 154 3 (slice a' (L.length+1) c') (L.length+1) (GS L++q.cells)):RpAt w (wc.setCell ⟨w.heap.size+1,1,none⟩ (slice a' (L.length+1) c')) nx (L++[q]) a' c':=by
 have d:∀x,x∈(slice a L.length c).ownBlock.toList->w.heap.size+2<=x:=fun x f=>(AB h.own x (by simpa using f)).1
 have s:(L++[q]).length=L.length+1:=by simp
 have k:Below w.heap.size w wc:=h.bel.trans (l.below h.bel.size (fun x f=>by have:=d x f;omega));refine⟨?_,?_,?_,?_⟩
 ·rw[s];exact(h.row.kept l (fun m=>by have:=d _ m;omega)).setCell _
 ·exact(h.res.kept l (fun m=>by have:=d _ m;omega)).MU _ _ (by grind)
 ·rw[s,Y4];have e:GS [q]=q.cells:=by simp[GS]
  rw[e];refine FY t (FT wc (w.heap.size+1) 1 _) (fun x f=>?_);have:=(AB t x f).1;simp;omega
 ·exact k.setCell (by grind) _
def RW (w:World)(fs:Nat)(us:List TkP):Ending->World->Prop:=fun e w'=>∃k a n c,k<=us.length/\(0<k->(us.getD (k-1) .zero).th≠[])/\(∀j,k<=j->j<us.length->(us.getD j .zero).th=[])/\e=.returned (.agg #[int i64 (((fs+k) % 64:Nat):Int),slice a n c])/\Gps w' a (Hh fs us k)/\(Hh fs us k).length=n/\n<=maxLen/\Aen w.heap.size a/\Below w.heap.size w w'/\n<=100000/\w'.ownsRow (w.heap.size+2) 154 3 (slice a n c) n (GS (Hh fs us k))
theorem Aa1{us:List TkP}(h:PRcv w b fs g c us)(hl:us.length<=32)(c4:fs<64)(ai:∀i,Srt (us.getD i .zero).th)(a7:∀i,G8 (us.getD i .zero).th<=1500)(b9:∀i,(us.getD i .zero).len<=1500):
 Calls prog 33 #[pointer (some ⟨b,0,none⟩)] w (RW w fs us):=by
 have ba:∀i,(us.getD i .zero).th.length<=1500:=fun i=>Ak ((ai i).few (ai i).Tz) (a7 i)
 have c0:w.cell? ⟨b,0,none⟩=some (int i64 (fs:Int)):=h.hd.cell 0;have c1:w.cell? ⟨b,1,none⟩=some (slice (some ⟨g,0,none⟩) us.length c):=h.hd.cell 1;have dj:=h.hd.lt;obtain⟨W1,ab⟩:=E7 (w.alloc (.cells #[int i64 0,slice none 0 0] 95));have l:Kept [] w W1:=by rw[ab];exact(Kept.refl _ w).alloc _
 have a3:=Adu (h.kept l (by simp)) hl (fun i=>by have:=ba i;omega);have O:At W1 w.heap.size 95 [int i64 0,slice none 0 0]:=by rw[ab];exact Fc w _ _
 have bv:W1.heap.size=w.heap.size+1:=by rw[ab];simp
 have k0:=E8 l c0 (by simp);have k1:=E8 l c1 (by simp);obtain⟨N,hN⟩:=E7 us.length;generalize hP:RW w fs us=P;have bx:=fun(W:World) (k:Nat) (hk:k<=4000)=>Lm (n:=fs) (k:=k) W c4 hk
 have bu:∀nx:Int,RpAt w (W1.alloc (.cells #[int i64 nx,slice none 0 0] 95)) nx [] none 0:=fun nx=>by
  have hA:=Fc W1 95 [int i64 nx,slice none 0 0];rw[bv]at hA;refine⟨hA,O.kept ((Kept.refl [] W1).alloc _) (by simp),Bj _ _ _ _,?_⟩;exact(l.alloc _).below (Ac _) (by simp)
 have bp:=hid bu;have H:=hid h;have HP:=hid hP;have HN:=hid hN;have ct:=hid ai;have cg:=hid a7;have cm:=hid b9;have ay:=hid ba;rw[<-hN]at k1 hl a3;have ck:=hid l;clear h hP ai a7 b9 ba bu O l c0 c1 hN;go_enter func33,ntmps33;go_upto_region 1 with fail
 rw[<-ab];clear ab
 go_upto_region 3 with(first
  | (go_at_call 69;refine a3.mono ?_;rintro e w1 ⟨k,hk,rfl,b5,b6,rfl⟩;have ch:=hid b5;have ci:=hid b6;have HK:=hid hk;clear b5 b6;clear hk;have di:k<=32:=by(have:=HK.out;omega))
  | (go_at_call 70;refine(bx _ k (by omega)).mono ?_;rintro e w2 ⟨rfl,rfl⟩))
 have cn:=hid (show((fs:Int)+(k:Int)) % 64=(((fs+k) % 64:Nat):Int)by omega);generalize ((fs:Int)+(k:Int)) % 64=NX at*;have bt:=hid (bp.out NX);generalize w2.alloc (.cells #[int i64 NX,slice none 0 0] 95)=W3 at*;clear k0 k1 bp ck a3
 go_wp2_with fail
 go_loopw [18] (fun vi wr=>∃(i cr:Nat) (ar:Option Addr),i<=k/\vi=int i64 (i:Int)/\Hid (RpAt w wr NX (Hh fs us i) ar cr)) (fun vi _=>k-(intOf vi).toNat)
 case atStart=>exact⟨0,0,none,Af _,rfl,bt⟩
 case round=>
  obtain⟨u,rfl⟩:=E7 wr;obtain⟨i,cr,ar,hi,rfl,J⟩:=hrel;clear bt;have a9:Kept [] w u:=Kept.E5 J.out.bel
  by_cases dl:i<k
  ·have c6:i<N:=by have:=HK.out;omega
   have a2:=H.out.kept a9 (by simp);have u1:u.cell? ⟨b,1,none⟩=some (slice (some ⟨g,0,none⟩) N c):=by rw[HN.out];exact a2.hd.cell 1
   have a6:=AhN (a2.un (i:=i) (by rw[<-HN.out];exact c6)) (ct.out i) (by have:=cm.out i;omega) (by have:=cg.out i;omega);obtain⟨G,eG⟩:=E7 ((us.getD i .zero).NR);obtain⟨m,em⟩:=E7 G.length;have hm:m<=1502:=by rw[em,eG];exact TkP.ZB (ay.out i)
   have hG:MC u (us.getD i .zero)=fun e w'=>∃a' c',e=.returned (slice a' m c')/\OwnSi w' u.heap.size (slice a' m c') G/\Below u.heap.size u w':=by
    funext e w'
    unfold MC;rw[<-eG,em];refine propext ⟨?_,?_⟩
    ·rintro⟨v',rfl,ho,hb⟩;obtain⟨a',c',rfl, -, -, -⟩:=Fg ho;exact⟨a',c',rfl,ho,hb⟩
    grind
   rw[hG]at a6;have EG:=hid eG;have EM:=hid em;clear hG eG em a2;go_upto_region 7 with(go_at_call 71;refine a6.mono ?_;rintro e w4 ⟨aG,cG,rfl,bs,bw⟩;have bl:=hid bs;have bb:=hid bw;clear bs bw)
   have dd:w.heap.size+1<u.heap.size:=J.out.row.lt;have df:=bb.out.size;obtain⟨S,eS⟩:=E7 ((w.heap.size+1)::(slice ar (Hh fs us i).length cr).ownBlock.toList:List Nat);have an:∀q∈S,w.heap.size+1<=q/\q<u.heap.size:=fun q hq=>by
    rw[eS,Ar]at hq
    rcases hq with rfl | hq
    ·omega
    ·have:=AB J.out.own q (by simpa using hq);omega
   have bn:=hid an;have cq:Hid (w.heap.size+1∈S):=by grind
   have bo:Hid (∀q,(slice ar (Hh fs us i).length cr).ownBlock=some q->q∈S\/w4.heap.size<=q):=hid fun q hq=> .inl (by rw[eS,hq];simp)
   have cl:=hid (PP (fs:=fs) ay.out i);obtain⟨GO,a0⟩:=E7 (Nc fs i (us.getD i .zero));have am:GO.length=m:=by rw[a0];unfold Nc;rw[Bo,EM.out,EG.out]
   have bg:=hid a0;have al:=hid am;obtain⟨M,eM⟩:=E7 ((((fs+i) % 64:Nat):Int):Int);have c2:∀W,Calls prog 70 #[int i64 (fs:Int),int i64 (i:Int)] W fun e w'=>e=.returned (int i64 M)/\w'=W:=by grind
   have ce:=hid eM;have co:=hid (J.out.later bb.out);clear a6 u1 a9 an eS a0 am eM bx
   go_loopw [29] (fun vj f=>∃(j cs:Nat) (z:Option Addr),j<=m/\vj=int i64 (j:Int)/\Hid (RpAt w f NX (Hh fs us i++GO.take j) z cs)/\Hid (Kept S w4 f)/\Hid (∀q,(slice z (Hh fs us i++GO.take j).length cs).ownBlock=some q->q∈S\/w4.heap.size<=q)) (fun vj _=>m-(intOf vj).toNat)
   case atStart=>exact⟨0,cr,ar,Af _,rfl,hid (by rw[C0,AA];exact co.out),hid (Kept.refl _ _),hid (by rw[C0,AA];exact bo.out)⟩
   case round=>
    obtain⟨f,rfl⟩:=E7 wr;obtain⟨j,cs,z,hj,rfl,HS,aa,af⟩:=hrel
    by_cases b4:j<m
    ·have a8:j<G.length:=by rw[<-EM.out];exact b4
     obtain⟨gG,rfl,dh,b0⟩:=bl.out.at (i:=j) a8;have dg:u.heap.size<=gG:=(AB bl.out gG rfl).1;obtain⟨z0,z1⟩:=b0 j a8;have a4:gG∉S:=fun hq=>by have:=(bn.out _ hq).2;omega
     have z0:=E8 aa.out z0 a4;have z1:=E8 aa.out z1 a4;obtain⟨p,ep⟩:=E7 ((G.getD j (0,0)).1);obtain⟨q,eq⟩:=E7 ((G.getD j (0,0)).2);rw[<-ep]at z0;rw[<-eq]at z1
     have bq:Hid (GO.take (j+1)=GO.take j++[⟨M,p,q⟩]):=hid (by
      have c7:j<GO.length:=by rw[al.out];exact b4
      rw[Br,Ap c7];have e:GO[j]=(⟨M,p,q⟩:GapM):=by
       have h1:GO[j]?=some (⟨M,p,q⟩:GapM):=by
        rw[bg.out];unfold Nc;rw[<-EG.out,A9,Ap a8,<-ce.out]
        grind
       grind
      rw[e]
      rfl)
     obtain⟨LL,ah⟩:=E7 (Hh fs us i++GO.take j);obtain⟨L,eL⟩:=E7 LL.length;have cz:L<=100000:=by
      rw[eL,ah,Ai,Ay];have:=cl.out
      grind
     rw[<-ah]at HS af;have b8:Kept [] w f:=Kept.E5 HS.out.bel;obtain⟨WB,ad⟩:=E7 (f.alloc (.cells #[int i64 p,int i64 q] 146));have Y:Kept [] f WB:=by rw[ad];exact(Kept.refl _ f).alloc _
     have bz:At WB f.heap.size 146 [int i64 p,int i64 q]:=by rw[ad];exact Fc f _ _
     have ao:WB.heap.size=f.heap.size+1:=by rw[ad];simp
     have de:w.heap.size+1<f.heap.size:=HS.out.row.lt;have f0:w.cell? ⟨b,0,none⟩=some (int i64 (fs:Int)):=H.out.hd.cell 0;have g0:=E8 (b8.trans Y) f0 (by simp);have m0:WB.cell? ⟨w.heap.size+1,1,none⟩=some (slice z L cs):=by rw[eL];exact(HS.out.row.kept Y (by simp)).cell 1
     have db:=HS.out.row.kept Y (by simp);have ae:WB.ownsRow (w.heap.size+2) 154 3 (slice z L cs) L (GS LL):=by
      have:=FY (B:=w.heap.size+2) HS.out.own Y (by simp)
      grind
     have ap:∀x,x∈(slice z L cs).ownBlock.toList->w.heap.size+2<=x/\x<f.heap.size:=fun x R=>by
      have:=AB HS.out.own x (by rw[<-eL];simpa using R);exact this
     have n1:w.heap.size+1∉(slice z L cs).ownBlock.toList:=by grind
     have n2:b∉(slice z L cs).ownBlock.toList:=by grind
     have n3:f.heap.size∉(slice z L cs).ownBlock.toList:=by grind
     obtain⟨i0,b1,cb,cc,cd⟩:=As Tryz.Anm;have HI:=hid b1;have cu:=hid cb;have cv:=hid cc;have cw:=hid cd;have bm:=hid ae;have bj:=hid m0;have bf:=hid g0;have au:=hid bz;have aw:=hid n1;have bk:=hid n2;have ax:=hid n3;have aj:=hid ap;have ag:=hid ao;have bc:=hid c2;have av:=hid Y;have T:=hid eL;have ak:=hid ah;have bd:Hid (Enters prog 70):=hid (enters_of func70 (by kernel_rfl) rfl);clear b0 a4 ep eq ah eL b8 Y bz g0 f0 db ae ap b1 cb cc cd n1 n2 n3 m0;go_upto_region 9 with fail
     rw[<-ad];clear ad z0 z1 ao;have aq:prog.follows .mixedOrders=true:=by kernel_rfl
     refine Bi (Ox (Q:=fun e a' w'=>e=.normal/\∃gx U X,a'={tmps:=(Ft _ [(33,pointer (some ⟨w.heap.size+1,1,none⟩)),(34,slice z L cs),(35,pointer (some ⟨b,0,none⟩)),(36,pointer (some ⟨b,0,none⟩)),(37,pointer (some ⟨b,0,none⟩)),(38,int i64 (fs:Int)),(39,int i64 (i:Int)),(40,int i64 M),(41,pointer (some ⟨f.heap.size,0,none⟩)),(42,int i64 p),(43,pointer (some ⟨f.heap.size,1,none⟩)),(44,int i64 q),(45,.agg #[int i64 M,int i64 p,int i64 q]),(46,slice (some ⟨gx,0,none⟩) 1 1),(47,slice U (L+1) X),(48,pointer (some ⟨w.heap.size+1,1,none⟩))]).toArray,defers:=[]}/\Hid (RpAt w w' NX (LL++[⟨M,p,q⟩]) U X)/\Hid (Kept S w4 w')/\Hid (∀x,(slice U (L+1) X).ownBlock=some x->x∈S\/w4.heap.size<=x)) 17 16 14 (slice z L cs).ownBlock.toList [33,34,35,36,37,38,39,40,41,42,43,44,45,46,47,48]
      [[4],[33],[0],[35],[36],[37],[5],[38,39],[7],[41],[7],[43],[40,42,44],[45],[34,46],[4]] [1,14,3,4,5,7,7,12,9,12,11,12,13,14,16,16] (AaV (w.heap.size+1) b f.heap.size fs i M p q (slice z L cs) (w.heap.size+2) L WB.heap.size LL (slice z L cs).ownBlock.toList) WB aq rfl (by decide) rfl (by decide) (by kernel_rfl) (by kernel_rfl) (by kernel_rfl) (by kernel_rfl) (by kernel_rfl) (by kernel_rfl) (fun j hj σ D w0 he d=>Ahh j σ D w0 (he j (Or.inl rfl)) d) Ahi AdA (fun I dk σ ac wc A c3 d s Q K E=>by
      have cy:I=0\/I=1\/I=2\/I=3\/I=4\/I=5\/I=6\/I=7\/I=8\/I=9\/I=10\/I=11\/I=12\/I=13\/I=14\/I=15:=by omega
      rcases cy with rfl | rfl | rfl | rfl | rfl | rfl | rfl | rfl | rfl | rfl | rfl | rfl | rfl | rfl | rfl | rfl
      ·exact E6 rfl rfl (Aa7 wc rfl (s 4 (by decide))) (E _ wc (Kept.refl _ _) (fun D _ h=>h))
      ·exact E6 rfl rfl (Aj9 wc rfl ((s 33 (by decide)).trans (d 0 (by decide) (by kernel_rfl))) (E8 A bj.out aw.out)) (E _ wc (Kept.refl _ _) (fun D _ h=>h))
      ·exact E6 rfl rfl (Fd wc rfl (s 0 (by decide))) (E _ wc (Kept.refl _ _) (fun D _ h=>h))
      ·exact E6 rfl rfl (Ie wc rfl ((s 35 (by decide)).trans (d 2 (by decide) (by kernel_rfl)))) (E _ wc (Kept.refl _ _) (fun D _ h=>h))
      ·exact E6 rfl rfl (Aj3 wc rfl ((s 36 (by decide)).trans (d 3 (by decide) (by kernel_rfl)))) (E _ wc (Kept.refl _ _) (fun D _ h=>h))
      ·exact E6 rfl rfl (UC wc rfl ((s 37 (by decide)).trans (d 4 (by decide) (by kernel_rfl))) (E8 A bf.out bk.out)) (E _ wc (Kept.refl _ _) (fun D _ h=>h))
      ·exact E6 rfl rfl (Fd wc rfl (s 5 (by decide))) (E _ wc (Kept.refl _ _) (fun D _ h=>h))
      ·exact FM rfl rfl rfl bd.out (Oj ((s 38 (by decide)).trans (d 5 (by decide) (by kernel_rfl))) ((s 39 (by decide)).trans (d 6 (by decide) (by kernel_rfl)))) (bc.out wc) (fun e w' h=>⟨_,h.1,by rw[h.2];exact E _ wc (Kept.refl _ _) (fun D _ h=>h)⟩)
      ·exact E6 rfl rfl (Aj4 wc rfl (s 7 (by decide))) (E _ wc (Kept.refl _ _) (fun D _ h=>h))
      ·exact E6 rfl rfl (UC wc rfl ((s 41 (by decide)).trans (d 8 (by decide) (by kernel_rfl))) ((au.out.kept A ax.out).cell 0)) (E _ wc (Kept.refl _ _) (fun D _ h=>h))
      ·exact E6 rfl rfl (Aj5 wc rfl (s 7 (by decide))) (E _ wc (Kept.refl _ _) (fun D _ h=>h))
      ·exact E6 rfl rfl (UC wc rfl ((s 43 (by decide)).trans (d 10 (by decide) (by kernel_rfl))) ((au.out.kept A ax.out).cell 1)) (E _ wc (Kept.refl _ _) (fun D _ h=>h))
      ·exact E6 rfl rfl (Aj1 wc rfl ((s 40 (by decide)).trans (d 7 (by decide) (by kernel_rfl))) ((s 42 (by decide)).trans (d 9 (by decide) (by kernel_rfl))) ((s 44 (by decide)).trans (d 11 (by decide) (by kernel_rfl)))) (E _ wc (Kept.refl _ _) (fun D _ h=>h))
      ·refine E6 rfl rfl (Aj2 wc rfl ((s 45 (by decide)).trans (d 12 (by decide) (by kernel_rfl)))) (E _ _ ((Kept.refl _ wc).alloc _) (fun D _ h=>⟨wc.heap.size,fun hm=>?_,h,Fc wc _ _⟩));have h1:=(aj.out _ hm).2;have h2:=A.size;have h3:=ag.out;omega
      ·obtain⟨gx, -,b2,b3⟩:=d 13 (by decide) (by kernel_rfl);have hb:=c3 rfl
       exact AjE rfl rfl HI.out cu.out cv.out cw.out (w.heap.size+2) M p q gx rfl ((s 34 (by decide)).trans (d 1 (by decide) (by kernel_rfl))) ((s 46 (by decide)).trans b2) (FY bm.out (Kept.E5 (S:=[]) hb) (by simp)) b3 cz (by have h1:=hb.size;have h2:=ag.out;omega) (fun v' w' hO hg hn=>E v' w' (Kept.PR hg) (fun D _ h=>by
       obtain⟨U,X,e5, -, -, -⟩:=Fg hO;subst e5;refine⟨U,X,h,hO,fun x R=>?_⟩
       rcases hn with hn | hn
       ·exact .inl (hn▸R)
       ·right;rw[hn]at R
        cases R
        exact hb.size))
      ·exact E6 rfl rfl (Aa7 wc rfl (s 4 (by decide))) (E _ wc (Kept.refl _ _) (fun D _ h=>h)))
      (fun σ wc A d=>by
       have p0:σ 0=_:=d 0 (by decide);have p1:σ 1=_:=d 1 (by decide);have p2:σ 2=_:=d 2 (by decide);have p3:σ 3=_:=d 3 (by decide);have p4:σ 4=_:=d 4 (by decide);have p5:σ 5=_:=d 5 (by decide);have p6:σ 6=_:=d 6 (by decide);have p7:σ 7=_:=d 7 (by decide);have p8:σ 8=_:=d 8 (by decide);have p9:σ 9=_:=d 9 (by decide);have dm:σ 10=_:=d 10 (by decide);have dn:σ 11=_:=d 11 (by decide);have dp:σ 12=_:=d 12 (by decide);have ds:σ 15=_:=d 15 (by decide);obtain⟨gx, -,dq, -⟩:=d 13 (by decide);obtain⟨U,X,dr,da,c8⟩:=d 14 (by decide);have cx:tbS [33,34,35,36,37,38,39,40,41,42,43,44,45,46,47,48] 16 σ=[(33,pointer (some ⟨w.heap.size+1,1,none⟩)),(34,slice z L cs),(35,pointer (some ⟨b,0,none⟩)),(36,pointer (some ⟨b,0,none⟩)),(37,pointer (some ⟨b,0,none⟩)),(38,int i64 (fs:Int)),(39,int i64 (i:Int)),(40,int i64 M),(41,pointer (some ⟨f.heap.size,0,none⟩)),(42,int i64 p),(43,pointer (some ⟨f.heap.size,1,none⟩)),(44,int i64 q),(45,.agg #[int i64 M,int i64 p,int i64 q]),(46,slice (some ⟨gx,0,none⟩) 1 1),(47,slice U (L+1) X),(48,pointer (some ⟨w.heap.size+1,1,none⟩))]:=by
        show [(33,σ 0),(34,σ 1),(35,σ 2),(36,σ 3),(37,σ 4),(38,σ 5),(39,σ 6),(40,σ 7),(41,σ 8),(42,σ 9),(43,σ 10),(44,σ 11),(45,σ 12),(46,σ 13),(47,σ 14),(48,σ 15)]=_
        grind
       rw[cx];have ca:=(HS.out.row.kept av.out (by simp)).kept A aw.out;have b7:Kept (slice z L cs).ownBlock.toList f wc:=(av.out.Fn (by simp)).trans A;refine Aak rfl rfl (Akc wc rfl ((Fj (t:=[(33,pointer (some ⟨w.heap.size+1,1,none⟩)),(34,slice z L cs),(35,pointer (some ⟨b,0,none⟩)),(36,pointer (some ⟨b,0,none⟩)),(37,pointer (some ⟨b,0,none⟩)),(38,int i64 (fs:Int)),(39,int i64 (i:Int)),(40,int i64 M),(41,pointer (some ⟨f.heap.size,0,none⟩)),(42,int i64 p),(43,pointer (some ⟨f.heap.size,1,none⟩)),(44,int i64 q),(45,.agg #[int i64 M,int i64 p,int i64 q]),(46,slice (some ⟨gx,0,none⟩) 1 1),(47,slice U (L+1) X),(48,pointer (some ⟨w.heap.size+1,1,none⟩))]) 48 (show([33,34,35,36,37,38,39,40,41,42,43,44,45,46,47,48]:List Nat).Nodup by decide) (by kernel_rfl)).trans rfl) ((Fj (t:=[(33,pointer (some ⟨w.heap.size+1,1,none⟩)),(34,slice z L cs),(35,pointer (some ⟨b,0,none⟩)),(36,pointer (some ⟨b,0,none⟩)),(37,pointer (some ⟨b,0,none⟩)),(38,int i64 (fs:Int)),(39,int i64 (i:Int)),(40,int i64 M),(41,pointer (some ⟨f.heap.size,0,none⟩)),(42,int i64 p),(43,pointer (some ⟨f.heap.size,1,none⟩)),(44,int i64 q),(45,.agg #[int i64 M,int i64 p,int i64 q]),(46,slice (some ⟨gx,0,none⟩) 1 1),(47,slice U (L+1) X),(48,pointer (some ⟨w.heap.size+1,1,none⟩))]) 47 (show([33,34,35,36,37,38,39,40,41,42,43,44,45,46,47,48]:List Nat).Nodup by decide) (by kernel_rfl)).trans rfl) (ca.cell 1) (ca.free _)) ⟨rfl,gx,U,X,rfl,hid ?_,hid ?_,hid ?_⟩
       ·have h1:=HS.out.AoT (wc:=wc) (a':=U) (c':=X) (q:=⟨M,p,q⟩) (by rw[<-T.out];exact b7) (by rw[<-T.out];exact da);rw[<-T.out]at h1;exact h1
       ·have h2:Kept S w4 wc:=GY aa.out b7 (fun x R=>by
         refine af.out x ?_;rw[<-T.out]
         simpa using R)
        exact h2.setCell (p:=⟨w.heap.size+1,1,none⟩) cq.out _
       ·intro x R
        rcases c8 x R with h3 | h3
        ·exact af.out x (by rw[<-T.out];exact h3)
        ·right;have h4:=ag.out;have h5:=aa.out.size
         omega)) ?_
     rintro e a' w5 ⟨rfl,gx,U,X,rfl,cp,cj,cf⟩;dsimp only[Ft,List.set,List.append_nil,List.cons_append,List.nil_append];clear aq bm bj bf au aw bk ax aj ag bc av bd
     go_wp2_with fail
     go_roundw
     case rel=>
      refine⟨j+1,X,U,by omega,by go_num,hid ?_,cj,hid ?_⟩
      ·rw[bq.out,<-Bg,<-ak.out];exact cp.out
      ·rw[bq.out,<-Bg,<-ak.out,Ai,<-T.out];exact cf.out
     case measure=>simp[intOf];omega
    ·have ej:j=m:=by omega
     subst ej
     have be:Hid (Hh fs us (i+1)=Hh fs us i++GO.take j):=hid (by
      rw[Sd,<-bg.out,Aw (by rw[al.out];exact Ac _)])
     clear aa af
     go_wp2_with fail
     go_roundw
     case rel=>exact⟨i+1,cs,z,by omega,by go_num,hid (by rw[be.out];exact HS.out)⟩
     case measure=>simp[intOf];omega
  ·have ei:i=k:=by omega
   subst ei;have r0:u.cell? ⟨w.heap.size+1,0,none⟩=some (int i64 NX):=J.out.row.cell 0;have r1:u.cell? ⟨w.heap.size+1,1,none⟩=some (slice ar (Hh fs us i).length cr):=J.out.row.cell 1;have s0:u.cell? ⟨w.heap.size,0,none⟩=some (int i64 0):=J.out.res.cell 0;have s1:u.cell? ⟨w.heap.size,1,none⟩=some (slice none 0 0):=J.out.res.cell 1;have f0:u.frozen? ⟨w.heap.size,0,none⟩=false:=J.out.res.free 0;have f1:u.frozen? ⟨w.heap.size,1,none⟩=false:=J.out.res.free 1;have bi:=hid (PP (fs:=fs) ay.out i);clear a9;generalize br:(Hh fs us i).length=LG at*;have bh:=hid br;clear br
   go_wp2_with fail;have hZ:At ((u.setCell ⟨w.heap.size,0,none⟩ (int i64 NX)).setCell ⟨w.heap.size,1,none⟩ (slice ar LG cr)) w.heap.size 95 [int i64 NX,slice ar LG cr]:=(J.out.res.setCell (o:=0) (int i64 NX)).setCell (o:=1) (slice ar LG cr);have a1:Kept [w.heap.size] u ((u.setCell ⟨w.heap.size,0,none⟩ (int i64 NX)).setCell ⟨w.heap.size,1,none⟩ (slice ar LG cr)):=((Kept.refl _ u).setCell (by simp) _).setCell (by simp) _;have C:=J.out.own;have c9:∀x,ar=some x->w.heap.size+2<=x.block:=fun x R=>by
    obtain⟨a',c',e, -, -,dc⟩:=Fg C;simp only[Aq]at e;obtain⟨rfl, -,rfl⟩:=e;obtain⟨g',rfl,h5⟩:=dc x R;exact(AB C g' h5).1
   refine Ah (BO (p:=2) (ty:=95) (by kernel_rfl) _ _ w.heap.size 95 _ (0,0) _ rfl hZ underlying95 rfl (by kernel_rfl)) rfl ?_;rw[<-HP.out];refine⟨i,ar,LG,cr,by rw[<-HN.out];exact HK.out,ch.out,fun j h1 h2=>ci.out j h1 (by rw[HN.out];exact h2),by rw[<-cn.out],?_,bh.out,?_,fun x R=>by have:=c9 x R;omega,?_,?_,?_⟩
   ·refine(AeH C).kept a1 (fun x R hm=>?_)
    grind
   ·have h1:=bi.out;have h2:i*(1500+2)<=32*1502:=by grind
    unfold maxLen;omega
   ·exact J.out.bel.trans (a1.below J.out.bel.size (by simp))
   ·have h1:=bi.out
    grind
   ·have h9:=FY C a1 (fun q hq hm=>by have:=(AB C q hq).1;simp at hm;omega);rw[bh.out]at h9;exact h9
theorem Ob{f g:Nat->List GapM}:∀{k:Nat},(∀i,i<k->f i=g i)->(List.range k).flatMap f=(List.range k).flatMap g
 | 0,_=>rfl
 | k+1,h=>by
  rw[Az,Bd,Bd,Ob (fun i hi=>h i (by omega))];simp[h k (by omega)]
def Rcv (w:World)(p:Addr)(F:List Nat)(r:InM):Prop:=∃b g c us,p=⟨b,0,none⟩/\F=Mu b g us/\PRcv w b (r.fst % 64) g c us/\RcvM r us
theorem RcvM.ok{us:List TkP}(h:RcvM r us)(j:Nat):TkOk (us.getD j .zero):=by
 rcases AS j us.length with d | d
 ·have:=h.un j d;exact⟨this.srt,this.hi,this.lh,this.dl⟩
 ·rw[AeE d];exact TkOk.zero
theorem AnL{p:Addr}(h:Rcv w p F r):∀x∈F,x<w.heap.size:=by
 obtain⟨b,g,c,us, -,rfl,d, -⟩:=h;exact d.lt
theorem Ur{p:Addr}{T:List Nat}(h:Rcv w p F r)(f:Kept T w w')(hd:∀x∈F,x∉T):Rcv w' p F r:=by
 obtain⟨b,g,c,us,rfl,rfl,d,e⟩:=h;exact⟨b,g,c,us,rfl,rfl,d.kept f hd,e⟩
theorem Al6(k:Int)(w:World)(h:1<=k)(l:k<=32):Calls prog 127 #[int i64 k] w fun e w'=>∃p F,e=.returned (.tuple #[pointer (some p),int i64 0])/\Rcv w' p F (InM.new k.toNat)/\(∀x∈F,w.heap.size<=x)/\Below w.heap.size w w':=by
 obtain⟨n,rfl⟩:∃n:Nat,k=(n:Int):=⟨k.toNat,by omega⟩;rw[AN];refine(Rx w (by omega) (by omega)).mono ?_;rintro e w' ⟨b,g,rfl,f,m,hg,d⟩;refine⟨_,_,rfl,⟨b,g,n,_,rfl,rfl,f,RcvM.new (by omega) (by omega)⟩,fun x s=>?_,d⟩
 grind [Uq,Lr,TkP.KP]
theorem Afj(num:Int)(n:Nat):E9 num (n % 64)=E9 num n:=by
 unfold E9;rw[Nat.mod_mod]
theorem AjZ{e k:Nat}{T:TypeId}(h:w.ownsRow B T k v n xs)(s:e<=B):w.ownsRow e T k v n xs:=⟨h.1,h.2.imp id fun⟨g,d,cur,f,l,m⟩=>⟨g,d,cur,f,Ak s l,m⟩⟩
theorem Amw(w:World)(a:Option Addr):Txs w a []:=fun h=>absurd rfl h
def WX (w:World)(p:Addr)(F:List Nat)(r:InM)(x:PieceM):Ending->World->Prop:=fun e w'=>∃a n c,e=.returned (.tuple #[slice a n c,int i64 (r.take x).err])/\Txs w' a (r.take x).out/\(r.take x).out.length=n/\Aen w.heap.size a/\Kept F w w'/\∃F',Rcv w' p F' (r.take x).m/\Ga w.heap.size F F'/\Qh F' a
def Qj (w:World)(p:Addr)(F:List Nat)(r:InM)(x:PieceM):Ending->World->Prop:=fun e w'=>∃a n c,e=.returned (.tuple #[slice a n c,int i64 (r.take x).err])/\n<=32/\w'.ownsRow w.heap.size 9 1 (slice a n c) n ((r.take x).out.map Value.string)/\WX w p F r x e w'
theorem RN{p:Addr}{x:PieceM}{E:Int}(h:Rcv w p F r)(f:r.take x=⟨r,[],E⟩)(e:Below w.heap.size w w'):Qj w p F r x (.returned (.tuple #[slice none 0 0,int i64 E])) w':=by
 unfold Qj WX;rw[f];exact⟨none,0,0,rfl,by omega,Bj _ _ _ _,none,0,0,rfl,Amw _ _,rfl,(fun y d=>by cases d),Kept.E5 e,F,Ur h (Kept.E5 (S:=[]) e) (by simp),(fun y d=>Or.inl d),(fun y d=>by cases d)⟩
theorem Ahf{p:Addr}(x:PieceM)(h:Rcv w p F r)(O:x.data.size<=Wf):Calls prog 167 #[pointer (some p),x.val] w (Qj w p F r x):=by
 have h0:=h;obtain⟨b,g,c,us,rfl,rfl,N,D⟩:=h;have H:=D.len;have ag:=D.w2;have m:=D.ok;have A:E9 x.num (r.fst % 64)=E9 x.num r.fst:=Afj _ _;have f:r.fst % 64<64:=AZ _ (by omega)
 by_cases q1:x.bad=true
 ·refine(P2 x N (by omega) f m O 3 (.inl ⟨q1,rfl⟩)).mono ?_
  grind [RN,InM.take]
 ·have s:x.bad=false:=by simpa using q1
  by_cases q2:r.win<=E9 x.num r.fst
  ·refine(P2 x N (by omega) f m O 8 (.inr (.inl ⟨s,by rw[A,H];exact q2,rfl⟩))).mono ?_
   grind [RN,InM.take]
  ·have l:E9 x.num r.fst<us.length:=by omega
   have hT:=D.un _ l;have G:=hT.J9 (p:=x)
   by_cases q3:r.J9 (r.fst+E9 x.num r.fst) x=true
   ·refine(P2 x N (by omega) f m O 3 (.inr (.inr ⟨s,by rw[A];exact l,by rw[A,<-G];exact q3,rfl⟩))).mono ?_
    grind [RN,InM.take]
   ·have K:r.J9 (r.fst+E9 x.num r.fst) x=false:=by simpa using q3
    obtain⟨-, -, -,X,E, -⟩:=O3 s;have d:=AdD x N (by omega) f m O s (by rw[A];exact l) (by rw[A,<-G];exact K);rw[A]at d;refine d.mono ?_;rintro e w' ⟨x',w6,ha,h6,z,Y,k,a,cc,rfl,kk,a',ac,u,e1,I,J,U,hN,ae,P,ad,T⟩;simp only[Ending.returned.injEq,Aq]at e1;obtain⟨rfl,rfl,rfl⟩:=e1;have Q:=D.put l ha X E K;have ab:=Q.upto u I J;have t:=Q.out u I;have R:=Q.Ad2 u;have af:k<=us.length:=by rw[An]at u;exact u
    have aa:r.take x=⟨{r.put (r.fst+E9 x.num r.fst) x with fst:=r.fst+k},Ks ((us.set (E9 x.num r.fst) x').take k),0⟩:=by
     unfold InM.take;rw[Aa q1,Aa q2,Aa q3];unfold InM.Ad2;rw[ab];have e2:(r.put (r.fst+E9 x.num r.fst) x).fst=r.fst:=rfl;rw[e2,CZ];rw[e2]at t;rw[t];rfl
    unfold Qj WX;rw[aa];refine⟨a,k,cc,rfl,by omega,AjZ T z.size,a,k,cc,rfl,U,?_,fun y C=>Ak z.size (hN y C),?_,Mu b g ((us.set (E9 x.num r.fst) x').drop k++List.replicate k .zero),⟨b,g,c,(us.set (E9 x.num r.fst) x').drop k++List.replicate k TkP.zero,rfl,rfl,?_,R⟩,fun y C=>Y y (Wr u y C),fun y C hm=>?_⟩
    ·unfold Ks
     grind
    ·refine z.trans (P.Fn (fun y C=>?_))
     grind [Adw,Ye]
    ·grind
    ·have h8:=h6.lt y.block (Wr u _ hm);have h9:=hN y C;omega
theorem AaP{p:Addr}(h:Rcv w p F r):Calls prog 33 #[pointer (some p)] w fun e w'=>∃a n c,e=.returned (.agg #[int i64 r.Fx.next,slice a n c])/\Gps w' a r.Fx.miss/\r.Fx.miss.length=n/\n<=maxLen/\Aen w.heap.size a/\Kept F w w'/\∃F',Rcv w' p F' r/\Ga w.heap.size F F'/\Qh F' a/\n<=100000/\w'.ownsRow w.heap.size 154 3 (slice a n c) n (GS r.Fx.miss)/\Below w.heap.size w w':=by
 have I:=h;obtain⟨b,g,c,us,rfl,rfl,C,f⟩:=h;have H:=f.len;have R:=f.w2;have d:=f.ok;refine(Aa1 C (by omega) (AZ _ (by omega)) (fun i=>(d i).srt) (fun i=>(d i).hi) (fun i=>(d i).lh)).mono ?_;rintro e w' ⟨k,a,n,c',O,s,t,rfl,J,Q,P,G,D,K,N⟩;have m:=f.nxt O s t;have u:r.Fx.miss=Hh (r.fst % 64) us k:=by
  unfold InM.Fx Hh;rw[m,CZ]
  show(List.range k).flatMap _=_;have key:∀i,i<k->r.NR (r.fst+i)=Nc (r.fst % 64) i (us.getD i .zero):=fun i hi=>by
   rw[(f.un i (by omega)).NR];unfold Nc
   grind
  exact Ob key
 have z:r.Fx.next=(((r.fst % 64+k) % 64:Nat):Int):=by
  show((r.nxt % 64:Nat):Int)=_;rw[m]
  congr 1
  omega
 have E:Kept [] w w':=Kept.E5 D;rw[u,z];refine⟨a,n,c',rfl,J,Q,P,G,E.Fn (by simp),_,Ur I E (by simp),fun x A=> .inl A,fun x A l=>?_,K,AjZ N (by omega),D⟩;have T:=C.lt _ l;have U:=G x A;omega
end Go.Proofs.YtbjgfoiikhbonahGreatDoor
