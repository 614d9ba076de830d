import Derived.Test.YtbjgfoiikhbonahGreatDoorA31
set_option linter.unusedVariables false
set_option linter.unusedSimpArgs false
set_option maxRecDepth 100000
set_option maxHeartbeats 4000000
namespace Go.Proofs.YtbjgfoiikhbonahGreatDoor
open Go.ChangeShapes Go.WideShapes Go.ChangeAt Go.RowKit Go.Maps Go.Proofs.Tryz
open Option renaming some->A,none->G
open Value renaming string->B,int->E,pointer->H
open IntKind renaming i64->I
variable {D:DataW Value}{M:Int->Option Value}{P:Program}{R:Value->Option (DataW Value×List MemPlace)}{S:List Nat}{T:TypeId}{b bm c g n n':Nat}{j k t who:Int}{ub:Int->Nat}{w w':World}{y:Addr}
def GcM.cnt(m:GcM)(p:PktM):Nat:=(SP m.fst p.short).toNat
def GcM.G9(m:GcM)(p:PktM):ByteArray:=LP p.data (Hb m.key (m.cnt p))
def IX (m:GcM)(p:PktM):Int:=if IB p then (if N3 m.fst p.short then (if p.sl=If (m.cnt p) (m.G9 p) then JQ m (m.cnt p) else 4) else 3) else 3
def GcM.put(m:GcM)(p:PktM):GcM:=⟨m.key,m.fst,KN m.M (m.cnt p) (A (m.G9 p))⟩
theorem MK{p:PktM}(h:IB p=true):(0<=p.short/\p.short<4096)/\p.sl.size=3/\p.data.size<=500:=by grind [IB]
theorem Qs{f:Nat}{s:Int}(h:N3 f s=true):0<=SP f s/\SP f s<16777216:=by grind [N3,SP]
theorem O9{a b:ByteArray}(h:¬a=b):(a.toList==b.toList)=false:=by
 rw[Cc,Cc]
 cases d:(a.data.toList==b.data.toList)with
 | false=>rfl
 | true=>exact absurd (EJ (by simpa using d)) h
def Qi (w:World)(x:Int):Ending->World->Prop:=fun e w'=>e=.returned (.tuple #[.slice G 0 0, E I x])/\Below w.heap.size w w'
theorem AcI{q:Addr}(p:PktM)(f:p.sl.size<=140737488355328)(h:p.data.size<=140737488355328)(m:IB p=false):
 Calls prog 209 #[H (A q),p.val] w (Qi w 3):=by
 have i:=fun u=>Ia p u f h
 rw[show Gl p=3 by unfold Gl;rw[m];rfl]at i;obtain⟨s,d,l⟩:=p;dsimp only[PktM.val]at*;have r:Below w.heap.size w (w.alloc (.cells #[E I s, B d, B l] 255)):=(Ad _ w).alloc (Ac _) _;clear m;go_enter func209,ntmps209
 go_wp2_with(go_at_call 246;refine(i _).mono ?_;rintro e w1 ⟨rfl,a⟩)
 go_ret2;exact⟨rfl,Fr r a⟩
theorem ZG{m:GcM}(h:PGc w g bm m)(p:PktM)(r:IB p=true)(hi:N3 m.fst p.short=false):
 Calls prog 209 #[H (A ⟨g,0,G⟩),p.val] w (Qi w 3):=by
 obtain⟨z,u,q⟩:=MK r;have x:=fun F=>Ia p F (by omega) (by omega)
 rw[show Gl p=0 by unfold Gl;rw[r];rfl]at x;have v:Below w.heap.size w (w.alloc (.cells #[E I p.short, B p.data, B p.sl] 255)):=(Ad _ w).alloc (Ac _) _;have C:∀w1,Below (w.alloc (.cells #[E I p.short, B p.data, B p.sl] 255)).heap.size (w.alloc (.cells #[E I p.short, B p.data, B p.sl] 255)) w1->w1.cell? ⟨w.heap.size,0,G⟩=A (E I p.short)/\Calls prog 247 #[H (A ⟨g,0,G⟩), E I p.short] w1 fun e w'=>e=.returned (.tuple #[E I 0, E I 3])/\Below w1.heap.size w1 w':=fun w1 a=>by
  refine⟨((K4 w 255 [E I p.short, B p.data, B p.sl]).kept (S:=[]) (Kept.E5 a) (by simp)).cell 0,?_⟩;have:=L7 ((h.kept (S:=[]) (Kept.E5 v) (by simp)).kept (S:=[]) (Kept.E5 a) (by simp)) p.short z;rw[hi]at this;exact this
 obtain⟨s,d,l⟩:=p;dsimp only[PktM.val]at*;clear r hi h z u q;go_enter func209,ntmps209
 go_wp2_with(first
  | (go_at_call 246;refine(x _).mono ?_;rintro e w1 ⟨rfl,a⟩;obtain⟨L,i⟩:=C w1 a)
  | (go_at_call 247;refine i.mono ?_;rintro e w2 ⟨rfl,f⟩))
 go_ret2;exact⟨rfl,Fr v (Fr a f)⟩
structure TkW(w w1:World)(g bm:Nat)(m:GcM)(p:PktM):Prop where
 bel:Below w.heap.size w w1
 rc:PGc w1 g bm m
 pk:At w1 w.heap.size 255 [E I p.short, B p.data, B p.sl]
theorem TkW.next{w1 w2:World}{m:GcM}{p:PktM}(h:TkW w w1 g bm m p)(a:Below w1.heap.size w1 w2):TkW w w2 g bm m p:=⟨Fr h.bel a,h.rc.kept (S:=[]) (Kept.E5 a) (by simp),h.pk.kept (S:=[]) (Kept.E5 a) (by simp)⟩
theorem TkW.first{m:GcM}(p:PktM)(h:PGc w g bm m):TkW w (w.alloc (.cells #[E I p.short, B p.data, B p.sl] 255)) g bm m p:=by
 have a:Below w.heap.size w (w.alloc (.cells #[E I p.short, B p.data, B p.sl] 255)):=(Ad _ w).alloc (Ac _) _;exact⟨a,h.kept (S:=[]) (Kept.E5 a) (by simp),K4 w _ _⟩
theorem AcJ{m:GcM}(h:PGc w g bm m)(p:PktM)(hf:IB p=true)(hi:N3 m.fst p.short=true)(v:¬p.sl=If (m.cnt p) (m.G9 p)):
 Calls prog 209 #[H (A ⟨g,0,G⟩),p.val] w (Qi w 4):=by
 obtain⟨hs,ae,u⟩:=MK hf;have hc:=fun wz=>Ia p wz (by omega) (by omega)
 rw[show Gl p=0 by unfold Gl;rw[hf];rfl]at hc;have ad:=Qs hi;have hT:=TkW.first p h
 obtain⟨C, eC⟩ := E7 (m.cnt p);have z:SP m.fst p.short=(C:Int):=by rw[eC];unfold GcM.cnt;omega
 have hC:C<16777216:=by omega
 have r:∀w1,TkW w w1 g bm m p->Calls prog 247 #[H (A ⟨g,0,G⟩), E I p.short] w1 fun e w'=>e=.returned (.tuple #[E I (C:Int), E I 0])/\Below w1.heap.size w1 w':=fun w1 h1=>by
  have:=L7 h1.rc p.short hs;rw[hi,z]at this;exact this
 have f:=fun wz=>Nd p.data m.key C wz u h.ok.key (by omega)
 have aa:=fun wz=>Nw (m.G9 p) C wz (by unfold GcM.G9;rw[Lg];exact u)
 have eO:LP p.data (Hb m.key C)=m.G9 p:=by rw[eC];rfl
 rw[eO]at f;rw[<-eC]at v;generalize m.G9 p=D at*;generalize If C D=L at*;obtain⟨M, eM⟩ := E7 ((C:Int):Int);rw[<-eM]at r f aa;clear hf hi hs ae u ad eC z eO hC h eM;obtain⟨s,d,l⟩:=p;dsimp only[PktM.val]at*;have HT:=hid hT;have ab:=hid r;have af:=O9 v;clear hT r v;go_enter func209,ntmps209
 go_upto_region 7 with(first
  | (go_at_call 246;refine(hc _).mono ?_;rintro e w1 ⟨rfl,F⟩;have i:=hid (HT.out.next F);have k0:w1.cell? ⟨w.heap.size,0,G⟩=A (E I s):=i.out.pk.cell 0)
  | (go_at_call 247;refine(ab.out w1 i.out).mono ?_;rintro e w2 ⟨rfl,N⟩))
 have q:=hid (i.out.next N);have k1:w2.cell? ⟨w.heap.size,1,G⟩=A (B d):=q.out.pk.cell 1;have k2:w2.cell? ⟨g,0,G⟩=A (E I m.key):=q.out.rc.hd.cell 0
 go_region_held3 (fun w'=>w'.cell? ⟨w.heap.size,1,G⟩=A (B d)/\w'.cell? ⟨g,0,G⟩=A (E I m.key)) (first | exact⟨k1,k2⟩ | exact⟨y1,y2⟩ | go_keep) (first | (go_at_call 214;refine(f _).mono ?_;rintro e w3 ⟨rfl,U⟩;have a:=hid ((q.out.next ((Ad _ w2).drew)).next U);have y1:w3.cell? ⟨w.heap.size,1,G⟩=A (B d):=a.out.pk.cell 1;have y2:w3.cell? ⟨g,0,G⟩=A (E I m.key):=a.out.rc.hd.cell 0));have k3:w3.cell? ⟨w.heap.size,2,G⟩=A (B l):=a.out.pk.cell 2;clear y1 y2 k1 k2 k0 f hc F N U;go_upto_region 8 with fail
 go_region_held3 (fun w'=>w'.cell? ⟨w.heap.size,2,G⟩=A (B l)) (first | exact k3 | exact y3 | go_keep) (first | (go_at_call 215;refine(aa _).mono ?_;rintro e w4 ⟨rfl,ac⟩;have x:=hid ((a.out.next ((Ad _ w3).drew)).next ac);have y3:w4.cell? ⟨w.heap.size,2,G⟩=A (B l):=x.out.pk.cell 2));clear k3 y3
 go_wp2_with fail
 go_ret2;exact⟨rfl,x.out.bel⟩
theorem Agb{m:GcM}(h:PGc w g bm m)(p:PktM)(hf:IB p=true)(hi:N3 m.fst p.short=true)(ad:p.sl=If (m.cnt p) (m.G9 p))(x:Int)(hx:JQ m (m.cnt p)=x)(ae:x≠0):
 Calls prog 209 #[H (A ⟨g,0,G⟩),p.val] w (Qi w x):=by
 obtain⟨hs,aj,z⟩:=MK hf;have hc:=fun wz=>Ia p wz (by omega) (by omega)
 rw[show Gl p=0 by unfold Gl;rw[hf];rfl]at hc;have ai:=Qs hi;have hT:=TkW.first p h
 obtain⟨C, F⟩ := E7 (m.cnt p);have N:SP m.fst p.short=(C:Int):=by rw[F];unfold GcM.cnt;omega
 have hC:C<16777216:=by omega
 have v:∀w1,TkW w w1 g bm m p->Calls prog 247 #[H (A ⟨g,0,G⟩), E I p.short] w1 fun e w'=>e=.returned (.tuple #[E I (C:Int), E I 0])/\Below w1.heap.size w1 w':=fun w1 h1=>by
  have:=L7 h1.rc p.short hs;rw[hi,N]at this;exact this
 have i:=fun wz=>Nd p.data m.key C wz z h.ok.key (by omega)
 have ac:=fun wz=>Nw (m.G9 p) C wz (by unfold GcM.G9;rw[Lg];exact z)
 have eO:LP p.data (Hb m.key C)=m.G9 p:=by rw[F];rfl
 rw[eO]at i;rw[<-F]at ad;have f:=fun w1 (h1:TkW w w1 g bm m p)=>N1 h1.rc C hC
 rw[<-F]at hx;rw[hx]at f;generalize m.G9 p=D at*;generalize If C D=L at*;obtain⟨M, eM⟩ := E7 ((C:Int):Int);rw[<-eM]at v i ac f;have ak:(x !=0)=true:=by simpa using ae
 clear hf hi hs aj z ai F N eO hC h eM hx ae;obtain⟨s,d,l⟩:=p;dsimp only[PktM.val]at*;subst ad;have HT:=hid hT;have ag:=hid v;have af:=hid f;clear hT v f;go_enter func209,ntmps209
 go_upto_region 7 with(first
  | (go_at_call 246;refine(hc _).mono ?_;rintro e w1 ⟨rfl,U⟩;have q:=hid (HT.out.next U);have k0:w1.cell? ⟨w.heap.size,0,G⟩=A (E I s):=q.out.pk.cell 0)
  | (go_at_call 247;refine(ag.out w1 q.out).mono ?_;rintro e w2 ⟨rfl,aa⟩))
 have r:=hid (q.out.next aa);have k1:w2.cell? ⟨w.heap.size,1,G⟩=A (B d):=r.out.pk.cell 1;have k2:w2.cell? ⟨g,0,G⟩=A (E I m.key):=r.out.rc.hd.cell 0
 go_region_held3 (fun w'=>w'.cell? ⟨w.heap.size,1,G⟩=A (B d)/\w'.cell? ⟨g,0,G⟩=A (E I m.key)) (first | exact⟨k1,k2⟩ | exact⟨y1,y2⟩ | go_keep) (first | (go_at_call 214;refine(i _).mono ?_;rintro e w3 ⟨rfl,ab⟩;have a:=hid ((r.out.next ((Ad _ w2).drew)).next ab);have y1:w3.cell? ⟨w.heap.size,1,G⟩=A (B d):=a.out.pk.cell 1;have y2:w3.cell? ⟨g,0,G⟩=A (E I m.key):=a.out.rc.hd.cell 0));have k3:w3.cell? ⟨w.heap.size,2,G⟩=A (B l):=a.out.pk.cell 2;clear y1 y2 k1 k2 k0 i hc U aa ab;go_upto_region 8 with fail
 go_region_held3 (fun w'=>w'.cell? ⟨w.heap.size,2,G⟩=A (B l)) (first | exact k3 | exact y3 | go_keep) (first | (go_at_call 215;refine(ac _).mono ?_;rintro e w4 ⟨rfl,ah⟩;have u:=hid ((a.out.next ((Ad _ w3).drew)).next ah);have y3:w4.cell? ⟨w.heap.size,2,G⟩=A (B l):=u.out.pk.cell 2));clear k3 y3
 go_wp2_with(go_at_call 248;refine(af.out w4 u.out).mono ?_;rintro e w5 ⟨rfl,rfl⟩)
 go_ret2;exact⟨rfl,u.out.bel⟩
theorem GcM.Ok.put{m:GcM}{p:PktM}(h:m.Ok)(e:m.cnt p<16777216)(f:m.fst<=m.cnt p):(m.put p).Ok:=by
 refine⟨h.key,h.few,fun k a=>?_,fun k a=>?_⟩
 ·have d:k<m.fst:=a
  show KN m.M (m.cnt p) _ k=G;rw[Jz _ _ (show k≠m.cnt p by omega)];exact h.past k a
 ·show KN m.M (m.cnt p) _ k=G;rw[Jz _ _ (show k≠m.cnt p by omega)];exact h.top k a
def VB (w:World)(g bm:Nat)(m:GcM)(n:Nat):Ending->World->Prop:=VC w g bm m n fun v=> .tuple #[v, E I 0]
theorem Ai1{m:GcM}(h:PGc w g bm m)(p:PktM)(hf:IB p=true)(hi:N3 m.fst p.short=true)(al:p.sl=If (m.cnt p) (m.G9 p))(z:JQ m (m.cnt p)=0)(hn:RunG (m.put p).M m.fst n):
 Calls prog 209 #[H (A ⟨g,0,G⟩),p.val] w (VB w g bm (m.put p) n):=by
 obtain⟨hs,aw,ac⟩:=MK hf;have hc:=fun wz=>Ia p wz (by omega) (by omega)
 rw[show Gl p=0 by unfold Gl;rw[hf];rfl]at hc;have av:=Qs hi;have hT:=TkW.first p h
 obtain⟨C, q⟩ := E7 (m.cnt p);have af:SP m.fst p.short=(C:Int):=by rw[q];unfold GcM.cnt;omega
 have hC:C<16777216:=by omega
 have ab:∀w1,TkW w w1 g bm m p->Calls prog 247 #[H (A ⟨g,0,G⟩),.int I p.short] w1 fun e w'=>e=.returned (.tuple #[.int I (C:Int),.int I 0])/\Below w1.heap.size w1 w':=fun w1 h1=>by
  have:=L7 h1.rc p.short hs;rw[hi,af]at this;exact this
 have u:=fun wz=>Nd p.data m.key C wz ac h.ok.key (by omega)
 have ak:=fun wz=>Nw (m.G9 p) C wz (by unfold GcM.G9;rw[Lg];exact ac)
 have eO:LP p.data (Hb m.key C)=m.G9 p:=by rw[q];rfl
 rw[eO]at u;rw[<-q]at al;have r:=fun w1 (h1:TkW w w1 g bm m p)=>N1 h1.rc C hC
 have ad:m.fst<=C/\m.M C=G:=by
  rw[q];unfold JQ at z
  split at z
  ·cases z
  ·split at z
   ·cases z
   ·rename_i q1 q2;exact⟨by omega,by simpa using q2⟩
 have x:=h.ok.put (p:=p) (by rw[<-q];exact hC) (by rw[<-q];exact ad.1);have aj:=h.ne;have ax:=h.lt;have f:∀F,TkW w F g bm m p->F.cell? ⟨g,2,G⟩=A (.map (A bm))/\∃w6,(Instr.mapUpdate 243 (.map (A bm)) (.int I (C:Int)) (.string (m.G9 p))).run prog F=.ok () w6/\Calls prog 249 #[H (A ⟨g,0,G⟩)] w6 (fun e w'=>∃v a c,e=.returned v/\v=.slice a n c/\VB w g bm (m.put p) n (.returned (.tuple #[v,.int I 0])) w'):=fun F h4=>by
  refine⟨h4.rc.hd.cell 2,?_⟩;obtain⟨w6,hr,hS,hk⟩:=h4.rc.mp.put (k:=C) hC (m.G9 p) ad.2;refine⟨w6,hr,?_⟩;have aq:PGc w6 g bm (m.put p):=by
   refine⟨h4.rc.hd.kept hk (by simpa using aj),?_,aj,x⟩;rw[q]at hS;exact hS
  refine(Agc aq hn).mono ?_;rintro e w7 ⟨v,rfl,ho,hK,ar⟩;obtain⟨a,c,rfl, -, -, -⟩:=Fg ho;have a0:=h4.bel.size;have a1:=hk.size;refine⟨_,a,c,rfl,rfl,_,rfl,?_,((Kept.E5 h4.bel).trans (hk.Fn (by simp[gcF]))).trans hK,ar⟩;have h8:=ho;refine⟨h8.1,?_⟩
  rcases h8.2 with h9 | ⟨g9,ap,cur,q1,q2,q3⟩
  ·exact .inl h9
  ·exact .inr ⟨g9,ap,cur,q1,by omega,q3⟩
 rw[<-q]at z;rw[z]at r;generalize m.G9 p=D at*;generalize If C D=L at*;obtain⟨M, eM⟩ := E7 ((C:Int):Int);rw[<-eM]at ab u ak r f;obtain⟨mp, ae⟩ := E7 (m.put p);rw[<-ae]at f ⊢;clear hf hi hs aw ac av q af eO hC h eM z ad x ax hn ae;obtain⟨s,d,l⟩:=p;dsimp only[PktM.val]at*;subst al;have HT:=hid hT;have an:=hid ab;have am:=hid r;have ao:=hid f;clear hT ab r f;go_enter func209,ntmps209
 go_upto_region 7 with(first
  | (go_at_call 246;refine(hc _).mono ?_;rintro e w1 ⟨rfl,ag⟩;have N:=hid (HT.out.next ag);have k0:w1.cell? ⟨w.heap.size,0,G⟩=A (.int I s):=N.out.pk.cell 0)
  | (go_at_call 247;refine(an.out w1 N.out).mono ?_;rintro e w2 ⟨rfl,ah⟩))
 have U:=hid (N.out.next ah);have k1:w2.cell? ⟨w.heap.size,1,G⟩=A (.string d):=U.out.pk.cell 1;have k2:w2.cell? ⟨g,0,G⟩=A (.int I m.key):=U.out.rc.hd.cell 0
 go_region_held3 (fun w'=>w'.cell? ⟨w.heap.size,1,G⟩=A (.string d)/\w'.cell? ⟨g,0,G⟩=A (.int I m.key)) (first | exact⟨k1,k2⟩ | exact⟨y1,y2⟩ | go_keep) (first | (go_at_call 214;refine(u _).mono ?_;rintro e w3 ⟨rfl,ai⟩;have i:=hid ((U.out.next ((Ad _ w2).drew)).next ai);have y1:w3.cell? ⟨w.heap.size,1,G⟩=A (.string d):=i.out.pk.cell 1;have y2:w3.cell? ⟨g,0,G⟩=A (.int I m.key):=i.out.rc.hd.cell 0));have k3:w3.cell? ⟨w.heap.size,2,G⟩=A (.string l):=i.out.pk.cell 2;clear y1 y2 k1 k2 k0 u hc ag ah ai;go_upto_region 8 with fail
 go_region_held3 (fun w'=>w'.cell? ⟨w.heap.size,2,G⟩=A (.string l)) (first | exact k3 | exact y3 | go_keep) (first | (go_at_call 215;refine(ak _).mono ?_;rintro e F ⟨rfl,au⟩;have aa:=hid ((i.out.next ((Ad _ w3).drew)).next au);have y3:F.cell? ⟨w.heap.size,2,G⟩=A (.string l):=aa.out.pk.cell 2));clear k3 y3;obtain⟨y5,w6,az,ay⟩:=ao.out F aa.out
 go_wp2_with(first
  | (go_at_call 248;refine(am.out F aa.out).mono ?_;rintro e w5 ⟨rfl,rfl⟩)
  | (go_at_call 249;refine ay.mono ?_;rintro e w7 ⟨v,a,c,rfl,rfl,f⟩))
 go_ret2;exact f
structure LnM where
 who:Int
 bytes:Nat
 used:Nat
 turn:Nat
 shut:Bool
structure PrM where
 quota:Nat
 st:Nat
 cell:Nat
structure CoM where
 unit:Nat
 per:Int->Option PrM
 loans:List LnM
structure CoR where
 m:CoM
 err:Int
def LnM.zero:LnM:=⟨0,0,0,0,false⟩
def LnM.lc(who:Int)(l:LnM):Nat:=if l.who=who/\l.shut=false then l.bytes-l.used else 0
def LnM.uc(who:Int)(l:LnM):Nat:=if l.who=who then l.used else 0
def GU (who:Int):List LnM->Nat
 | []=>0
 | l::t=>l.lc who+GU who t
def Hc (who:Int):List LnM->Nat
 | []=>0
 | l::t=>l.uc who+Hc who t
theorem Rt(who:Int)(a b:List LnM):GU who (a++b)=GU who a+GU who b:=by
 induction a with
 | nil=>simp[GU]
 | cons x a ih=>simp[GU,ih];omega
theorem RV(who:Int)(a b:List LnM):Hc who (a++b)=Hc who a+Hc who b:=by
 induction a with
 | nil=>simp[Hc]
 | cons x a ih=>simp[Hc,ih];omega
theorem OX(who:Int)(x:LnM):∀(ls:List LnM) (i:Nat),i<ls.length->GU who (ls.set i x)+(ls.getD i .zero).lc who=GU who ls+x.lc who
 | [],i,h=>by simp at h
 | y::t,0,_=>by simp[GU];omega
 | y::t,i+1,h=>by
  have:=OX who x t i (by simpa using h);simp only[EW,GU,D3];omega
theorem Pb(who:Int)(x:LnM):∀(ls:List LnM) (i:Nat),i<ls.length->Hc who (ls.set i x)+(ls.getD i .zero).uc who=Hc who ls+x.uc who
 | [],i,h=>by simp at h
 | y::t,0,_=>by simp[Hc];omega
 | y::t,i+1,h=>by
  have:=Pb who x t i (by simpa using h);simp only[EW,Hc,D3];omega
theorem Ac1:∀{ls:List LnM},(∀l∈ls,l.who≠who)->GU who ls=0/\Hc who ls=0:=by intro a;induction a<;>grind [GU,Hc,LnM.lc,LnM.uc]
theorem AoF(who:Int):∀(ls:List LnM) (i:Nat),i<ls.length->(ls.getD i .zero).lc who<=GU who ls:=by intro a;induction a<;>grind [GU]
def CoM.put(m:CoM)(who:Int)(p:PrM):CoM:={m with per:=fun k=>if k=who then A p else m.per k}
def Gf (x:Int):Bool:=decide (1<=x) && decide (x<=100)
def CoM.It(m:CoM)(who:Int):Nat:=GU who m.loans
def CoM.KS(m:CoM)(who:Int):Nat:=Hc who m.loans
def CoM.left(m:CoM)(who:Int)(p:PrM):Nat:=p.quota-m.It who-m.KS who
def CoM.new(u:Nat):CoM:=⟨u,fun _=>G,[]⟩
def CoM.Kx(m:CoM)(who q:Int):Int:=if 1<=who/\who<=16/\0<=q/\q<=1000000000 then (match m.per who with | none=>0 | some _=>10) else 1
def CoM.join(m:CoM)(who q:Int):CoR:=if m.Kx who q=0 then ⟨m.put who ⟨q.toNat,0,0⟩,0⟩ else ⟨m,m.Kx who q⟩
def CoM.Fi(m:CoM)(who:Int)(t:PrM->Bool)(cs:List Int):Int:=match m.per who with
 | none=>12
 | some p=>if cs.all Gf=true then (if t p=true then 0 else 9) else 1
def CoM.move(m:CoM)(who:Int)(t:PrM->Bool)(cs:List Int)(f:PrM->PrM):CoR:=match m.per who with
 | none=>⟨m,12⟩
 | some p=>if cs.all Gf=true then (if t p=true then ⟨m.put who (f p),0⟩ else ⟨m,9⟩) else ⟨m,1⟩
def tIs (s:Nat)(p:PrM):Bool:=p.st==s
def RM (s:Nat)(p:PrM):Bool:=p.st !=s
def tAt (c:Int)(p:PrM):Bool:=p.st==1 && (p.cell:Int)==c
def CoM.FV(m:CoM)(who c:Int):CoR:=m.move who (tIs 0) [c] fun p=>⟨p.quota,1,c.toNat⟩
def CoM.hand(m:CoM)(who a b:Int):CoR:=m.move who (tAt a) [a,b] fun p=>⟨p.quota,p.st,b.toNat⟩
def RY (c:Nat):List Int:=((List.range 100).filter fun n=>(n+8) / 8==(c+7) / 8).map fun n=>((n+1:Nat):Int)
def CoM.QN(m:CoM)(who:Int):Int:=m.Fi who (RM 0) []
def CoM.Uh(m:CoM)(who:Int):List Int:=match m.per who with
 | none=>[]
 | some p=>if p.st=0 then [] else if p.st=1 then [(p.cell:Int)] else RY p.cell
def CoM.Gu(m:CoM)(who:Int):Int:=match m.per who with
 | none=>12
 | some p=>if p.st=1 then (if m.left who p=0 then 11 else 0) else 9
def CoM.Pn(m:CoM)(who:Int):Nat:=match m.per who with
 | none=>0
 | some p=>min m.unit (m.left who p)
def CoM.Mr(m:CoM)(who:Int):CoM:={m with loans:=m.loans++[⟨who,m.Pn who,0,0,false⟩]}
def CoM.at(m:CoM)(g:Int):LnM:=m.loans.getD (g.toNat-1) .zero
def CoM.repErr(m:CoM)(g t b:Int):Int:=if 1<=g/\g<=(m.loans.length:Int) then
 (if 1<=t/\t<=((m.at g).turn:Int) then 10 else if t=((m.at g).turn:Int)+1 then
  (if (m.at g).shut=true then 9 else if 0<=b/\b<=(((m.at g).bytes-(m.at g).used:Nat):Int) then 0 else 11) else 3) else 6
def CoM.rep(m:CoM)(g b:Int)(fin:Bool):CoM:={m with loans:=m.loans.set (g.toNat-1) ⟨(m.at g).who,(m.at g).bytes,(m.at g).used+b.toNat,(m.at g).turn+1,fin⟩}
def CoM.Fx(m:CoM)(g t b:Int)(fin:Bool):CoR:=if m.repErr g t b=0 then ⟨m.rep g b fin,0⟩ else ⟨m,m.repErr g t b⟩
def CoM.PZ(m:CoM)(who:Int):Int:=match m.per who with
 | none=>12
 | some _=>0
def CoM.MR(m:CoM)(who:Int):Nat×Nat×Nat:=match m.per who with
 | none=>(0,0,0)
 | some p=>(m.left who p,m.It who,m.KS who)
structure CoM.Ok(m:CoM)(n:Nat):Prop where
 u1:1<=m.unit/\m.unit<=1000000
 pr:∀who p,m.per who=A p->1<=who/\who<=16/\p.quota<=1000000000/\p.st<=2/\p.cell<=100/\(p.st≠0->1<=p.cell)/\m.It who+m.KS who<=p.quota
 ln:∀l∈m.loans,(∃p,m.per l.who=A p)/\l.used<=l.bytes/\l.bytes<=1000000/\l.turn<=n
 len:m.loans.length<=n
theorem CoM.Ok.mono{m:CoM}(h:m.Ok n)(p:n<=n'):m.Ok n':=⟨h.u1,h.pr,fun l f=>by
 obtain⟨a,d,e,i⟩:=h.ln l f
 exact⟨a,d,e,by omega⟩,by have:=h.len;omega⟩
theorem CoM.Ok.new{u:Nat}(h:1<=u/\u<=1000000):(CoM.new u).Ok 0:=by
 refine⟨h,fun who p d=>?_,fun l a=>?_,Ac _⟩
 ·cases d
 ·cases a
theorem CoM.Nq(m:CoM)(who k:Int)(p:PrM):(m.put who p).per k=if k=who then A p else m.per k:=rfl
theorem CoM.AaO(m:CoM)(who k:Int)(p:PrM):(m.put who p).It k=m.It k/\(m.put who p).KS k=m.KS k:=⟨rfl,rfl⟩
theorem CoM.Ok.put{m:CoM}{p:PrM}(h:m.Ok n)(d:1<=who/\who<=16)(r:p.quota<=1000000000/\p.st<=2/\p.cell<=100/\(p.st≠0->1<=p.cell)/\m.It who+m.KS who<=p.quota):(m.put who p).Ok n:=by
 refine⟨h.u1,fun k q a=>?_,fun l i=>?_,h.len⟩
 ·rw[CoM.Nq]at a
  split at a
  ·rename_i e;subst e
   injection a with a
   subst a;exact⟨d.1,d.2,r⟩
  ·exact h.pr k q a
 ·obtain⟨⟨q,s⟩,f⟩:=h.ln l i;refine⟨?_,f⟩;rw[CoM.Nq]
  grind
theorem CoM.Ok.fresh{m:CoM}(h:m.Ok n)(f:m.per who=G):m.It who=0/\m.KS who=0:=Ac1 fun l d e=>by
 obtain⟨⟨q,a⟩,_⟩:=h.ln l d;rw[e,f]at a
 cases a
theorem CoM.Ok.move{m:CoM}{n:Nat}(who:Int)(t:PrM->Bool)(cs:List Int)(f:PrM->PrM)(h:m.Ok n)(s:∀p,p.st<=2->p.cell<=100->(p.st≠0->1<=p.cell)->cs.all Gf=true->t p=true->(f p).quota=p.quota/\(f p).st<=2/\(f p).cell<=100/\((f p).st≠0->1<=(f p).cell)):(m.move who t cs f).m.Ok n:=by
 unfold CoM.move
 split
 ·exact h
 ·rename_i p u
  split
  ·rename_i r
   split
   ·rename_i ht;obtain⟨d,e,x,i,l,q,z⟩:=h.pr _ _ u;obtain⟨v,a,f3,f4⟩:=s p i l q r ht;exact h.put ⟨d,e⟩ ⟨by omega,a,f3,f4,by omega⟩
   ·exact h
  ·exact h
theorem Jw{x:Int}:Gf x=true↔1<=x/\x<=100:=by simp[Gf]
theorem CoM.Ok.FV{m:CoM}(who c:Int)(h:m.Ok n):(m.FV who c).m.Ok n:=h.move _ _ _ _ fun p d e f a _=>by
 have:=Jw.1 (show Gf c=true by simpa using a)
 grind
theorem CoM.Ok.hand{m:CoM}(who a b:Int)(h:m.Ok n):(m.hand who a b).m.Ok n:=h.move _ _ _ _ fun p f i l e _=>by
 have d:Gf a=true/\Gf b=true:=by simpa using e
 have:=Jw.1 d.2
 grind
theorem CoM.Ok.Mr{m:CoM}(h:m.Ok n)(i:m.Gu who=0):(m.Mr who).Ok (n+1):=by
 unfold CoM.Gu at i
 cases f:m.per who with
 | none=>simp[f]at i
 | some p=>
  have hn:m.Pn who=min m.unit (m.left who p):=by simp[CoM.Pn,f]
  refine⟨h.u1,fun k q r=>?_,fun l d=>?_,?_⟩
  ·obtain⟨g1,g2,s,u,v,x,z⟩:=h.pr k q r;refine⟨g1,g2,s,u,v,x,?_⟩;have C:GU k m.loans+Hc k m.loans<=q.quota:=z
   show GU k (m.loans++[_])+Hc k (m.loans++[_])<=q.quota;rw[Rt,RV];simp only[GU,Hc,LnM.lc,LnM.uc]
   by_cases e:who=k
   ·subst e;have a:m.per who=A q:=r;rw[f]at a
    injection a with a
    subst a;have:m.left who p=p.quota-GU who m.loans-Hc who m.loans:=rfl;simp;omega
   ·simp[e];omega
  ·have d:l∈m.loans++[_]:=d;rw[BH,AC]at d
   rcases d with d | rfl
   ·obtain⟨F,L,N,U⟩:=h.ln l d;exact⟨F,L,N,by omega⟩
   ·have:=h.u1;exact⟨⟨p,f⟩,Af _,by show m.Pn who<=_;omega,Af _⟩
  ·show(m.loans++[_]).length<=n+1;have:=h.len;simp;omega
theorem CoM.Ain{m:CoM}{g:Int}(h:1<=g/\g<=(m.loans.length:Int)):m.at g∈m.loans:=by grind [CoM.at]
structure RepC(m:CoM)(g t b:Int):Prop where
 g1:1<=g
 g2:g<=(m.loans.length:Int)
 t1:t=((m.at g).turn:Int)+1
 op:(m.at g).shut=false
 b0:0<=b
 b1:b<=(((m.at g).bytes-(m.at g).used:Nat):Int)
theorem CoM.Yh{m:CoM}{g b:Int}(h:m.repErr g t b=0):RepC m g t b:=by
 unfold CoM.repErr at h
 split at h
 ·rename_i a
  split at h
  ·simp at h
  ·split at h
   ·rename_i e
    split at h
    ·simp at h
    ·rename_i f
     split at h
     ·rename_i d;exact⟨a.1,a.2,e,by simpa using f,d.1,d.2⟩
     ·simp at h
   ·simp at h
 ·simp at h
theorem CoM.Ok.rep{m:CoM}{g b:Int}{fin:Bool}(h:m.Ok n)(he:m.repErr g t b=0):(m.rep g b fin).Ok (n+1):=by
 obtain⟨g1,g2, -,aa,N,U⟩:=CoM.Yh he;have hi:g.toNat-1<m.loans.length:=by omega
 obtain⟨d,F,e,L⟩:=h.ln _ (CoM.Ain ⟨g1,g2⟩);refine⟨h.u1,fun k q hk=>?_,fun l a=>?_,?_⟩
 ·obtain⟨i,p,f3,f4,r,s,u⟩:=h.pr k q hk;refine⟨i,p,f3,f4,r,s,?_⟩;have v:GU k m.loans+Hc k m.loans<=q.quota:=u
  show GU k (m.loans.set _ _)+Hc k (m.loans.set _ _)<=q.quota;have e1:=OX k ⟨(m.at g).who,(m.at g).bytes,(m.at g).used+b.toNat,(m.at g).turn+1,fin⟩ m.loans _ hi;have e2:=Pb k ⟨(m.at g).who,(m.at g).bytes,(m.at g).used+b.toNat,(m.at g).turn+1,fin⟩ m.loans _ hi;have f:m.loans.getD (g.toNat-1) .zero=m.at g:=rfl;rw[f]at e1 e2;generalize m.at g=y at*;obtain⟨yw,yb,yu,yt,ys⟩:=y;simp only[LnM.lc,LnM.uc]at*
  grind
 ·have a:l∈m.loans.set _ _:=a
  rcases List.mem_or_eq_of_mem_set a with a | rfl
  ·obtain⟨x,z,C,h4⟩:=h.ln l a;exact⟨x,z,C,by omega⟩
  ·exact⟨d,by grind,e,by show(m.at g).turn+1<=n+1;omega⟩
 ·show(m.loans.set _ _).length<=n+1;have:=h.len;simp;omega
def V7 (v:Value):Option (DataW Value×List MemPlace):=A (.held v,[])
theorem V8{v:Value}{x:DataW Value}{ps:List MemPlace}(h:V7 v=A (x,ps)):x=.held v:=by
 unfold V7 at h;simp at h;exact h.1.symm
theorem Tryz.Vi:Keyed prog 3:=int_keyed underlying3
def Gb (k:Int):Prop:= -9223372036854775808<=k/\k<=9223372036854775807
theorem Agn(h:Gb k):keyOf prog 3 (.int I k)=A (.int I k):=keyOf_int_mk underlying3 (Cy h)
theorem SW(k:Int):WideAt.IsKeyLit (.int I k):=by simp[WideAt.IsKeyLit]
theorem Mf(h:j≠k):Lit.int I j≠Lit.int I k:=by
 grind
theorem GQ{k:TypeId}(h:w.ownsMap P k R b n D)(e:Maps.size D<=n'):w.ownsMap P k R b n' D:=by
 obtain⟨es,a,d,F,_,rfl⟩:=h;refine⟨es,a,d,F,?_,rfl⟩
 simpa [Maps.size,DB]using e
theorem Ot{k:TypeId}(h:w.ownsMap P k R b n D):Maps.size D<=n:=by
 obtain⟨es,a,e,F,d,rfl⟩:=h
 simpa [Maps.size,DB]using d
def J8 (M:Int->Option Value)(k:Int)(x:Option Value):Int->Option Value:=fun j=>if j=k then x else M j
theorem Ih(M:Int->Option Value)(k:Int)(x:Option Value):J8 M k x k=x:=Ab rfl
theorem Hw(M:Int->Option Value)(x:Option Value)(h:j≠k):J8 M k x j=M j:=Aa h
def IMap (w:World)(bm n:Nat)(M:Int->Option Value):Prop:=∃D:DataW Value,w.ownsMap prog 3 V7 bm n D/\(∀k:Int,Maps.has D (.int I k)=(M k).isSome)/\∀(k:Int) x,M k=A x->∀z,D.atKey (.int I k) z=.held x
theorem IMap.same(h:IMap w bm n M)(e:w'.heap[bm]?=w.heap[bm]?):IMap w' bm n M:=by
 obtain⟨D,⟨es,a,f,F,i,d⟩,r⟩:=h;exact⟨D,⟨es,a,by rw[e];exact f,F,i,d⟩,r⟩
theorem IMap.lt(h:IMap w bm n M):bm<w.heap.size:=by
 obtain⟨D,h,_⟩:=h;exact CQ h
theorem IMap.kept(h:IMap w bm n M)(a:Kept S w w')(d:bm∉S):IMap w' bm n M:=h.same (a.block bm h.lt d)
theorem IMap.mono(h:IMap w bm n M)(a:n<=n'):IMap w bm n' M:=by
 obtain⟨D,h,r⟩:=h;exact⟨D,GQ h (Ak (Ot h) a),r⟩
theorem IMap.congr{a:Int->Option Value}(h:IMap w bm n M)(e:∀k,a k=M k):IMap w bm n a:=by
 rw[show a=M from funext e];exact h
theorem IMap.cells(h:IMap w bm n M){cur:List Value}(d:At w bm T cur):False:=by
 obtain⟨D,⟨es,a,e,_⟩,_⟩:=h;unfold At at d;rw[d]at e
 cases e
theorem IMap.XT(w:World):IMap (w.alloc (.map #[] 0)) w.heap.size 0 (fun _=>G):=
 ⟨.map [],GQ (C9 w _ _ _) (by simp[Maps.size]),fun _=>rfl,fun _ _ a=>absurd a (by simp)⟩
theorem IMap.TX(h:IMap w bm n M)(f:Gb k){mt vt:TypeId}(l:prog.underlying mt=A (.map 3 vt)){zv:Value}(p:(zeroValue vt).run prog w=.ok zv w){x:Value}{b:Bool}(m:(M k).getD zv=x)(u:(M k).isSome=b)(c:Bool):
 (Instr.lookup mt (.map (A bm)) (.int I k) c).run prog w=.ok (if c then .tuple #[x,.bool b] else x) w:=by
 obtain⟨D,i,s,z⟩:=h;have r:D.atKey (.int I k) (.held zv)=.held x:=by
  cases e:M k with
  | none=>
   rw[e]at m;rw[atKey_of_not_has (by rw[s k,e];rfl)];rw[<-m];rfl
  | some y=>
   grind
 cases c with
 | true=>
  obtain⟨v,ps,a,d⟩:=i.look_ok Tryz.Vi l p (zd:=.held zv) (zp:=[]) rfl (Agn f);have q:=V8 d
  grind
 | false=>
  obtain⟨v,ps,a,d⟩:=i.lookup Tryz.Vi l p (zd:=.held zv) (zp:=[]) rfl (Agn f);have q:=V8 d
  grind
theorem Mb(h:w.grownBy w' (A g)):Kept [g] w w':=⟨h.os,h.tape,h.output,h.size,fun k a d=>h.block k a (fun e=>d (by grind))⟩
theorem IMap.put{w:World}{bm n:Nat}{M:Int->Option Value}(h:IMap w bm n M)(r:n<maxLen){k:Int}(q:Gb k){mt vt:TypeId}(u:prog.underlying mt=A (.map 3 vt))(x:Value)(n':Nat)(s:n+(if (M k).isSome then 0 else 1)<=n'):
 ∃w',(Instr.mapUpdate mt (.map (A bm)) (.int I k) x).run prog w=.ok () w'/\IMap w' bm n' (J8 M k (A x))/\Kept [bm] w w':=by
 obtain⟨D,d,l,v⟩:=h;obtain⟨w',f,m,p⟩:=d.update Tryz.Vi u r (Agn q) (show V7 x=A (.held x,[])from rfl);refine⟨w',f,?_,Mb p⟩;have i:Maps.size (D.put (.int I k) (.held x))<=n':=by
  have:=Ot d;rw[size_put (d.tidy Tryz.Vi),l k]
  grind
 refine⟨_,GQ m i,fun j=>?_,fun j y a z=>?_⟩
 ·by_cases e:j=k
  ·subst e;rw[has_put_same d.isMap (SW _),Ih];rfl
  ·rw[has_put_other (Mf e),Hw M _ e];exact l j
 ·by_cases e:j=k
  ·subst e;rw[Ih]at a;have a:=AX a;rw[atKey_put_same d.isMap (SW _),a]
  ·rw[Hw M _ e]at a;rw[atKey_put_other (Mf e)];exact v j y a z
theorem IMap.del{w:World}{bm n:Nat}{M:Int->Option Value}(h:IMap w bm n M){k:Int}(q:Gb k){mt vt:TypeId}(r:prog.underlying mt=A (.map 3 vt))(ty:TypeId):
 ∃w',(Builtin.delete_ #[mt,3] ty #[.map (A bm),.int I k]).run prog w=.ok (.tuple #[]) w'/\IMap w' bm n (J8 M k G)/\Kept [bm] w w':=by
 obtain⟨D,f,p,s⟩:=h;obtain⟨w',a,l,m⟩:=f.drop Tryz.Vi r (Agn q) ty;refine⟨w',a,?_,Mb m.grown⟩;have i:Maps.size (D.del (.int I k))<=n:=by
  have:=Ot f;have u:=size_del (k:=.int I k) (f.tidy Tryz.Vi);omega
 refine⟨_,GQ l i,fun j=>?_,fun j y d z=>?_⟩
 ·by_cases e:j=k
  ·subst e;rw[has_del_same,Ih];rfl
  ·rw[has_del_other (Mf e),Hw M _ e];exact p j
 ·by_cases e:j=k
  ·subst e;rw[Ih]at d
   cases d
  ·rw[Hw M _ e]at d;rw[atKey_del_other (Mf e)];exact s j y d z
theorem At.ty{U:TypeId}{c d:List Value}(h:At w b T c)(g:At w b U d):T=U:=by
 unfold At at h g
 grind
structure CoN where
 bu:Nat
 ga:Option Addr
 gc:Nat
 ub:Int->Nat
 mb:Int->Nat
def Fa (b:Nat):Value:= H (A ⟨b,0,G⟩)
def LnM.cells(ub:Int->Nat)(l:LnM):List Value:=[Fa (ub l.who), E I (l.turn:Int)]
def Zab (ub:Int->Nat)(ls:List LnM):List Value:=ls.flatMap (LnM.cells ub)
def usV (N:CoN)(m:CoM):Int->Option Value:=fun k=>(m.per k).map fun _=>Fa (N.ub k)
def opV (who:Int)(ls:List LnM):Int->Option Value:=fun g=>if 1<=g/\g<=(ls.length:Int)/\(ls.getD (g.toNat-1) .zero).who=who/\(ls.getD (g.toNat-1) .zero).shut=false then A (E I (((ls.getD (g.toNat-1) .zero).bytes-(ls.getD (g.toNat-1) .zero).used:Nat):Int)) else G
def Gp (N:CoN)(m:CoM)(k:Int)(p:PrM):List Value:=[E I (m.left k p:Nat), E I (m.It k:Nat), E I (m.KS k:Nat), E I (p.st:Nat), E I (p.cell:Nat),.map (A (N.mb k))]
structure PCore(w:World)(c:Nat)(N:CoN)(m:CoM)(n:Nat):Prop where
 hd:At w c 64 [E I (m.unit:Int),.map (A N.bu),.slice N.ga m.loans.length N.gc]
 us:IMap w N.bu n (usV N m)
 ur:∀k p,m.per k=A p->At w (N.ub k) 162 (Gp N m k p)
 op:∀k p,m.per k=A p->IMap w (N.mb k) n (opV k m.loans)
 gr:w.ownsRow 0 310 2 (.slice N.ga m.loans.length N.gc) m.loans.length (Zab N.ub m.loans)
 ui:∀j k p q,m.per j=A p->m.per k=A q->N.ub j=N.ub k->j=k
 mi:∀j k p q,m.per j=A p->m.per k=A q->N.mb j=N.mb k->j=k
 mn:∀k p,m.per k=A p->N.mb k≠N.bu
 ok:m.Ok n
theorem JC(ub:Int->Nat)(ls:List LnM):(Zab ub ls).length=ls.length*2:=by
 induction ls with
 | nil=>rfl
 | cons x ls ih=>
  have e:Zab ub (x::ls)=x.cells ub++Zab ub ls:=rfl;rw[e,Ai,ih,AE]
  show 2+_=_;omega
theorem Y6(ub:Int->Nat)(l r:List LnM):Zab ub (l++r)=Zab ub l++Zab ub r:=by simp[Zab]
theorem Kf(ub:Int->Nat):∀(ls:List LnM) (i k:Nat),i<ls.length->k<2->(Zab ub ls)[i*2+k]?=((ls.getD i .zero).cells ub)[k]?
 | [],i,_,h,_=>by simp at h
 | x::l,0,k,_,hk=>by
  have e:Zab ub (x::l)=x.cells ub++Zab ub l:=rfl;rw[e,BB (by show 0*2+k<2;omega)];simp
 | x::l,i+1,k,h,hk=>by
  have e:Zab ub (x::l)=x.cells ub++Zab ub l:=rfl;have d:=Kf ub l i k (by simpa using h) hk;have a:(x.cells ub).length=2:=rfl
  grind
theorem Va{d:Int->Nat}{ls a:List LnM}(e:a.length=ls.length)(h:∀i,i<ls.length->(a.getD i .zero).cells d=(ls.getD i .zero).cells ub):Zab d a=Zab ub ls:=by
 refine Bf fun t=>?_
 by_cases ht:t<ls.length*2
 ·have e1:=Kf d a (t / 2) (t % 2) (by omega) (by omega);have e2:=Kf ub ls (t / 2) (t % 2) (by omega) (by omega)
  grind
 ·rw[AY (by rw[JC];omega),AY (by rw[JC];omega)]
theorem Y7{ls:List LnM}{i:Nat}{x:LnM}(hi:i<ls.length)(e:x.who=(ls.getD i .zero).who):(Zab ub ls).set (i*2+1) (E I (x.turn:Int))=Zab ub (ls.set i x):=by
 refine Bf fun t=>?_
 rw[BW,JC]
 by_cases ht:t<ls.length*2
 ·have e1:=Kf ub (ls.set i x) (t / 2) (t % 2) (by rw[An];omega) (by omega);have e2:=Kf ub ls (t / 2) (t % 2) (by omega) (by omega);rw[show t / 2*2+t % 2=t by omega]at e1 e2;rw[e1,e2]
  by_cases d:t / 2=i
  ·have e3:(ls.set i x).getD (t / 2) .zero=x:=by grind
   rw[e3,d]
   rcases (show t=i*2\/t=i*2+1 by omega)with a | a
   ·rw[Aa (by omega),show t % 2=0 by omega]
    show A (Fa (ub _))=A (Fa (ub _));rw[e]
   ·rw[Ab (by omega),Ab (by omega),show t % 2=1 by omega];rfl
  grind
 ·rw[Aa (by omega),AY (by rw[JC];omega),AY (by rw[JC,An];omega)]
def coF (c:Nat)(N:CoN)(m:CoM):List Nat:=c::N.bu::((N.ga.map (·.block)).toList++(List.range 17).flatMap fun k:Nat=>if (m.per (k:Int)).isSome then [N.ub (k:Int),N.mb (k:Int)] else [])
theorem Xk{N:CoN}{m:CoM}{x:Nat}(h:x∈coF c N m):x=c\/x=N.bu\/(∃y,N.ga=A y/\x=y.block)\/∃(k:Int) (p:PrM),m.per k=A p/\(x=N.ub k\/x=N.mb k):=by
 unfold coF at h;rw[Ar,Ar,BH,Ce]at h
 rcases h with h | h | h | ⟨k,_,h⟩
 ·exact .inl h
 ·exact .inr (.inl h)
 ·cases hg:N.ga with
  | none=>rw[hg]at h;simp at h
  | some y=>grind
 ·split at h
  ·rename_i a;obtain⟨p,d⟩:=Option.isSome_iff_exists.1 a
   grind
  ·simp at h
theorem AiB(c:Nat)(N:CoN)(m:CoM):c∈coF c N m:=AL
theorem AiA(c:Nat)(N:CoN)(m:CoM):N.bu∈coF c N m:=AU _ AL
theorem Aey{N:CoN}{m:CoM}(h:N.ga=A y):y.block∈coF c N m:=by grind [coF]
theorem N5{N:CoN}{m:CoM}{p:PrM}(a:m.Ok n)(h:m.per k=A p):N.ub k∈coF c N m/\N.mb k∈coF c N m:=by
 obtain⟨d,e,_⟩:=a.pr k p h;have key:∀x,x=N.ub k\/x=N.mb k->x∈coF c N m:=fun x f=>by
  refine AU _ (AU _ (DH _ (Ce.2 ⟨k.toNat,Bv.2 (by omega),?_⟩)))
  grind
 grind
theorem PCore.PQ{N:CoN}{m:CoM}(h:PCore w c N m n)(a:N.ga=A y):∃cur,y=⟨y.block,0,G⟩/\At w y.block 310 cur:=by
 obtain⟨a',c',e,_,_,f⟩:=Fg h.gr;simp only[Aq]at e;obtain⟨rfl, -,rfl⟩:=e;obtain⟨g,rfl,i⟩:=f y a;have:=h.gr;rw[a]at this;obtain⟨cur,d,_⟩:=F9 this;exact⟨cur,rfl,d⟩
theorem PCore.lt{w:World}{c:Nat}{N:CoN}{m:CoM}{n:Nat}(h:PCore w c N m n):∀x∈coF c N m,x<w.heap.size:=fun x e=>by
 rcases Xk e with rfl | rfl | ⟨y,f,rfl⟩ | ⟨k,p,a,rfl | rfl⟩
 ·exact h.hd.lt
 ·exact h.us.lt
 ·obtain⟨cur, -,d⟩:=h.PQ f;exact d.lt
 ·exact(h.ur k p a).lt
 ·exact(h.op k p a).lt
theorem PCore.mono{w:World}{c:Nat}{N:CoN}{m:CoM}{n n':Nat}(h:PCore w c N m n)(a:n<=n'):PCore w c N m n':=
 ⟨h.hd,h.us.mono a,h.ur,fun k p d=>(h.op k p d).mono a,h.gr,h.ui,h.mi,h.mn,h.ok.mono a⟩
theorem PCore.kept{w w':World}{c:Nat}{N:CoN}{m:CoM}{n:Nat}{T:List Nat}(h:PCore w c N m n)(a:Kept T w w')(hd:∀x∈coF c N m,x∉T):PCore w' c N m n:=by
 refine⟨h.hd.kept a (hd _ (AiB _ _ _)),h.us.kept a (hd _ (AiA _ _ _)),fun k p d=>(h.ur k p d).kept a (hd _ (N5 h.ok d).1),fun k p d=>(h.op k p d).kept a (hd _ (N5 h.ok d).2),FY h.gr a (fun g hg=>?_),h.ui,h.mi,h.mn,h.ok⟩
 cases e:N.ga with
 | none=>rw[e]at hg;simp[Value.ownBlock]at hg
 | some y=>
  obtain⟨cur,f, -⟩:=h.PQ e;rw[e,f]at hg;simp[Value.ownBlock]at hg;rw[<-hg];exact hd _ (Aey e)
theorem PCore.RX{N:CoN}{m:CoM}(h:PCore w c N m n):N.bu≠c/\(∀y,N.ga=A y->y.block≠c/\y.block≠N.bu)/\∀k p,m.per k=A p->N.ub k≠c/\N.ub k≠N.bu/\N.mb k≠c/\N.mb k≠N.bu/\(∀y,N.ga=A y->N.ub k≠y.block/\N.mb k≠y.block)/\∀j q,m.per j=A q->N.ub k≠N.mb j:=by
 refine⟨fun e=>?_,fun y f=>?_,fun k p d=>⟨fun e=>?_,fun e=>?_,fun e=>?_,h.mn k p d,fun y f=>?_,fun j q i e=>?_⟩⟩
 ·have:=h.us;rw[e]at this;exact this.cells h.hd
 ·obtain⟨cur, -,a⟩:=h.PQ f;refine⟨fun e=>?_,fun e=>?_⟩
  ·rw[e]at a;exact absurd (a.ty h.hd) (by decide)
  ·rw[e]at a;exact h.us.cells a
 ·have:=h.ur k p d;rw[e]at this;exact absurd (this.ty h.hd) (by decide)
 ·have:=h.ur k p d;rw[e]at this;exact h.us.cells this
 ·have:=h.op k p d;rw[e]at this;exact this.cells h.hd
 ·obtain⟨cur, -,a⟩:=h.PQ f;refine⟨fun e=>?_,fun e=>?_⟩
  ·rw[<-e]at a;exact absurd (a.ty (h.ur k p d)) (by decide)
  ·rw[<-e]at a;exact(h.op k p d).cells a
 ·have:=h.ur k p d;rw[e]at this;exact(h.op j q i).cells this
theorem PCore.next{N N':CoN}{m d:CoM}{p p':PrM}(h:PCore w c N m n)(hp:m.per k=A p)(hk:Kept S w w')(hS:∀x∈S,x=c\/(∃y,N.ga=A y/\x=y.block)\/x=N.ub k\/x=N.mb k)
 (hb:N'.bu=N.bu) (hu:N'.ub=N.ub) (L:∀j,j≠k->N'.mb j=N.mb j) (aa:N'.mb k=N.mb k\/w.heap.size<=N'.mb k)
 (ab:∀j,d.per j=if j=k then A p' else m.per j) (C:∀j,j≠k->d.It j=m.It j/\d.KS j=m.KS j/\opV j d.loans=opV j m.loans)
 (hd:At w' c 64 [E I (d.unit:Int),.map (A N'.bu),.slice N'.ga d.loans.length N'.gc]) (ur:At w' (N.ub k) 162 (Gp N' d k p')) (op:IMap w' (N'.mb k) n' (opV k d.loans))
 (gr:w'.ownsRow 0 310 2 (.slice N'.ga d.loans.length N'.gc) d.loans.length (Zab N'.ub d.loans)) (ok:d.Ok n') (hn:n<=n'):PCore w' c N' d n':=by
 obtain⟨a1,a2,a3⟩:=h.RX;have v:∀j q,d.per j=A q->j≠k->m.per j=A q:=by grind
 have l:∀j q,d.per j=A q->∃z,m.per j=A z:=by grind
 refine⟨hd,?_,fun j q u=>?_,fun j q u=>?_,gr,fun i j q r hi u e=>?_,fun i j q r hi u e=>?_,fun j q u=>?_,ok⟩
 ·rw[hb];refine((h.us.kept hk (fun hx=>?_)).mono hn).congr fun j=>?_
  ·grind
  ·unfold usV
   grind
 ·rw[hu]
  by_cases e:j=k
  ·grind
  ·have a:=v j q u e;have e3:=a3 j q a;have:Gp N' d j q=Gp N m j q:=by
    unfold Gp CoM.left;rw[(C j e).1,(C j e).2.1,L j e]
   rw[this];refine(h.ur j q a).kept hk (fun hx=>?_)
   rcases hS _ hx with f | ⟨y,hy,f⟩ | f | f
   ·exact e3.1 f
   ·exact(e3.2.2.2.2.1 y hy).1 f
   ·exact e (h.ui j k q p a hp f)
   ·exact e3.2.2.2.2.2 k p hp f
 ·by_cases e:j=k
  ·subst e;exact op
  ·have a:=v j q u e;have e3:=a3 j q a;rw[L j e,(C j e).2.2];refine((h.op j q a).kept hk (fun hx=>?_)).mono hn
   rcases hS _ hx with f | ⟨y,hy,f⟩ | f | f
   ·exact e3.2.2.1 f
   ·exact(e3.2.2.2.2.1 y hy).2 f
   ·grind
   ·exact e (h.mi j k q p a hp f)
 ·obtain⟨z,s⟩:=l i q hi;obtain⟨r',a⟩:=l j r u;rw[hu]at e;exact h.ui i j z r' s a e
 ·obtain⟨z,s⟩:=l i q hi;obtain⟨r',a⟩:=l j r u;have l1:=(h.op i z s).lt;have l2:=(h.op j r' a).lt
  by_cases U:i=k
  ·by_cases F:j=k
   ·rw[U,F]
   ·rw[U,L j F]at e
    rcases aa with g | g
    ·rw[g]at e;rw[U];exact h.mi k j p r' hp a e
    ·omega
  ·by_cases F:j=k
   ·rw[F,L i U]at e
    rcases aa with g | g
    ·rw[g]at e;rw[F];exact h.mi i k z p s hp e
    ·omega
   ·rw[L i U,L j F]at e;exact h.mi i j z r' s a e
 ·obtain⟨z,a⟩:=l j q u;have l1:=h.us.lt
  grind
theorem Tn{N N':CoN}{m d:CoM}{p i:PrM}(h:PCore w c N m n)(r:m.per k=A p)(l:N'.bu=N.bu)(s:N'.ub=N.ub)(q:∀j,j≠k->N'.mb j=N.mb j)(f:N'.mb k=N.mb k\/w.heap.size<=N'.mb k)(a:∀j,d.per j=if j=k then A i else m.per j)(e:∀y,N'.ga=A y->N.ga=A y\/w.heap.size<=y.block):Ga w.heap.size (coF c N m) (coF c N' d):=by simp_all[Ga,coF];grind
theorem PCore.head{N:CoN}{m:CoM}(h:PCore w c N m n):w.cell? ⟨c,0,G⟩=A (E I (m.unit:Int))/\w.cell? ⟨c,1,G⟩=A (.map (A N.bu))/\w.cell? ⟨c,2,G⟩=A (.slice N.ga m.loans.length N.gc):=⟨h.hd.cell 0,h.hd.cell 1,h.hd.cell 2⟩
end Go.Proofs.YtbjgfoiikhbonahGreatDoor
