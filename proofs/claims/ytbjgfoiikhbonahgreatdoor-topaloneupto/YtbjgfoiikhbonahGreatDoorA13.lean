import Derived.Test.YtbjgfoiikhbonahGreatDoorA12
set_option linter.unusedVariables false
set_option linter.unusedSimpArgs false
set_option maxRecDepth 100000
set_option maxHeartbeats 4000000
namespace Go.Proofs.YtbjgfoiikhbonahGreatDoor
open Go.ChangeShapes Go.WideShapes Go.ChangeAt Go.RowKit Go.Proofs.Tryz
open Value renaming pointer->A,bool->I,int->J,slice->V
open Option renaming none->E,some->G
open Bool renaming false->H,true->W
open Ending renaming returned->Y
open IntKind renaming i64->d
variable {B b g k n:Nat}{F L:List Nat}{S:Setg}{T t:TypeId}{p:Addr}{s sm:List Int}{v:Value}{w w':World}
def AdW (N:Nat)(sm:List Int):Value->World->Prop:=fun x w=>∃g,x= V (G ⟨g,0,E⟩) N N/\ArrAt d 3 w g sm
theorem RL(N:Nat)(sm:List Int):MB (AdW N sm):=fun _ _ _ ⟨g,a,c⟩ hg=>⟨g,a,ME c hg⟩
theorem VV(h:BoxR w b T (L8 S B) v):
 w.cell? ⟨b,1,E⟩=G (J d S.code)/\w.cell? ⟨b,2,E⟩=G (J d S.size)/\w.cell? ⟨b,3,E⟩=G (J d S.order)/\w.cell? ⟨b,4,E⟩=G (J d S.seed)/\w.cell? ⟨b,5,E⟩=G (J d S.count)/\w.cell? ⟨b,6,E⟩=G (J d (B:Int)):=by
 unfold BoxR at h;refine⟨?_,?_,?_,?_,?_,?_⟩<;>(rw[Al _ _ _ _ _ _ h];rfl)
theorem EarP.block(h:EarP w p F S B s):∃b g,p=⟨b,0,E⟩/\F=[b,g]/\b≠g/\BoxR w b 343 (L8 S B) (V (G ⟨g,0,E⟩) s.length s.length)/\ArrAt d 3 w g s:=h
theorem EarP.old(h:EarP w p F S B s)(a:Below w.heap.size w w'):EarP w' p F S B s:=BufR.kept h (Kept.E5 (S:=[]) a) (fun _ _=>by simp)
theorem Amo:strOfNums (JH [])=ByteArray.empty:=rfl
theorem AgP(D:List Int)(n:Nat)(a:Option Addr)(k c:Nat)(w:World)(N:Rd .u8 w a D)(y:AllBits D)(Q:D.length=k)(u:k<=c)(o:c<=maxLen)(O:k=8*n+24)(X:n<=40):
 Calls prog 239 #[V a k c, J d 3] w fun e w'=>∃a' k' c',∃Z:List Int,e= Y (.tuple #[V a' k' c', I (decide (Ko (D.take (8*n)) 3=D.drop (8*n))), J d 0])/\Z.length=k'/\k'<=4096/\AllBits Z/\Rd .u8 w' a' Z/\Below w.heap.size w w'/\Z=(if Ko (D.take (8*n)) 3=D.drop (8*n) then D.take (8*n) else []):=by
 subst Q;have K:Lq D 3=0:=by unfold Lq;rw[Ab (PM y (by omega))];rfl
 have r:D.length=8*n+kW 3:=O
 by_cases h:Ko (D.take (8*n)) 3=D.drop (8*n)
 ·refine(AlV D 3 a c w N u o y.bytes K (8*n) r h).mono fun e w' z=>?_
  obtain⟨v,rfl,R,l⟩:=z;have i:(D.take (8*n)).length=8*n:=by rw[Ay];omega
  obtain⟨a',c',rfl, -, -,U, -⟩:=R.slice i;exact⟨a',8*n,c',D.take (8*n),by rw[Ag h],i,by omega,fun x C=>y x (Cr C),U,l,by rw[Ab h]⟩
 ·refine(AgO D 3 a c w N u o y.bytes K (8*n) r h).mono fun e w' z=>?_
  obtain⟨rfl,l⟩:=z;exact⟨E,0,0,[],by rw[Ae h],rfl,by omega,(fun x C=>by cases C),Rd.nil _ _ _,l,by rw[Aa h]⟩
theorem AkF(hE:EarP w ⟨b,0,E⟩ F S B sm)(hR:ReadyL w)(hS:SetOk S B)(ao:(sm.length:Int)=Ij S B)(ap:Fy sm=W):
 Calls prog 201 #[A (G ⟨b,0,E⟩)] w fun e w'=>e= Y (.tuple #[.string (Mk S B sm).data, I (Mk S B sm).ok])/\Below w.heap.size w w':=by
 have al:prog.follows .mixedOrders=W:=by kernel_rfl
 have hB:B<=40:=by have:=hS.few;omega
 obtain⟨N,eN,bl,bm⟩:=To hS;have hN:sm.length=N:=by omega
 obtain⟨l, eK⟩ := E7 (8*B+24);have HK:Hid ((8*(B:Int)+24)=(l:Int)):=by show _=_;omega
 have be:=fun i=>LE (B:Int) i ⟨by omega,by omega⟩
 have bd:∀i,Below w.heap.size w i->Calls prog 237 #[A (G ⟨b,0,E⟩)] i fun e w'=>∃g',e= Y (V (G ⟨g',0,E⟩) N N)/\ArrAt d 3 w' g' sm/\Below i.heap.size i w':=fun i hz=>by
  have h:=Abu (hE.old hz) (by omega) (by omega);rw[hN]at h;exact h.mono fun e w' ⟨g',h1,h2,_,h4⟩=>⟨g',h1,h2,h4⟩
 have ak:∀(i:World) (g:Nat),ReadyL i->ArrAt d 3 i g sm->Calls prog 238 #[V (G ⟨g,0,E⟩) N N,S.val, J d (l:Int)] i fun e w'=>∃v,e= Y v/\Own w' i.heap.size v (Hu S l sm)/\Below i.heap.size i w':=fun i g o ha=>ZV S B sm g 0 N l N i hS o (ArrAt.rdL ha) ao ap hN (Ac _) eK
 have X:(Hu S l sm).length=l:=Vf (fun h=>by have h2:=(hS.size1 h).2;omega) hS.code;have aa:AllBits (Hu S l sm):=ZA S l sm;have hT:Mk S B sm=if Ko ((Hu S l sm).take (8*B)) 3=(Hu S l sm).drop (8*B) then ⟨strOfNums (JH ((Hu S l sm).take (8*B))),W,0⟩ else ⟨ByteArray.empty,H,0⟩:=by unfold Mk;rw[eK]
 obtain⟨D, eD⟩ := E7 (Hu S l sm);rw[<-eD]at ak X aa hT;have HD:=hid X;have ad:Hid (∀i,Below w.heap.size w i->i.cell? ⟨b,1,E⟩=G (J d S.code)/\i.cell? ⟨b,2,E⟩=G (J d S.size)/\i.cell? ⟨b,3,E⟩=G (J d S.order)/\i.cell? ⟨b,4,E⟩=G (J d S.seed)/\i.cell? ⟨b,5,E⟩=G (J d S.count)/\i.cell? ⟨b,6,E⟩=G (J d (B:Int))):=fun i hz=>by
  obtain⟨b',g,e, -, -,a8, -⟩:=(hE.old hz).block
  cases e;exact VV a8
 have an:=fun(i:World) (a:Option Addr) (c:Nat) (h:Rd .u8 i a D) (h1:l<=c) (h2:c<=maxLen)=>AgP D B a l c i h aa X h1 h2 eK hB
 obtain⟨t, et⟩ := E7 (Mk S B sm);rw[<-et]at hT ⊢;obtain⟨u, eu⟩ := E7 (decide (Ko (D.take (8*B)) 3=D.drop (8*B)));rw[<-eu]at an;have HT:Hid (∀Z:List Int,Z=(if Ko (D.take (8*B)) 3=D.drop (8*B) then D.take (8*B) else [])->t.data=strOfNums (JH Z)/\t.ok=u):=fun Z hZ=>by
  rw[hZ,hT,eu]
  by_cases h:Ko (D.take (8*B)) 3=D.drop (8*B)
  ·grind
  ·rw[Aa h,Aa h,Ae h];exact⟨Amo.symm,rfl⟩
 clear hT et eu eD X aa ao ap hS eN eK;go_enter func201,ntmps201
 go_wp2_with fail
 refine Bi (II (Q:=fun e a' w'=>e=.normal/\∃σ:Nat->Value,a'=({tmps:=((Ft _ (tbS [8,9,10,11,12,13,14,15,16,17,18,19,20,21] 14 σ)).set 4 (σ 13)).toArray,defers:=[]}:Act)/\sliR .u8 l D (σ 13) w'/\Below w.heap.size w w') 15 14 [8,9,10,11,12,13,14,15,16,17,18,19,20,21]
  [[0],[8],[9],[10],[0],[12],[13],[14],[0],[16],[17],[18],[19],[11,15,20]] [1,2,3,12,5,6,7,13,9,10,11,12,13,14]
  [eqR (A (G ⟨b,0,E⟩)),eqR (A (G ⟨b,0,E⟩)),eqR (A (G ⟨b,0,E⟩)),AdW N sm,eqR (A (G ⟨b,0,E⟩)),eqR (A (G ⟨b,0,E⟩)),eqR (A (G ⟨b,0+1,E⟩)),eqR S.val,eqR (A (G ⟨b,0,E⟩)),eqR (A (G ⟨b,0,E⟩)),eqR (A (G ⟨b,0+6,E⟩)),eqR (J d (B:Int)),eqR (J d (l:Int)),sliR .u8 l D] w al rfl (by decide) rfl (by decide) (by kernel_rfl) (by kernel_rfl) (by kernel_rfl) (by kernel_rfl) (by kernel_rfl) (by kernel_rfl)
  (by intro R hR;simp only[Ar,Bt,BF]at hR;rcases hR with rfl | rfl | rfl | rfl | rfl | rfl | rfl | rfl | rfl | rfl | rfl | rfl | rfl | rfl<;>(first | (exact Lp _) | (exact RL _ _) | (exact O7 _ _ _)))
  (fun z bn σ O wc C r o Q K y=>by
   have a9:z=0\/z=1\/z=2\/z=3\/z=4\/z=5\/z=6\/z=7\/z=8\/z=9\/z=10\/z=11\/z=12\/z=13:=by omega
   rcases a9 with rfl | rfl | rfl | rfl | rfl | rfl | rfl | rfl | rfl | rfl | rfl | rfl | rfl | rfl
   ·have e0:=o 0 (by decide);exact E6 rfl rfl (Fd wc rfl e0) (y _ wc (Fb wc) rfl)
   ·have e8:O.eval (.tmp 8)=(A (G ⟨b,0,E⟩)):=(o 8 (by decide)).trans (r 0 (by decide) (by kernel_rfl));exact E6 rfl rfl (Ie wc rfl e8) (y _ wc (Fb wc) rfl)
   ·have e9:O.eval (.tmp 9)=(A (G ⟨b,0,E⟩)):=(o 9 (by decide)).trans (r 1 (by decide) (by kernel_rfl));exact E6 rfl rfl (Nu wc rfl e9) (y _ wc (Fb wc) rfl)
   ·have aq:O.eval (.tmp 10)=(A (G ⟨b,0,E⟩)):=(o 10 (by decide)).trans (r 2 (by decide) (by kernel_rfl));refine FM rfl rfl rfl (enters_of func237 (by kernel_rfl) rfl) (AeS aq) (bd wc C) fun e w' U=>?_
    obtain⟨ae,rfl,ah,ab⟩:=U;exact⟨_,rfl,y _ w' (FX ab) (show AdW N sm _ _ from⟨ae,rfl,ah⟩)⟩
   ·have e0:=o 0 (by decide);exact E6 rfl rfl (Fd wc rfl e0) (y _ wc (Fb wc) rfl)
   ·have au:O.eval (.tmp 12)=(A (G ⟨b,0,E⟩)):=(o 12 (by decide)).trans (r 4 (by decide) (by kernel_rfl));exact E6 rfl rfl (Ie wc rfl au) (y _ wc (Fb wc) rfl)
   ·have av:O.eval (.tmp 13)=(A (G ⟨b,0,E⟩)):=(o 13 (by decide)).trans (r 5 (by decide) (by kernel_rfl));exact E6 rfl rfl (Nv wc rfl av) (y _ wc (Fb wc) rfl)
   ·have aw:O.eval (.tmp 14)=(A (G ⟨b,0+1,E⟩)):=(o 14 (by decide)).trans (r 6 (by decide) (by kernel_rfl));obtain⟨c1,c2,c3,c4,c5, -⟩:=ad.out wc C;exact E6 rfl rfl (Lc (S:=S) wc rfl aw c1 c2 c3 c4 c5) (y _ wc (Fb wc) rfl)
   ·have e0:=o 0 (by decide);exact E6 rfl rfl (Fd wc rfl e0) (y _ wc (Fb wc) rfl)
   ·have ay:O.eval (.tmp 16)=(A (G ⟨b,0,E⟩)):=(o 16 (by decide)).trans (r 8 (by decide) (by kernel_rfl));exact E6 rfl rfl (Ie wc rfl ay) (y _ wc (Fb wc) rfl)
   ·have az:O.eval (.tmp 17)=(A (G ⟨b,0,E⟩)):=(o 17 (by decide)).trans (r 9 (by decide) (by kernel_rfl));exact E6 rfl rfl (Yl wc rfl az) (y _ wc (Fb wc) rfl)
   ·have a0:O.eval (.tmp 18)=(A (G ⟨b,0+6,E⟩)):=(o 18 (by decide)).trans (r 10 (by decide) (by kernel_rfl));obtain⟨-, -, -, -, -,c6⟩:=ad.out wc C;exact E6 rfl rfl (F5 wc rfl a0 c6) (y _ wc (Fb wc) rfl)
   ·have a3:O.eval (.tmp 19)=(J d (B:Int)):=(o 19 (by decide)).trans (r 11 (by decide) (by kernel_rfl));refine FM rfl rfl rfl (enters_of func195 (by kernel_rfl) rfl) (AeS a3) (be wc) fun e w' U=>?_
    obtain⟨rfl,rfl⟩:=U;exact⟨_,rfl,y _ _ (Fb _) (congrArg (Value.int d) HK.out)⟩
   ·obtain⟨ae,bh,a5⟩:=r 3 (by decide) (by kernel_rfl);have ar:=(o 11 (by decide)).trans bh;have ax:O.eval (.tmp 15)=S.val:=(o 15 (by decide)).trans (r 7 (by decide) (by kernel_rfl));have a4:O.eval (.tmp 20)=(J d (l:Int)):=(o 20 (by decide)).trans (r 12 (by decide) (by kernel_rfl));refine FM rfl rfl rfl (enters_of func238 (by kernel_rfl) rfl) (Z5 ar ax a4) (ak wc _ (hR.below C) a5) fun e w' U=>?_
    obtain⟨bo,rfl,am,ab⟩:=U
    exact⟨_,rfl,y _ w' (FX ab) (by obtain⟨bj,bk,rfl,bf,bg,bi, -⟩:=am.slice HD.out;exact sliR.mk bf bg bi)⟩)
  (fun σ wc C r=>by
   refine E6 rfl rfl (G5 wc rfl (Fj (t:=tbS [8,9,10,11,12,13,14,15,16,17,18,19,20,21] 14 σ) 21 (show([8,9,10,11,12,13,14,15,16,17,18,19,20,21]:List Nat).Nodup by decide) (by kernel_rfl))) ⟨rfl,σ,G4 _ _ _,r 13 (by decide),C⟩)) ?_
 rintro e a' w1 ⟨rfl,x,rfl,⟨a1,c1,q1,k1,m1,bb⟩,ai⟩;rw[show tbS [8,9,10,11,12,13,14,15,16,17,18,19,20,21] 14 x=[(8,x 0),(9,x 1),(10,x 2),(11,x 3),(12,x 4),(13,x 5),(14,x 6),(15,x 7),(16,x 8),(17,x 9),(18,x 10),(19,x 11),(20,x 12),(21,x 13)]from rfl,q1];dsimp only[Ft,List.set,List.append_nil,List.cons_append,List.nil_append]
 go_wp2_with(first
  | (go_at_call 239;refine(an _ _ _ bb k1 m1).mono ?_;rintro e w2 ⟨a2,n2,c2,Z,rfl,a6,af,ag,bc,aj,hZ⟩;have HZ:=hid hZ;clear hZ;subst a6;have ba:=fun i h=>Ya Z a2 c2 i h ag.bits af (PM ag af))
  | (go_at_call 187;refine(QJ _ _).mono ?_;rintro e w9 ⟨rfl,rfl⟩)
  | (go_at_call 241;refine(ba _ bc).mono ?_;rintro e w3 ⟨rfl,a7⟩)
  | (go_at_call 240;refine(AoM _ _).mono ?_;rintro e w9 ⟨rfl,rfl⟩)
  | fail)
 obtain⟨h1,h2⟩:=HT.out Z HZ.out
 go_ret2;rw[h1,h2];exact⟨rfl,ai.trans ((aj.trans (a7.mono aj.size)).mono ai.size)⟩
def NL (hs ns:List Int)(n k:Nat):List Int:=((List.range k).map fun i=>Pz (Jd (hs.getD i 0)) (ns.getD i 0))++List.replicate (n-k) 0
theorem Yy(a c:List Int)(h:k<=n):(NL a c n k).length=n:=by simp[NL];omega
theorem AhY(a c:List Int)(h:k<n):(NL a c n k).set k (Pz (Jd (a.getD k 0)) (c.getD k 0))=NL a c n (k+1):=by
 unfold NL;rw[show n-k=(n-(k+1))+1 from by omega,KI _ _ _ _ (by simp),Az,AR];rfl
theorem Xi(x:Int):min (max x (-1000)) 1000=Jd x:=by unfold Jd;(repeat' split)<;>omega
theorem Zh(x:Int):(if 1000<(if x < -1000 then -1000 else x) then 1000 else (if x < -1000 then -1000 else x))=Jd x:=by unfold Jd;(repeat' split)<;>omega
theorem AbF(u:List Int)(n U:Nat)(a:Option Addr)(c:Nat)(w:World)(ha:Rd d w a u)(hl:u.length=n)(h1:1<=n)(hn:n<=4096)(hU:U<2147483648):
 Calls prog 200 #[V a n c, J d U] w fun e w'=>∃g,e= Y (V (G ⟨g,0,E⟩) n n)/\OwnI w' w.heap.size (V (G ⟨g,0,E⟩) n n) ((List.range n).map fun i=>Pz (Jd (u.getD i 0)) ((FG U n).getD i 0))/\Below w.heap.size w w':=by
 have HL:=hid hl;have ah:=fun wz=>Ub U n wz hU hn
 have R:=hid (Lv U n);clear hl;generalize ai:FG U n=N at*;clear ai;go_enter func200,ntmps200
 go_wp2_with(first
  | (refine FZ w.heap.size w n rfl _ _ rfl _ _ rfl rfl rfl rfl (by omega) (Ad _ _) (Ac _) ?_;intro w1 r Q ak X;clear X)
  | (go_at_call 222;refine(ah _).mono ?_;rintro e w2 ⟨v2,rfl,l,aa⟩;obtain⟨g2,c2,rfl,al,aj⟩:=l.AnS R.out h1)
  | (go_at_call 187;refine(QJ _ _).mono ?_;rintro e w9 ⟨rfl,rfl⟩))
 rw[show List.replicate n (0:Int)=NL u N n 0 by simp[NL]]at r;have am:w1.heap.size<=g2:=l.block.1;have ae:Below w.heap.size w w2:=Q.trans (aa.mono (by omega));have h:OwnI w2 w.heap.size (V (G ⟨w.heap.size,0,E⟩) n n) (NL u N n 0):=r.below aa
 go_loopw [19] (fun i wr=>∃k:Nat,k<=n/\i= J d k/\OwnI wr w.heap.size (V (G ⟨w.heap.size,0,E⟩) n n) (NL u N n k)/\Own wr w1.heap.size (V (G ⟨g2,0,E⟩) n c2) N/\Below w.heap.size w wr) (fun i _=>n-(intOf i).toNat)
 case atStart=>grind
 case round=>
  clear r h l;obtain⟨k,hk,rfl,h,l,C⟩:=hrel
  by_cases D:k<n
  ·have ad:=Yy u N hk;have gn:=l.cell (i:=k) (by rw[R.out];exact D);obtain⟨b3,o3,rfl,ab⟩:=(ha.below C).at (i:=k) (by rw[HL.out];exact D);have gh:=ab k (by rw[HL.out];exact D);have gs:=h.AmG (i:=k) (by rw[ad];exact D);have gf:=h.free k;have o:=AhY u N D;have af:=Alj (u.getD k 0);have ag:=Zh (u.getD k 0);have ac:=Xi (u.getD k 0);obtain⟨x, ex⟩ := E7 (u.getD k 0);obtain⟨y, ey⟩ := E7 (N.getD k 0);rw[<-ex]at gh o af ag ac;rw[<-ey]at gn o;obtain⟨z, ez⟩ := E7 ((NL u N n k).getD k 0);rw[<-ez]at gs;clear ex ey ez ab ad
   by_cases hy:y=1
   ·subst hy;have K:Pz (Jd x) 1= -(Jd x):=rfl;rw[K]at o;clear K;go_wp2;refine⟨⟨k+1,by omega,by go_num,?_,?_,?_⟩,by simp[intOf];omega⟩
    ·have Z:=(h.set k (Jd x)).set k (-(Jd x));rw[B9,o]at Z;exact Z
    ·exact(l.other _ _ _ (by omega)).other _ _ _ (by omega)
    ·exact(C.setCell (Ac _) _).setCell (Ac _) _
   ·have qy:(y==1)=H:=by simpa using hy
    have K:Pz (Jd x) y=Jd x:=by unfold Pz;rw[Aa hy]
    rw[K]at o;clear K hy;go_wp2;refine⟨⟨k+1,by omega,by go_num,?_,?_,?_⟩,by simp[intOf];omega⟩
    ·have Z:=h.set k (Jd x);rw[o]at Z;exact Z
    ·exact l.other _ _ _ (by omega)
    ·exact C.setCell (Ac _) _
  ·have e:k=n:=by omega
   subst e;have O:NL u N k k=(List.range k).map fun i=>Pz (Jd (u.getD i 0)) (N.getD i 0):=by simp[NL]
   rw[O]at h;clear O;go_wp2;go_ret;exact⟨_,rfl,h,C⟩
theorem AcK{o:Obj}(h:w.heap[g]?=G o):g<w.heap.size:=(Array.getElem?_eq_some_iff.1 h).1
theorem ReadyL.kept(h:ReadyL w)(a:Kept L w w')(r:9∉L)(u:11∉L)(x:10∉L):ReadyL w':=by
 obtain⟨⟨c,l,e1⟩,⟨e,o,e2⟩,⟨i,f3,e3⟩⟩:=h;exact⟨⟨c,l,(a.block _ (AcK e1) r).trans e1⟩,⟨e,o,(a.block _ (AcK e2) u).trans e2⟩,⟨i,f3,(a.block _ (AcK e3) x).trans e3⟩⟩
theorem Ua{e:TypeId}{fr:Nat×Nat}{r:List Value}{k:IntKind}{x:Int}{l:List Value}{a:Option Addr}{c:Nat}(h:w.heap[g]?=G (.cells (Value.int k x::l).toArray T fr))(i:BoxR w b e r (V a n c)):g∉[b]:=by grind [BoxR]
theorem AnV{l:List Int}(h:∀k, -1000<=l.getD k 0/\l.getD k 0<=1000):Fy l=W:=by
 unfold Fy;refine AM.2 fun x a=>?_
 obtain⟨i,hi,rfl⟩:=A5 a;have e:l.getD i 0=l[i]:=by simp[List.getD,hi]
 grind
theorem Ai3(ps:List (Int×Int))(O n N:Nat)(a:Option Addr)(c:Nat)(w:World)(x:Pts w a ps)(r:ps.length=n)(K:O=2\/O=4\/O=6)(u:N=n*O)(l:IR ps (O:Int)=W):
 Calls prog 198 #[V a n c, J d O] w fun e w'=>∃g,e= Y (.tuple #[V (G ⟨g,0,E⟩) N N, J d 0])/\ArrAt d 3 w' g (Jq (O / 2) O ps ps.length)/\Below w.heap.size w w':=by
 have i:=l;unfold IR at i;rw[BD,BD,Bq]at i;obtain⟨⟨-,D⟩,C⟩:=i;have o:N<=4096:=by
  grind
 refine(Age ps (O / 2) O n N a c w x (by omega) (by omega) (by omega) r u o l).mono fun e w' h=>?_
 obtain⟨g,rfl,z,y⟩:=h;refine⟨g,rfl,?_,y⟩;have e1:Jg (IE (O / 2)) (O / 2) ps n=Jq (O / 2) O ps ps.length:=by
  subst r
  have:=Aav (h:=O / 2) (by omega) (by omega) (ps:=ps) (fun k Q=>by
   grind)
  grind
 rw[<-e1];exact z.arr.1
theorem Ac5(ps:List (Int×Int))(a:Option Addr)(n c:Nat)(v:Int)(hR:ReadyL w)(hE:EarP w ⟨b,0,E⟩ F S B sm)(hS:SetOk S B)(b4:(sm.length:Int)=Ij S B)(b5:Fy sm=W)(hP:Pts w a ps)(hn:ps.length=n)(b6:n<=8796093022208)(ad:Lo S ps v=W):
 Calls prog 164 #[A (G ⟨b,0,E⟩), V a n c, J d v] w fun e w'=>e= Y (Kw S B sm ps v).val/\∃F',EarP w' ⟨b,0,E⟩ F' S B (Jj S sm ps v)/\(∀x∈F',x∈F\/w.heap.size<=x)/\Kept [b] w w':=by
 have ax:prog.follows .mixedOrders=W:=by kernel_rfl
 have ah:Hid (∀y,Below w.heap.size w y->y.cell? ⟨b,1,E⟩=G (J d S.code)/\y.cell? ⟨b,2,E⟩=G (J d S.size)/\y.cell? ⟨b,3,E⟩=G (J d S.order)/\y.cell? ⟨b,4,E⟩=G (J d S.seed)/\y.cell? ⟨b,5,E⟩=G (J d S.count)/\y.cell? ⟨b,6,E⟩=G (J d (B:Int))):=fun y hz=>by
  obtain⟨b',g,e, -, -,am, -⟩:=(hE.old hz).block
  cases e;exact VV am
 obtain⟨c1,c2,c3,c4,c5,c6⟩:=ah.out w (Ad _ _);have bu:Hid (∀w1,Kept [b] w w1->ReadyL w1):=fun w1 hk=>by
  obtain⟨⟨T1,f1,e1⟩,⟨T2,f2,e2⟩,⟨T3,f3,e3⟩⟩:=id hR;obtain⟨b',g,e, -, -,am, -⟩:=hE.block
  cases e;exact hR.kept hk (Ua e1 am) (Ua e2 am) (Ua e3 am)
 have b1:LO v=W/\IR ps S.order=W:=by unfold Lo at ad;rwa [BD]at ad
 obtain⟨hv,hh⟩:=b1;have ap:=fun y=>Sn v y hv
 have br:=hS.order;have b7:=hS.count;have bs:=hS.seed;obtain⟨O,eO⟩:∃O:Nat,S.order=O:=⟨S.order.toNat,by omega⟩;obtain⟨C,eC⟩:∃C:Nat,S.count=C:=⟨S.count.toNat,by omega⟩;obtain⟨U,eU⟩:∃U:Nat,S.seed=U:=⟨S.seed.toNat,by omega⟩;rw[eO]at hh c3;rw[eC]at c5;obtain⟨N, eN⟩ := E7 (n*O);have bf:=Ai3 ps O n N a c w hP hn (by omega) eN hh;have bx:N<=4096:=by
  have h5:=(Agf hh).1
  grind
 have ag:Kw S B sm ps v=if (N:Int)≠(C:Int) then ⟨ByteArray.empty,H,3⟩ else if Fy (GV sm (I6 S ps) v)=H then ⟨ByteArray.empty,H,2⟩ else Mk S B (GV sm (I6 S ps) v):=by
  unfold Kw
  grind
 have af:Jj S sm ps v=if (N:Int)≠(C:Int)\/Fy (GV sm (I6 S ps) v)=H then sm else GV sm (I6 S ps) v:=by
  unfold Jj
  grind
 by_cases bm:N=C
 ·have qN:((N:Int) !=(C:Int))=H:=by simp[bm]
  subst bm;have aa:Kw S B sm ps v=if Fy (GV sm (I6 S ps) v)=H then ⟨ByteArray.empty,H,2⟩ else Mk S B (GV sm (I6 S ps) v):=by rw[ag,Aa (by simp)]
  have Z:Jj S sm ps v=if Fy (GV sm (I6 S ps) v)=H then sm else GV sm (I6 S ps) v:=by rw[af];simp
  have ak:I6 S ps=(List.range N).map fun i=>Pz (Jd ((Jq (O / 2) O ps ps.length).getD i 0)) ((FG U N).getD i 0):=by
   unfold I6;rw[eO,eC,eU,AN,AN,AN]
  have bb:=Ams S ps;have bc:(I6 S ps).length=N:=by rw[Yv,eC,AN]
  obtain⟨T, eT⟩ := E7 (I6 S ps);rw[<-eT]at ak bb bc aa Z;have b0:=AnV bb;have ab:OD T v=W:=by unfold OD;grind
  obtain⟨M,eM,bv,bw⟩:=To hS;have bn:∀(y:World),Below w.heap.size w y->∀g,ArrAt d 3 y g T->Calls prog 199 #[A (G ⟨b,0,E⟩), V (G ⟨g,0,E⟩) N N, J d v] y fun e w'=>∃S',e= Y (J d (Iw sm T v))/\BufR 343 (L8 S B) w' ⟨b,0,E⟩ S' (Qk sm T v)/\(∀x∈S',x∈F\/y.heap.size<=x)/\Kept [b] y w':=fun y hz g ha=>by
   have h:=Ak4 (G ⟨g,0,E⟩) N T v (hR.below hz).col (hE.old hz) (by omega) (by omega) b5 (ArrAt.rdL ha) (by rw[bc];unfold maxLen;omega);rw[bc]at h;exact h
  have bt:∀(y:World) (g:Nat),Rd d y (G ⟨g,0,E⟩) (Jq (O / 2) O ps ps.length)->Calls prog 200 #[V (G ⟨g,0,E⟩) N N, J d (U:Int)] y fun e w'=>∃g',e= Y (V (G ⟨g',0,E⟩) N N)/\OwnI w' y.heap.size (V (G ⟨g',0,E⟩) N N) T/\Below y.heap.size y w':=fun y g r=>by
   have b2:(Jq (O / 2) O ps ps.length).length=N:=by
    rw[Vg _ _ _ _ (Ac _),hn,eN]
   have h:=AbF (Jq (O / 2) O ps ps.length) N U (G ⟨g,0,E⟩) N y r b2 (by omega) bx (by omega);rw[<-ak]at h;exact h
  have HU:=hid eU;have aq:Hid (S.count=(N:Int)):=eC;clear ak bb eM bv bw ag af ad hh hv eO eC eU br bs b0 eT eN;have ao:∀{w1:World} {F':List Nat} {X:List Int},BufR 343 (L8 S B) w1 ⟨b,0,E⟩ F' X->EarP w1 ⟨b,0,E⟩ F' S B X:=fun h=>h
  cases hq:Fy (GV sm T v)with
  | false=>
   have bd:Iw sm T v=2:=by unfold Iw;rw[ab,hq];rfl
   have ar:Qk sm T v=sm:=by unfold Qk;rw[ab,hq];rfl
   rw[aa,Z,Ab hq,Ab hq];unfold Told.val;clear hq ab aa Z;go_enter func164,ntmps164
   go_wp2_with(first | (go_at_call 186;refine(ap _).mono ?_;rintro e w2 ⟨rfl,rfl⟩) | (go_at_call 198;refine bf.mono ?_;rintro e wh ⟨gh,rfl,al,l⟩;have av:=ArrAt.rdL al;obtain⟨d1,d2,d3,d4,d5,d6⟩:=ah.out wh l;rw[aq.out]at d5) | fail)
   refine Bi (II (Q:=fun e a' w'=>e=.normal/\∃σ:Nat->Value,a'=({tmps:=(((Ft _ (tbS [38,39,40,41,42,43,44,45,46,47,48] 11 σ)).set 49 (J d (Iw sm T v))).set 11 (J d (Iw sm T v))).toArray,defers:=[]}:Act)/\∃F',BufR 343 (L8 S B) w' ⟨b,0,E⟩ F' (Qk sm T v)/\(∀x∈F',x∈F\/w.heap.size<=x)/\Kept [b] w w') 13 11 [38,39,40,41,42,43,44,45,46,47,48]
    [[0],[38],[39],[10],[0],[42],[43],[44],[45],[41,46],[2]] [1,2,11,9,5,6,7,8,9,11,11]
    [eqR (A (G ⟨b,0,E⟩)),eqR (A (G ⟨b,0,E⟩)),eqR (A (G ⟨b,0,E⟩)),eqR (V (G ⟨gh,0,E⟩) N N),eqR (A (G ⟨b,0,E⟩)),eqR (A (G ⟨b,0,E⟩)),eqR (A (G ⟨b,0+1,E⟩)),eqR (A (G ⟨b,0+1+3,E⟩)),eqR (J d (U:Int)),AdW N T,eqR (J d v)] wh ax rfl (by decide) rfl (by decide) (by kernel_rfl) (by kernel_rfl) (by kernel_rfl) (by kernel_rfl) (by kernel_rfl) (by kernel_rfl)
    (by intro R hR;simp only[Ar,Bt,BF]at hR;rcases hR with rfl | rfl | rfl | rfl | rfl | rfl | rfl | rfl | rfl | rfl | rfl<;>(first | (exact Lp _) | (exact RL _ _)))
    (fun i' b3 σ ac wc o u r Q K D=>by
     have bi:i'=0\/i'=1\/i'=2\/i'=3\/i'=4\/i'=5\/i'=6\/i'=7\/i'=8\/i'=9\/i'=10:=by omega
     rcases bi with rfl | rfl | rfl | rfl | rfl | rfl | rfl | rfl | rfl | rfl | rfl
     ·have e0:=r 0 (by decide);exact E6 rfl rfl (Fd wc rfl e0) (D _ wc (Fb wc) rfl)
     ·have az:ac.eval (.tmp 38)=(A (G ⟨b,0,E⟩)):=(r 38 (by decide)).trans (u 0 (by decide) (by kernel_rfl));exact E6 rfl rfl (Ie wc rfl az) (D _ wc (Fb wc) rfl)
     ·have a0:ac.eval (.tmp 39)=(A (G ⟨b,0,E⟩)):=(r 39 (by decide)).trans (u 1 (by decide) (by kernel_rfl));exact E6 rfl rfl (Nu wc rfl a0) (D _ wc (Fb wc) rfl)
     ·have ay:=r 10 (by decide);exact E6 rfl rfl (Fd wc rfl ay) (D _ wc (Fb wc) rfl)
     ·have e0:=r 0 (by decide);exact E6 rfl rfl (Fd wc rfl e0) (D _ wc (Fb wc) rfl)
     ·have a2:ac.eval (.tmp 42)=(A (G ⟨b,0,E⟩)):=(r 42 (by decide)).trans (u 4 (by decide) (by kernel_rfl));exact E6 rfl rfl (Ie wc rfl a2) (D _ wc (Fb wc) rfl)
     ·have a3:ac.eval (.tmp 43)=(A (G ⟨b,0,E⟩)):=(r 43 (by decide)).trans (u 5 (by decide) (by kernel_rfl));exact E6 rfl rfl (Nv wc rfl a3) (D _ wc (Fb wc) rfl)
     ·have a4:ac.eval (.tmp 44)=(A (G ⟨b,0+1,E⟩)):=(r 44 (by decide)).trans (u 6 (by decide) (by kernel_rfl));exact E6 rfl rfl (OA wc rfl a4) (D _ wc (Fb wc) rfl)
     ·have a5:ac.eval (.tmp 45)=(A (G ⟨b,0+1+3,E⟩)):=(r 45 (by decide)).trans (u 7 (by decide) (by kernel_rfl));obtain⟨-, -, -,c4, -, -⟩:=ah.out wc (l.trans (o.mono l.size));exact E6 rfl rfl (F5 wc rfl a5 (HU.out▸c4)) (D _ wc (Fb wc) rfl)
     ·have a1:ac.eval (.tmp 41)=(V (G ⟨gh,0,E⟩) N N):=(r 41 (by decide)).trans (u 3 (by decide) (by kernel_rfl));have a6:ac.eval (.tmp 46)=(J d (U:Int)):=(r 46 (by decide)).trans (u 8 (by decide) (by kernel_rfl));refine FM rfl rfl rfl (enters_of func200 (by kernel_rfl) rfl) (Oj a1 a6) (bt wc _ (av.below o)) fun e w' ae=>?_
      obtain⟨aj,rfl,an,be⟩:=ae;exact⟨_,rfl,D _ w' (FX be) (show AdW N T _ _ from⟨aj,rfl,an.arr.1⟩)⟩
     ·have e2:=r 2 (by decide)
      exact E6 rfl rfl (Fd wc rfl e2) (D _ wc (Fb wc) rfl))
    (fun σ wc o u=>by
     obtain⟨aj,bk,a7⟩:=u 9 (by decide);refine FM rfl rfl rfl (enters_of func199 (by kernel_rfl) rfl) (Z5 ((Fj (t:=tbS [38,39,40,41,42,43,44,45,46,47,48] 11 σ) 40 (show([38,39,40,41,42,43,44,45,46,47,48]:List Nat).Nodup by decide) (by kernel_rfl)).trans (u 2 (by decide))) ((Fj (t:=tbS [38,39,40,41,42,43,44,45,46,47,48] 11 σ) 47 (show([38,39,40,41,42,43,44,45,46,47,48]:List Nat).Nodup by decide) (by kernel_rfl)).trans bk) ((Fj (t:=tbS [38,39,40,41,42,43,44,45,46,47,48] 11 σ) 48 (show([38,39,40,41,42,43,44,45,46,47,48]:List Nat).Nodup by decide) (by kernel_rfl)).trans (u 10 (by decide)))) (bn wc (l.trans (o.mono l.size)) _ a7) fun e w' ae=>?_
     obtain⟨F',rfl,a8,a9,bg⟩:=ae;refine⟨_,rfl,?_⟩;refine E6 rfl rfl (G5 w' rfl (v:= J d (Iw sm T v)) (Act.eval_put_same _ _ _ (by simp[Jh]))) ?_;refine⟨rfl,σ,?_,F',a8,fun x hx=>?_,?_⟩
     ·exact(congrArg (fun a=>Act.put a (G 11) (J d (Iw sm T v))) (G4 _ 49 _)).trans (G4 _ 11 _)
     ·rcases a9 x hx with h | h
      ·exact .inl h
      ·exact .inr (Ak (Ak l.size o.size) h)
     ·exact(Kept.E5 (l.trans (o.mono l.size))).trans bg)) ?_
   rintro e a' w1 ⟨rfl,z,rfl,F',ai,ba,au⟩;rw[show tbS [38,39,40,41,42,43,44,45,46,47,48] 11 z=[(38,z 0),(39,z 1),(40,z 2),(41,z 3),(42,z 4),(43,z 5),(44,z 6),(45,z 7),(46,z 8),(47,z 9),(48,z 10)]from rfl];dsimp only[Ft,List.set,List.append_nil,List.cons_append,List.nil_append];rw[bd]at*;rw[ar]at ai
   go_wp2_with fail
   go_ret3;exact⟨rfl,F',ao ai,ba,au⟩
  | true=>
   have bd:Iw sm T v=0:=by unfold Iw;rw[ab,hq];rfl
   have ar:Qk sm T v=GV sm T v:=by unfold Qk;rw[ab,hq];rfl
   rw[aa,Z,Aa (by rw[hq];simp),Aa (by rw[hq];simp)];have bq:((GV sm T v).length:Int)=Ij S B:=by rw[QK];exact b4
   have aw:∀{w1:World} {F':List Nat},EarP w1 ⟨b,0,E⟩ F' S B (GV sm T v)->ReadyL w1->Calls prog 201 #[A (G ⟨b,0,E⟩)] w1 fun e w'=>e= Y (.tuple #[.string (Mk S B (GV sm T v)).data, I (Mk S B (GV sm T v)).ok])/\Below w1.heap.size w1 w':=fun h1 h2=>AkF h1 h2 hS bq hq
   have bj:(Mk S B (GV sm T v)).err=0:=by unfold Mk;split<;>rfl
   obtain⟨X, eX⟩ := E7 (GV sm T v);rw[<-eX]at aw bj ar ⊢;obtain⟨tt, bl⟩ := E7 (Mk S B X);rw[<-bl]at aw bj ⊢;clear bl;obtain⟨da,bo,er⟩:=tt;obtain rfl:er=0:=bj;unfold Told.val;dsimp only at aw ⊢;clear hq ab aa Z bq eX;go_enter func164,ntmps164
   go_wp2_with(first | (go_at_call 186;refine(ap _).mono ?_;rintro e w2 ⟨rfl,rfl⟩) | (go_at_call 198;refine bf.mono ?_;rintro e wh ⟨gh,rfl,al,l⟩;have av:=ArrAt.rdL al;obtain⟨d1,d2,d3,d4,d5,d6⟩:=ah.out wh l;rw[aq.out]at d5) | fail)
   refine Bi (II (Q:=fun e a' w'=>e=.normal/\∃σ:Nat->Value,a'=({tmps:=(((Ft _ (tbS [38,39,40,41,42,43,44,45,46,47,48] 11 σ)).set 49 (J d (Iw sm T v))).set 11 (J d (Iw sm T v))).toArray,defers:=[]}:Act)/\∃F',BufR 343 (L8 S B) w' ⟨b,0,E⟩ F' (Qk sm T v)/\(∀x∈F',x∈F\/w.heap.size<=x)/\Kept [b] w w') 13 11 [38,39,40,41,42,43,44,45,46,47,48]
    [[0],[38],[39],[10],[0],[42],[43],[44],[45],[41,46],[2]] [1,2,11,9,5,6,7,8,9,11,11]
    [eqR (A (G ⟨b,0,E⟩)),eqR (A (G ⟨b,0,E⟩)),eqR (A (G ⟨b,0,E⟩)),eqR (V (G ⟨gh,0,E⟩) N N),eqR (A (G ⟨b,0,E⟩)),eqR (A (G ⟨b,0,E⟩)),eqR (A (G ⟨b,0+1,E⟩)),eqR (A (G ⟨b,0+1+3,E⟩)),eqR (J d (U:Int)),AdW N T,eqR (J d v)] wh ax rfl (by decide) rfl (by decide) (by kernel_rfl) (by kernel_rfl) (by kernel_rfl) (by kernel_rfl) (by kernel_rfl) (by kernel_rfl)
    (by intro R hR;simp only[Ar,Bt,BF]at hR;rcases hR with rfl | rfl | rfl | rfl | rfl | rfl | rfl | rfl | rfl | rfl | rfl<;>(first | (exact Lp _) | (exact RL _ _)))
    (fun i' b3 σ ac wc o u r Q K D=>by
     have bi:i'=0\/i'=1\/i'=2\/i'=3\/i'=4\/i'=5\/i'=6\/i'=7\/i'=8\/i'=9\/i'=10:=by omega
     rcases bi with rfl | rfl | rfl | rfl | rfl | rfl | rfl | rfl | rfl | rfl | rfl
     ·have e0:=r 0 (by decide);exact E6 rfl rfl (Fd wc rfl e0) (D _ wc (Fb wc) rfl)
     ·have az:ac.eval (.tmp 38)=(A (G ⟨b,0,E⟩)):=(r 38 (by decide)).trans (u 0 (by decide) (by kernel_rfl));exact E6 rfl rfl (Ie wc rfl az) (D _ wc (Fb wc) rfl)
     ·have a0:ac.eval (.tmp 39)=(A (G ⟨b,0,E⟩)):=(r 39 (by decide)).trans (u 1 (by decide) (by kernel_rfl));exact E6 rfl rfl (Nu wc rfl a0) (D _ wc (Fb wc) rfl)
     ·have ay:=r 10 (by decide);exact E6 rfl rfl (Fd wc rfl ay) (D _ wc (Fb wc) rfl)
     ·have e0:=r 0 (by decide);exact E6 rfl rfl (Fd wc rfl e0) (D _ wc (Fb wc) rfl)
     ·have a2:ac.eval (.tmp 42)=(A (G ⟨b,0,E⟩)):=(r 42 (by decide)).trans (u 4 (by decide) (by kernel_rfl));exact E6 rfl rfl (Ie wc rfl a2) (D _ wc (Fb wc) rfl)
     ·have a3:ac.eval (.tmp 43)=(A (G ⟨b,0,E⟩)):=(r 43 (by decide)).trans (u 5 (by decide) (by kernel_rfl));exact E6 rfl rfl (Nv wc rfl a3) (D _ wc (Fb wc) rfl)
     ·have a4:ac.eval (.tmp 44)=(A (G ⟨b,0+1,E⟩)):=(r 44 (by decide)).trans (u 6 (by decide) (by kernel_rfl));exact E6 rfl rfl (OA wc rfl a4) (D _ wc (Fb wc) rfl)
     ·have a5:ac.eval (.tmp 45)=(A (G ⟨b,0+1+3,E⟩)):=(r 45 (by decide)).trans (u 7 (by decide) (by kernel_rfl));obtain⟨-, -, -,c4, -, -⟩:=ah.out wc (l.trans (o.mono l.size));exact E6 rfl rfl (F5 wc rfl a5 (HU.out▸c4)) (D _ wc (Fb wc) rfl)
     ·have a1:ac.eval (.tmp 41)=(V (G ⟨gh,0,E⟩) N N):=(r 41 (by decide)).trans (u 3 (by decide) (by kernel_rfl));have a6:ac.eval (.tmp 46)=(J d (U:Int)):=(r 46 (by decide)).trans (u 8 (by decide) (by kernel_rfl));refine FM rfl rfl rfl (enters_of func200 (by kernel_rfl) rfl) (Oj a1 a6) (bt wc _ (av.below o)) fun e w' ae=>?_
      obtain⟨aj,rfl,an,be⟩:=ae;exact⟨_,rfl,D _ w' (FX be) (show AdW N T _ _ from⟨aj,rfl,an.arr.1⟩)⟩
     ·have e2:=r 2 (by decide)
      exact E6 rfl rfl (Fd wc rfl e2) (D _ wc (Fb wc) rfl))
    (fun σ wc o u=>by
     obtain⟨aj,bk,a7⟩:=u 9 (by decide);refine FM rfl rfl rfl (enters_of func199 (by kernel_rfl) rfl) (Z5 ((Fj (t:=tbS [38,39,40,41,42,43,44,45,46,47,48] 11 σ) 40 (show([38,39,40,41,42,43,44,45,46,47,48]:List Nat).Nodup by decide) (by kernel_rfl)).trans (u 2 (by decide))) ((Fj (t:=tbS [38,39,40,41,42,43,44,45,46,47,48] 11 σ) 47 (show([38,39,40,41,42,43,44,45,46,47,48]:List Nat).Nodup by decide) (by kernel_rfl)).trans bk) ((Fj (t:=tbS [38,39,40,41,42,43,44,45,46,47,48] 11 σ) 48 (show([38,39,40,41,42,43,44,45,46,47,48]:List Nat).Nodup by decide) (by kernel_rfl)).trans (u 10 (by decide)))) (bn wc (l.trans (o.mono l.size)) _ a7) fun e w' ae=>?_
     obtain⟨F',rfl,a8,a9,bg⟩:=ae;refine⟨_,rfl,?_⟩;refine E6 rfl rfl (G5 w' rfl (v:= J d (Iw sm T v)) (Act.eval_put_same _ _ _ (by simp[Jh]))) ?_;refine⟨rfl,σ,?_,F',a8,fun x hx=>?_,?_⟩
     ·exact(congrArg (fun a=>Act.put a (G 11) (J d (Iw sm T v))) (G4 _ 49 _)).trans (G4 _ 11 _)
     ·rcases a9 x hx with h | h
      ·exact .inl h
      ·exact .inr (Ak (Ak l.size o.size) h)
     ·exact(Kept.E5 (l.trans (o.mono l.size))).trans bg)) ?_
   rintro e a' w1 ⟨rfl,z,rfl,F',ai,ba,au⟩;rw[show tbS [38,39,40,41,42,43,44,45,46,47,48] 11 z=[(38,z 0),(39,z 1),(40,z 2),(41,z 3),(42,z 4),(43,z 5),(44,z 6),(45,z 7),(46,z 8),(47,z 9),(48,z 10)]from rfl];dsimp only[Ft,List.set,List.append_nil,List.cons_append,List.nil_append];rw[bd]at*;rw[ar]at ai;have bz:ReadyL w1:=bu.out w1 au
   go_wp2_with(first | (go_at_call 201;refine(aw (ao ai) bz).mono ?_;rintro e w4 ⟨rfl,bp⟩) | fail)
   go_ret3;exact⟨rfl,F',(ao ai).old bp,ba,au.trans (Kept.E5 bp)⟩
 ·have qN:((N:Int) !=(C:Int))=W:=by grind
  have bh:(N:Int)≠(C:Int):=by grind
  rw[ag,af,Ab bh,Ab (Or.inl bh)];unfold Told.val;have aq:=hid eC;clear ag af bh ad hh hv eO eC eU br bs eN;go_enter func164,ntmps164
  go_wp2_with(first | (go_at_call 186;refine(ap _).mono ?_;rintro e w2 ⟨rfl,rfl⟩) | (go_at_call 198;refine bf.mono ?_;rintro e wh ⟨gh,rfl,al,l⟩;have av:=ArrAt.rdL al;obtain⟨d1,d2,d3,d4,d5,d6⟩:=ah.out wh l;rw[aq.out]at d5) | fail)
  go_ret3;exact⟨rfl,F,hE.old l,fun x hx=> .inl hx,Kept.E5 l⟩
def P9 (v:Int):Bool:=decide (0<=v/\v<=3)
def Hd (p:Int):Int:=if 0<=p/\p<=7 then 0 else 1
theorem SU(a:Below w.heap.size w w')(h:w.cell? p=G v):w'.cell? p=G v:=(a.cell (Aj w _ h)).trans h
theorem IU{a:Func}{t u v x:Tmp}(h:a.results=#[.tmp t,.tmp u,.tmp v,.tmp x])(tmps:Array Value)(P:Program)(w:World):
 (results a tmps).run P w=.ok (.tuple #[tmps.getD t undef,tmps.getD u undef,tmps.getD v undef,tmps.getD x undef]) w:=by
 simp[results,h]
structure ShotM where
 process:Int
 version:Int
 flag:Bool
 data:ByteArray
def ShotM.val(x:ShotM):Value:=.agg #[J d x.process, J d x.version, I x.flag,.string x.data]
def RF (x:ShotM):Bool:=decide (0<=x.process/\x.process<=7/\0<=x.version/\x.version<=3)
structure RecvM where
 flag:List Bool
 heard:List Bool
def RecvM.new:RecvM:=⟨List.replicate 8 H,List.replicate 8 W⟩
def RecvM.ok(r:RecvM):Prop:=r.flag.length=8/\r.heard.length=8
def RecvM.turned(r:RecvM)(x:ShotM):RecvM:=if r.flag.getD x.process.toNat H=x.flag then r else ⟨r.flag.set x.process.toNat x.flag,r.heard.set x.process.toNat H⟩
structure TookM where
 data:ByteArray
 fresh:Bool
 yes:Bool
 err:Int
def TookM.val(t:TookM):Value:=.tuple #[.string t.data, I t.fresh, I t.yes, J d t.err]
def RecvM.J7(r:RecvM)(x:ShotM)(heard:Bool):TookM:=
 if RF x=H then ⟨ByteArray.empty,H,H,1⟩ else if 1500<x.data.size then ⟨ByteArray.empty,H,H,2⟩
 else if (r.turned x).heard.getD x.process.toNat H then ⟨ByteArray.empty,H,W,0⟩ else if heard then ⟨x.data,W,W,0⟩ else ⟨ByteArray.empty,H,H,0⟩
def RecvM.next(r:RecvM)(x:ShotM)(heard:Bool):RecvM:=
 if RF x=H\/1500<x.data.size then r else if heard then ⟨(r.turned x).flag,(r.turned x).heard.set x.process.toNat W⟩ else r.turned x
def RTakes(t:TypeId)(w:World)(g:Nat)(r:RecvM):Prop:=w.heap[g]?=G (.cells ((r.flag++r.heard).map Value.bool).toArray t (0,0))/\r.ok
theorem RTakes.lt{r:RecvM}(h:RTakes t w g r):g<w.heap.size:=(Array.getElem?_eq_some_iff.1 h.1).1
theorem RTakes.drew{r:RecvM}(h:RTakes t w g r):RTakes t w.drew g r:=⟨h.1,h.2⟩
theorem RTakes.kept{r:RecvM}(h:RTakes t w g r)(a:∀i,i<w.heap.size->i∉L->w'.heap[i]?=w.heap[i]?)(hg:g∉L):RTakes t w' g r:=⟨(a g h.lt hg).trans h.1,h.2⟩
theorem RTakes.flag{r:RecvM}(h:RTakes t w g r)(i:k<8):w.cell? ⟨g,k,E⟩=G (I (r.flag.getD k H)):=by
 obtain⟨a,c,e⟩:=h;rw[Al _ _ _ _ _ _ a]
 grind
theorem RTakes.heard{r:RecvM}(h:RTakes t w g r)(i:k<8):w.cell? ⟨g,8+k,E⟩=G (I (r.heard.getD k H)):=by
 obtain⟨a,c,e⟩:=h;rw[Al _ _ _ _ _ _ a]
 grind
theorem RTakes.Yn{r:RecvM}(h:RTakes t w g r)(i:k<8)(b:Bool):RTakes t (w.setCell ⟨g,k,E⟩ (I b)) g ⟨r.flag.set k b,r.heard⟩:=by
 obtain⟨e,a,c⟩:=h;refine⟨(BK w g k _ _ (I b) e).trans ?_,by simp[a],c⟩;simp[DL,a,i]
theorem RTakes.QZ{r:RecvM}(h:RTakes t w g r)(c:k<8)(b:Bool):RTakes t (w.setCell ⟨g,8+k,E⟩ (I b)) g ⟨r.flag,r.heard.set k b⟩:=by
 obtain⟨i,a,e⟩:=h;refine⟨(BK w g (8+k) _ _ (I b) i).trans ?_,a,by simp[e]⟩;simp[Cq,a]
def Me (k:Nat):List Bool:=List.replicate k W++List.replicate (8-k) H
theorem ZJ(h:k<8):(Me k).set k W=Me (k+1):=by
 unfold Me;rw[show 8-k=(8-(k+1))+1 by omega,Cq _ _ (by simp),Dy];simp[List.replicate_succ',Bg]
theorem RTakes.free{r:RecvM}(h:RTakes t w g r)(k:Nat):w.frozen? ⟨g,k,E⟩=H:=Bz w g k _ _ h.1
theorem Rz(w:World):Calls prog 129 #[] w fun e w'=>∃g,e= Y (A (G ⟨g,0,E⟩))/\w.heap.size<=g/\RTakes 302 w' g RecvM.new/\Below w.heap.size w w':=by
 go_enter func129,ntmps129
 go_wp2_with fail;have r:RTakes 302 (w.alloc (.cells #[I H, I H, I H, I H, I H, I H, I H, I H, I H, I H, I H, I H, I H, I H, I H, I H] 302)) w.heap.size ⟨List.replicate 8 H,Me 0⟩:=⟨Am w _,by simp,by simp[Me]⟩;have h:Below w.heap.size w (w.alloc (.cells #[I H, I H, I H, I H, I H, I H, I H, I H, I H, I H, I H, I H, I H, I H, I H, I H] 302)):=(Ad _ w).alloc (Ac _) _
 go_loopw [2,5] (fun z i wr=>∃k:Nat,k<=8/\i= J d k/\RTakes 302 wr w.heap.size ⟨List.replicate 8 H,Me k⟩/\Below w.heap.size w wr) (fun z i _=>8-(intOf i).toNat)
 case atStart=>exact⟨0,by omega,rfl,r,h⟩
 case round=>
  clear r h;obtain⟨k,C,rfl,c,o⟩:=hrel
  by_cases a:k<8
  ·have x:=c.heard a;have y:=c.free (8+k);have l:=c.QZ a W;rw[show(RecvM.mk (List.replicate 8 H) (Me k)).heard.set k W=Me (k+1)from ZJ a]at l;have u:=o.setCell (p:=⟨w.heap.size,8+k,E⟩) (Ac _) (I W);clear c o
   go_wp2_with fail
   go_roundw
   case rel=>grind
   case measure=>simp[intOf];omega
  ·have e:k=8:=by omega
   subst e
   go_wp2_with fail;go_ret;exact⟨_,rfl,Ac _,c,o⟩
theorem Abl{l:List Bool}(h:l.getD k H=W):l.set k W=l:=by
 refine AW (by simp) fun i a c=>?_
 grind
theorem P5{a:Int}(e:Bool)(c:ByteArray)(h:k<8)(i:P9 a=W):RF ⟨(k:Int),a,e,c⟩=W:=by grind [P9,RF]
theorem AdJ(r:RecvM)(k:Nat)(c:Int)(e:Bool)(a:ByteArray)(hd:Bool)(h:k<8)(l:P9 c=W)(i:a.size<=1500):r.J7 ⟨(k:Int),c,e,a⟩ hd=if (r.turned ⟨(k:Int),c,e,a⟩).heard.getD k H then ⟨ByteArray.empty,H,W,0⟩ else if hd then ⟨a,W,W,0⟩ else ⟨ByteArray.empty,H,H,0⟩:=by grind [P9,RecvM.J7,P5]
theorem Ac8(r:RecvM)(k:Nat)(e:Int)(c:Bool)(a:ByteArray)(hd:Bool)(h:k<8)(i:P9 e=W)(l:a.size<=1500):r.next ⟨(k:Int),e,c,a⟩ hd=if hd then ⟨(r.turned ⟨(k:Int),e,c,a⟩).flag,(r.turned ⟨(k:Int),e,c,a⟩).heard.set k W⟩ else r.turned ⟨(k:Int),e,c,a⟩:=by
 unfold RecvM.next
 rw[P5 c a h i,Aa (by simp;omega)];rfl
theorem RTakes.old{r:RecvM}(h:RTakes t w g r)(a:Below w.heap.size w w'):RTakes t w' g r:=⟨(a.block g h.lt).trans h.1,h.2⟩
theorem JY(p:Int)(w:World):Calls prog 159 #[J d p] w fun e w'=>e= Y (J d (Hd p))/\w=w':=by
 by_cases c:p<0
 ·have a:=hid (show(1:Int)=Hd p by unfold Hd;rw[Aa (by omega)]);have i:decide (p<0)=W:=Ag c;clear c;go_enter func159,ntmps159;go_wp2;go_ret;exact⟨by rw[<-a.out];rfl,rfl⟩
 ·have i:decide (p<0)=H:=Ae c
  by_cases h:8<=p
  ·have a:=hid (show(1:Int)=Hd p by unfold Hd;rw[Aa (by omega)]);have l:decide (8<=p)=W:=Ag h;clear c h;go_enter func159,ntmps159;go_wp2;go_ret;exact⟨by rw[<-a.out];rfl,rfl⟩
  ·have a:=hid (show(0:Int)=Hd p by unfold Hd;rw[Ab (by omega)]);have l:decide (8<=p)=H:=Ae h;clear c h;go_enter func159,ntmps159;go_wp2;go_ret;exact⟨by rw[<-a.out];rfl,rfl⟩
end Go.Proofs.YtbjgfoiikhbonahGreatDoor
