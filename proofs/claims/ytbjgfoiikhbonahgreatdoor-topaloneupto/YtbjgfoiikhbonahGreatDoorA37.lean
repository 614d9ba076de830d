import Derived.Test.YtbjgfoiikhbonahGreatDoorA36
import Derived.Deep.DeepCutAuto
set_option linter.unusedVariables false
set_option linter.unusedSimpArgs false
set_option maxRecDepth 100000
set_option maxHeartbeats 4000000
namespace Go.Proofs.YtbjgfoiikhbonahGreatDoor
open Go.ChangeShapes Go.WideShapes Go.ChangeAt Go.RowKit Go.Proofs.Tryz
open Option renaming none->A,some->C
open Value renaming pointer->E,int->I,bool->J
open Bool renaming true->M
open Ending renaming returned->N
open Obj renaming cells->P
open IntKind renaming i64->R
variable {D:Nat->Nat->Option Cm}{G g k:Nat}{S:List Nat}{p:UsrP}{ps:List (Int×Int)}{w w0:World}
theorem OwnP.at{w:World}{B g n:Nat}{ps:List (Int×Int)}(h:OwnP w B (.slice (C ⟨g,0,A⟩) n n) ps):At w g 335 (Hf ps)/\B<=g/\ps.length=n/\n<=maxLen:=by
 rcases h.2 with⟨a,_⟩ | ⟨j,b,cur,a,d,hg,o,i,e,ht⟩
 ·simp at a
 ·simp only[Aq,Bl,BI,BJ]at a;obtain⟨rfl,c,rfl⟩:=a;refine⟨?_,d,c.symm,i⟩;unfold At;rw[hg,<-ht,Aw (by grind)]
def K3 (ps:List (Int×Int))(k:Nat):List (Int×Int):=(List.range ps.length).map fun i=>if i<k then (-(ps.getD i (0,0)).1, -(ps.getD i (0,0)).2) else ps.getD i (0,0)
theorem Gn(ps:List (Int×Int))(k:Nat):(K3 ps k).length=ps.length:=by simp[K3]
theorem Rb(ps:List (Int×Int))(k:Nat){i:Nat}(hi:i<ps.length):(K3 ps k).getD i (0,0)=if i<k then (-(ps.getD i (0,0)).1, -(ps.getD i (0,0)).2) else ps.getD i (0,0):=by simp[K3,List.getD,hi]
theorem Ad8(ps:List (Int×Int)):K3 ps 0=ps:=by
 refine AW (Gn _ _) fun i b a=>?_
 simp[K3,List.getD,a]
theorem Kg(ps:List (Int×Int))(i k:Nat)(hi:i<ps.length)(a:k<2):(Hf ps)[i*2+k]?=C (I R (if k=0 then (ps.getD i (0,0)).1 else (ps.getD i (0,0)).2)):=by
 induction ps generalizing i with
 | nil=>simp at hi
 | cons p r ih=>
  cases i with
  | zero=>rcases (show k=0\/k=1 by omega)with rfl | rfl<;>simp[Hf]
  | succ i=>
   have:=ih i (by simpa using hi);have e:(i+1)*2+k=(i*2+k)+2:=by omega
   rw[e]
   simpa [Hf]using this
theorem PH(ps:List (Int×Int)):(Hf ps).length=ps.length*2:=by induction ps with | nil=>rfl | cons p r ih=>simp only[Hf,Do,Ai,AE]at ih ⊢;simp at ih ⊢;omega
theorem Ad7(ps:List (Int×Int))(k:Nat)(c:k<ps.length):((Hf (K3 ps k)).set (k*2) (I R (-(ps.getD k (0,0)).1))).set (k*2+1) (I R (-(ps.getD k (0,0)).2))=Hf (K3 ps (k+1)):=by
 refine Bf fun j=>?_
 by_cases b:j<ps.length*2
 ·obtain⟨i,q,rfl,a⟩:∃i q,j=i*2+q/\q<2:=⟨j / 2,j % 2,by omega,by omega⟩;have hi:i<ps.length:=by omega
  rw[Kg _ i q (by rw[Gn];exact hi) a,Rb ps (k+1) hi,BW,BW];have d:(Hf (K3 ps k)).length=ps.length*2:=by rw[PH,Gn]
  by_cases e:i=k
  ·grind
  ·rw[Aa (by omega),Aa (by omega),Kg _ i q (by rw[Gn];exact hi) a,Rb ps k hi]
   grind
 ·rw[AY (by rw[An,An,PH,Gn];omega),AY (by rw[PH,Gn];omega)]
theorem An2(h:ps.all Kn=M)(k:Nat):(K3 ps k).all Kn=M:=by simp_all[Kn,K3];grind
def UR (r:Nat)(ps:List (Int×Int)):List (Int×Int):=K3 ps (min r ps.length)
theorem Afp{n r:Nat}{lo v:Bool}(c:At w G 335 (Hf ps))(B:ps.length=n)(u:ps.all Kn=M)(hm:n<=100000)(hr:r<=9223372036854775807):Calls prog 162 #[.agg #[J lo, J v, I R (r:Int)],.slice (C ⟨G,0,A⟩) n n] w fun e w'=>e= N (.tuple #[])/\At w' G 335 (Hf (UR r ps))/\Kept [G] w w':=by
 have h:Below w.heap.size w (w.alloc (P #[J lo, J v, I R (r:Int)] 49)):=(Ad _ w).alloc (Ac _) _;have x:=hid (show At (w.alloc (P #[J lo, J v, I R (r:Int)] 49)) G 335 (Hf (K3 ps 0))by rw[Ad8];exact c.kept (S:=[]) (Kept.E5 h) (by simp));have y:=hid h;have z:=hid u;have T:=hid B;obtain⟨K, F⟩ := E7 (min r n);have aa:min (r:Int) (n:Int)=(K:Int):=by omega
 have ab:max (K:Int) 0=(K:Int):=by omega
 have ac:K<=n:=by omega
 have H:(K:Int)<=(n:Int):=by omega
 have Q:=hid (show UR r ps=K3 ps K by unfold UR;rw[F,B]);clear c B u F h;go_enter func162,ntmps162;go_wp2;generalize (w.alloc (P #[J lo, J v, I R (r:Int)] 49))=wA at*
 go_loopw [13] (fun i wr=>∃k:Nat,k<=K/\i= I R (k:Int)/\At wr G 335 (Hf (K3 ps k))/\Kept [G] w wr) (fun i _=>K-(intOf i).toNat)
 case atStart=>exact⟨0,Af _,rfl,x.out,Kept.E5 y.out⟩
 case round=>
  obtain⟨k,hk,rfl,c,t⟩:=hrel;have j:=hid t;clear t
  by_cases ae:k<K
  ·have ad:(k:Int)<(n:Int):=by omega
   have a:k<ps.length:=by rw[T.out];omega
   have b:Kn (ps.getD k (0,0))=M:=AM.1 z.out _ (by grind);unfold Kn at b;rw[Bq]at b;have L:wr.cell? ⟨G,k*2,A⟩=C (I R (ps.getD k (0,0)).1):=by
    have:=c.cell (k*2+0);rw[Kg _ k 0 (by rw[Gn];exact a) (by omega),Rb ps k a,Aa (Bp _)]at this;exact this
   have O:wr.cell? ⟨G,k*2+1,A⟩=C (I R (ps.getD k (0,0)).2):=by
    have:=c.cell (k*2+1);rw[Kg _ k 1 (by rw[Gn];exact a) (by omega),Rb ps k a,Aa (Bp _)]at this;exact this
   have f0:=c.free (k*2);have f1:=c.free (k*2+1);have s:At ((wr.setCell ⟨G,k*2,A⟩ (I R (-(ps.getD k (0,0)).1))).setCell ⟨G,k*2+1,A⟩ (I R (-(ps.getD k (0,0)).2))) G 335 (Hf (K3 ps (k+1))):=by
    rw[<-Ad7 ps k a];exact(c.setCell _).setCell _
   have d:=hid s;obtain⟨⟨X,Y⟩,o⟩:∃q,q=ps.getD k (0,0):=⟨_,rfl⟩;rw[<-o]at L O b d;dsimp only at L O b d;clear o c s a;obtain⟨⟨q1,q2⟩,q3,q4⟩:=b;go_upto_region 4 with fail
   go_region;go_wp2;exact⟨⟨k+1,by omega,by go_num,d.out,((j.out.setCell (by simp) _).setCell (by simp) _).drew⟩,by simp[intOf];omega⟩
  ·obtain rfl:k=K:=by omega
   go_wp2
   go_end0;exact⟨rfl,by rw[Q.out];exact c,j.out⟩
theorem Aos(w:World):Calls prog 219 #[I R 1, I R 256] w fun e w'=>e= N (J M)/\w=w':=by
 go_enter func219,ntmps219;go_wp2;go_ret;exact⟨rfl,rfl⟩
theorem Aor(w:World):Calls prog 219 #[I R 0, I R 0] w fun e w'=>e= N (J M)/\w=w':=by
 go_enter func219,ntmps219;go_wp2;go_ret;exact⟨rfl,rfl⟩
theorem Aop(w:World):Calls prog 220 #[I R 2] w fun e w'=>e= N (J M)/\w=w':=by
 go_enter func220,ntmps220;go_wp2;go_ret;exact⟨rfl,rfl⟩
theorem Aoq(w:World):Calls prog 220 #[I R 4] w fun e w'=>e= N (J M)/\w=w':=by
 go_enter func220,ntmps220;go_wp2;go_ret;exact⟨rfl,rfl⟩
theorem Aoo(w:World):Calls prog 221 #[I R 256, I R 2] w fun e w'=>e= N (J M)/\w=w':=by
 go_enter func221,ntmps221;go_wp2;go_ret;exact⟨rfl,rfl⟩
theorem Aon(w:World):Calls prog 221 #[I R 600, I R 4] w fun e w'=>e= N (J M)/\w=w':=by
 go_enter func221,ntmps221;go_wp2;go_ret;exact⟨rfl,rfl⟩
theorem TS(O:k<=16)(w:World):Calls prog 185 #[(Ha k).val, I R 20] w fun e w'=>e= N (I R 0)/\Below w.heap.size w w':=by
 have u:=fun L=>Ub k 0 L (by omega) (by omega)
 have x:∀w,Calls prog 195 #[I R 20] w fun e w'=>e= N (I R (8*20+24))/\w=w':=fun w=>LE 20 w ⟨by omega,by omega⟩
 have s:prog.follows .mixedOrders=M:=by kernel_rfl
 unfold Ha Setg.val
 by_cases h:k % 2=1
 ·simp only[Ab h];clear h;go_enter func185,ntmps185
  go_wp2_with(first | (go_at_call 219;refine(Aor _).mono ?_;rintro e w1 ⟨rfl,rfl⟩) | (go_at_call 220;refine(Aoq _).mono ?_;rintro e w1 ⟨rfl,rfl⟩) | (go_at_call 221;refine(Aon _).mono ?_;rintro e w1 ⟨rfl,rfl⟩) | (go_at_call 222;refine(u _).mono ?_;rintro e w1 ⟨v1,rfl, -,c⟩;have j:=OM c 0;have n:=OM c 1;simp only[Eb,E0,Dt]at j n));have o:∀(wc:World),Below w1.heap.size w1 wc->∀q v,w1.cell? q=C v->wc.cell? q=C v:=fun wc b q v h=>(b.cell (Aj w1 _ h)).trans h
  refine Bi (Nr (Q:=fun e a' w'=>e=.normal/\a'=({tmps:=(_:List Value).toArray,defers:=[]}:Act)/\Below w1.heap.size w1 w') 9 42 (E (C ⟨w.heap.size,0,A⟩)) [(43, I R 0),(44, J false),(45, J false),(46,undef),(47,undef),(48,undef),(49,undef),(50,undef)]
   [[2],[42],[43],[44],[1,45],[46,45],[2,45],[48,45],[47,49,45]] [1,2,3,9,5,8,7,8,9] w1 s rfl rfl (show([42,43,44,45,46,47,48,49,50]:List Nat).Nodup by decide) (by kernel_rfl) (by kernel_rfl) (by kernel_rfl) (by kernel_rfl) (by kernel_rfl) (fun i B F wc b a Q K d=>by
   have z:i=0\/i=1\/i=2\/i=3\/i=4\/i=5\/i=6\/i=7\/i=8:=by omega
   rcases z with rfl | rfl | rfl | rfl | rfl | rfl | rfl | rfl | rfl
   ·exact E6 rfl rfl (UA wc rfl (a 2 (by decide))) (d wc (Fb wc))
   ·exact E6 rfl rfl (F5 wc rfl (a 42 (by decide)) (o wc b _ _ j)) (d wc (Fb wc))
   ·exact E6 rfl rfl (Aa6 wc rfl (a 43 (by decide)) rfl) (d wc (Fb wc))
   ·exact E6 rfl rfl (Fd wc rfl (a 44 (by decide))) (d wc (Fb wc))
   ·exact IH (want:=M) rfl rfl rfl rfl (a 45 (by decide)) (d wc (Fb wc))
   ·exact IH (want:=M) rfl rfl rfl rfl (a 45 (by decide)) (d wc (Fb wc))
   ·exact IH (want:=M) rfl rfl rfl rfl (a 45 (by decide)) (d wc (Fb wc))
   ·exact IH (want:=M) rfl rfl rfl rfl (a 45 (by decide)) (d wc (Fb wc))
   ·exact IH (want:=M) rfl rfl rfl rfl (a 45 (by decide)) (d wc (Fb wc)))
   (fun wc b=>by
    refine E6 rfl rfl (RC wc rfl (Fj 45 (show([42,43,44,45,46,47,48,49,50]:List Nat).Nodup by decide) (by kernel_rfl)) rfl) ⟨rfl,G4 _ _ _,b⟩)) ?_
  rintro e a' w' ⟨rfl,rfl,r⟩;have t:=((Ad _ w).alloc (Ac _) (P #[I R 0, I R 0, I R 4, I R (k:Int), I R 600] 286)).trans ((c.trans (r.mono c.size)).mono (by simp));clear o r j n c;dsimp only[Ft,List.set,List.append_nil,List.cons_append,List.nil_append]
  go_wp2_with fail;go_ret;exact⟨rfl,t⟩
 ·simp only[Aa h];clear h;go_enter func185,ntmps185
  go_wp2_with(first | (go_at_call 219;refine(Aos _).mono ?_;rintro e w1 ⟨rfl,rfl⟩) | (go_at_call 220;refine(Aop _).mono ?_;rintro e w1 ⟨rfl,rfl⟩) | (go_at_call 221;refine(Aoo _).mono ?_;rintro e w1 ⟨rfl,rfl⟩) | (go_at_call 222;refine(u _).mono ?_;rintro e w1 ⟨v1,rfl, -,c⟩;have j:=OM c 0;have n:=OM c 1;simp only[Eb,E0,Dt]at j n) | (go_at_call 195;refine(x _).mono ?_;rintro e w2 ⟨rfl,rfl⟩));have o:∀(wc:World),Below w1.heap.size w1 wc->∀q v,w1.cell? q=C v->wc.cell? q=C v:=fun wc b q v h=>(b.cell (Aj w1 _ h)).trans h
  refine Bi (Nr (Q:=fun e a' w'=>e=.normal/\a'=({tmps:=(_:List Value).toArray,defers:=[]}:Act)/\Below w1.heap.size w1 w') 9 42 (E (C ⟨w.heap.size,0,A⟩)) [(43, I R 1),(44, J M),(45, J M),(46, I R 20),(47, I R (8*20+24)),(48, E (C ⟨w.heap.size,0+1,A⟩)),(49, I R 256),(50, J (decide (256<8*20+24)))]
   [[2],[42],[43],[44],[1,45],[46,45],[2,45],[48,45],[47,49,45]] [1,2,3,9,5,8,7,8,9] w1 s rfl rfl (show([42,43,44,45,46,47,48,49,50]:List Nat).Nodup by decide) (by kernel_rfl) (by kernel_rfl) (by kernel_rfl) (by kernel_rfl) (by kernel_rfl) (fun i B F wc b a Q K d=>by
   have z:i=0\/i=1\/i=2\/i=3\/i=4\/i=5\/i=6\/i=7\/i=8:=by omega
   rcases z with rfl | rfl | rfl | rfl | rfl | rfl | rfl | rfl | rfl
   ·exact E6 rfl rfl (UA wc rfl (a 2 (by decide))) (d wc (Fb wc))
   ·exact E6 rfl rfl (F5 wc rfl (a 42 (by decide)) (o wc b _ _ j)) (d wc (Fb wc))
   ·exact E6 rfl rfl (Aa6 wc rfl (a 43 (by decide)) rfl) (d wc (Fb wc))
   ·exact E6 rfl rfl (Fd wc rfl (a 44 (by decide))) (d wc (Fb wc))
   ·exact O1 (want:=M) rfl rfl rfl rfl (a 45 (by decide)) (Fd wc rfl (a 1 (by decide))) (d wc (Fb wc))
   ·have y:F.eval (.tmp 46)= I R 20:=a 46 (by decide);refine AjC (us:=#[I R 20]) (want:=M) rfl rfl rfl rfl (a 45 (by decide)) rfl (enters_of func195 (by kernel_rfl) rfl) (by simp[y]) (x wc) (fun e T H=>?_);obtain⟨rfl,rfl⟩:=H;exact⟨_,rfl,d _ (Fb _)⟩
   ·exact O1 (want:=M) rfl rfl rfl rfl (a 45 (by decide)) (Aba wc rfl (a 2 (by decide))) (d wc (Fb wc))
   ·exact O1 (want:=M) rfl rfl rfl rfl (a 45 (by decide)) (F5 wc rfl (a 48 (by decide)) (o wc b _ _ n)) (d wc (Fb wc))
   ·exact O1 (want:=M) rfl rfl rfl rfl (a 45 (by decide)) (Aj6 wc rfl (a 47 (by decide)) (a 49 (by decide))) (d wc (Fb wc)))
   (fun wc b=>by
    refine E6 rfl rfl (RC wc rfl (Fj 45 (show([42,43,44,45,46,47,48,49,50]:List Nat).Nodup by decide) (by kernel_rfl)) ((Ab rfl).trans (Fj 50 (show([42,43,44,45,46,47,48,49,50]:List Nat).Nodup by decide) (by kernel_rfl)))) ⟨rfl,G4 _ _ _,b⟩)) ?_
  rintro e a' w' ⟨rfl,rfl,r⟩;have t:=((Ad _ w).alloc (Ac _) (P #[I R 1, I R 256, I R 2, I R (k:Int), I R 256] 286)).trans ((c.trans (r.mono c.size)).mono (by simp));clear o r j n c;dsimp only[Ft,List.set,List.append_nil,List.cons_append,List.nil_append]
  go_wp2_with fail;go_ret;exact⟨rfl,t⟩
theorem Akn:∀k:Fin 17,(RE (Ha k.val) 20=0/\0<=Ij (Ha k.val) 20)/\(0<=(Ha k.val).code/\(Ha k.val).code<=1)/\(0<=(Ha k.val).size/\(Ha k.val).size<=256)/\(0<=(Ha k.val).order/\(Ha k.val).order<=4)/\(0<=(Ha k.val).seed/\(Ha k.val).seed<=16)/\0<=(Ha k.val).count/\(Ha k.val).count<=600:=by decide+kernel
theorem UL(h:k<=16):RE (Ha k) 20=0/\(Ha k).In:=by
 obtain⟨⟨a, -⟩,b,c,d,e,i⟩:=Akn ⟨k,by omega⟩;dsimp only at a b c d e i;exact⟨a,⟨by unfold U8;omega,by unfold U8;omega,by unfold U8;omega,by unfold U8;omega,by unfold U8;omega⟩⟩
def Qc (k:Nat):List Int:=List.replicate (Ij (Ha k) 20).toNat 0
def UsrM.sums(u:UsrM)(fg:Bool):List Int:=match u.ear with
 | some s=>if s.flag=fg then s.sums else Qc u.who
 | none=>Qc u.who
def UsrM.pts(u:UsrM)(v:Nat)(d:ByteArray):List (Int×Int):=UR u.air.rough (Jo (Ha u.who) d v)
def UsrM.heard(u:UsrM)(v:Nat)(fg:Bool)(d:ByteArray):Told:=Kw (Ha u.who) 20 (u.sums fg) (u.pts v d) v
def UsrM.Agd(u:UsrM)(v:Nat)(fg:Bool)(d:ByteArray):UsrM:={u with ear:=C ⟨Jj (Ha u.who) (u.sums fg) (u.pts v d) v,fg⟩}
structure EarOk(k:Nat)(s:List Int):Prop where
 len:(s.length:Int)=Ij (Ha k) 20
 soft:Fy s=M
theorem Ak0(k:Nat)(h:k<=16):EarOk k (Qc k):=by
 have a:0<=Ij (Ha k) 20:=(Akn ⟨k,by omega⟩).1.2;exact⟨by unfold Qc;rw[A7];omega,by unfold Qc Fy;simp⟩
theorem Ae6{u:UsrM}(b:u.who<=16)(h:∀s,u.ear=C s->EarOk u.who s.sums)(a:Bool):EarOk u.who (u.sums a):=by grind [UsrM.sums,Ak0]
theorem Ahd{u:UsrM}(b:u.who<=16){d:ByteArray}(hd:d.size=20){v:Nat}(a:v<=3):Lo (Ha u.who) (u.pts v d) v=M/\(Jo (Ha u.who) d v).all Kn=M:=by grind [Lo,Ha,Jo,Kn,IR,UsrM.pts,UR,LO,PW,MT,UL,Y0,An2,Gn]
theorem Aoc(G n r:Nat)(lo i:Bool)(ps:List (Int×Int))(w:World)(o:ps.length=n)(d:ps.all Kn=M)(j:n<=100000)(q:r<=9223372036854775807):NS 162 #[.agg #[J lo, J i, I R (r:Int)],.slice (C ⟨G,0,A⟩) n n] w (JP G 335 (Hf ps)) fun e c=>e= N (.tuple #[])/\c=JP G 335 (Hf (UR r ps)):=fun _ F _ ⟨e,h⟩=>by
 subst e;exact(Afp h o d j q).mono fun _ _ ⟨a,b,c⟩=>⟨_,⟨a,rfl⟩,c,_,⟨rfl,b⟩,fun x s=> .inl s⟩
theorem AnJ(h:At w G 335 (Hf ps)):Pts w (C ⟨G,0,A⟩) ps:=fun _=>⟨G,0,rfl,fun i hi=>by
 have a:=h.cell (i*2+0);have b:=h.cell (i*2+1);rw[Kg ps i 0 hi (by omega)]at a;rw[Kg ps i 1 hi (by omega)]at b
 grind⟩
theorem Aoj(b G n v k:Nat)(i:List Int)(ps:List (Int×Int))(w:World)(o:k<=16)(j:EarOk k i)(q:ps.length=n)(z:n<=100000)(hg:Lo (Ha k) ps v=M):AmY 164 #[E (C ⟨b,0,A⟩),.slice (C ⟨G,0,A⟩) n n, I R (v:Int)] w (AfV ⟨b,0,A⟩ (Ha k) i) (JP G 335 (Hf ps)) fun e c=>e= N (Kw (Ha k) 20 i ps v).val/\c=AfV ⟨b,0,A⟩ (Ha k) (Jj (Ha k) i ps v):=fun ht F s hF h ⟨e,hd⟩ r=>by
 subst e;have u:b∈F:=by
  obtain⟨t,g,e,e2, -⟩:=EarP.block h
  cases e;rw[e2];simp
 refine(Ac5 ps (C ⟨G,0,A⟩) n n (v:Int) ht.rd h (MT (UL o).1) j.len j.soft (AnJ hd) q (by omega) hg).mono fun _ _ ⟨a,F',c,d,e⟩=>⟨_,⟨a,rfl⟩,e.sub fun x y=>?_,F',c,d⟩
 grind
theorem AhW{u:UsrM}(v:Nat)(a:Bool)(d:ByteArray)(h:Hg w0 S w (setG D g (usO p u)))(hw:u.who<=16)(hd:d.size=20)(hv:v<=3)(hr:u.air.rough<=9223372036854775807)(he:∀s,u.ear=C s->EarOk u.who s.sums):Calls prog 112 #[Fa p.b,.agg #[.int R 0,.int R (v:Int),.bool a,.string d]] w fun e w'=>∃eb,e= N (.tuple #[.string (u.heard v a d).data,.bool (u.heard v a d).ok])/\Hg w0 S w' (setG D g (usO {p with eb:=eb} (u.Agd v a d))):=by
 have h1:=h.Ii 11 127 [.int R 0,.int R (v:Int),.bool a,.string d];change Hg w0 S (w.alloc (P #[.int R 0,.int R (v:Int),.bool a,.string d] 127)) _ at h1;have H:=fun r=>Yo u.who r hw
 obtain⟨aa,be⟩:=UL hw;have ad:=fun r hR=>AcY d (Ha u.who) v r hR (by rw[hd];exact aa) hv (by rw[hd];exact TS hw) (fun r=>Sn _ r (Ag (by omega)))
 have Y:=fun r hR=>Ajl (Ha u.who) 20 r hR aa (TS hw)
 obtain⟨hg,ai⟩:=Ahd hw hd hv;have a5:=Ae6 hw he a;have az:(Jo (Ha u.who) d v).length<=100000:=by
  have:=(Y0 (show SetOk (Ha u.who) d.size by rw[hd];exact MT aa) v).2;obtain⟨-, -, -,h4, -,z⟩:=Akn ⟨u.who,by omega⟩;have ho:=(MT aa).order
  grind
 have ab:=fun b G n r q1 q2=>Aoj b G n v u.who (u.sums a) (u.pts v d) r hw a5 q1 q2 hg
 have ak:(u.pts v d).length=(Jo (Ha u.who) d v).length:=Gn _ _;obtain⟨g1, af⟩ := E7 w.heap.size;rw[<-af]at h1;have HH:Hid ((u.heard v a d)=Kw (Ha u.who) 20 (u.sums a) (u.pts v d) v/\u.Agd v a d={u with ear:=C ⟨Jj (Ha u.who) (u.sums a) (u.pts v d) v,a⟩}):=⟨rfl,rfl⟩;have am:Hid (u.pts v d=UR u.air.rough (Jo (Ha u.who) d v)):=rfl;obtain⟨Q,eQ⟩:∃q,q=Ha u.who:=⟨_,rfl⟩;have HQ:=hid eQ;rw[<-eQ]at H ad Y ab ai az ak HH am;unfold Setg.val at H ad Y;unfold Fa;have a7:=hid af;clear h a5 hg eQ af aa be;go_enter func112,ntmps112;go_upto_region 1 with fail
 rw[<-a7.out];generalize (w.alloc (P #[.int R 0,.int R (v:Int),.bool a,.string d] 127))=w1 at*;have c0:w1.cell? ⟨p.b,0,A⟩=C (.int R (u.who:Int)):=(h1.box (j:=0) rfl).cell 0;go_upto_region 2 with(go_at_call 160;refine(H _).mono ?_;rintro e w2 ⟨rfl,ar⟩)
 have O:=(h1.below ar).Ii 12 286 [.int R Q.code,.int R Q.size,.int R Q.order,.int R Q.seed,.int R Q.count];change Hg w0 S (w2.alloc (P #[.int R Q.code,.int R Q.size,.int R Q.order,.int R Q.seed,.int R Q.count] 286)) _ at O;obtain⟨g2, an⟩ := E7 w2.heap.size;rw[<-an]at O ⊢;generalize (w2.alloc (P #[.int R Q.code,.int R Q.size,.int R Q.order,.int R Q.seed,.int R Q.count] 286))=w3 at*;clear an ar h1 c0 H;have s1:w3.cell? ⟨g1,1,A⟩=C (.int R (v:Int)):=(O.box (j:=11) rfl).cell 1;have s3:w3.cell? ⟨g1,3,A⟩=C (.string d):=(O.box (j:=11) rfl).cell 3;have t0:w3.cell? ⟨g2,0,A⟩=C (.int R Q.code):=(O.box (j:=12) rfl).cell 0;have t1:w3.cell? ⟨g2,1,A⟩=C (.int R Q.size):=(O.box (j:=12) rfl).cell 1;have t2:w3.cell? ⟨g2,2,A⟩=C (.int R Q.order):=(O.box (j:=12) rfl).cell 2;have t3:w3.cell? ⟨g2,3,A⟩=C (.int R Q.seed):=(O.box (j:=12) rfl).cell 3;have t4:w3.cell? ⟨g2,4,A⟩=C (.int R Q.count):=(O.box (j:=12) rfl).cell 4;go_upto_region 3 with(go_at_call 161;refine(ad _ O.tb.rd).mono ?_;rintro e w4 ⟨G,n,rfl,au,hO⟩)
 obtain⟨ap,a9,aj, -⟩:=hO.at;have h4:=O.new 13 (Kept.E5 au) (d:=JP G 335 (Hf (Jo Q d v))) (L:=[G]) ⟨rfl,ap⟩ (fun x hx=>by rw[AC]at hx;omega);have a2:w4.cell? ⟨p.b,2,A⟩=C (.bool u.air.lost):=(h4.box (j:=0) rfl).cell 2;have a3:w4.cell? ⟨p.b,3,A⟩=C (.bool u.air.deaf):=(h4.box (j:=0) rfl).cell 3;have a4:w4.cell? ⟨p.b,4,A⟩=C (.int R (u.air.rough:Int)):=(h4.box (j:=0) rfl).cell 4;clear s1 s3 t0 t1 t2 t3 t4 au ap hO O a9 ad;go_upto_region 4 with(go_at_call 162;refine(h4.act (j:=13) rfl (Aoc G n u.air.rough u.air.lost u.air.deaf (Jo Q d v) w4 aj ai (by omega) hr)).mono ?_;rintro e t ⟨c',⟨rfl,rfl⟩,h5⟩)
 rw[<-am.out]at h5;have a0:(u.pts v d).length=n:=ak.trans aj;have ay:n<=100000:=by omega
 clear a2 a3 a4 h4 aj ak az ai;have al:=hid a0;clear a0;have bd:∃X0 b1 o,(∀r,Below t.heap.size t r->(Instr.lookup 84 (.map (C p.me)) (.int R 0) M).run prog r=.ok (.tuple #[.agg #[.pointer X0,.bool b1],.bool o]) r)/\((o=M/\b1=a/\X0=C ⟨p.eb,0,A⟩/\∃s,u.ear=C s/\u.sums a=s.sums/\s.flag=a)\/((!o || (b1 !=a))=M/\u.sums a=Qc u.who)):=by
  have hM:=fun r hb=>((h5.below (w':=r) hb).Ags (j:=5) rfl).im
  cases X:u.ear with
  | none=>
   refine⟨A,false,false,fun r hb=>(hM r hb).TX (k:=0) ⟨by omega,by omega⟩ underlying84 (zeroValue294 _) (by unfold Qu;rw[Ab rfl,X];rfl) (by unfold Qu;rw[Ab rfl,X];rfl) M,.inr ⟨rfl,by unfold UsrM.sums;rw[X]⟩⟩
  | some s=>
   refine⟨C ⟨p.eb,0,A⟩,s.flag,M,fun r hb=>(hM r hb).TX (k:=0) ⟨by omega,by omega⟩ underlying84 (zeroValue294 _) (by unfold Qu;rw[Ab rfl,X];rfl) (by unfold Qu;rw[Ab rfl,X];rfl) M,?_⟩
   by_cases hf:s.flag=a
   ·exact .inl ⟨rfl,hf,rfl,s,rfl,by unfold UsrM.sums;rw[X];exact Ab hf,hf⟩
   ·exact .inr ⟨by simpa using hf,by unfold UsrM.sums;rw[X];exact Aa hf⟩
 obtain⟨X0,b1,o,B,aw⟩:=bd;have c9:t.cell? ⟨p.b,9,A⟩=C (.map (C p.me)):=(h5.box (j:=0) rfl).cell 9;have s0:t.cell? ⟨g1,0,A⟩=C (.int R 0):=(h5.box (j:=11) rfl).cell 0;have ac:Below t.heap.size t (t.alloc (P #[.pointer A,.bool false] 294)):=(Ad _ t).alloc (Ac _) _;have bb:=B t.drew ((Ad _ _).drew);have bc:=B (t.alloc (P #[.pointer A,.bool false] 294)).drew (ac.drew);have a8:(t.alloc (P #[.pointer A,.bool false] 294)).cell? ⟨p.b,9,A⟩=C (.map (C p.me)):=((h5.below ac).box (j:=0) rfl).cell 9;have bf:(t.alloc (P #[.pointer A,.bool false] 294)).cell? ⟨g1,0,A⟩=C (.int R 0):=((h5.below ac).box (j:=11) rfl).cell 0;have a6:=hid aw;have H5:=hid h5;clear aw h5 B ac
 go_cut [9,10] (fun x y wx=>x= E (C ⟨t.heap.size,0,A⟩)/\y=.bool o/\wx=(t.alloc (P #[.pointer X0,.bool b1] 294)).drew)
 case first=>
  go_region
  all_goals
   go_wp2
   go_meet;exact⟨rfl,rfl,rfl⟩
 case rest=>
  obtain⟨rfl,rfl,rfl⟩:=hcut;have z:=(H5.out.Ii 14 294 [.pointer X0,.bool b1]).below ((Ad _ _).drew);change Hg w0 S (t.alloc (P #[.pointer X0,.bool b1] 294)).drew _ at z;obtain⟨g4, ao⟩ := E7 t.heap.size;rw[<-ao]at z ⊢;generalize (t.alloc (P #[.pointer X0,.bool b1] 294)).drew=w6 at*;have e0:w6.cell? ⟨g4,0,A⟩=C (.pointer X0):=(z.box (j:=14) rfl).cell 0;have e1:w6.cell? ⟨g4,1,A⟩=C (.bool b1):=(z.box (j:=14) rfl).cell 1;have s1:w6.cell? ⟨g1,1,A⟩=C (.int R (v:Int)):=(z.box (j:=11) rfl).cell 1;have s2:w6.cell? ⟨g1,2,A⟩=C (.bool a):=(z.box (j:=11) rfl).cell 2;clear bb bc a8 bf c9 s0 ao H5
  rcases a6.out with⟨rfl,rfl,rfl,s,X,hS,hF⟩ | ⟨hc,hS⟩
  ·have bg:(b1 !=b1)=false:=by simp
   have HT:=hid (z.Am1 (i:=6) (j:=13) (c:=AfV ⟨p.eb,0,A⟩ Q (u.sums b1)) (by rw[HQ.out,hS];show u.ear.map _=_;rw[X];rfl) rfl (by omega) (ab p.eb G n w6 al.out ay));have ae:=hid (And.intro X hF);obtain⟨T, eT⟩ := E7 (Kw Q 20 (u.sums b1) (u.pts v d) v);rw[<-eT]at HT HH;unfold Told.val at HT;clear z hS eT ab X hF Y
   go_wp2_with(go_at_call 164;refine HT.out.mono ?_;rintro e w7 ⟨c',⟨rfl,rfl⟩,K⟩;have H7:=hid K;clear K)
   go_ret2;refine⟨p.eb,by rw[HH.out.1];rfl,?_⟩;rw[HH.out.2];refine((((H7.out.drop 11).drop 12).drop 13).drop 14).conv fun j=>?_
   rcases j with _ | _ | _ | _ | _ | _ | _ | _ | _ | _ | _ | _ | _ | _ | _ | j
   case succ.succ.succ.succ.succ.zero=>
    show C (gmC _ _ _)=C (gmC _ _ _);have e9:Qu p u=Qu {p with eb:=p.eb} {u with ear:=C ⟨Jj Q (u.sums b1) (u.pts v d) v,b1⟩}:=funext fun k=>by unfold Qu;rw[ae.out.1,<-ae.out.2];rfl
    rw[e9,ae.out.1];rfl
   case succ.succ.succ.succ.succ.succ.zero=>rw[HQ.out];rfl
   all_goals rfl
  ·have t0:w6.cell? ⟨g2,0,A⟩=C (.int R Q.code):=(z.box (j:=12) rfl).cell 0;have t1:w6.cell? ⟨g2,1,A⟩=C (.int R Q.size):=(z.box (j:=12) rfl).cell 1;have t2:w6.cell? ⟨g2,2,A⟩=C (.int R Q.order):=(z.box (j:=12) rfl).cell 2;have t3:w6.cell? ⟨g2,3,A⟩=C (.int R Q.seed):=(z.box (j:=12) rfl).cell 3;have t4:w6.cell? ⟨g2,4,A⟩=C (.int R Q.count):=(z.box (j:=12) rfl).cell 4;have ax:o=false\/o=M/\(b1 !=a)=M:=by cases o<;>simp_all
   clear hc;go_upto_region 5 with fail
   go_cut [55] (fun x wx=>x=.bool M/\w6=wx)
   case first=>
    rcases ax with rfl | ⟨rfl,ba⟩
    ·go_wp2
     go_meet;exact⟨rfl,rfl⟩
    ·go_wp2
     go_meet;exact⟨congrArg Value.bool ba,rfl⟩
   case rest=>
    obtain⟨rfl,rfl⟩:=hcut;have H6:=hid z;clear ax z e0 e1;go_upto_region 7 with(go_at_call 163;refine(Y _ H6.out.tb.rd).mono ?_;rintro e w7 ⟨pe,Fe,rfl,ah,aq,av⟩;obtain⟨b,ge,rfl, -⟩:=EarP.block ah)
    have K:=H6.out.new 6 (Kept.E5 av) (d:=AfV ⟨b,0,A⟩ Q (u.sums a)) (L:=Fe) (by rw[hS];unfold Qc;rw[<-HQ.out];exact ah) aq;have u2:w7.cell? ⟨g1,2,A⟩=C (.bool a):=(K.box (j:=11) rfl).cell 2;have k0:w7.cell? ⟨g4,0,A⟩=C (.pointer X0):=(K.box (j:=14) rfl).cell 0;have k1:w7.cell? ⟨g4,1,A⟩=C (.bool b1):=(K.box (j:=14) rfl).cell 1;have l0:=(K.box (j:=14) rfl).free 0;have l1:=(K.box (j:=14) rfl).free 1;have h8:=(K.GK (j:=14) rfl 0 (E (C ⟨b,0,A⟩))).GK (j:=14) rfl 1 (.bool a);clear t0 t1 t2 t3 t4 s1 s2 ah aq av H6 K Y;go_upto_region 8 with fail
    generalize ((w7.setCell ⟨g4,0,A⟩ (E (C ⟨b,0,A⟩))).setCell ⟨g4,1,A⟩ (.bool a))=w8 at*;have c9:w8.cell? ⟨p.b,9,A⟩=C (.map (C p.me)):=(h8.box (j:=0) rfl).cell 9;have s0:w8.cell? ⟨g1,0,A⟩=C (.int R 0):=(h8.box (j:=11) rfl).cell 0;have m0:w8.cell? ⟨g4,0,A⟩=C (E (C ⟨b,0,A⟩)):=(h8.box (j:=14) rfl).cell 0;have m1:w8.cell? ⟨g4,1,A⟩=C (.bool a):=(h8.box (j:=14) rfl).cell 1;have ag:=h8.below ((Ad _ w8).drew);obtain⟨w9,a1,hM,hk⟩:=(ag.Ags (j:=5) rfl).put (k:=0) (by unfold maxLen;split<;>omega) ⟨by omega,by omega⟩ underlying84 (.agg #[E (C ⟨b,0,A⟩),.bool a]);have h9:=ag.put (j:=5) rfl (c':=gmC p.me _ _) (fun F ⟨e,_⟩=>by subst e;exact⟨hk,rfl,hM⟩);clear hM hk ag h8 k0 k1 l0 l1 u2
    go_region;have n0:w9.cell? ⟨g4,0,A⟩=C (E (C ⟨b,0,A⟩)):=(h9.box (j:=14) rfl).cell 0;have s1:w9.cell? ⟨g1,1,A⟩=C (.int R (v:Int)):=(h9.box (j:=11) rfl).cell 1;have HT:=hid (h9.Am1 (i:=6) (j:=13) (c:=AfV ⟨b,0,A⟩ Q (u.sums a)) rfl rfl (by omega) (ab b G n w9 al.out ay));obtain⟨T, eT⟩ := E7 (Kw Q 20 (u.sums a) (u.pts v d) v);rw[<-eT]at HT HH;unfold Told.val at HT;clear h9 eT ab a1 c9 s0 m0 m1
    go_wp2_with(go_at_call 164;refine HT.out.mono ?_;rintro e w7 ⟨c',⟨rfl,rfl⟩,K⟩;have H7:=hid K;clear K)
    go_ret2;refine⟨b,by rw[HH.out.1];rfl,?_⟩;rw[HH.out.2];refine((((H7.out.drop 11).drop 12).drop 13).drop 14).conv fun j=>?_
    rcases j with _ | _ | _ | _ | _ | _ | _ | _ | _ | _ | _ | _ | _ | _ | _ | j
    case succ.succ.succ.succ.succ.zero=>
     show C (gmC _ _ _)=C (gmC _ _ _);have e9:J8 (Qu p u) 0 (C (.agg #[E (C ⟨b,0,A⟩),.bool a]))=Qu {p with eb:=b} {u with ear:=C ⟨Jj Q (u.sums a) (u.pts v d) v,a⟩}:=funext fun k=>by unfold J8 Qu;split<;>rfl
     rw[e9];unfold Qu
     cases u.ear<;>rfl
    case succ.succ.succ.succ.succ.succ.zero=>rw[HQ.out];rfl
    all_goals rfl
theorem VU{u:UsrM}(h:u.ear=A):Qu p u=fun _=>A:=funext fun k=>by
 unfold Qu;rw[h]
 split<;>rfl
def AjS (O:Nat->Option Cm)(ps pr:Addr)(gb gs me:Nat):Nat->Option Cm:=FQ (FQ (FQ (FQ (FQ O 1 (C (RI ps (OutM.new 8)))) 2 (C (Adv pr (InM.new 8)))) 3 (C (S9 gb (SendM.new 4)))) 4 (C (Akp gs RecvM.new))) 5 (C (gmC me 0 fun _=>A))
theorem Vn(w:World):(Instr.makeMap 84 A).run prog w=.ok (.map (C w.heap.size)) (w.alloc (.map #[] 0)):=by
 simp[Instr.makeMap]
theorem Wi{O:Nat->Option Cm}(h:Hg w0 S w (setG D g O))(hO:O 20=A):Calls prog 76 #[] w fun e w'=>∃ps pr gb gs me,e= N (.agg #[E (C ps), E (C pr),Fa gb,Fa gs,.map (C me)])/\Hg w0 S w' (setG D g (AjS O ps pr gb gs me)):=by
 have B:=h.Ii 20 86 [.pointer A,.pointer A,.pointer A,.pointer A,.map A];change Hg w0 S (w.alloc (P #[.pointer A,.pointer A,.pointer A,.pointer A,.map A] 86)) _ at B;obtain⟨b, eb⟩ := E7 w.heap.size;rw[<-eb]at B;have ab:=Vn;have HB:=hid eb;have HO:=hid hO;clear eb h hO;go_enter func76,ntmps76;go_upto_region 1 with fail
 rw[<-HB.out];generalize (w.alloc (P #[.pointer A,.pointer A,.pointer A,.pointer A,.map A] 86))=w1 at*;go_upto_region 2 with(go_at_call 126;refine(Amj 8 w1 (by omega) (by omega)).mono ?_;rintro e w2 ⟨ps,F2,rfl,o,i,t⟩)
 have T:=B.new 1 (Kept.E5 t) (d:=RI ps (OutM.new 8)) (L:=F2) o i;clear B o i t;go_upto_region 3 with(go_at_call 127;refine(Al6 8 w2 (by omega) (by omega)).mono ?_;rintro e w3 ⟨pr,F3,rfl,q,n,u⟩)
 have X:=T.new 2 (Kept.E5 u) (d:=Adv pr (InM.new 8)) (L:=F3) q n;clear T q n u;go_upto_region 4 with(go_at_call 128;refine(AgZ 4 w3 (by omega) (by omega)).mono ?_;rintro e w4 ⟨gb,Q,rfl,H,K,r,v⟩)
 have Y:=X.new 3 (Kept.E5 v) (d:=S9 gb (SendM.new 4)) (L:=[gb,Q]) ⟨Q,rfl,r⟩ (by intro x z;simp at z;omega);clear X r H K v;have H4:=hid Y;clear Y
 go_wp2_with(go_at_call 129;refine(Rz w4).mono ?_;rintro e a ⟨gs,rfl,aa,s,y⟩;have h5:=(H4.out.new 4 (Kept.E5 y) (d:=Akp gs RecvM.new) (L:=[gs]) ⟨rfl,s⟩ (by intro x z;simp at z;omega));have c:=h5.new 5 ((Kept.refl _ a).alloc (.map #[] 0)) (d:=gmC a.heap.size 0 fun _=>A) (L:=[a.heap.size]) ⟨rfl,GMap.XT a⟩ (by intro x z;simp at z;omega);have l0:=(c.box (j:=20) rfl).free 0;have l1:=(c.box (j:=20) rfl).free 1;have l2:=(c.box (j:=20) rfl).free 2;have l3:=(c.box (j:=20) rfl).free 3;have l4:=(c.box (j:=20) rfl).free 4;have k0:(a.alloc (.map #[] 0)).cell? ⟨b,0,A⟩=C (.pointer A):=(c.box (j:=20) rfl).cell 0;have k1:(a.alloc (.map #[] 0)).cell? ⟨b,1,A⟩=C (.pointer A):=(c.box (j:=20) rfl).cell 1;have k2:(a.alloc (.map #[] 0)).cell? ⟨b,2,A⟩=C (.pointer A):=(c.box (j:=20) rfl).cell 2;have k3:(a.alloc (.map #[] 0)).cell? ⟨b,3,A⟩=C (.pointer A):=(c.box (j:=20) rfl).cell 3;have k4:(a.alloc (.map #[] 0)).cell? ⟨b,4,A⟩=C (.map A):=(c.box (j:=20) rfl).cell 4;have H6:=hid c;clear h5 c s y);have h7:=((((H6.out.GK (j:=20) rfl 0 (E (C ps))).GK (j:=20) rfl 1 (E (C pr))).GK (j:=20) rfl 2 (E (C ⟨gb,0,A⟩))).GK (j:=20) rfl 3 (E (C ⟨gs,0,A⟩))).GK (j:=20) rfl 4 (.map (C a.heap.size));have F:=h7.box (j:=20) rfl;generalize (((((((a.alloc (.map #[] 0)).setCell ⟨b,0,A⟩ (E (C ps))).setCell ⟨b,1,A⟩ (E (C pr))).setCell ⟨b,2,A⟩ (E (C ⟨gb,0,A⟩))).setCell ⟨b,3,A⟩ (E (C ⟨gs,0,A⟩))).setCell ⟨b,4,A⟩ (.map (C a.heap.size))))=w7 at*;refine Ah (BO (p:=0) (ty:=86) (by kernel_rfl) _ _ b 86 _ (0,0) _ rfl F underlying86 rfl (by kernel_rfl)) rfl ?_;refine⟨ps,pr,gb,gs,a.heap.size,rfl,(h7.drop 20).conv fun j=>?_⟩;unfold AjS FQ
 by_cases e:j=20
 ·rw[Ab e,e];exact HO.out.symm
 ·simp only[e,AV]
def UsrM.new(k:Nat):UsrM:=⟨k,1000*k+1,⟨false,false,0⟩,OutM.new 8,InM.new 8,SendM.new 4,RecvM.new,A,SdM.new ((1000*k+1:Nat):Int),GcM.new ((1000*k+1:Nat):Int),0,fun _=>A,0,[]⟩
theorem Vo(w:World):(Instr.makeMap 89 A).run prog w=.ok (.map (C w.heap.size)) (w.alloc (.map #[] 0)):=by
 simp[Instr.makeMap]
theorem AgK(k:Nat)(h:Hg w0 S w (setG D g fun _=>A))(hk:k<=16):Calls prog 36 #[I R (k:Int)] w fun e w'=>∃p,e= N (Fa p.b)/\Hg w0 S w' (setG D g (usO p (UsrM.new k))):=by
 have aa:=Vo;have a:KZ ((1000*k+1:Nat):Int)=M:=by unfold KZ;simp;omega
 have hi:((1000:Int)*(k:Int)+1)=((1000*k+1:Nat):Int):=by omega
 obtain⟨K, t⟩ := E7 (1000*k+1);have Y:Hid (UsrM.new k=⟨k,K,⟨false,false,0⟩,OutM.new 8,InM.new 8,SendM.new 4,RecvM.new,A,SdM.new (K:Int),GcM.new (K:Int),0,fun _=>A,0,[]⟩):=by rw[t];rfl
 rw[<-t]at a hi;have v:=fun z=>AiY (K:Int) z a
 have y:=fun z=>AiX (K:Int) z a
 have H:=hid h;clear t h a;go_enter func36,ntmps36;go_upto_region 2 with fail
 go_upto_region 3 with(go_at_call 74;refine(v w).mono ?_;rintro e w1 ⟨rfl,i,o⟩)
 have B:=H.out.new 7 (Kept.E5 o) (d:=sdC w.heap.size (SdM.new (K:Int))) (L:=[w.heap.size]) ⟨_,rfl,i⟩ (by intro x s;simp at s;omega);generalize w.heap.size=g1 at*;clear i o;go_upto_region 4 with(go_at_call 75;refine(y w1).mono ?_;rintro e w2 ⟨g2,bm,rfl,n,u,r,q⟩)
 have F:=B.new 8 (Kept.E5 q) (d:=gcC g2 (GcM.new (K:Int))) (L:=[g2,bm]) ⟨_,rfl,n⟩ (by intro x s;simp at s;omega);have T:=hid F;clear n u r q B F
 go_wp2_with(go_at_call 76;refine(Wi T.out rfl).mono ?_;rintro e c ⟨ps,pr,gb,gs,me,rfl,O⟩;have X:=hid O;clear O);go_ret;have h4:=(X.out.new 9 ((Kept.refl _ c).alloc (.map #[] 0)) (d:=gmC c.heap.size 0 fun _=>A) (L:=[c.heap.size]) ⟨rfl,GMap.XT c⟩ (by intro x s;simp at s;omega)).new 10 (Kept.refl _ _) (d:=Ju 9 1 (.slice A 0 0) 0 []) (L:=[]) ⟨rfl,0,Bj _ _ _ _⟩ (by simp);have Q:=h4.Ii 0 91 (S1 ⟨(c.alloc (.map #[] 0)).heap.size,ps,pr,gb,gs,me,0,g1,g2,c.heap.size,.slice A 0 0⟩ (UsrM.new k));refine⟨⟨(c.alloc (.map #[] 0)).heap.size,ps,pr,gb,gs,me,0,g1,g2,c.heap.size,.slice A 0 0⟩,?_,?_⟩
 ·unfold Fa;simp
 ·rw[Y.out]at Q ⊢;refine Q.conv fun j=>?_
  rcases j with _ | _ | _ | _ | _ | _ | _ | _ | _ | _ | _ | j
  case succ.succ.succ.succ.succ.zero=>
   show C (gmC _ _ _)=C (gmC _ _ _);rw[VU rfl];rfl
  all_goals rfl
end Go.Proofs.YtbjgfoiikhbonahGreatDoor
