import Derived.Shelf.SlSortCmp.NoneTotal
import Derived.Shelf.SlicesG.Cmp
import Derived.Shelf.Sort.Plain
import Derived.Test.YtbjgfoiikhbonahGreatDoorD04
import Derived.Deep.RegionHeld3
import Derived.Deep.DeepFit
import Derived.Maps.Own
import Derived.Maps.OwnOps
import Derived.Maps.OwnSet
import Derived.Maps.Views
set_option linter.unusedVariables false
set_option linter.unusedSimpArgs false
set_option maxRecDepth 100000
set_option maxHeartbeats 4000000
namespace Go.Proofs.YtbjgfoiikhbonahGreatDoor
open Go.Shelf Go.ChangeShapes Go.WideShapes Go.ChangeAt Go.RowKit Go.Maps Go.Proofs.Tryz
open Value (int slice)
open IntKind (i64)
variable {L O:List Int}{P S:List Nat}{T b bm g gd gf i k n p sc:Nat}{os:Array Obj}{w w':World}{α:Type}
def Tryz.AhA:Go.Shelf.Ren:=⟨fun | 6=>287 | 15=>301 | 14=>300 | 28=>314 | 29=>149 | 20=>306 | 21=>307 | 22=>308 | 23=>309 | 24=>310 | 25=>311 | 26=>312 | 27=>313 | 46=>324 | 47=>325 | 48=>326 | 49=>327 | 50=>328 | 57=>332 | n=>n,fun | 22=>74 | 24=>3 | 25=>135 | 3=>3 | 39=>194 | 0=>0 | 53=>269 | 55=>195 | 4=>4 | 46=>438 | 45=>437 | 50=>70 | 5=>5 | 9=>9 | 66=>448 | 70=>452 | 76=>456 | 77=>457 | n=>n,fun | n=>n⟩
theorem Tryz.Ao0:Go.Proofs.SlLaysF.n6 prog Tryz.AhA:={
 mixed:=by kernel_rfl
 f6:=⟨Tryz.f287.name,by decide,func287.trans (congrArg some (by kernel_rfl))⟩
 f14:=⟨Tryz.f300.name,by decide,func300.trans (congrArg some (by kernel_rfl))⟩
 f15:=func301.trans (congrArg some (by kernel_rfl))
 f20:=⟨Tryz.f306.name,by decide,func306.trans (congrArg some (by kernel_rfl))⟩
 f21:=⟨Tryz.f307.name,by decide,func307.trans (congrArg some (by kernel_rfl))⟩
 f22:=⟨Tryz.f308.name,by decide,func308.trans (congrArg some (by kernel_rfl))⟩
 f23:=⟨Tryz.f309.name,by decide,func309.trans (congrArg some (by kernel_rfl))⟩
 f24:=⟨Tryz.f310.name,by decide,func310.trans (congrArg some (by kernel_rfl))⟩
 f25:=⟨Tryz.f311.name,by decide,func311.trans (congrArg some (by kernel_rfl))⟩
 f26:=⟨Tryz.f312.name,by decide,func312.trans (congrArg some (by kernel_rfl))⟩
 f27:=⟨Tryz.f313.name,by decide,func313.trans (congrArg some (by kernel_rfl))⟩
 f28:=func314.trans (congrArg some (by kernel_rfl))
 f29:=func149.trans (congrArg some (by kernel_rfl))
 f46:=⟨Tryz.f324.name,by decide,func324.trans (congrArg some (by kernel_rfl))⟩
 f47:=func325.trans (congrArg some (by kernel_rfl))
 f48:=func326.trans (congrArg some (by kernel_rfl))
 f49:=⟨Tryz.f327.name,by decide,func327.trans (congrArg some (by kernel_rfl))⟩
 f50:=⟨Tryz.f328.name,by decide,func328.trans (congrArg some (by kernel_rfl))⟩
 f57:=⟨Tryz.f332.name,by decide,func332.trans (congrArg some (by kernel_rfl))⟩
 t0:=underlying0
 a0:=isAgg0
 z0:=sizeOf0
 v0:=zeroValue0
 t3:=underlying3
 a3:=isAgg3
 z3:=sizeOf3
 v3:=zeroValue3
 t4:=underlying4
 a4:=isAgg4
 z4:=sizeOf4
 v4:=zeroValue4
 t5:=underlying5
 a5:=isAgg5
 z5:=sizeOf5
 v5:=zeroValue5
 t9:=underlying9
 a9:=isAgg9
 z9:=sizeOf9
 v9:=zeroValue9
 t22:=underlying74
 a22:=isAgg74
 z22:=sizeOf74
 v22:=zeroValue74
 a24:=isAgg3
 z24:=sizeOf3
 t25:=underlying135
 a25:=isAgg135
 z25:=sizeOf135
 v25:=zeroValue135
 t39:=underlying194
 a39:=isAgg194
 z39:=sizeOf194
 v39:=zeroValue194
 t45:=underlying437
 a45:=isAgg437
 z45:=sizeOf437
 v45:=zeroValue437
 t46:=underlying438
 a46:=isAgg438
 z46:=sizeOf438
 v46:=zeroValue438
 t50:=underlying70
 a50:=isAgg70
 z50:=sizeOf70
 v50:=zeroValue70
 t53:=underlying269
 a53:=isAgg269
 z53:=sizeOf269
 v53:=zeroValue269
 t55:=underlying195
 a55:=isAgg195
 z55:=sizeOf195
 v55:=zeroValue195
 t66:=underlying448
 a66:=isAgg448
 z66:=sizeOf448
 v66:=zeroValue448
 t70:=underlying452
 a70:=isAgg452
 z70:=sizeOf452
 v70:=zeroValue452
 t76:=underlying456
 a76:=isAgg456
 z76:=sizeOf456
 v76:=zeroValue456
 t77:=underlying457
 a77:=isAgg457
 z77:=sizeOf457
 v77:=zeroValue457}
def Tryz.Aiy:Go.Shelf.Ren:=⟨fun | 5=>290 | 7=>302 | n=>n,fun | 22=>3 | 3=>3 | 4=>4 | n=>n,fun | n=>n⟩
theorem Tryz.Apj:Go.Proofs.SlLaysC2.n5 prog Tryz.Aiy:={
 mixed:=by kernel_rfl
 f5:=⟨Tryz.f290.name,by decide,func290.trans (congrArg some (by kernel_rfl))⟩
 f7:=⟨Tryz.f302.name,by decide,func302.trans (congrArg some (by kernel_rfl))⟩
 t3:=underlying3
 a3:=isAgg3
 z3:=sizeOf3
 v3:=zeroValue3
 t4:=underlying4
 a4:=isAgg4
 z4:=sizeOf4
 v4:=zeroValue4
 t22:=underlying3
 a22:=isAgg3
 z22:=sizeOf3
 v22:=zeroValue3}
def Tryz.ZT:Go.Shelf.Ren:=⟨fun | 189=>291 | 125=>301 | 257=>303 | 128=>314 | 129=>149 | 294=>315 | 295=>316 | 296=>317 | 297=>318 | 298=>319 | 299=>320 | 216=>321 | 300=>322 | 301=>323 | 328=>329 | 329=>325 | 330=>326 | 331=>330 | 332=>331 | 215=>302 | 343=>333 | n=>n,fun | 28=>74 | 3=>3 | 46=>194 | 0=>0 | 51=>269 | 53=>195 | 4=>4 | 183=>438 | 182=>437 | 131=>70 | 5=>5 | 9=>9 | 218=>448 | 222=>452 | 228=>456 | 229=>457 | n=>n,fun | n=>n⟩
theorem Tryz.AlF:Go.Proofs.Lays.n189 prog Tryz.ZT:={
 mixed:=by kernel_rfl
 f125:=func301.trans (congrArg some (by kernel_rfl))
 f128:=func314.trans (congrArg some (by kernel_rfl))
 f129:=func149.trans (congrArg some (by kernel_rfl))
 f189:=func291.trans (congrArg some (by kernel_rfl))
 f215:=func302.trans (congrArg some (by kernel_rfl))
 f216:=func321.trans (congrArg some (by kernel_rfl))
 f257:=func303.trans (congrArg some (by kernel_rfl))
 f294:=func315.trans (congrArg some (by kernel_rfl))
 f295:=func316.trans (congrArg some (by kernel_rfl))
 f296:=func317.trans (congrArg some (by kernel_rfl))
 f297:=func318.trans (congrArg some (by kernel_rfl))
 f298:=func319.trans (congrArg some (by kernel_rfl))
 f299:=func320.trans (congrArg some (by kernel_rfl))
 f300:=func322.trans (congrArg some (by kernel_rfl))
 f301:=func323.trans (congrArg some (by kernel_rfl))
 f328:=func329.trans (congrArg some (by kernel_rfl))
 f329:=func325.trans (congrArg some (by kernel_rfl))
 f330:=func326.trans (congrArg some (by kernel_rfl))
 f331:=func330.trans (congrArg some (by kernel_rfl))
 f332:=func331.trans (congrArg some (by kernel_rfl))
 f343:=func333.trans (congrArg some (by kernel_rfl))
 t0:=underlying0
 a0:=isAgg0
 z0:=sizeOf0
 v0:=zeroValue0
 t3:=underlying3
 a3:=isAgg3
 z3:=sizeOf3
 v3:=zeroValue3
 t4:=underlying4
 a4:=isAgg4
 z4:=sizeOf4
 v4:=zeroValue4
 t5:=underlying5
 a5:=isAgg5
 z5:=sizeOf5
 v5:=zeroValue5
 t9:=underlying9
 a9:=isAgg9
 z9:=sizeOf9
 v9:=zeroValue9
 t28:=underlying74
 a28:=isAgg74
 z28:=sizeOf74
 v28:=zeroValue74
 t46:=underlying194
 a46:=isAgg194
 z46:=sizeOf194
 v46:=zeroValue194
 t51:=underlying269
 a51:=isAgg269
 z51:=sizeOf269
 v51:=zeroValue269
 t53:=underlying195
 a53:=isAgg195
 z53:=sizeOf195
 v53:=zeroValue195
 t131:=underlying70
 a131:=isAgg70
 z131:=sizeOf70
 v131:=zeroValue70
 t182:=underlying437
 a182:=isAgg437
 z182:=sizeOf437
 v182:=zeroValue437
 t183:=underlying438
 a183:=isAgg438
 z183:=sizeOf438
 v183:=zeroValue438
 t218:=underlying448
 a218:=isAgg448
 z218:=sizeOf448
 v218:=zeroValue448
 t222:=underlying452
 a222:=isAgg452
 z222:=sizeOf452
 v222:=zeroValue452
 t228:=underlying456
 a228:=isAgg456
 z228:=sizeOf456
 v228:=zeroValue456
 t229:=underlying457
 a229:=isAgg457
 z229:=sizeOf457
 v229:=zeroValue457}
def Wor (w:World):Prop:=∃T fr,w.heap[11]?=some (.cells (AbI.map (Value.int i64)).toArray T fr)
theorem Wor.below{B:Nat}(h:Wor w)(c:Below B w w')(a:11<B):Wor w':=by
 obtain⟨T,fr,e⟩:=h;exact⟨T,fr,(c.block _ a).trans e⟩
theorem Wor.lt(h:Wor w):11<w.heap.size:=by grind [Wor]
theorem Afm:∀q:Fin 512,bits BinOp.and IntKind.i64 (q.val:Int) 1=((q.val % 2:Nat):Int):=by decide+kernel
theorem Aik(p k:Nat)(c:p<512):bits BinOp.and IntKind.i64 ((p:Int) / 2 ^ k) 1=((p / 2 ^ k % 2:Nat):Int):=by
 have a:p / 2 ^ k<512:=B5 (C3 _ _) c;have:=Afm ⟨p / 2 ^ k,a⟩;rw[<-this];simp
theorem AbQ(p:Nat)(w:World)(r:p<512)(m:Wor w):
 Calls prog 277 #[int i64 p] w fun e w'=>e=.returned (int i64 (JA p))/\w=w':=by
 obtain⟨T,fr,o⟩:=m;go_enter func277,ntmps277
 go_wp2_with(first | (refine CP rfl 422 (.global 11) rfl 11 rfl T _ fr _ o underlying422 rfl (by kernel_rfl) ?_))
 go_loop [3,7] (fun t l=>∃k:Nat,k<=9/\t=int i64 (Jm p k)/\l=int i64 k) (fun _ l=>9-(intOf l).toNat)
 case atStart=>exact⟨0,by omega,rfl,rfl⟩
 case round=>
  obtain⟨k,q,rfl,rfl⟩:=hrel
  by_cases a:k<9
  ·have ht:=Ao3 k a;have s:=U2 p k q;have c:Hid ((AbI.map (Value.int i64)).toArray[k]?=some (int i64 (AbI.getD k 0))):=by
    unfold Hid
    grind
   have h:=hid (show Jm p (k+1)=Jm p k+if p / 2 ^ k % 2=1 then AbI.getD k 0 else 0 from rfl);have f:=hid (Aik p k r);generalize AbI.getD k 0=y at*;generalize Jm p k=z at*
   by_cases d:p / 2 ^ k % 2=1
   ·have j:Hid (z+y=Jm p (k+1)):=by unfold Hid;rw[h.out,Ab d]
    have hd:(bits BinOp.and IntKind.i64 ((p:Int) / 2 ^ k) 1==1)=true:=by rw[f.out,d];rfl
    clear h d f
    go_wp2_with(first | (refine I2 rfl 422 (.tmp 6) (.tmp 7) rfl 3 _ 9 k (int i64 y) (.int i64) i64 rfl rfl underlying422 underlying3 rfl (by kernel_rfl) a c.out ?_))
    go_round
    case rel=>exact⟨k+1,by omega,by rw[<-j.out],by go_num⟩
    case measure=>simp[intOf];omega
   ·have j:Hid (z=Jm p (k+1)):=by unfold Hid;rw[h.out,Aa d,Int.add_zero]
    have hd:(bits BinOp.and IntKind.i64 ((p:Int) / 2 ^ k) 1==1)=false:=by rw[f.out,show p / 2 ^ k % 2=0 by omega];rfl
    clear h d f
    go_wp2_with(first | (refine I2 rfl 422 (.tmp 6) (.tmp 7) rfl 3 _ 9 k (int i64 y) (.int i64) i64 rfl rfl underlying422 underlying3 rfl (by kernel_rfl) a c.out ?_))
    go_round
    case rel=>exact⟨k+1,by omega,by rw[<-j.out],by go_num⟩
    case measure=>simp[intOf];omega
  ·obtain rfl:k=9:=by omega
   go_wp2;go_ret;exact⟨rfl,rfl⟩
theorem Abv [Inhabited α]{enc:α->Value}{fr:Nat×Nat}{c:Array Value}{d:Array α}(l:w.heap[g]?=some (.cells c T fr))(h:c.size=d.size):
 (Sort.grow (Sort.putRow enc (Sort.ahead w n) g 0 d) os).heap[g]?=some (.cells (d.map enc) T fr):=by
 have a:g<w.heap.size:=by
  grind
 rw[Sort.heap_grow_old _ _ (by simpa using a)];unfold Sort.putRow Sort.mapBlock;have e:Sort.putCells enc 0 d c=d.map enc:=by
  refine C5 (by simp[Sort.putCells,h]) fun j m f=>?_
  have o:j<d.size:=by simpa using f
  simp only[Sort.putCells,Array.getElem_mapIdx,Array.getElem_map]
  grind
 simp only[Sort.heap_ahead,EA,l,AP,Cx,Sort.onCells,e]
theorem WD [Inhabited α]{enc:α->Value}{d:Array α}:Kept [g] w (Sort.grow (Sort.putRow enc (Sort.ahead w n) g 0 d) os):=by
 refine⟨rfl,rfl,rfl,by simp,fun k a c=>?_⟩;rw[Sort.heap_grow_old _ _ (by simpa using a)];unfold Sort.putRow Sort.mapBlock;simp only[Sort.heap_ahead,EA]
 grind
theorem SC [Inhabited α]{enc:α->Value}{d:Array α}:Kept [g] w (sortWorld enc w g 0 n d os):=WD
def orI (x y:Int):Int:=if x=0 then y else x
theorem AnD(x y:Int)(g:Nat)(w:World)(f:w.cell? ⟨g,0,none⟩=some (int i64 x))(h:w.cell? ⟨g,1,none⟩=some (int i64 y)):
 Calls prog 289 #[slice (some ⟨g,0,none⟩) 2 2] w fun e w'=>e=.returned (int i64 (orI x y))/\w'=w:=by
 go_enter func289,ntmps289;go_wp2
 go_loop [8] (fun q=>∃k:Nat,q=int i64 k/\(k=0\/(k=1/\x=0)\/(k=2/\x=0/\y=0))) (fun q=>2-(intOf q).toNat)
 case atStart=>exact⟨0,rfl,.inl rfl⟩
 case round=>
  obtain⟨k,rfl,rfl | ⟨rfl,rfl⟩ | ⟨rfl,rfl,rfl⟩⟩:=hrel
  ·by_cases a:x=0
   ·subst a;go_wp2
    go_round
    case rel=>exact⟨1,rfl,by simp⟩
    case measure=>simp[intOf]
   ·have d:(x !=0)=true:=by simpa using a
    have E:=hid (show x=orI x y from(Aa a).symm);clear a;go_wp2;go_ret;exact⟨Fs E.out,rfl⟩
  ·by_cases c:y=0
   ·subst c;go_wp2
    go_round
    case rel=>exact⟨2,rfl,by simp⟩
    case measure=>simp[intOf]
   ·have d:(y !=0)=true:=by simpa using c
    have E:=hid (show y=orI 0 y from(Ab rfl).symm);clear c;go_wp2;go_ret;exact⟨Fs E.out,rfl⟩
  ·go_wp2;go_ret;exact⟨rfl,rfl⟩
theorem AhT(w:World)(r s:Int)(T:TypeId):(w.alloc (.cells #[int i64 r,int i64 s] T)).cell? ⟨w.heap.size,0,none⟩=some (int i64 r):=by
 rw[Al _ _ _ _ _ _ (Am w _)];rfl
theorem AhU(w:World)(r s:Int)(T:TypeId):(w.alloc (.cells #[int i64 r,int i64 s] T)).cell? ⟨w.heap.size,1,none⟩=some (int i64 s):=by
 rw[Al _ _ _ _ _ _ (Am w _)];rfl
def Vc (x y:Int):Int:=Lib.compareInt x y
def Tj (n:Nat)(p q:Fin n):Int:=orI (Vc (JA q.val) (JA p.val)) (Vc (q.val:Int) (p.val:Int))
theorem AiF(x y:Int)(W:World):Calls prog 290 #[int i64 x,int i64 y] W fun e w'=>e=.returned (int i64 (Vc x y))/\w'=W:=AnyG.cmp_Compare_int Tryz.Apj x y W
theorem Aix(n p q gw a c:Nat)(l:p<n)(m:q<n)(x y:Int)(W:World)(j:W.cell? ⟨a,0,none⟩=some (slice (some ⟨gw,0,none⟩) n c))(f:W.cell? ⟨gw,p,none⟩=some (int i64 x))(h:W.cell? ⟨gw,q,none⟩=some (int i64 y)):
 Calls prog 288 #[int i64 p,int i64 q,.pointer (some ⟨a,0,none⟩)] W fun e w'=>e=.returned (int i64 (orI (Vc y x) (Vc q p)))/\∃k os,w'=Sort.grow (W.drewN k) os:=by
 have o:(0:Int)<=(p:Int):=by omega
 have r:(p:Int)<(n:Int):=by omega
 have s:(0:Int)<=(q:Int):=by omega
 have t:(q:Int)<(n:Int):=by omega
 have d:=AnD (Vc y x) (Vc q p) W.heap.size (W.alloc (.cells #[int i64 (Vc y x),int i64 (Vc q p)] 3)).drew (AhT W _ _ 3) (AhU W _ _ 3);go_enter func288,ntmps288
 go_wp2_with fail
 go_region_held3 (fun w'=>w'.cell? ⟨a,0,none⟩=some (slice (some ⟨gw,0,none⟩) n c)/\w'.cell? ⟨gw,p,none⟩=some (int i64 x)/\w'.cell? ⟨gw,q,none⟩=some (int i64 y)) (go_keep) (first
  | (go_at_call 290;refine(AiF _ _ _).mono ?_;rintro e w1 ⟨rfl,rfl⟩)
  | (go_at_call 289;go_fit d;rintro e w1 ⟨rfl,rfl⟩))
 go_wp2;go_ret;exact⟨rfl,1,_,by rw[Sort.alloc_eq_grow];rfl⟩
theorem Tryz.AoQ:(prog.info? 3).map (·.size)=some 1:=by kernel_rfl
theorem Vm{a:Addr}(hd:ArrAt i64 3 w g L)(m:L.length=k)(r:∀j,j<n->w.cell? (a.add j)=some (int i64 (O.getD j 0)))(q:O.length=n)(l:k<=n)(ty:TypeId):
 ∃w',(Builtin.copy_ #[74,74] ty #[slice (some ⟨g,0,none⟩) k k,slice (some a) n sc]).run prog w=.ok (goInt k) w'/\ArrAt i64 3 w' g (O.take k)/\Kept [g] w w':=by
 by_cases f:k=0
 ·subst f;refine⟨w,?_,?_,Kept.refl _ _⟩
  ·exact run_copy_none (P:=prog) w 74 74 ty 3 _ _ 0 0 n sc underlying74 Tryz.AoQ (by simp)
  grind
 ·have d:((O.take k).map (Value.int i64)).length=k:=by simp;omega
  have c:=run_copy_row (P:=prog) w 74 74 ty 3 g 0 k k a n sc _ 3 ((O.take k).map (Value.int i64)) underlying74 Tryz.AoQ hd (d.trans (Dv l).symm) ?_ ?_ ?_
  ·rw[d]at c;refine⟨_,c,?_,⟨rfl,rfl,rfl,by simp,fun j _ h=>Cl w g j _ (fun e=>h (by simp[e]))⟩⟩;refine(Cn w g _ _ 3 _ hd).trans ?_;simp[m]
  ·grind
  ·rw[d];simp;omega
  ·intro u o;obtain⟨y,_,rfl⟩:=Bb.1 o;rfl
theorem NP{ops:Array Oper}{c:List Oper}{o:Oper}{a:Act}{Q:Exit->Act->World->Prop}{l:Addr}(hd:ArrAt i64 3 w g L)(v:L.length=k)(y:∀j,j<n->w.cell? (l.add j)=some (int i64 (O.getD j 0)))(t:O.length=n)(u:k<=n)
 (f:o.guard=none) (d s:Operand) (x:o.op=.call {callee:=.builtin .copy,args:=#[d,s],argTypes:=#[74,74]}) (hde:a.eval d=slice (some ⟨g,0,none⟩) k k) (hse:a.eval s=slice (some l) n sc)
 (h:∀w',ArrAt i64 3 w' g (O.take k)->Kept [g] w w'->wpList prog ops Q c (a.put o.dst (goInt k)) w'):
 wpList prog ops Q (o::c) a w:=by
 obtain⟨w',e,m,q⟩:=Vm hd v y t u (sc:=sc) o.type;refine CM f fun K r=>?_
 unfold Oper.wp;simp[execOp,x,resolve,invoke,builtin,hde,hse,e,Result.andThen];exact r _ _ (h w' m q)
theorem WH(h:ArrAt i64 3 w g L)(c:L.length=n):∀j,j<n->w.cell? ((⟨g,0,none⟩:Addr).add j)=some (int i64 (L.getD j 0)):=fun j a=>by
 have e1:(⟨g,0,none⟩:Addr).add j=⟨g,j,none⟩:=by unfold Addr.add;split<;>simp_all
 rw[e1,h.cell (by omega)]
def Xv (n:Nat)(i:Fin n):Value:=int i64 (i.val:Int)
theorem ltP(n:Nat)(p q:Fin n):ltOf (Tj n) p q=btr p.val q.val:=by unfold ltOf Tj orI Vc Lib.compareInt btr;repeat split<;>grind
theorem Apt(n:Nat):Go.Sort.SWO (ltOf (Tj n)):={
 irrefl:=fun x=>by rw[ltP];exact Ta _
 trans:=fun x y z a c=>by rw[ltP]at*;exact Aft a c
 ntrans:=fun x y z a c=>by rw[ltP]at*;exact Aeu a c}
theorem Apv(n:Nat)(x y:Fin n)(a:ltOf (Tj n) x y=false)(c:ltOf (Tj n) y x=false):x=y:=by grind [Tj,ltP,VJ]
theorem Ah2(n:Nat):(List.finRange n).map Fin.val=List.range n:=by
 refine AW (by simp) fun j a c=>?_
 simp
theorem Yr(n:Nat):((List.finRange n).mergeSort fun x y=>!ltOf (Tj n) y x).map Fin.val=Hv n:=by
 rw[List.map_mergeSort (s:=fun x y=>!btr y x) (by intro a _ b _;rw[ltP]),Ah2];rfl
theorem Yq(n:Nat):(((List.finRange n).mergeSort fun x y=>!ltOf (Tj n) y x).toArray.map (Xv n))=((Lt (Hv n)).map (Value.int i64)).toArray:=by
 rw[<-Yr];simp[Lt,Xv]
def Vh (n i:Nat):List Int:=Lt (List.range i)++List.replicate (n-i) 0
theorem Ai6(h:i<n):(Vh n i).set i (i:Int)=Vh n (i+1):=by
 unfold Vh Lt;obtain⟨m,a⟩:∃m,n-i=m+1:=⟨n-i-1,by omega⟩;rw[a,KI _ i m _ (by simp),show n-(i+1)=m by omega,Az,AR];rfl
theorem ZM(h:i<=n):(Vh n i).length=n:=by simp[Vh,JF];omega
theorem Ai5(n:Nat):Vh n n=Lt (List.range n):=by simp[Vh]
def Hk (n i:Nat):List Int:=(List.range i).map JA++List.replicate (n-i) 0
theorem YB(h:i<n):(Hk n i).set i (JA i)=Hk n (i+1):=by
 unfold Hk;obtain⟨m,a⟩:∃m,n-i=m+1:=⟨n-i-1,by omega⟩;rw[a,KI _ i m _ (by simp),show n-(i+1)=m by omega,Az,AR];rfl
theorem NO(h:i<=n):(Hk n i).length=n:=by simp[Hk];omega
theorem SK{j:Nat}(h:j<n):(Hk n n).getD j 0=JA j:=by simp[Hk,List.getD,h]
theorem Agh(h:ArrAt i64 T w g L):Go.Sort.Holds (Value.int i64) w g 0 L.toArray:=fun j c=>by
 have a:j<L.length:=by simpa using c
 rw[Ao,h.cell a,getElem!_pos L.toArray j c];exact⟨by simp[List.getD,a],h.free j⟩
theorem Agi [Inhabited (Fin n)](h:ArrAt i64 T w g (Lt (List.range n))):Go.Sort.Holds (Xv n) w g 0 (List.finRange n).toArray:=fun j c=>by
 have a:j<n:=by simpa using c
 rw[Ao,h.cell (by simpa [Lt]using a),getElem!_pos _ j c,XJ];refine⟨?_,h.free j⟩;simp[Xv,List.getD,a]
theorem Aha(n gw c a T:Nat)(W:World)(D:1<=n)(I:n<=512)(t:W.heap[c]?=some (.cells #[slice (some ⟨gw,0,none⟩) n n] T (0,0)))(H:ArrAt i64 3 W gw (Hk n n))(u:ArrAt i64 3 W a (Lt (List.range n)))(hg:gw≠a)(J:c≠a):
 Calls prog 287 #[slice (some ⟨a,0,none⟩) n n,.func (.func 288) #[] #[.pointer (some ⟨c,0,none⟩)]] W fun e w'=>e=.returned (.tuple #[])/\ArrAt i64 3 w' a (Lt (Hv n))/\Kept [a] W w':=by
 have:Inhabited (Fin n):=⟨⟨0,D⟩⟩;have s:c<W.heap.size:=by
  grind
 have B:∀args w,(callFunc 288 args).run prog w=.ok (.enter 288 args) w:=enters_of func288 (by kernel_rfl) rfl;have f:CmpLays1 prog 288 #[.pointer (some ⟨c,0,none⟩)] (Xv n) (Tj n) a 0 (List.finRange n).toArray.size W:=by
  intro m os z _ x y;have A:=SC (enc:=Xv n) (w:=W) (g:=a) (n:=m) (d:=z) (os:=os);have r:=(A.block c s (by simp;omega)).trans t;have h:ArrAt i64 3 (sortWorld (Xv n) W a 0 m z os) gw (Hk n n):=H.kept A (by simp;omega);have l:=NO (Ac n);have c0:=h.cell (j:=x.val) (by rw[l];exact x.isLt);have c1:=h.cell (j:=y.val) (by rw[l];exact y.isLt);rw[SK x.isLt]at c0;rw[SK y.isLt]at c1;exact Aix n x.val y.val gw c n x.isLt y.isLt (JA x.val) (JA y.val) _ (by rw[Al _ _ _ _ _ _ r];rfl) c0 c1
 have o:=Any.slices_SortFunc_total Tryz.Ao0 (Xv n) (fun _=>rfl) (Tj n) (Apt n) 288 #[.pointer (some ⟨c,0,none⟩)] a 0 n (List.finRange n).toArray W B f (Agi u) u.lt (by simp;omega) (Apv n);have v:(List.finRange n).toArray.size=n:=by simp
 rw[v]at o;change Calls prog 287 _ _ _ at o;refine o.mono fun e w' C=>?_
 obtain⟨E,q,os,F⟩:=C;subst F;refine⟨E,?_,SC⟩;have G:=Abv (enc:=Xv n) (n:=q) (os:=os) (d:=((List.finRange n).toArray.toList.mergeSort fun x y=>!(ltOf (Tj n)) y x).toArray) u (by simp[Lt]);refine G.trans ?_
 grind [Yq]
theorem Agj(g k:Nat)(L:List Int)(W:World)(j:L.length=k)(o:k<=512)(c:ArrAt i64 3 W g L):
 Calls prog 291 #[slice (some ⟨g,0,none⟩) k k] W fun e w'=>e=.returned (.tuple #[])/\ArrAt i64 3 w' g (L.mergeSort fun x y=>decide (x<=y))/\Kept [g] W w':=by
 have a:=Any.slices_Sort_int Tryz.AlF g 0 k L W (Agh c) c.lt (by omega);rw[j]at a;change Calls prog 291 _ _ _ at a;refine a.mono fun e w' f=>?_
 obtain⟨h,q,os,l⟩:=f;subst l;refine⟨h,?_,WD⟩;have m:=Abv (enc:=Value.int i64) (n:=q) (os:=os) (d:=(L.mergeSort fun x y=>decide (x<=y)).toArray) c (by simp);refine m.trans ?_;simp
theorem Aip(n k gw:Nat)(w:World)(h1:1<=n)(h5:n<=512)(hk:k<=n)(Y:ArrAt i64 3 w gw (Hk n n)):
 Calls prog 278 #[slice (some ⟨gw,0,none⟩) n n,int i64 k] w fun e w'=>∃g,e=.returned (slice (some ⟨g,0,none⟩) k k)/\ArrAt i64 3 w' g (Lt (Fl n k))/\w.heap.size<=g/\Below w.heap.size w w':=by
 have M:=Y.lt;go_enter func278,ntmps278
 go_wp2_with(first | (refine FZ w.heap.size w n rfl _ _ rfl _ _ rfl rfl rfl rfl (by omega) ((Ad _ _).alloc (Ac _) _) (by simp) ?_;intro w1 d f D o));have e1:(w.alloc (.cells #[slice (some ⟨gw,0,none⟩) n n] 74)).heap.size=w.heap.size+1:=by simp
 have m:w1.heap[w.heap.size]?=some (.cells #[slice (some ⟨gw,0,none⟩) n n] 74 (0,0)):=(o.block w.heap.size (by rw[e1];omega)).trans (Am w _);rw[e1]at d D;have W:=d.arr.1;have I:=hid m;clear d o e1 m
 go_loopw [13] (fun q wr=>∃i:Nat,i<=n/\q=int i64 i/\ArrAt i64 3 wr (w.heap.size+1) (Vh n i)/\Kept [w.heap.size+1] w1 wr) (fun q _=>n-(intOf q).toNat)
 case atStart=>grind [Vh,Lt,Kept.refl]
 case round=>
  obtain⟨i,hi,rfl,c,a⟩:=hrel
  by_cases C:i<n
  ·have E:=c.set i (i:Int);rw[Ai6 C]at E;have hf:=c.free i;have aa:=c.cell (j:=i) (by rw[ZM hi];exact C);have H:=a.setCell (p:=⟨w.heap.size+1,i,none⟩) (by simp) (int i64 (i:Int));generalize (Vh n i).getD i 0=z at*;clear c a;go_wp2
   go_roundw
   case rel=>grind
   case measure=>simp[intOf];omega
  ·obtain rfl:i=n:=by omega
   rw[Ai5]at c;have y:=(a.block w.heap.size (by omega) (by simp)).trans I.out;have G:=(Y.below f M).kept a (by simp;omega);have hS:=Aha i gw w.heap.size (w.heap.size+1) 74 wr h1 h5 y G c (by omega) (by omega);have s:=f.trans (a.below (B:=w.heap.size) (by omega) (by simp));have ab:=a.size;have r:=hid ((JF (Hv i)).trans (QL i));clear y c G a
   go_wp2_with fail;refine hS.mono ?_;rintro e w2 ⟨rfl,h,A⟩;have t:=s.trans (A.below (B:=w.heap.size) (by omega) (by simp));have ac:=A.size
   go_wp2_with(first
    | (refine FZ w2.heap.size w2 k rfl _ _ rfl _ _ rfl rfl rfl rfl (by omega) (Ad _ _) (Ac _) ?_;intro w3 R x X V;obtain⟨u, -, -⟩:=R.arr;have J:=h.below x h.lt;have F:=WH J r.out)
    | (refine NP u (by simp) F r.out hk rfl (.tmp 26) (.tmp 27) rfl rfl rfl ?_;intro w4 v N;have U:=Agj w2.heap.size k _ w4 (by rw[Ay,r.out];omega) (by omega) v)
    | (go_at_call 291;refine U.mono ?_;rintro e w5 ⟨rfl,l,Q⟩))
   go_ret;have Z:=Uf i k;have e6:(Lt (Hv i)).take k=Lt ((Hv i).take k):=by unfold Lt;rw[Dx]
   rw[e6,Z]at l;refine⟨w2.heap.size,rfl,l,by omega,?_⟩;have K:=(N.trans Q).below (B:=w.heap.size) (by omega) (by simp;omega);exact(t.trans (x.mono (by omega))).trans K
def AaB (n k:Int):Bool:=Np n && decide (0<=k) && decide (k<=n)
theorem Ami{n:Int}(h:Np n=false):J2 n=1:=by unfold J2;rw[h];rfl
theorem Abo{n:Int}(h:Np n=true):J2 n=0:=by unfold J2;rw[h];rfl
theorem AmP(n k:Int)(w:World)(j: -9223372036854775808<=n/\n<=9223372036854775807)(h:AaB n k=false):
 Calls prog 259 #[int i64 n,int i64 k] w fun e w'=>e=.returned (.tuple #[slice none 0 0,int i64 1])/\w=w':=by
 have a:=Abn n w j
 cases c:Np n with
 | false=>
  rw[Ami c]at a;clear h c;go_enter func259,ntmps259
  go_wp2_with(first | (go_at_call 276;refine a.mono ?_;rintro e w1 ⟨rfl,rfl⟩))
  go_ret2;exact⟨rfl,rfl⟩
 | true=>
  rw[Abo c]at a;have d:k<0\/(¬k<0/\n<k):=by
   unfold AaB at h;rw[c]at h;simp at h;omega
  clear h c
  rcases d with d | ⟨d,f⟩
  ·go_enter func259,ntmps259
   go_wp2_with(first | (go_at_call 276;refine a.mono ?_;rintro e w1 ⟨rfl,rfl⟩))
   go_ret2;exact⟨rfl,rfl⟩
  ·go_enter func259,ntmps259
   go_wp2_with(first | (go_at_call 276;refine a.mono ?_;rintro e w1 ⟨rfl,rfl⟩))
   go_ret2;exact⟨rfl,rfl⟩
theorem Sw(m n k:Nat)(w:World)(H:m<=9)(u:n=2 ^ m)(N:k<=n)(E:Wor w):
 Calls prog 259 #[int i64 n,int i64 k] w fun e w'=>∃g,e=.returned (.tuple #[slice (some ⟨g,0,none⟩) k k,int i64 0])/\ArrAt i64 3 w' g (Lt (Fl n k))/\w.heap.size<=g/\Below w.heap.size w w':=by
 have J:n<=512:=by rw[u];exact BC (by omega) H
 have I:1<=n:=by rw[u];exact Dj
 have s:=Abn n w (by omega);rw[Abo (by rw[u];exact Anx H)]at s;have v:=E.lt;have Q:¬(k:Int)<0:=by omega
 have R:¬(n:Int)<(k:Int):=by omega
 clear u;go_enter func259,ntmps259
 go_wp2_with(first
  | (go_at_call 276;refine s.mono ?_;rintro e w1 ⟨rfl,rfl⟩)
  | (refine FZ w.heap.size w n rfl _ _ rfl _ _ rfl rfl rfl rfl (by omega) (Ad _ _) (Ac _) ?_;intro w1 f h G D;obtain⟨F, -, -⟩:=f.arr;clear f))
 go_loopw [25] (fun q wr=>∃i:Nat,i<=n/\q=int i64 i/\ArrAt i64 3 wr w.heap.size (Hk n i)/\Kept [w.heap.size] w1 wr) (fun q _=>n-(intOf q).toNat)
 case atStart=>grind [Hk,Kept.refl]
 case round=>
  obtain⟨i,hi,rfl,c,a⟩:=hrel;have d:=h.trans (a.below (B:=w.heap.size) (by omega) (by simp))
  by_cases o:i<n
  ·have r:=c.set i (JA i);rw[YB o]at r;have U:=c.free i;have K:=c.cell (j:=i) (by rw[NO hi];exact o);have t:=a.setCell (p:=⟨w.heap.size,i,none⟩) (by simp) (int i64 (JA i));have C:=AbQ i wr (by omega) (E.below d v);generalize (Hk n i).getD i 0=z at*;generalize JA i=y at*;clear c a
   go_wp2_with(first | (go_at_call 277;refine C.mono ?_;rintro e w2 ⟨rfl,rfl⟩))
   go_roundw
   case rel=>grind
   case measure=>simp[intOf];omega
  ·obtain rfl:i=n:=by omega
   have A:=Aip i k w.heap.size wr I J N c
   go_wp2_with fail;refine A.mono ?_;rintro e w2 ⟨g,rfl,l,M,x⟩;have V:=a.size;go_wp2
   go_ret2;exact⟨g,rfl,l,by omega,d.trans (x.mono d.size)⟩
theorem Aax(m:Nat)(b:List Int)(a:Option Addr)(n k c:Nat)(w:World)(Y:Rd .u8 w a b)(Z:AllBits b)(U:b.length=k)(hm:m<=9)(J:n=2 ^ m)(Q:k<=n)(hW:Wor w):
 Calls prog 229 #[slice a k c,int i64 n] w fun e w'=>∃g,e=.returned (.tuple #[slice (some ⟨g,0,none⟩) n n,int i64 0])/\Own w' w.heap.size (slice (some ⟨g,0,none⟩) n n) (GE m (Iq n (Fl n k) b k))/\Below w.heap.size w w':=by
 have h5:n<=512:=by rw[J];exact BC (by omega) hm
 have E:=IP b a c w Y (by unfold maxLen;omega);rw[U,TB (fun j _=>(Z.at j).2) (by omega)]at E;have V:=Sw m n k w hm J Q hW;have X:=hid U;have K:=hid J;have M:=hid ((JF (Fl n k)).trans (KD Q));have N:=SE n (Fl n k) b Z.at k;have x:=hid (My n (Fl n k) b k);clear U J;go_enter func229,ntmps229
 go_wp2_with(first
  | (go_at_call 225;refine E.mono ?_;rintro e w1 ⟨rfl,rfl⟩)
  | fail)
 refine V.mono ?_;rintro e w1 ⟨gp,rfl,t,ac,h⟩;have W:=h.size;have F:=t.lt
 go_wp2_with(first
  | (refine FH w1.heap.size w1 n rfl _ _ rfl _ _ rfl rfl rfl rfl (by omega) (Ad _ _) (Ac _) ?_;intro w2 o l aa;obtain⟨C, -, -⟩:=o.arr;clear o))
 have v:=t.below l F
 go_loopw [31] (fun q wr=>∃i:Nat,i<=k/\q=int i64 i/\ArrAt .u8 5 wr w1.heap.size (Iq n (Fl n k) b i)/\Kept [w1.heap.size] w2 wr) (fun q _=>k-(intOf q).toNat)
 case atStart=>exact⟨0,Af _,rfl,C,Kept.refl _ _⟩
 case round=>
  obtain⟨i,hi,rfl,f,d⟩:=hrel;have u:=(h.trans (l.mono W)).trans (d.below (B:=w.heap.size) (by omega) (by simp;omega))
  by_cases r:i<k
  ·obtain⟨b1,o1,rfl,D⟩:=(Y.below u).at (i:=i) (by rw[X.out];exact r);have g1:=D i (by rw[X.out];exact r);have g2:=(v.kept d (by simp;omega)).cell (j:=i) (by rw[M.out];exact r);rw[XJ]at g2;have G:=Wo Q r;have H:=f.set ((Fl n k).getD i 0) (b.getD i 0);have A:=hid (show(Iq n (Fl n k) b i).set ((Fl n k).getD i 0) (b.getD i 0)=Iq n (Fl n k) b (i+1)from rfl);rw[A.out]at H;have hf:=f.free ((Fl n k).getD i 0);have ab:=f.cell (j:=(Fl n k).getD i 0) (by rw[My];exact G);have I:=d.setCell (p:=⟨w1.heap.size,(Fl n k).getD i 0,none⟩) (by simp) (int .u8 (b.getD i 0));clear D A f d;generalize (Fl n k).getD i 0=p at*;generalize b.getD i 0=y at*;generalize (Iq n (Fl n k) b i).getD p 0=z at*;have ad:(p:Int)<(n:Int):=by omega
   go_wp2
   go_roundw
   case rel=>grind
   case measure=>simp[intOf];omega
  ·obtain rfl:i=k:=by omega
   have hs:=d.size;have hT:=Yx m [] (Iq n (Fl n i) b i) [] w1.heap.size 0 n n wr (by simpa using f) rfl x.out K.out h5 (Ac _) N
   go_wp2_with fail;refine hT.mono ?_;rintro e w3 ⟨rfl,s,R⟩;rw[AK,AA]at s;go_wp2
   go_ret2;refine⟨_,rfl,PX s (by omega) ?_ (by unfold maxLen;omega),u.trans (R.below (by omega) (by simp;omega))⟩;rw[JM m _ (x.out.trans K.out)];exact K.out.symm
theorem Ac3(x y:Int)(w:World)(d: -4611686018427387904<=x/\x<=4611686018427387904)(f: -4611686018427387904<=y/\y<=4611686018427387904):
 Calls prog 295 #[int i64 x,int i64 y] w fun e w'=>e=.returned (int i64 (fI x y))/\w'=w:=by
 by_cases c:x<0
 ·by_cases a:y<0
  ·go_enter func295,ntmps295;go_wp2;go_ret;exact⟨Fs (by unfold fI WY;(repeat' split)<;>omega),rfl⟩
  ·go_enter func295,ntmps295;go_wp2;go_ret;exact⟨Fs (by unfold fI WY;(repeat' split)<;>omega),rfl⟩
 ·by_cases a:y<0
  ·go_enter func295,ntmps295;go_wp2;go_ret;exact⟨Fs (by unfold fI WY;(repeat' split)<;>omega),rfl⟩
  ·go_enter func295,ntmps295;go_wp2;go_ret;exact⟨Fs (by unfold fI WY;(repeat' split)<;>omega),rfl⟩
def dM (P:List Nat):Nat->DataW Unit
 | 0=> .map []
 | i+1=>(dM P i).put (.int i64 (P.getD i 0:Nat)) (.lit (.int i64 i))
theorem Tv(P:List Nat):∀i,IsMap (dM P i)
 | 0=>isMap_empty
 | i+1=>(Tv P i).put _ _
theorem AcW{a:Nat}(h:a≠b):(Lit.int i64 (a:Int))≠Lit.int i64 (b:Int):=by
 grind
theorem AiI(P:List Nat)(p:Nat):∀i,(∀j,j<i->P.getD j 0≠p)->Maps.has (dM P i) (.int i64 (p:Int))=false
 | 0,_=>rfl
 | i+1,h=>by
  rw[dM,has_put_other (AcW (fun e=>h i (by omega) e.symm))];exact AiI P p i (fun j a=>h j (by omega))
theorem AmJ(P:List Nat)(d:P.Pairwise (fun x y=>x<y)):∀i,i<=P.length->∀j,j<i->Maps.has (dM P i) (.int i64 (P.getD j 0:Nat))=true/\∀z,(dM P i).atKey (.int i64 (P.getD j 0:Nat)) z=.lit (.int i64 j)
 | 0,_,j,h=>by omega
 | i+1,hi,j,hj=>by
  by_cases e:j=i
  ·subst e;rw[dM];have a:WideAt.IsKeyLit (.int i64 (P.getD j 0:Nat)):=trivial;exact⟨has_put_same (Tv P j) a _,fun z=>atKey_put_same (Tv P j) a _ z⟩
  ·have c:P.getD j 0≠P.getD i 0:=by
    have l:P.getD i 0=P[i]:=by grind
    have m:P.getD j 0=P[j]:=by grind
    have:=(List.pairwise_iff_getElem.1 d) j i (by omega) (by omega) (by omega);omega
   have f:=AmJ P d i (by omega) j (by omega);rw[dM,has_put_other (AcW c)];exact⟨f.1,fun z=>by rw[atKey_put_other (AcW c)];exact f.2 z⟩
theorem Tryz.AlB:Keyed prog 3:=int_keyed underlying3
theorem Tryz.AkZ(w:World):(zeroValue 3).run prog w=.ok (int i64 0) w:=by kernel_rfl
def MapAt(w:World)(b:Nat)(P:List Nat)(k:Nat):Prop:=w.ownsMap prog 3 (plainElem prog 3) b k (dM P k)
theorem MapAt.same(h:MapAt w b P k)(e:w'.heap[b]?=w.heap[b]?):MapAt w' b P k:=by
 obtain⟨es,a,c,r⟩:=h;exact⟨es,a,e.trans c,r⟩
theorem MapAt.kept(h:MapAt w b P k)(c:Kept S w w')(a:b∉S):MapAt w' b P k:=h.same (c.block b (CQ h) a)
def FinderAt(w:World)(gf bm gd k:Nat):Prop:=∃T,w.heap[gf]?=some (.cells #[.map (some bm),slice (some ⟨gd,0,none⟩) k k] T (0,0))
theorem FinderAt.lt(h:FinderAt w gf bm gd k):gf<w.heap.size:=by grind [FinderAt]
theorem FinderAt.kept(h:FinderAt w gf bm gd k)(c:Kept S w w')(a:gf∉S):FinderAt w' gf bm gd k:=by
 have d:=h.lt;obtain⟨T,e⟩:=h;exact⟨T,(c.block gf d a).trans e⟩
theorem FinderAt.cells(h:FinderAt w gf bm gd k):w.cell? ⟨gf,0,none⟩=some (.map (some bm))/\w.cell? ⟨gf,1,none⟩=some (slice (some ⟨gd,0,none⟩) k k):=by
 obtain⟨T,e⟩:=h
 constructor
 ·rw[Al _ _ _ _ _ _ e];rfl
 ·rw[Al _ _ _ _ _ _ e];rfl
theorem AeQ{a b:Int}(h:(DataW.lit (.int i64 a):DataW Unit)=.lit (.int i64 b)):a=b:=by
 simpa using h
def PF (q:Bool)(z:Int):Int:=if q && decide (z<0) then 1 else 0
theorem Am4(P:List Nat)(k p gf bm gd:Nat)(z:Int)(w:World)(r:p<=512)(d:∀j,j<k->P.getD j 0≠p)(f:MapAt w bm P k)(hF:FinderAt w gf bm gd k):
 Calls prog 294 #[.pointer (some ⟨gf,0,none⟩),.int i64 p,.int i64 z] w fun e w'=>e=.returned (.int .u8 0)/\w'=w:=by
 obtain⟨o,q⟩:=hF.cells;have a:keyOf prog 3 (.int i64 (p:Int))=some (.int i64 (p:Int)):=keyOf_int_mk underlying3 (Cy (by omega));have l:=AiI P p k d;clear hF;go_enter func294,ntmps294
 go_wp2_with(first
  | (at_lookup;refine DY _ rfl _ _ 89 rfl 3 3 i64 Tryz.AlB underlying89 underlying3 (Tryz.AkZ _) bm k _ rfl f _ _ rfl a ?_;intro c h m;rw[l]))
 go_ret;exact⟨rfl,rfl⟩
theorem Alc(P:List Nat)(F:P.Pairwise (fun x y=>x<y))(k p i gf bm gd:Nat)(fd:List Int)(z:Int)(w:World)(K:p<=512)(q:P.length=k)(hi:i<k)(l:P.getD i 0=p)(A:MapAt w bm P k)(hF:FinderAt w gf bm gd k)(o:ArrAt .u8 5 w gd fd)(a:fd.length=k):
 Calls prog 294 #[.pointer (some ⟨gf,0,none⟩),.int i64 p,.int i64 z] w fun e w'=>e=.returned (.int .u8 (PF true z))/\ArrAt .u8 5 w' gd (if z<0 then fd.set i 1 else fd)/\Kept [gd] w w':=by
 obtain⟨G,H⟩:=hF.cells;have d:keyOf prog 3 (.int i64 (p:Int))=some (.int i64 (p:Int)):=keyOf_int_mk underlying3 (Cy (by omega));have B:=AmJ P F k (by omega) i hi;rw[l]at B;obtain⟨C,D⟩:=B;have v:=hid (D (.lit (.int i64 0)));clear hF D
 by_cases r:z<0
 ·have s:=hid (show PF true z=1 by simp[PF,r]);rw[Ab r];have m:=o.set i 1;have J:=o.free i;have I:=o.cell (j:=i) (by omega);have h:=(Kept.refl [gd] w).setCell (p:=⟨gd,i,none⟩) (by simp) (.int .u8 1);generalize fd.getD i 0=old at*;have E:=hid q;have t:=hid a;clear q a l;rw[s.out];go_enter func294,ntmps294
  go_wp2_with(first
   | (at_lookup;refine DY _ rfl _ _ 89 rfl 3 3 i64 Tryz.AlB underlying89 underlying3 (Tryz.AkZ _) bm k _ rfl A _ _ rfl d ?_;intro c f u;rw[C];obtain rfl:c=(i:Int):=AeQ (f.symm.trans v.out)))
  go_ret;exact⟨rfl,m,h⟩
 ·have s:=hid (show PF true z=0 by simp[PF,r]);rw[Aa r,s.out];have E:=hid q;have t:=hid a;clear q a l;go_enter func294,ntmps294
  go_wp2_with(first
   | (at_lookup;refine DY _ rfl _ _ 89 rfl 3 3 i64 Tryz.AlB underlying89 underlying3 (Tryz.AkZ _) bm k _ rfl A _ _ rfl d ?_;intro c f u;rw[C];obtain rfl:c=(i:Int):=AeQ (f.symm.trans v.out)))
  go_ret;exact⟨rfl,o,Kept.refl _ _⟩
def GX (P:List Nat)(first n:Nat):List Bool:=(List.range n).map fun j=>decide (first+j∈P)
theorem AcB(P:List Nat)(first h:Nat):(GX P first (h+h)).take h=GX P first h:=by
 unfold GX;rw[<-Dx,List.take_range,B8 (by omega)]
theorem Acz(P:List Nat)(first h:Nat):(GX P first (h+h)).drop h=GX P (first+h) h:=by
 refine AW (by simp[GX]) fun j a c=>?_
 simp[GX,BZ]
theorem AiJ(m:Nat)(l:List Int)(P:List Nat)(first h:Nat)(a:h=2 ^ m):Ki (m+1) l (GX P first (h+h))=
 Ki m (fL (l.take h) (l.drop h)) (GX P first h)++Ki m (gL (GE m (Ki m (fL (l.take h) (l.drop h)) (GX P first h))) (l.take h) (l.drop h)) (GX P (first+h) h):=by
 subst a;rw[Ki,AcB,Acz]
theorem AbE(m:Nat)(u v:List Int)(a:u.length=2 ^ m):GE (m+1) (u++v)=MD (GE m u) (GE m v)++GE m v:=by
 rw[GE,List.take_left' a,List.drop_left' a]
theorem Ant(h:p∈P):∃i,i<P.length/\P.getD i 0=p:=by
 obtain⟨i,hi,rfl⟩:=A5 h;exact⟨i,hi,by simp[List.getD,hi]⟩
theorem Ada(h:p∉P)(a:P.length=k):∀j,j<k->P.getD j 0≠p:=by grind
structure Fm(P:List Nat)(k gf bm gd gt b1:Nat):Prop where
 sorted:P.Pairwise (fun x y=>x<y)
 len:P.length=k
 fd:gf≠gd
 ft:gf≠gt
 md:bm≠gd
 mt:bm≠gt
 dt:gd≠gt
 hd:b1≠gd
 ht:b1≠gt
theorem AiP(P:List Nat)(k gf bm gd t b1 o1 o c ct first:Nat)(l A x Z fd:List Int)(w:World)(H:Fm P k gf bm gd t b1)(W:Rd i64 w (some ⟨b1,o1,none⟩) l)(hl:l.length=1)(I:ArrAt .u8 5 w t (A++x++Z))(V:A.length=o)(X:x.length=1)
 (F:MapAt w bm P k) (hF:FinderAt w gf bm gd k) (E:ArrAt .u8 5 w gd fd) (f:fd.length=k) (U:first<=512):
 Calls prog 281 #[.pointer (some ⟨gf,0,none⟩),slice (some ⟨b1,o1,none⟩) 1 c,int i64 first,slice (some ⟨t,o,none⟩) 1 ct] w fun e w'=>
  e=.returned (.tuple #[])/\ArrAt .u8 5 w' t (A++GE 0 (Ki 0 l (GX P first 1))++Z)/\ArrAt .u8 5 w' gd (KY P fd first (Ki 0 l (GX P first 1)))/\Kept [t,gd] w w':=by
 obtain⟨b,o',e,u⟩:=W.at (i:=0) (by omega);simp only[Bl,BI,BJ]at e;obtain⟨rfl,rfl⟩:=e;have g1:=u 0 (by omega);rw[Bh]at g1;obtain⟨z,K⟩:=E7 (l.getD 0 0);have m:Ki 0 l (GX P first 1)=[PF (decide (first∈P)) z]:=by
  rw[K];simp[Ki,GX,PF]
 rw[m,GE];rw[<-K]at g1;have N:∃y,x=[y]:=by
  match x,X with
  | [y],_=>exact⟨y,rfl⟩
 obtain⟨y,rfl⟩:=N;have h:(A++[y]++Z).getD o 0=y:=by
  grind
 have j:∀v,(A++[y]++Z).set o v=A++[v]++Z:=by grind
 have C:o<(A++[y]++Z).length:=by simp;omega
 clear W hl u K m X
 by_cases d:first∈P
 ·obtain⟨i,hi,r⟩:=Ant d;rw[H.len]at hi;have G:=Alc P H.sorted k first i gf bm gd fd z w U H.len hi r F hF E f
  rw[Ag d];have Q:Hid ((if z<0 then fd.set i 1 else fd)=KY P fd first [PF true z]):=by
   unfold Hid
   by_cases Y:z<0
   ·have e:PF true z=1:=by simp[PF,Y]
    rw[Ab Y,e,<-r,AmB P H.sorted fd (f.trans H.len.symm) i (by rw[H.len];exact hi)]
   grind [PF,AbH]
  rw[Q.out]at G;generalize PF true z=v at*;have D:=hid H;have J:=hid j;have HO:=hid h;clear r d V H Q j h f E F hF;go_enter func281,ntmps281
  go_wp2_with fail;refine G.mono ?_;rintro e w1 ⟨rfl,M,B⟩;have s:=I.kept B (by simp;exact D.out.dt.symm);have q:=s.cell C;have hf:=s.free o;have a:=s.set o v;rw[J.out]at a;rw[HO.out]at q;go_wp2;refine Ah (Cd rfl _ _ _) rfl ?_;refine⟨rfl,a,M.other _ _ D.out.dt,(B.Fn (by simp)).setCell (by simp) _⟩
 ·have G:=Am4 P k first gf bm gd z w U (Ada d H.len) F hF
  rw[Ae d];have R:PF false z=0:=by simp[PF]
  rw[R,AbH P fd first 0 rfl];have J:=hid j;have D:=hid H;have q:=I.cell C;have hf:=I.free o;have a:=I.set o 0;rw[h]at q;rw[J.out]at a;have HD:=hid E;clear d V H j h f F hF R E;go_enter func281,ntmps281
  go_wp2_with fail;refine G.mono ?_;rintro e w1 ⟨rfl,rfl⟩;go_wp2;refine Ah (Cd rfl _ _ _) rfl ?_;exact⟨rfl,a,HD.out.other _ _ D.out.dt,(Kept.refl _ _).setCell (by simp) _⟩
end Go.Proofs.YtbjgfoiikhbonahGreatDoor
