import Derived.Test.YtbjgfoiikhbonahGreatDoorA43
import Derived.Test.YtbjgfoiikhbonahGreatDoorTie
import Derived.Test.YtbjgfoiikhbonahGreatDoorCards
import Derived.LaidMore
import Derived.SevenTiedAt
import Derived.Stop.LaidErr
import Derived.Look8
import Derived.Deep.Strs
set_option linter.unusedVariables false
set_option linter.unusedSimpArgs false
set_option maxRecDepth 100000
set_option maxHeartbeats 4000000
namespace Go.Proofs.YtbjgfoiikhbonahGreatDoor
open Go.ChangeShapes Go.WideShapes Go.ChangeAt Go.RowKit Go.Deep Go.Proofs.Tryz
open Value renaming string->C
open Option renaming none->E,some->I
variable {F:List Nat}{H:Type}{W w w':World}{p:NtP}
def noE:Nat->Nat->Option Cm:=fun _ _=>E
structure NetAt(b:Nat)(m:NtM)(w:World)(F:List Nat)(p:NtP)(G:Nat×Nat->List Nat):Prop where
 b:p.q.b=b
 us:p.q.us=(List.range 17).map fun k=> .pointer (MP p m k)
 each:∀i c,Hn noE p m i.1 i.2=I c->c.P w (G i)/\∀x∈G i,x∈F
 ap:∀i j,i≠j->Hn noE p m i.1 i.2≠E->Hn noE p m j.1 j.2≠E->∀x∈G i,x∉G j
 lt:∀x∈F,x<w.heap.size
def T5 (b:Nat)(m:NtM):Cm:=⟨fun w F=>∃p G,NetAt b m w F p G,fun _ _ ⟨_,_,h⟩=>h.lt,fun w w' F S ⟨p,G,h⟩ hk hn=>⟨p,G,h.b,h.us,fun i c hi=>⟨c.kept _ _ _ _ (h.each i c hi).1 hk fun x hx=>hn x ((h.each i c hi).2 x hx),(h.each i c hi).2⟩,h.ap,fun x hx=>AI (h.lt x hx) hk.size⟩⟩
theorem NetAt.net{b:Nat}{m:NtM}{G:Nat×Nat->List Nat}(h:NetAt b m w F p G)(ht:Tb w)(hF:∀x∈F,Oe<=x):NtAt w F w noE p m:=
 ⟨⟨G,Kept.refl _ w,ht,hF,ht.lt,fun i c hi=>⟨(h.each i c hi).1,fun x a=> .inl ((h.each i c hi).2 x a)⟩,h.ap⟩,h.us,rfl,rfl,rfl⟩
def AlO (w w':World)(F:List Nat):List Nat:=F++(List.range w'.heap.size).filter fun x=>decide (w.heap.size<=x)
theorem QH{x:Nat}:x∈AlO w w' F↔x∈F\/(x<w'.heap.size/\w.heap.size<=x):=by
 unfold AlO;simp
theorem NtAt.AmV{m:NtM}(h:NtAt w F w' noE p m)(hF:∀x∈F,x<w.heap.size):Kept F w w'/\(T5 p.q.b m).P w' (AlO w w' F)/\Ga w.heap.size F (AlO w w' F):=by
 obtain⟨G,a⟩:=h.hg;refine⟨a.kep,⟨p,G,rfl,h.us,fun i c hi=>⟨(a.each i c hi).1,fun x d=>?_⟩,a.ap,fun x d=>?_⟩,fun x d=>?_⟩
 ·have e:=c.lt _ _ (a.each i c hi).1 x d
  rcases (a.each i c hi).2 x d with q | q
  ·exact QH.2 (.inl q)
  ·exact QH.2 (.inr ⟨e,q⟩)
 ·rcases QH.1 d with q | q
  ·exact AI (hF x q) a.kep.size
  ·exact q.1
 ·rcases QH.1 d with q | q
  ·exact .inl q
  ·exact .inr q.2
theorem nDo(b:Nat)(m:NtM)(s:ByteArray)(w:World){L:Nat}(hi:NInv L m)(u:L<=2000000)(A:s.size<=10000000):NS 6 #[Fa b, C s] w (T5 b m) fun e c=>e=.returned (C (doM m s).2)/\c=T5 b (doM m s).1/\NInv (L+1) (doM m s).1:=fun ht F hF ⟨p,G,h⟩=>by
 have d:=h.net ht hF;have x:m.t.co.loans.length<=m.t.n:=by
  obtain⟨F',N, -,v⟩:=d.net.get (j:=1) rfl;exact v.ok.len
 have z:=d.n hi (by omega);have i:=AlN s d rfl hi u A;rw[h.b]at i;refine i.mono ?_;rintro e w' ⟨rfl,B,a,k⟩;obtain⟨l,g,q⟩:=k.AmV h.lt;rw[a]at g;exact⟨_,⟨rfl,rfl,hi.Apo s (by omega)⟩,l,_,g,q⟩
def NtM.new:NtM:=⟨fun _=>E,NetM.new⟩
theorem NInv.new:NInv 0 NtM.new:=⟨fun k u h=>(by cases h),fun k=>⟨fun _=>rfl,fun _=>rfl⟩,fun k pr h=>(by cases h),rfl,Af _,TSt.XX⟩
theorem App(w:World)(ht:Tb w):Calls prog 5 #[] w fun e w'=>∃b F,e=.returned (Fa b)/\(T5 b NtM.new).P w' F/\(∀x∈F,w.heap.size<=x)/\Kept [] w w':=by
 have d:Hg w [] w (setG noE 0 fun _=>E):=by
  rw[show(fun _=>E:Nat->Option Cm)=noE 0 from rfl,Ig];exact Hg.SF ht
 refine(Ajv d).mono ?_;rintro e w' ⟨q,rfl,l,a⟩;have c:setG noE 0 (FK q NetM.new)=Hn noE ⟨q,fun _=>⟨0,⟨0,0,E⟩,⟨0,0,E⟩,0,0,0,0,0,0,0,.slice E 0 0⟩⟩ NtM.new:=funext fun j=>by
  unfold setG Hn
  by_cases e:j=0
  ·rw[Ab e,Ab e];rfl
  ·rw[Aa e,Aa e]
   split<;>rfl
 rw[c]at a;have g:NtAt w [] w' noE ⟨q,fun _=>⟨0,⟨0,0,E⟩,⟨0,0,E⟩,0,0,0,0,0,0,0,.slice E 0 0⟩⟩ NtM.new:=⟨a,by rw[l];rfl,rfl,rfl,rfl⟩;obtain⟨h,i,k⟩:=g.AmV (by simp);exact⟨q.b,_,rfl,i,fun x m=>(k x m).elim (fun q=>by cases q) id,h⟩
def doL (m:NtM)(l:List ByteArray):NtM:=l.foldl (fun m s=>(doM m s).1) m
theorem Zx(m:NtM)(l:List ByteArray)(j:Nat)(h:j<l.length):doL m (l.take (j+1))=(doM (doL m (l.take j)) (l.getD j ByteArray.empty)).1:=by
 unfold doL;rw[Br,Ap h,Cf,Au,Ap h];rfl
def alM (l:List ByteArray)(j:Nat):NtM:=doL (doM NtM.new Ji).1 (l.take j)
def alB (l:List ByteArray)(j:Nat):NtM:=doL NtM.new (l.take j)
def alO (b1 b2 b3:Nat)(m1 m2:NtM):Nat->Option Cm
 | 0=>I (T5 b1 m1)
 | 1=>I (T5 b2 m2)
 | 2=>I (T5 b3 m1)
 | _=>E
theorem WN(m:NtM):(doM m Ji).2=NQ 0:=by grind [doM,Ji,NQ,MO]
theorem Afl(A B:List ByteArray)(aA aB:Option Addr)(c q cA cB:Nat)(w:World)(ht:Tb w)(hA:Txs w aA A)(hB:Txs w aB B)(av:A.length=c)(aw:B.length=q)(ax:c<=1900000)(ay:q<=1900000)(ap:∀j,(A.getD j ByteArray.empty).size<=10000000)(aq:∀j,(B.getD j ByteArray.empty).size<=10000000):Calls prog 4 #[.slice aA c cA,.slice aB q cB] w fun e w'=>e=.returned (.bool true)/\Below w.heap.size w w':=by
 have H0:=hid (Hg.SF ht);have HN:=hid App;clear ht;go_enter func4,ntmps4
 go_upto_region 2 with(first
  | (go_at_call 5;refine(HN.out w H0.out.tb).mono ?_;rintro e w1 ⟨b1,F1,rfl,af,ac,am⟩;have H1:=hid (Hg.new (g:=0) (O:=fun _=>E) (D:=noE) (by rw[show(fun _=>E:Nat->Option Cm)=noE 0 from rfl,Ig];exact H0.out) 0 am af ac);clear af ac am)
  | (go_at_call 5;refine(HN.out w1 H1.out.tb).mono ?_;rintro e w2 ⟨n,F2,rfl,ag,ad,an⟩;have H2:=hid (H1.out.new 1 an ag ad);clear ag ad an)
  | (go_at_call 5;refine(HN.out w2 H2.out.tb).mono ?_;rintro e w3 ⟨b,F3,rfl,ah,ae,ao⟩;have H3:=hid (H2.out.new 2 ao ah ae);clear ah ae ao))
 have h4:=H3.out.conv (O':=alO b1 n b NtM.new NtM.new) fun j=>by rcases j with _ | _ | _ | j<;>rfl
 have h:Hid (Calls prog 6 #[.pointer (I ⟨b1,0,E⟩), C {data:=#[116,105,99,107]}] w3 fun e w'=>e=.returned (C {data:=#[111,107,10]})/\NInv 1 (doM NtM.new Ji).1/\Hg w [] w' (setG noE 0 (FQ (alO b1 n b NtM.new NtM.new) 0 (I (T5 b1 (doM NtM.new Ji).1))))):=(h4.act (j:=0) rfl (nDo b1 NtM.new Ji w3 NInv.new (by omega) (by decide+kernel))).mono fun e w' ⟨c',⟨x,z,q3⟩,m⟩=>⟨by rw[x,WN];rfl,q3,by rw[<-z];exact m⟩
 have k:Hid (∀N,Hg w [] N (setG noE 0 (FQ (alO b1 n b NtM.new NtM.new) 0 (I (T5 b1 (doM NtM.new Ji).1))))->Calls prog 6 #[.pointer (I ⟨b,0,E⟩), C {data:=#[116,105,99,107]}] N fun e w'=>e=.returned (C {data:=#[111,107,10]})/\Hg w [] w' (setG noE 0 (alO b1 n b (doM NtM.new Ji).1 NtM.new))):=fun N h5=>(h5.act (j:=2) rfl (nDo b NtM.new Ji N NInv.new (by omega) (by decide+kernel))).mono fun e w' ⟨c',⟨x,z,q3⟩,m⟩=>⟨by rw[x,WN];rfl,by
  rw[z]at m
  exact m.conv fun j=>by rcases j with _ | _ | _ | j<;>rfl⟩
 unfold Fa at*;have G:=hid ap;have ab:=hid aq;have HA:=hid hA;have HB:=hid hB;clear h4 H0 H1 H2 H3 HN ap aq hA hB
 go_upto_region 4 with(first
  | (go_at_call 6;refine h.out.mono ?_;rintro e N ⟨rfl,ak,h4⟩;have H4:=hid h4;clear h4 h)
  | (go_at_call 6;refine(k.out N H4.out).mono ?_;rintro e w5 ⟨rfl,h5⟩;have H5:=hid h5;clear h5))
 have aa:=hid ak;clear ak k H4
 go_wp2_with fail
 go_loopw [8] (fun i wr=>∃j:Nat,j<=1900000/\i=.int .i64 (j:Int)/\Hid (Hg w [] wr (setG noE 0 (alO b1 n b (alM A j) (alB B j)))/\NInv (j+1) (alM A j)/\NInv (j+1) (alB B j))) (fun i _=>max c q-(intOf i).toNat)
 case atStart=>exact⟨0,Af _,rfl,H5.out,aa.out,NInv.new.mono (Af _)⟩
 case round=>
  obtain⟨j,hj,rfl,t⟩:=hrel;clear H5 aa
  by_cases hx:c<=j/\q<=j
  ·have x1:¬(j:Int)<(c:Int):=by omega
   have x2:¬(j:Int)<(q:Int):=by omega
   go_wp2_with fail;go_ret;exact⟨rfl,t.out.1.kep.below (Ac _) (by simp)⟩
  ·go_upto_region 5 with fail
   go_cut [29] (fun v wx=>v=.bool true/\wx=wr)
   case first=>
    by_cases y1:j<c
    ·have x1:(j:Int)<(c:Int):=by omega
     go_wp2_with fail
     go_meet;exact⟨rfl,rfl⟩
    ·have x1:¬(j:Int)<(c:Int):=by omega
     have x2:(j:Int)<(q:Int):=by omega
     go_wp2_with fail
     go_meet;exact⟨rfl,rfl⟩
   case rest=>
    obtain⟨rfl,rfl⟩:=hcut
    go_upto_if 35 with fail
    go_cut [] (fun wx=>Hid (Hg w [] wx (setG noE 0 (alO b1 n b (alM A j) (alB B (j+1))))/\NInv (j+1) (alM A j)/\NInv (j+1+1) (alB B (j+1))))
    case first=>
     by_cases y2:j<q
     ·have x2:(j:Int)<(q:Int):=by omega
      have a:j<B.length:=by rw[aw];exact y2
      obtain⟨bb,ob,rfl,aj⟩:=HB.out.at a;have u:=aj j a;clear aj;have kb:wc.cell? ⟨bb,ob+j,E⟩=I (C (B.getD j ByteArray.empty)):=t.out.1.kep.AmH u (by simp);have T:Hid (alB B (j+1)=(doM (alB B j) (B.getD j ByteArray.empty)).1):=Zx _ B j a;have l:=ab.out j;generalize B.getD j ByteArray.empty=sb at*;have HD:=hid (t.out.1.act (j:=1) rfl (nDo n (alB B j) sb wc t.out.2.2 (by omega) l));unfold Fa at HD
      go_wp2_with(go_at_call 6;refine HD.out.mono ?_;rintro e w6 ⟨c',⟨rfl,rfl,al⟩,h6⟩;have d:=hid h6;have au:=hid al;clear h6 al HD)
      go_meet;exact⟨by rw[T.out];exact d.out.conv fun i=>by rcases i with _ | _ | _ | i<;>rfl,t.out.2.1,by rw[T.out];exact au.out⟩
     ·have x2:¬(j:Int)<(q:Int):=by omega
      have e9:alB B (j+1)=alB B j:=by unfold alB;rw[Aw (by omega),Aw (by omega)]
      go_wp2_with fail
      go_meet;rw[e9];exact⟨t.out.1,t.out.2.1,t.out.2.2.mono (by omega)⟩
    case rest=>
     have d:=hcut;clear hcut t ab HB
     by_cases y1:j<c
     ·have x1:(j:Int)<(c:Int):=by omega
      have a:j<A.length:=by rw[av];exact y1
      obtain⟨ba,oa,rfl,ai⟩:=HA.out.at a;have u:=ai j a;clear ai;have S:Hid (alM A (j+1)=(doM (alM A j) (A.getD j ByteArray.empty)).1):=Zx _ A j a;have l:=G.out j;generalize A.getD j ByteArray.empty=s at*;have HK:Hid (∀wz,Kept [] w wz->wz.cell? ⟨ba,oa+j,E⟩=I (C s)):=fun wz hz=>hz.AmH u (by simp)
      obtain⟨R, L⟩ := E7 (doM (alM A j) s);have h:Hid (Calls prog 6 #[.pointer (I ⟨b1,0,E⟩), C s] wc.drew fun e w'=>e=.returned (C R.2)/\Hid (NInv (j+1+1) R.1/\Hg w [] w' (setG noE 0 (FQ (alO b1 n b (alM A j) (alB B (j+1))) 0 (I (T5 b1 R.1)))))/\w'.cell? ⟨ba,oa+j,E⟩=I (C s)):=((d.out.1.below ((Ad _ wc).drew)).act (j:=0) rfl (nDo b1 (alM A j) s wc.drew d.out.2.1 (by omega) l)).mono fun e w' ⟨c',⟨x,z,q3⟩,m⟩=>⟨by rw[x,L],⟨by rw[L];exact q3,by rw[L,<-z];exact m⟩,HK.out w' m.kep⟩
      have k:Hid (∀P,Hg w [] P (setG noE 0 (FQ (alO b1 n b (alM A j) (alB B (j+1))) 0 (I (T5 b1 R.1))))->Calls prog 6 #[.pointer (I ⟨b,0,E⟩), C s] P fun e w'=>e=.returned (C R.2)/\Hid (Hg w [] w' (setG noE 0 (alO b1 n b R.1 (alB B (j+1)))))/\w'.cell? ⟨ba,oa+j,E⟩=I (C s)):=fun P h7=>(h7.act (j:=2) rfl (nDo b (alM A j) s P d.out.2.1 (by omega) l)).mono fun e w' ⟨c',⟨x,z,q3⟩,m⟩=>⟨by rw[x,L],by
       rw[z,<-L]at m
       exact m.conv fun i=>by rcases i with _ | _ | _ | i<;>rfl,HK.out w' m.kep⟩
      have ca:wc.cell? ⟨ba,oa+j,E⟩=I (C s):=HK.out wc d.out.1.kep;have HE:Hid (alM A (j+1)=R.1):=by rw[S.out,L];exact rfl
      have ar:=hid d.out.2.2;generalize R.1=R1 at*;generalize R.2=R2 at*;clear L S HK u l d HA G;go_upto_region 9 with fail
      go_region_held3 (fun w'=>w'.cell? ⟨ba,oa+j,E⟩=I (C s)) (first | exact ca | exact x | exact z | go_keep) (first
       | (go_at_call 6;refine h.out.mono ?_;rintro e P ⟨rfl,H7,x⟩;clear h)
       | (go_at_call 6;refine(k.out P H7.out.2).mono ?_;rintro e w8 ⟨rfl,H8,z⟩;clear k))
      go_wp2_with fail;refine⟨⟨j+1,by omega,by go_num,?_⟩,by simp[intOf];omega⟩;rw[HE.out];exact⟨H8.out,H7.out.1,ar.out⟩
     ·have x1:¬(j:Int)<(c:Int):=by omega
      have e9:alM A (j+1)=alM A j:=by unfold alM;rw[Aw (by omega),Aw (by omega)]
      have HE:=hid e9;clear e9 HA G;go_upto_region 9 with fail
      go_quiet (fail);have H7:=hid (d.out.1.below (below_drewN wc nq))
      go_wp2_with fail;refine⟨⟨j+1,by omega,by go_num,?_⟩,by simp[intOf];omega⟩;rw[HE.out];exact⟨H7.out,d.out.2.1.mono (by omega),d.out.2.2⟩
theorem Nz{g:Nat}{nm:String}{cs:Array Value}(hg:prog.globalNamed nm=I g)(h:W.var? prog nm=I cs):∃T fr,W.heap[g]?=I (.cells cs T fr):=by
 simp only[World.var?,hg,Option.bind_some]at h
 split at h
 ·rename_i b T fr a;simp only[Bl]at h;subst h;exact⟨T,fr,a⟩
 ·cases h
theorem XU(h:W.ShapedOpen prog):∃m,W.cell? ⟨0,0,E⟩=I (.int .i64 m):=by
 obtain⟨cs,c,d,g⟩:=h.1 0 #[.int .i64 0] 3 (AQ (by kernel_rfl)) (by kernel_rfl);obtain⟨l,i, -,j⟩:=g (by kernel_rfl);have a:prog.cellTypes prog.depth 3=I [3]:=by kernel_rfl
 obtain rfl:=AX (a.symm.trans i);have e:cs.size=1:=d;obtain⟨v,b⟩:∃v,cs[0]?=I v:=⟨_,Eu (by omega)⟩;obtain⟨u,e1,e2⟩:=j 0 v b;obtain rfl:3=u:=AX e1;unfold Cell.ok at e2;rw[underlying3]at e2
 cases v with
 | int k n=>
  obtain⟨rfl, -⟩:=e2;exact⟨n,by simp[World.cell?,c,b]⟩
 | _=>exact e2.elim
theorem Ad0(h:laidMetH prog Rows.topAloneUptoRow.laid W)(s:W.ShapedOpen prog):Tb W:=by
 have m:laidMet prog Rows.topAloneUptoRow.laid W:=by
  have:=h
  rwa [MakeChecks.laidMetH_plain _ _ _ (by kernel_rfl)]at this
 have b:laidMet prog [("internal/strconv.uint64pow10",Rows.laid_internal_strconv_uint64pow10),("unicode/utf8.acceptRanges",Rows.laid_unicode_utf8_acceptRanges),("strconv.ErrRange",Rows.laid_strconv_ErrRange),("strconv.ErrSyntax",Rows.laid_strconv_ErrSyntax),("roamwave/conv.taps",Rows.laid_roamwave_conv_taps),("roamwave/harq.versions",Rows.laid_roamwave_harq_versions),("roamwave/match.columns",Rows.laid_roamwave_match_columns),("roamwave/polar.worths",Rows.laid_roamwave_polar_worths),("unicode/utf8.first",Rows.laid_unicode_utf8_first)] W:=laidMet.tail (laidMet.tail m);have v:=Lib.tabIs_of_head (k:=.u64) (zs:=Lib.pow10Tab) (g:=4) (by kernel_rfl) (by kernel_rfl) underlying278 underlying195 (by kernel_rfl) (by kernel_rfl) b;have c:=laidMet.tail (laidMet.tail b);have a: "*" ++ "errors.errorString" = "*errors.errorString" :=by decide+kernel
 have l:∀u,prog.typeName? 3 u=I "*errors.errorString" ->u=274:=fun u q=>typeName_ptr_named (nm:= "errors.errorString") (by rw[a];kernel_rfl) (by kernel_rfl) (by decide) u (by rw[a];exact q)
 obtain⟨B,G,v1, -⟩:=laid_sentinel c (g:=2) (by kernel_rfl) (by kernel_rfl) underlying30 l underlying274 underlying276 rfl rfl underlying9 (by kernel_rfl) (by kernel_rfl);have d:=laidMet.tail c;obtain⟨D,L,v2, -⟩:=laid_sentinel d (g:=1) (by kernel_rfl) (by kernel_rfl) underlying30 l underlying274 underlying276 rfl rfl underlying9 (by kernel_rfl) (by kernel_rfl);have e:=laidMet.tail d;have x:=Lib.tabIs_of_head (k:=.u64) (zs:=[79,109,87]) (g:=9) (by kernel_rfl) (by kernel_rfl) underlying412 underlying194 (by kernel_rfl) (by kernel_rfl) e;have i:=laidMet.tail e;have z:=Lib.tabIs_of_head (k:=.i64) (zs:=[0,2,3,1]) (g:=3) (by kernel_rfl) (by kernel_rfl) underlying228 underlying3 (by kernel_rfl) (by kernel_rfl) i;have j:=laidMet.tail i;have t:=Lib.tabIs_of_head (k:=.i64) (zs:=[0,4,2,6,1,5,3,7]) (g:=10) (by kernel_rfl) (by kernel_rfl) underlying421 underlying3 (by kernel_rfl) (by kernel_rfl) j;have n:=laidMet.tail j;have A:=Lib.tabIs_of_head (k:=.i64) (zs:=[1000,1189,1414,1681,2000,2378,2828,3363,4000]) (g:=11) (by kernel_rfl) (by kernel_rfl) underlying422 underlying3 (by kernel_rfl) (by kernel_rfl) n;exact⟨⟨Nz (by kernel_rfl) x,Nz (by kernel_rfl) A,Nz (by kernel_rfl) t⟩,Nz (by kernel_rfl) z,⟨_,_,v2⟩,⟨_,_,v1⟩,XU s,v⟩
theorem Aie(b a j:Nat):(⟨b,a,E⟩:Addr).add j=⟨b,a+j,E⟩:=by unfold Addr.add;split<;>simp_all
theorem Afy(d:DataW H):1<=Rows.uptoBulk d:=by
 cases d with
 | lit l=>cases l<;>simp[Rows.uptoBulk]
 | nil=>simp[Rows.uptoBulk]
 | ptr d=>simp[Rows.uptoBulk]
 | slice elems spare=>simp[Rows.uptoBulk]
 | agg parts=>simp[Rows.uptoBulk]
 | iface t d=>simp[Rows.uptoBulk]
 | map es=>simp[Rows.uptoBulk]
 | held h=>simp[Rows.uptoBulk]
theorem VK{H:Type}:∀l:List (DataW H),l.length<=Rows.uptoBulkAll l
 | []=>by simp
 | d::l=>by
  have a:=Afy d;have b:=VK l;simp only[AE,Rows.uptoBulkAll];omega
theorem VL{H:Type}:∀{l:List (DataW H)} {d:DataW H},d∈l->Rows.uptoBulk d<=Rows.uptoBulkAll l
 | d'::l,d,h=>by
  simp only[Rows.uptoBulkAll]
  rcases Ar.1 h with rfl | h
  ·omega
  ·have:=VL h;omega
theorem Wl{enc:TypeId×Value->H}{P:Program}{t e:TypeId}{v:Value}{x:DataW H×List MemPlace}{n:Nat}(ht:P.underlying t=I (.slice e))(N:P.underlying e=I .string)(L:P.cellsOf e=1)(O:DataW.trod enc P W 0 (fun _=>true) true n t [v]=I x):
 ∃a c l,v=.slice a l.length c/\Txs W a l/\l.length<=c/\c<=maxLen/\l.length<=Rows.uptoBulk x.1/\∀i,i<l.length->(l.getD i ByteArray.empty).size<=Rows.uptoBulk x.1:=by
 rcases Deep.open_strs ht N L O with⟨g,B⟩ | ⟨a,len,G,m,j,g,_,hl,R,s,hd,B⟩
 ·simp at g;subst g;exact⟨E,0,[],rfl,fun h=>absurd rfl h,by simp,by unfold maxLen;omega,by simp,fun i hi=>by simp at hi⟩
 ·simp at g;subst g;simp at s;subst s;have d:((List.range len).map j).length=len:=by simp
  have q:∀i,i<len->((List.range len).map j).getD i ByteArray.empty=j i:=by grind
  refine⟨I a,m,(List.range len).map j,by rw[d],?_,by omega,R,?_,fun i hi=>?_⟩
  ·intro S;have hn:0<len:=by
    grind
   obtain⟨b,D,u⟩:=a;have A:=(B 0 (by omega)).1;have k:u=E:=by simpa [Addr.add]using World.cell?_spot A
   subst k;refine⟨b,D,rfl,fun i hi=>?_⟩;rw[d]at hi;have z:=(B i (by omega)).1;rw[Aie]at z;rw[q i hi];exact z
  ·rw[d,hd];simp only[Rows.uptoBulk];have:=VK ((List.range len).map fun i=>(DataW.lit (.string (j i).data.toList):DataW H))
   grind
  ·rw[d]at hi;rw[q i hi,hd];simp only[Rows.uptoBulk];have z:=VL (l:=(List.range len).map fun i=>(DataW.lit (.string (j i).data.toList):DataW H)) (Bb.2 ⟨i,Bv.2 hi,rfl⟩);simp only[Rows.uptoBulk,AH]at z;have T:(j i).data.size=(j i).size:=rfl;omega
end Go.Proofs.YtbjgfoiikhbonahGreatDoor
