import Derived.Test.YtbjgfoiikhbonahGreatDoorA30
import Derived.Maps.Keyed
set_option linter.unusedVariables false
set_option linter.unusedSimpArgs false
set_option maxRecDepth 100000
set_option maxHeartbeats 4000000
namespace Go.Proofs.YtbjgfoiikhbonahGreatDoor
open Go.ChangeShapes Go.WideShapes Go.ChangeAt Go.RowKit Go.Maps Go.Proofs.Tryz
open Option renaming none->B,some->K
open Value renaming int->I,string->J,slice->N
open Ending renaming returned->O
open Go renaming World->Q
open IntKind renaming i64->T
variable {M:Nat->Option ByteArray}{bm c f g k n o:Nat}{cur:List Value}{v:Value}{w w':Q}
def SdM.Mp(m:SdM)(c:Nat):Nat:=c+1-m.beg
def SdM.Kv(m:SdM)(c:Nat):SdM:=⟨m.key,m.beg+m.Mp c,m.wait.drop (m.Mp c)⟩
theorem Af7{m:SdM}{c:Int}(h:PSd w g v m)(i:c<0\/(m.nxt:Int)<=c):
 Calls prog 138 #[.pointer (K ⟨g,0,B⟩), I T c] w fun e w'=>e= O (I T 6)/\Below w.heap.size w w':=by
 have b:=OU h;obtain⟨M, d⟩ := E7 ((m.nxt:Nat):Int);rw[<-d]at b i;clear h d
 by_cases j:c<0
 ·clear b i;go_enter func138,ntmps138
  go_wp2_with fail;go_ret;exact⟨rfl,Ad _ _⟩
 ·have l:M<=c:=by omega
  go_enter func138,ntmps138
  go_wp2_with(go_at_call 171;refine b.mono ?_;rintro e w1 ⟨rfl,a⟩);go_ret;exact⟨rfl,a⟩
theorem AcE(L:List ByteArray)(f i:Nat):(L.drop f).getD i ByteArray.empty=L.getD (f+i) ByteArray.empty:=by simp[List.getD,Dc]
theorem SdM.Ok.Kv{m:SdM}(h:m.Ok)(b:c<m.nxt):(m.Kv c).Ok:=by
 have e:m.beg+m.wait.length<=16777216:=h.few;have d:c<m.beg+m.wait.length:=b;refine⟨h.key,?_,fun i hi=>?_⟩
 ·show m.beg+m.Mp c+(m.wait.drop (m.Mp c)).length<=16777216;rw[AJ];unfold SdM.Mp;omega
 ·show((m.wait.drop (m.Mp c)).getD i ByteArray.empty).size<=500;have a:i<(m.wait.drop (m.Mp c)).length:=hi;rw[AJ]at a;rw[AcE];exact h.small _ (by omega)
theorem AdQ{cs:List Value}(h:o+cs.length<=cur.length)(t:Nat):(splice cur o cs)[t]?=if o<=t/\t<o+cs.length then cs[t-o]? else cur[t]?:=by
 unfold splice
 grind
theorem Yk(b:At w g 9 cur)(x:n<=c)(s:o+c<=cur.length)(q:f<=n)(t ty:TypeId)(ht:prog.underlying t=K (.slice 9)):
 ∃cur',(Builtin.clear_ #[t] ty #[N (K ⟨g,o,B⟩) f c]).run prog w=.ok (.tuple #[]) (w.setRow g cur'.toArray)/\At (w.setRow g cur'.toArray) g 9 cur'/\cur'.length=cur.length/\∀i,o+f<=i->cur'[i]?=cur[i]?:=by
 obtain⟨p,hi,d,l,m⟩:=As Tryz.Rr
 rcases DF f with rfl | h
 ·refine⟨cur,?_,b.set,rfl,fun i _=>rfl⟩;rw[setRow_self w g cur.toArray _ _ b];exact LC w t 9 ty ht _ _
 ·have a:(Builtin.zeroCells (J {data:=#[]}).cells f).toList.length=f:=by rw[AH,Cj];exact By f
  refine⟨splice cur o (Builtin.zeroCells (J {data:=#[]}).cells f).toList,Nt w t 9 ty 9 p _ ht hi d g o f c cur b h ?_ ?_,b.set,?_,fun i e=>?_⟩
  ·show o+f*1<=cur.length;omega
  ·intro u j;have:=OJ j;simp[Value.cells]at this;subst this;rfl
  ·exact BG _ _ _ (by rw[a];omega)
  ·rw[AdQ (by rw[a];omega),a,Aa (by omega)]
theorem Ahr{x:Sem Value}{w1 w2:Q}{u:Value}(h:x.run prog w=.ok v w2)(k:x.run prog w=.ok u w1):w1=w2:=by
 grind
theorem Tq{b d:Nat}(q:Nat){m:SdM}(h:PSd w g (N (K ⟨b,o,B⟩) m.wait.length d) m)(W:f<=m.wait.length)(hq:q=o+f\/(d=f/\q=o))(w1:Q)(p:Below w.heap.size w w1):
 ∃w2,(Builtin.clear_ #[22] 0 #[N (K ⟨b,o,B⟩) f d]).run prog w1=.ok (.tuple #[]) w2/\w2.cell? ⟨g,1,B⟩=K (I T (m.beg:Int))/\w2.cell? ⟨g,2,B⟩=K (N (K ⟨b,o,B⟩) m.wait.length d)/\w2.frozen? ⟨g,1,B⟩=false/\w2.frozen? ⟨g,2,B⟩=false/\
  Kept (sdF g (N (K ⟨b,o,B⟩) m.wait.length d)) w ((w2.setCell ⟨g,2,B⟩ (N (K ⟨b,q,B⟩) (m.wait.length-f) (d-f))).setCell ⟨g,1,B⟩ (I T ((m.beg:Int)+(f:Int))))/\
  (SdM.Ok ⟨m.key,m.beg+f,m.wait.drop f⟩->PSd ((w2.setCell ⟨g,2,B⟩ (N (K ⟨b,q,B⟩) (m.wait.length-f) (d-f))).setCell ⟨g,1,B⟩ (I T ((m.beg:Int)+(f:Int)))) g (N (K ⟨b,q,B⟩) (m.wait.length-f) (d-f)) ⟨m.key,m.beg+f,m.wait.drop f⟩):=by
 have E:=h.kept (S:=[]) (Kept.E5 p) (by simp);have l:g≠b:=fun e=>h.ne (by simp[KQ,e])
 rcases E.mid with⟨z,_⟩ | ⟨G,o',F,cur,z,H,r1,r2,r3,r4⟩
 ·cases z
 simp only[Aq,Bl,BI]at z;obtain⟨⟨rfl,rfl, -⟩, -,rfl⟩:=z;obtain⟨a,V,A,aa,D⟩:=Yk H r1 r3 W 22 0 underlying22;have s:=FO w1 b a.toArray;have j:=E.hd.kept s (by simpa using l);have P:=(j.Gq 2 (N (K ⟨b,q,B⟩) (m.wait.length-f) (d-f))).Gq 1 (I T ((m.beg:Int)+(f:Int)));have t:Kept [g] (w1.setRow b a.toArray) (((w1.setRow b a.toArray).setCell ⟨g,2,B⟩ (N (K ⟨b,q,B⟩) (m.wait.length-f) (d-f))).setCell ⟨g,1,B⟩ (I T ((m.beg:Int)+(f:Int)))):=((Kept.refl _ _).setCell (by simp) _).setCell (by simp) _;refine⟨_,V,j.cell 1,j.cell 2,j.free 1,j.free 2,?_,fun C=>⟨?_,?_,?_,C⟩⟩
 ·exact((Kept.E5 p).trans (s.Fn (fun x y=>by rw[AC]at y;subst y;simp[sdF,KQ]))).trans (t.Fn (fun x y=>by rw[AC]at y;subst y;simp[sdF]))
 ·grind
 ·refine .inr ⟨b,q,d-f,a,by rw[AJ],A.kept t (by simpa using fun e=>l e.symm),?_,by omega,by omega,fun i hi=>?_⟩
  ·rw[AJ];omega
  grind
 ·simp only[KQ,AC];exact l
theorem AiV{m:SdM}(h:PSd w g v m)(hc:c<m.nxt):
 Calls prog 138 #[.pointer (K ⟨g,0,B⟩), I T (c:Int)] w (Ah9 w g v (m.Kv c) (I T 0)):=by
 have hn:=OU h;have d:=h.ok.Kv hc;have hf:m.beg+m.wait.length<=16777216:=h.ok.few;have s:c<m.beg+m.wait.length:=hc;obtain⟨M, eM⟩ := E7 ((m.nxt:Nat):Int);rw[<-eM]at hn;have hI:(c:Int)<M:=by omega
 clear eM hc;have c1:=fun w1 (a:Below w.heap.size w w1)=>(h.kept (S:=[]) (Kept.E5 a) (by simp)).hd.cell 1
 have c2:=fun w1 (a:Below w.heap.size w w1)=>(h.kept (S:=[]) (Kept.E5 a) (by simp)).hd.cell 2
 by_cases b:m.beg<=c+1
 ·obtain⟨f,H⟩:∃f,c+1=m.beg+f:=⟨c+1-m.beg,by omega⟩;have y:f<=m.wait.length:=by omega
  have j:m.Kv c=⟨m.key,m.beg+f,m.wait.drop f⟩:=by unfold SdM.Kv SdM.Mp;rw[show c+1-m.beg=f by omega]
  rw[j]at d ⊢;have D:(c:Int)+1-(m.beg:Int)=(f:Int):=by omega
  rcases h.mid with⟨rfl,h0⟩ | ⟨gv,o,V,cur,rfl,hA,r1,r2,r3,r4⟩
  ·have ac:f=0:=by rw[h0]at y;simpa using y
   subst ac;have HP:=hid h;have hm:m=⟨m.key,m.beg+0,m.wait.drop 0⟩:=rfl;rw[<-hm];have l:=hid c1;have p:=hid c2;have E:=hid h.hd;obtain⟨C, t⟩ := E7 ((c:Int):Int);rw[<-t]at D hI ⊢;have aa:0<=C/\C<=16777216:=by omega
   have G:=fun W=>LC (P:=prog) W 22 9 0 underlying22 B 0
   clear j d c1 c2 s H b t h hm;go_enter func138,ntmps138
   go_wp2_with(first
    | (go_at_call 171;refine hn.mono ?_;rintro e w1 ⟨rfl,a⟩;have k1:w1.cell? ⟨g,1,B⟩=K (I T (m.beg:Int)):=l.out w1 a;have k2:w1.cell? ⟨g,2,B⟩=K (N B 0 0):=p.out w1 a;have q1:=(E.out.kept (S:=[]) (Kept.E5 a) (by simp)).free 1;have q2:=(E.out.kept (S:=[]) (Kept.E5 a) (by simp)).free 2))
   go_ret;have hk:Kept [g] w1 ((w1.setCell ⟨g,2,B⟩ (N B 0 0)).setCell ⟨g,1,B⟩ (I T (m.beg:Int))):=((Kept.refl _ _).setCell (by simp) _).setCell (by simp) _;refine⟨rfl,((Kept.E5 a).trans (hk.Fn (by simp[sdF]))),_,⟨?_,.inl ⟨rfl,h0⟩,by simp[KQ],HP.out.ok⟩,fun x z=> .inl z⟩;exact((E.out.kept (S:=[]) (Kept.E5 a) (by simp)).Gq 2 (N B 0 0)).Gq 1 (I T (m.beg:Int))
  ·have HK:=hid d;have l:=hid c1;have p:=hid c2;obtain⟨C, t⟩ := E7 ((c:Int):Int);rw[<-t]at D hI ⊢;have aa:0<=C/\C<=16777216:=by omega
   by_cases ab:V=f
   ·have F:=fun w1 a=>Tq o h y (.inr ⟨ab,rfl⟩) w1 a
    subst ab;clear j d c1 c2 r4 hA s H b t h r3;obtain rfl:m.wait.length=V:=by omega
    simp only[Bm]at F;have HC:=hid F;clear F;go_enter func138,ntmps138
    go_wp2_with(first
     | (go_at_call 171;refine hn.mono ?_;rintro e w1 ⟨rfl,a⟩;have k1:w1.cell? ⟨g,1,B⟩=K (I T (m.beg:Int)):=l.out w1 a;have k2:w1.cell? ⟨g,2,B⟩=K (N (K ⟨gv,o,B⟩) m.wait.length m.wait.length):=p.out w1 a;obtain⟨w2,hR,x1,x2,z1,z2,A,i⟩:=HC.out w1 a;have HE:=hid A;have q:=hid i;clear A i))
    go_ret;exact⟨rfl,HE.out,_,q.out HK.out,fun x z=> .inl z⟩
   ·have HC:=hid (fun w1 a=>Tq (o+f) h y (.inl rfl) w1 a);clear j d c1 c2 r4 hA s H b t h r3;go_enter func138,ntmps138
    go_wp2_with(first
     | (go_at_call 171;refine hn.mono ?_;rintro e w1 ⟨rfl,a⟩;have k1:w1.cell? ⟨g,1,B⟩=K (I T (m.beg:Int)):=l.out w1 a;have k2:w1.cell? ⟨g,2,B⟩=K (N (K ⟨gv,o,B⟩) m.wait.length V):=p.out w1 a;obtain⟨w2,hR,x1,x2,z1,z2,A,i⟩:=HC.out w1 a;have HE:=hid A;have q:=hid i;clear A i))
    go_ret;exact⟨rfl,HE.out,_,q.out HK.out,fun x z=> .inl z⟩
 ·have j:m.Kv c=m:=by unfold SdM.Kv SdM.Mp;rw[show c+1-m.beg=0 by omega];rfl
  rw[j]at d ⊢;have l:=hid c1;have p:=hid c2;have HP:=hid h;obtain⟨C, t⟩ := E7 ((c:Int):Int);rw[<-t]at hI ⊢;have aa:0<=C/\C<=16777216:=by omega
  have ad:C+1-(m.beg:Int)<0:=by omega
  have ae:max (C+1-(m.beg:Int)) 0=0:=by omega
  rcases h.mid with⟨rfl,h0⟩ | ⟨gv,o,V,cur,rfl,hA,r1,r2,r3,r4⟩
  ·have G:=fun W=>LC (P:=prog) W 22 9 0 underlying22 B 0
   have E:=hid h.hd;clear j d c1 c2 s b t h;go_enter func138,ntmps138
   go_wp2_with(first
    | (go_at_call 171;refine hn.mono ?_;rintro e w1 ⟨rfl,a⟩;have k1:w1.cell? ⟨g,1,B⟩=K (I T (m.beg:Int)):=l.out w1 a;have k2:w1.cell? ⟨g,2,B⟩=K (N B 0 0):=p.out w1 a;have q1:=(E.out.kept (S:=[]) (Kept.E5 a) (by simp)).free 1;have q2:=(E.out.kept (S:=[]) (Kept.E5 a) (by simp)).free 2))
   go_ret;have hk:Kept [g] w1 ((w1.setCell ⟨g,2,B⟩ (N B 0 0)).setCell ⟨g,1,B⟩ (I T (m.beg:Int))):=((Kept.refl _ _).setCell (by simp) _).setCell (by simp) _;refine⟨rfl,((Kept.E5 a).trans (hk.Fn (by simp[sdF]))),_,⟨?_,.inl ⟨rfl,h0⟩,by simp[KQ],HP.out.ok⟩,fun x z=> .inl z⟩;exact((E.out.kept (S:=[]) (Kept.E5 a) (by simp)).Gq 2 (N B 0 0)).Gq 1 (I T (m.beg:Int))
  ·have F:=fun w1 a=>Tq (f:=0) o h (Af _) (.inl rfl) w1 a
   have hm:(⟨m.key,m.beg+0,m.wait.drop 0⟩:SdM)=m:=rfl;simp only[Dn,hm,Int.natCast_zero,Int.add_zero]at F;have HC:=hid F;have G:=fun W=>LC (P:=prog) W 22 9 0 underlying22 (K ⟨gv,o,B⟩) V
   have HK:=hid d;clear j d c1 c2 r4 hA s b t h r3 F hm;go_enter func138,ntmps138
   go_wp2_with(first
    | (go_at_call 171;refine hn.mono ?_;rintro e w1 ⟨rfl,a⟩;have k1:w1.cell? ⟨g,1,B⟩=K (I T (m.beg:Int)):=l.out w1 a;have k2:w1.cell? ⟨g,2,B⟩=K (N (K ⟨gv,o,B⟩) m.wait.length V):=p.out w1 a;obtain⟨w2,hR,x1,x2,z1,z2,A,i⟩:=HC.out w1 a;obtain rfl:w1=w2:=(Ahr hR (G w1));have HE:=hid A;have q:=hid i;clear A i))
   all_goals (go_ret;exact⟨rfl,HE.out,_,q.out HK.out,fun x z=> .inl z⟩)
def PktM.cells(p:PktM):List Value:=[I T p.short, J p.data, J p.sl]
def FJ (l:List PktM):List Value:=l.flatMap PktM.cells
theorem Ln:∀l:List PktM,(FJ l).length=l.length*3
 | []=>rfl
 | x::l=>by
  have e:FJ (x::l)=x.cells++FJ l:=rfl;rw[e,Ai,Ln l,AE]
  show 3+_=_;omega
theorem PI:∀(l:List PktM) (i k:Nat),i<l.length->k<3->(FJ l)[i*3+k]?=(l.getD i .zero).cells[k]?
 | [],i,_,h,_=>by simp at h
 | x::l,0,k,_,hk=>by
  have e:FJ (x::l)=x.cells++FJ l:=rfl;rw[e,BB (by show 0*3+k<3;omega)];simp
 | x::l,i+1,k,h,hk=>by
  have e:FJ (x::l)=x.cells++FJ l:=rfl;have b:=PI l i k (by simpa using h) hk;have a:x.cells.length=3:=rfl
  grind
theorem R0:∀(l:List PktM) (i:Nat) (p:PktM),(((FJ l).set (i*3) (I T p.short)).set (i*3+1) (J p.data)).set (i*3+2) (J p.sl)=FJ (l.set i p)
 | [],i,p=>by simp[FJ]
 | x::l,0,p=>by
  show _=p.cells++FJ l;have e:FJ (x::l)=x.cells++FJ l:=rfl;rw[e];rfl
 | x::l,i+1,p=>by
  have a:=R0 l i p;have e:FJ (x::l)=I T x.short:: J x.data:: J x.sl::FJ l:=rfl;have e2:FJ ((x::l).set (i+1) p)=I T x.short:: J x.data:: J x.sl::FJ (l.set i p):=rfl
  grind
theorem Tryz.Anp:(prog.info? 255).map (fun i=>(i.zero,i.size,i.bytes))=K (K (.agg #[I T 0, J {data:=#[]}, J {data:=#[]}]),3,40):=by kernel_rfl
def SdM.NC(m:SdM)(k:Int):List PktM:=(List.range m.wait.length).map fun i=>QQ k (m.beg+i) (m.wait.getD i ByteArray.empty)
theorem SdM.WZ(m:SdM)(k:Int):(m.NC k).length=m.wait.length:=by simp[SdM.NC]
def SdM.G3(m:SdM)(k:Int)(j:Nat):List PktM:=(List.range m.wait.length).map fun i=>if i<j then QQ k (m.beg+i) (m.wait.getD i ByteArray.empty) else .zero
theorem SdM.NT(m:SdM)(k:Int)(j:Nat):(m.G3 k j).length=m.wait.length:=by simp[SdM.G3]
theorem SdM.YR(m:SdM)(k:Int)(j:Nat):(m.G3 k j).set j (QQ k (m.beg+j) (m.wait.getD j ByteArray.empty))=m.G3 k (j+1):=by
 refine AW (by simp[SdM.G3]) fun i a b=>?_
 rw[B4];simp only[SdM.G3,BR,B6]
 grind
theorem SdM.YQ(m:SdM)(k:Int):m.G3 k m.wait.length=m.NC k:=by simp[SdM.G3,SdM.NC];grind
theorem Xc(l:List PktM)(n:Nat)(b:l.length=n)(h:∀i,i<n->l.getD i .zero=.zero):(madeCells #[I T 0, J {data:=#[]}, J {data:=#[]}] (n*3)).toList=FJ l:=by
 refine Bf fun t=>?_
 by_cases ht:t<n*3
 ·have e1:=PI l (t / 3) (t % 3) (by omega) (by omega);rw[show t / 3*3+t % 3=t by omega,h _ (by omega)]at e1;rw[e1];have a:t % 3=0\/t % 3=1\/t % 3=2:=by omega
  rcases a with a | a | a
  ·simp[madeCells,a,ht,PktM.zero,PktM.cells]
  ·simp[madeCells,a,ht,PktM.zero,PktM.cells];rfl
  ·simp[madeCells,a,ht,PktM.zero,PktM.cells];rfl
 ·rw[AY (by rw[AH,size_madeCells];omega),AY (by rw[Ln];omega)]
def SdM.move(m:SdM)(k:Int):SdM:=⟨k,m.beg,m.wait⟩
def AbS (w:Q)(g:Nat)(v:Value)(m:SdM)(k:Int):Ending->Q->Prop:=fun e w'=>∃G,e= O (.tuple #[N (K ⟨G,0,B⟩) m.wait.length m.wait.length, I T 0])/\w.heap.size<=G/\At w' G 255 (FJ (m.NC k))/\Kept (sdF g v) w w'/\PSd w' g v (m.move k)
theorem AiW{m:SdM}{k:Int}(h:PSd w g v m)(hk:KZ k=true):
 Calls prog 140 #[.pointer (K ⟨g,0,B⟩), I T k] w (AbS w g v m k):=by
 have hc:=fun wz=>K6 k wz
 rw[show Js k=0 by unfold Js;rw[Ab hk]]at hc;have hb:=QD hk;obtain⟨i0,hi,ap,aq,ar⟩:=As Tryz.Anp;obtain⟨a,c,rfl,q1,q2⟩:=h.mid.FC;have c0:w.cell? ⟨g,0,B⟩=K (I T m.key):=h.hd.cell 0;have f0:=h.hd.free 0;have aj:=hid h.lt;have t:m.beg+m.wait.length<=16777216:=h.ok.few;have ah:=h.ok.small;have E:PSd (w.setCell ⟨g,0,B⟩ (I T k)) g (N a m.wait.length c) (m.move k):=⟨h.hd.Gq 0 (I T k),h.mid.kept (S:=[g]) ((Kept.refl _ w).setCell (by simp) _) (fun x hx e=>h.ne (by grind)),h.ne,⟨hb,h.ok.few,h.ok.small⟩⟩;have ae:Kept (sdF g (N a m.wait.length c)) w (w.setCell ⟨g,0,B⟩ (I T k)):=(Kept.refl _ w).setCell (by simp[sdF]) _;have x2:(w.setCell ⟨g,0,B⟩ (I T k)).cell? ⟨g,2,B⟩=K (N a m.wait.length c):=E.hd.cell 2;have ag:(w.setCell ⟨g,0,B⟩ (I T k)).heap.size=w.heap.size:=by simp
 have ab:=hid E;have aa:=hid ae;have A:=hid ag;obtain⟨n, en⟩ := E7 m.wait.length;have aw:n<=16777216:=by omega
 have z:=hid en;have ak:=hid ah;have W:=hid t;rw[<-en]at x2;have V:∀e w',AbS w g (N a m.wait.length c) m k e w'↔AbS w g (N a n c) m k e w':=fun e w'=>by rw[en]
 clear h E ae ag en ah t hk q1 q2 V;go_enter func140,ntmps140
 go_wp2_with(first
  | (go_at_call 125;refine(hc _).mono ?_;rintro e w' ⟨rfl,rfl⟩)
  | (at_make;refine CK _ rfl _ _ 265 rfl w.heap.size 255 i0 (.agg #[I T 0, J {data:=#[]}, J {data:=#[]}]) 3 underlying265 hi ap aq T T _ _ n rfl rfl rfl rfl (by rw[ar];omega) (by unfold maxLen;omega) (by rw[A.out];exact Ac _) ?_;intro w2 P p;rw[A.out]at P;have H:Kept [] (w.setCell ⟨g,0,B⟩ (I T k)) w2:=⟨p.os,p.tape,p.output,p.size,fun y hy _=>p.block y hy (by simp)⟩;have ad:=ab.out.kept H (by simp);have y2:w2.cell? ⟨g,2,B⟩=K (N a n c):=by {have:=ad.hd.cell 2;rw[<-z.out]at this;exact this}))
 have al:At w2 w.heap.size 255 (FJ (m.G3 k 0)):=by
  obtain⟨cur,C, -, -, -,av,an, -⟩:=F9 P;have e1:cur=(madeCells #[I T 0, J {data:=#[]}, J {data:=#[]}] (n*3)).toList:=by
   have e0:=an;rw[Aw (by omega)]at e0;exact e0
  rw[Xc (m.G3 k 0) n (by rw[SdM.NT,z.out]) (fun i hi=>by simp[SdM.G3,List.getD,<-z.out,hi])]at e1;rw[e1]at C;exact C
 have am:Kept (sdF g (N a m.wait.length c)) w w2:=aa.out.trans (H.Fn (by simp));clear P p H x2 c0 f0 y2
 go_loopw [30] (fun i wr=>∃j:Nat,j<=n/\i= I T j/\At wr w.heap.size 255 (FJ (m.G3 k j))/\PSd wr g (N a m.wait.length c) (m.move k)/\Kept (sdF g (N a m.wait.length c)) w wr) (fun i _=>n-(intOf i).toNat)
 case atStart=>grind
 case round=>
  obtain⟨j,hj,rfl,C,hP,hK⟩:=hrel;clear al ad am ab aa A
  by_cases ao:j<n
  ·have G:j<m.wait.length:=by rw[<-z.out];exact ao
   obtain⟨b,o,rfl,l⟩:=hP.mid.txs.at G;have ct:wr.cell? ⟨b,o+j,B⟩=K (J (m.wait.getD j ByteArray.empty)):=l j G;have d1:wr.cell? ⟨g,1,B⟩=K (I T (m.beg:Int)):=hP.hd.cell 1;have ai:=ak.out j G;have q:=fun wz=>QM (m.wait.getD j ByteArray.empty) k (m.beg+j) wz ai hb (by have:=W.out;omega)
   rw[Int.natCast_add]at q;obtain⟨R, eR⟩ := E7 (QQ k (m.beg+j) (m.wait.getD j ByteArray.empty));have s:=hid (m.YR k j);rw[<-eR]at q s;obtain⟨rx,ry,rz⟩:=R;dsimp only[PktM.val]at q;have au:(m.beg:Int)+(j:Int)<=16777216:=by have:=W.out;omega
   obtain⟨D, eD⟩ := E7 (m.wait.getD j ByteArray.empty);rw[<-eD]at ct q ai;have HA:=hid C;have HP:=hid hP;have HK:=hid hK;have HL:=hid (show(FJ (m.G3 k j)).length=n*3 by rw[Ln,SdM.NT,z.out]);clear l eR hP hK C eD
   go_wp2_with(first
    | (go_at_call 172;refine(q _).mono ?_;rintro e w3 ⟨rfl,F⟩;have d:=HA.out.kept (S:=[]) (Kept.E5 F) (by simp);have y0:w3.cell? ⟨w.heap.size,j*3,B⟩=K ((FJ (m.G3 k j))[j*3]'(by rw[HL.out];omega)):=by {rw[d.cell,Ap]};have y1:w3.cell? ⟨w.heap.size,j*3+1,B⟩=K ((FJ (m.G3 k j))[j*3+1]'(by rw[HL.out];omega)):=by {rw[d.cell,Ap]};have y2:w3.cell? ⟨w.heap.size,j*3+2,B⟩=K ((FJ (m.G3 k j))[j*3+2]'(by rw[HL.out];omega)):=by {rw[d.cell,Ap]};have z0:=d.free (j*3);have z1:=d.free (j*3+1);have z2:=d.free (j*3+2)))
   have ac:=((d.Gq (j*3) (I T rx)).Gq (j*3+1) (J ry)).Gq (j*3+2) (J rz);rw[R0 (m.G3 k j) j ⟨rx,ry,rz⟩,s.out]at ac;have af:Kept [w.heap.size] w3 (((w3.setCell ⟨w.heap.size,j*3,B⟩ (I T rx)).setCell ⟨w.heap.size,j*3+1,B⟩ (J ry)).setCell ⟨w.heap.size,j*3+2,B⟩ (J rz)):=(((Kept.refl _ _).setCell (by simp) _).setCell (by simp) _).setCell (by simp) _;refine⟨⟨j+1,by omega,by go_num,ac,(HP.out.kept (S:=[]) (Kept.E5 F) (by simp)).kept af (fun x hx e=>?_),(HK.out.trans (Kept.E5 F)).Anv af (fun x hx=> .inr (by rw[AC]at hx;omega))⟩,by simp[intOf];omega⟩;rw[AC]at e;have:=aj.out x hx;omega
  ·obtain rfl:j=n:=by omega
   rw[z.out,SdM.YQ]at C
   go_wp2_with fail
   go_ret2;exact⟨w.heap.size,by rw[<-z.out];rfl,Ac _,C,hK,hP⟩
def KN (M:Nat->Option ByteArray)(k:Nat)(x:Option ByteArray):Nat->Option ByteArray:=fun j=>if j=k then x else M j
theorem M2(M:Nat->Option ByteArray)(k:Nat)(x:Option ByteArray):KN M k x k=x:=Ab rfl
theorem Jz(M:Nat->Option ByteArray){j:Nat}(x:Option ByteArray)(h:j≠k):KN M k x j=M j:=Aa h
def L4 (M:Nat->Option ByteArray):Nat->Nat
 | 0=>0
 | n+1=>L4 M n+if (M n).isSome then 1 else 0
theorem Xj(M:Nat->Option ByteArray):∀n,L4 M n<=n
 | 0=>Ac _
 | n+1=>by have:=Xj M n;rw[L4];split<;>omega
theorem Ack(M:Nat->Option ByteArray)(x:Option ByteArray):∀n,n<=k->L4 (KN M k x) n=L4 M n:=by intro a;induction a<;>grind [L4,KN]
theorem Zi(M:Nat->Option ByteArray)(x:Option ByteArray):∀n,k<n->L4 (KN M k x) n+(if (M k).isSome then 1 else 0)=L4 M n+if x.isSome then 1 else 0:=by intro a;induction a<;>grind [L4,KN,Ack,M2,Jz]
theorem AfO(n:Nat):L4 (fun _=>B) n=0:=by
 induction n with
 | zero=>rfl
 | succ n ih=>rw[L4,ih];rfl
def TZ:Nat:=16777216
def AeL (v:Value):Option (DataW Value×List MemPlace):=K (.held v,[])
theorem Tryz.Ago:Keyed prog 3:=int_keyed underlying3
theorem Tryz.AmX(w:Q):(zeroValue 9).run prog w=.ok (J {data:=#[]}) w:=by kernel_rfl
theorem Alz(h:k<=33554432):keyOf prog 3 (.int T (k:Int))=K (.int T (k:Int)):=keyOf_int_mk underlying3 (Cy (by omega))
theorem AeN(k:Int):WideAt.IsKeyLit (.int T k):=by simp[WideAt.IsKeyLit]
theorem OY{j k:Int}(h:j≠k):Lit.int T j≠Lit.int T k:=by
 grind
theorem LA{P:Program}{k:TypeId}{R:Value->Option (DataW Value×List MemPlace)}{b n':Nat}{D:DataW Value}(h:w.ownsMap P k R b n D)(e:Maps.size D<=n'):w.ownsMap P k R b n' D:=by
 obtain⟨es,a,d,F,_,rfl⟩:=h;refine⟨es,a,d,F,?_,rfl⟩
 simpa [Maps.size,DB]using e
structure Tells(D:DataW Value)(M:Nat->Option ByteArray):Prop where
 size:Maps.size D=L4 M TZ
 has:∀k:Nat,k<=33554432->Maps.has D (.int T (k:Int))=(M k).isSome
 val:∀k:Nat,k<=33554432->∀x,M k=K x->∀z,D.atKey (.int T (k:Int)) z=.held (.string x)
 keys:∀z:Int,Maps.has D (.int T z)=true->0<=z/\z<16777216
def StMap(w:Q)(bm:Nat)(M:Nat->Option ByteArray):Prop:=∃D:DataW Value,w.ownsMap prog 3 AeL bm TZ D/\Tells D M
theorem StMap.same(h:StMap w bm M)(e:w'.heap[bm]?=w.heap[bm]?):StMap w' bm M:=by
 obtain⟨D,⟨es,a,d,F,i,b⟩,r⟩:=h;exact⟨D,⟨es,a,by rw[e];exact d,F,i,b⟩,r⟩
theorem StMap.lt(h:StMap w bm M):bm<w.heap.size:=by
 obtain⟨D,h,_⟩:=h;exact CQ h
theorem StMap.kept{S:List Nat}(h:StMap w bm M)(a:Kept S w w')(b:bm∉S):StMap w' bm M:=h.same (a.block bm h.lt b)
theorem StMap.XT(w:Q):StMap (w.alloc (.map #[] 0)) w.heap.size (fun _=>B):=
 ⟨.map [],LA (C9 w _ _ _) (by simp[Maps.size]),⟨by rw[AfO];rfl,fun _ _=>rfl,fun _ _ _ a=>absurd a (by simp),fun _ b=>absurd b (by simp[Maps.has])⟩⟩
theorem V9{x:DataW Value}{ps:List MemPlace}(h:AeL v=K (x,ps)):x=.held v:=by
 unfold AeL at h;simp at h;exact h.1.symm
theorem StMap.TX(h:StMap w bm M)(b:k<=33554432)(c:Bool):
 (∀x,M k=K x->(Instr.lookup 243 (.map (K bm)) (.int T (k:Int)) c).run prog w=.ok (if c then .tuple #[.string x,.bool true] else .string x) w)/\
 (M k=B->(Instr.lookup 243 (.map (K bm)) (.int T (k:Int)) c).run prog w=.ok (if c then .tuple #[.string {data:=#[]},.bool false] else .string {data:=#[]}) w):=by
 obtain⟨D,l,i⟩:=h
 cases c with
 | true=>
  obtain⟨v,ps,a,j⟩:=l.look_ok Tryz.Ago underlying243 (Tryz.AmX w) (zd:=.held (.string {data:=#[]})) (zp:=[]) rfl (Alz b);have e:=V9 j;rw[i.has k b]at a;refine⟨fun x d=>?_,fun d=>?_⟩
  ·rw[i.val k b x d]at e
   grind
  ·rw[atKey_of_not_has (by rw[i.has k b,d];rfl)]at e
   grind
 | false=>
  obtain⟨v,ps,a,j⟩:=l.lookup Tryz.Ago underlying243 (Tryz.AmX w) (zd:=.held (.string {data:=#[]})) (zp:=[]) rfl (Alz b);have e:=V9 j;refine⟨fun x d=>?_,fun d=>?_⟩
  ·rw[i.val k b x d]at e
   grind
  ·rw[atKey_of_not_has (by rw[i.has k b,d];rfl)]at e
   grind
theorem Si(h:w.grownBy w' (K g)):Kept [g] w w':=⟨h.os,h.tape,h.output,h.size,fun k a b=>h.block k a (fun e=>b (by grind))⟩
theorem StMap.put{w:Q}{bm:Nat}{M:Nat->Option ByteArray}(h:StMap w bm M){k:Nat}(C:k<16777216)(x:ByteArray)(q:M k=B):
 ∃w',(Instr.mapUpdate 243 (.map (K bm)) (.int T (k:Int)) (.string x)).run prog w=.ok () w'/\StMap w' bm (KN M k (K x))/\Kept [bm] w w':=by
 obtain⟨D,l,b⟩:=h;obtain⟨w',d,t,A⟩:=l.update Tryz.Ago underlying243 (by unfold maxLen TZ;omega) (Alz (k:=k) (by omega)) (show AeL (.string x)=K (.held (.string x),[])from rfl);refine⟨w',d,?_,Si A⟩;have i:Maps.size (D.put (.int T (k:Int)) (.held (.string x)))=L4 (KN M k (K x)) TZ:=by
  have p:=Zi M (k:=k) (K x) TZ C;rw[q]at p;rw[size_put (l.tidy Tryz.Ago),b.has k (by omega),q,b.size];simp at p ⊢;omega
 refine⟨_,LA t (by rw[i];exact Xj _ _),i,fun j m=>?_,fun j m y a z=>?_,fun z s=>?_⟩
 ·by_cases e:j=k
  ·subst e;rw[has_put_same l.isMap (AeN _),M2];rfl
  ·rw[has_put_other (OY (by omega)),Jz M _ e];exact b.has j m
 ·by_cases e:j=k
  ·subst e;rw[M2]at a;have a:=AX a;rw[atKey_put_same l.isMap (AeN _),a]
  ·rw[Jz M _ e]at a;rw[atKey_put_other (OY (by omega))];exact b.val j m y a z
 ·by_cases e:z=(k:Int)
  ·omega
  ·rw[has_put_other (OY e)]at s;exact b.keys z s
theorem StMap.del{w:Q}{bm:Nat}{M:Nat->Option ByteArray}(h:StMap w bm M){k:Nat}(A:k<16777216)(ty:TypeId):
 ∃w',(Builtin.delete_ #[243,3] ty #[.map (K bm),.int T (k:Int)]).run prog w=.ok (.tuple #[]) w'/\StMap w' bm (KN M k B)/\Kept [bm] w w':=by
 obtain⟨D,p,a⟩:=h;obtain⟨w',b,s,t⟩:=p.drop Tryz.Ago underlying243 (Alz (k:=k) (by omega)) ty;refine⟨w',b,?_,Si t.grown⟩;have d:Maps.size (D.del (.int T (k:Int)))=L4 (KN M k B) TZ:=by
  have x:=Zi M (k:=k) B TZ A;have m:=size_del (k:=.int T (k:Int)) (p.tidy Tryz.Ago);rw[a.has k (by omega),a.size]at m;simp at x m;omega
 refine⟨_,LA s (by rw[d];exact Xj _ _),d,fun j l=>?_,fun j l y i z=>?_,fun z q=>?_⟩
 ·by_cases e:j=k
  ·subst e;rw[has_del_same,M2];rfl
  ·rw[has_del_other (OY (by omega)),Jz M _ e];exact a.has j l
 ·by_cases e:j=k
  ·subst e;rw[M2]at i
   cases i
  ·rw[Jz M _ e]at i;rw[atKey_del_other (OY (by omega))];exact a.val j l y i z
 ·by_cases e:z=(k:Int)
  ·grind
  ·rw[has_del_other (OY e)]at q;exact a.keys z q
structure GcM where
 key:Int
 fst:Nat
 M:Nat->Option ByteArray
def GcM.new(k:Int):GcM:=⟨k,0,fun _=>B⟩
structure GcM.Ok(m:GcM):Prop where
 key:0<=m.key/\m.key<2147483648
 few:m.fst<=16777216
 past:∀k,k<m.fst->m.M k=B
 top:∀k,16777216<=k->m.M k=B
structure PGc(w:Q)(g bm:Nat)(m:GcM):Prop where
 hd:At w g 245 [I T m.key, I T (m.fst:Int),.map (K bm)]
 mp:StMap w bm m.M
 ne:g≠bm
 ok:m.Ok
def gcF (g bm:Nat):List Nat:=[g,bm]
theorem PGc.kept{w w':Q}{g bm:Nat}{m:GcM}{S:List Nat}(h:PGc w g bm m)(a:Kept S w w')(b:∀x∈gcF g bm,x∉S):PGc w' g bm m:=
 ⟨h.hd.kept a (b g (by simp[gcF])),h.mp.kept a (b bm (by simp[gcF])),h.ne,h.ok⟩
theorem PGc.lt{w:Q}{g bm:Nat}{m:GcM}(h:PGc w g bm m):∀x∈gcF g bm,x<w.heap.size:=fun x a=>by
 simp only[gcF,Ar,Bt,BF]at a
 rcases a with rfl | rfl
 ·exact h.hd.lt
 ·exact h.mp.lt
theorem Vp(w:Q):(Instr.makeMap 243 B).run prog w=.ok (.map (K w.heap.size)) (w.alloc (.map #[] 0)):=by
 simp[Instr.makeMap]
theorem AiX(k:Int)(w:Q)(a:KZ k=true):
 Calls prog 75 #[I T k] w fun e w'=>∃g bm,e= O (.tuple #[.pointer (K ⟨g,0,B⟩), I T 0])/\PGc w' g bm (.new k)/\w.heap.size<=g/\w.heap.size<=bm/\Below w.heap.size w w':=by
 have h:=fun m=>K6 k m
 rw[show Js k=0 by unfold Js;rw[Ab a]]at h;have d:=QD a;have i:(w.alloc (.map #[] 0)).heap.size=w.heap.size+1:=Ax _ _;have j:Hid (PGc ((w.alloc (.map #[] 0)).alloc (.cells #[I T k, I T 0,.map (K w.heap.size)] 245)) (w.heap.size+1) w.heap.size (.new k)):=by
  have b:=K4 (w.alloc (.map #[] 0)) 245 [I T k, I T 0,.map (K w.heap.size)];rw[i]at b;exact⟨b,(StMap.XT w).kept (S:=[]) ((Kept.refl _ _).alloc _) (by simp),by omega,⟨d,Af _,fun _ _=>rfl,fun _ _=>rfl⟩⟩
 have l:=Vp;clear a d i;go_enter func75,ntmps75
 go_wp2_with(go_at_call 125;refine(h _).mono ?_;rintro e w' ⟨rfl,rfl⟩)
 go_ret2;exact⟨_,_,rfl,j.out,by omega,Ac _,((Ad _ w).alloc (Ac _) _).alloc (by simp) _⟩
theorem AcD{m:GcM}(h:PGc w g bm m):
 Calls prog 137 #[.pointer (K ⟨g,0,B⟩)] w fun e w'=>e= O (I T (m.fst:Int))/\w=w':=by
 have c1:w.cell? ⟨g,1,B⟩=K (I T (m.fst:Int)):=h.hd.cell 1;clear h;go_enter func137,ntmps137;go_wp2;go_ret;exact⟨rfl,rfl⟩
def GcM.move(m:GcM)(k:Int):GcM:=⟨k,m.fst,m.M⟩
theorem Af9{m:GcM}{k:Int}(h:PGc w g bm m)(a:KZ k=true):
 Calls prog 139 #[.pointer (K ⟨g,0,B⟩), I T k] w fun e w'=>e= O (I T 0)/\Kept (gcF g bm) w w'/\PGc w' g bm (m.move k):=by
 have b:=fun i=>K6 k i
 rw[show Js k=0 by unfold Js;rw[Ab a]]at b;have c0:w.cell? ⟨g,0,B⟩=K (I T m.key):=h.hd.cell 0;have j:=h.hd.free 0;have d:Hid (PGc (w.setCell ⟨g,0,B⟩ (I T k)) g bm (m.move k)):=⟨h.hd.Gq 0 (I T k),h.mp.kept (S:=[g]) ((Kept.refl _ w).setCell (by simp) _) (by simpa using fun e=>h.ne e.symm),h.ne,⟨QD a,h.ok.few,h.ok.past,h.ok.top⟩⟩;clear h a;go_enter func139,ntmps139
 go_wp2_with(go_at_call 125;refine(b _).mono ?_;rintro e w' ⟨rfl,rfl⟩);go_ret;exact⟨rfl,(Kept.refl _ w).setCell (by simp[gcF]) _,d.out⟩
def IB (p:PktM):Bool:=decide (0<=p.short) && decide (p.short<4096) && decide (p.sl.size=3) && decide (p.data.size<=500)
def Gl (p:PktM):Int:=if IB p then 0 else 3
theorem Ia(p:PktM)(w:Q)(h:p.sl.size<=140737488355328)(i:p.data.size<=140737488355328):
 Calls prog 246 #[p.val] w fun e w'=>e= O (I T (Gl p))/\Below w.heap.size w w':=by
 obtain⟨s,d,l⟩:=p;dsimp only[PktM.val]at*;have a:Below w.heap.size w (w.alloc (.cells #[I T s, J d, J l] 255)):=(Ad _ w).alloc (Ac _) _
 by_cases j:s<0
 ·have H:=hid (show Gl ⟨s,d,l⟩=3 by unfold Gl IB;simp[show ¬(0<=s)by omega]);go_enter func246,ntmps246;go_wp2;go_ret;exact⟨by rw[H.out];rfl,a⟩
 by_cases m:4096<=s
 ·have H:=hid (show Gl ⟨s,d,l⟩=3 by unfold Gl IB;simp[show ¬(s<4096)by omega]);go_enter func246,ntmps246;go_wp2;go_ret;exact⟨by rw[H.out];rfl,a⟩
 by_cases b:l.size=3
 ·by_cases q:500<d.size
  ·have H:=hid (show Gl ⟨s,d,l⟩=3 by unfold Gl IB;simp[show ¬(d.size<=500)by omega]);go_enter func246,ntmps246;go_wp2;go_ret;exact⟨by rw[H.out];rfl,a⟩
  ·have H:=hid (show Gl ⟨s,d,l⟩=0 by unfold Gl IB;grind);go_enter func246,ntmps246;go_wp2;go_ret;exact⟨by rw[H.out];rfl,a⟩
 ·have H:=hid (show Gl ⟨s,d,l⟩=3 by unfold Gl IB;simp[b]);go_enter func246,ntmps246;go_wp2;go_ret;exact⟨by rw[H.out];rfl,a⟩
def SP (f:Nat)(s:Int):Int:=(f:Int)+(if 2048<=(s+4096-(f:Int)) % 4096 then (s+4096-(f:Int)) % 4096-4096 else (s+4096-(f:Int)) % 4096)
def N3 (f:Nat)(s:Int):Bool:=decide (0<=SP f s) && decide (SP f s<16777216)
theorem L7{m:GcM}(h:PGc w g bm m)(s:Int)(y:0<=s/\s<4096):
 Calls prog 247 #[.pointer (K ⟨g,0,B⟩), I T s] w fun e w'=>e= O (if N3 m.fst s then .tuple #[I T (SP m.fst s), I T 0] else .tuple #[I T 0, I T 3])/\Below w.heap.size w w':=by
 have c1:w.cell? ⟨g,1,B⟩=K (I T (m.fst:Int)):=h.hd.cell 1;have t:=h.ok.few;obtain⟨V, a⟩ := E7 ((if N3 m.fst s then Value.tuple #[I T (SP m.fst s), I T 0] else .tuple #[I T 0, I T 3]));rw[<-a];obtain⟨F, i⟩ := E7 ((m.fst:Int):Int);unfold N3 SP at a;rw[<-i]at c1 a;have hF:0<=F/\F<=16777216:=by omega
 clear h i t;have p:0<=(s+4096-F % 4096):=by omega
 obtain⟨A, d⟩ := E7 ((s+4096-F) % 4096);rw[<-d]at a;have x:0<=A/\A<4096:=by omega
 have q:(s+4096-F) % 4096=A:=d.symm;clear d
 by_cases j:2048<=A
 ·rw[Ab j]at a
  by_cases l:F+(A-4096)<0
  ·have b:=hid (show V=.tuple #[I T 0, I T 3]by rw[a,Aa (by simp;omega)]);clear a;go_enter func247,ntmps247;go_wp2
   go_ret2;exact⟨by rw[b.out];rfl,Ad _ _⟩
  ·have b:=hid (show V=.tuple #[I T (F+(A-4096)), I T 0]by rw[a,Ab (by simp;omega)]);clear a;go_enter func247,ntmps247;go_wp2
   go_ret2;exact⟨by rw[b.out];rfl,Ad _ _⟩
 ·rw[Aa j]at a
  by_cases l:16777216<=F+A
  ·have b:=hid (show V=.tuple #[I T 0, I T 3]by rw[a,Aa (by simp;omega)]);clear a;go_enter func247,ntmps247;go_wp2
   go_ret2;exact⟨by rw[b.out];rfl,Ad _ _⟩
  ·have b:=hid (show V=.tuple #[I T (F+A), I T 0]by rw[a,Ab (by simp;omega)]);clear a;go_enter func247,ntmps247;go_wp2
   go_ret2;exact⟨by rw[b.out];rfl,Ad _ _⟩
def JQ (m:GcM)(c:Nat):Int:=if c<m.fst then 8 else if (m.M c).isSome then 10 else 0
theorem N1{m:GcM}(h:PGc w g bm m)(c:Nat)(j:c<16777216):
 Calls prog 248 #[.pointer (K ⟨g,0,B⟩), I T (c:Int)] w fun e w'=>e= O (I T (JQ m c))/\w=w':=by
 have c1:w.cell? ⟨g,1,B⟩=K (I T (m.fst:Int)):=h.hd.cell 1;have c2:w.cell? ⟨g,2,B⟩=K (.map (K bm)):=h.hd.cell 2;have b:=h.mp.TX (k:=c) (by omega) true;clear h
 by_cases d:c<m.fst
 ·have H:=hid (show JQ m c=8 by unfold JQ;rw[Ab d]);have i:(c:Int)<(m.fst:Int):=by omega
  clear b j;go_enter func248,ntmps248;go_wp2;go_ret;exact⟨by rw[H.out];rfl,rfl⟩
 ·have i:¬(c:Int)<(m.fst:Int):=by omega
  cases a:m.M c with
  | none=>
   have H:=hid (show JQ m c=0 by unfold JQ;rw[Aa d,a];rfl);have l:=b.2 a;rw[Ab rfl]at l;clear b a j;go_enter func248,ntmps248;go_wp2;go_ret;exact⟨by rw[H.out];rfl,rfl⟩
  | some x=>
   have H:=hid (show JQ m c=10 by unfold JQ;rw[Aa d,a];rfl);have l:=b.1 x a;rw[Ab rfl]at l;clear b a j;go_enter func248,ntmps248;go_wp2;go_ret;exact⟨by rw[H.out];rfl,rfl⟩
def RunG (M:Nat->Option ByteArray)(f n:Nat):Prop:=(∀i,i<n->(M (f+i)).isSome=true)/\M (f+n)=B
def MY (M:Nat->Option ByteArray)(f n:Nat):List ByteArray:=(List.range n).map fun i=>(M (f+i)).getD ByteArray.empty
theorem Ny(M:Nat->Option ByteArray)(f n:Nat):(MY M f n).length=n:=by simp[MY]
theorem Ad6(M:Nat->Option ByteArray)(f n:Nat):MY M f (n+1)=MY M f n++[(M (f+n)).getD ByteArray.empty]:=by simp[MY,Az]
def Tu (M:Nat->Option ByteArray)(e:Nat):Nat->Option ByteArray:=fun k=>if k<e then B else M k
theorem AfT(M:Nat->Option ByteArray)(e:Nat):KN (Tu M e) e B=Tu M (e+1):=by grind [KN,Tu]
theorem AfU(M:Nat->Option ByteArray){e:Nat}(h:∀k,k<e->M k=B):Tu M e=M:=by
 funext k
 unfold Tu
 grind
theorem Alo(M:Nat->Option ByteArray)(e:Nat):Tu M e e=M e:=Aa (by omega)
def GcM.cut(m:GcM)(n:Nat):GcM:=⟨m.key,m.fst+n,Tu m.M (m.fst+n)⟩
theorem RunG.le{m:GcM}(a:m.Ok)(h:RunG m.M m.fst n):m.fst+n<=16777216:=by
 rcases AS 16777216 (m.fst+n)with b | b
 ·have d:=h.1 (16777216-m.fst) (by have:=a.few;omega);rw[show m.fst+(16777216-m.fst)=16777216 by have:=a.few;omega,a.top _ (Ac _)]at d
  cases d
 ·exact b
theorem GcM.Ok.cut{m:GcM}(h:m.Ok)(b:m.fst+n<=16777216):(m.cut n).Ok:=by
 refine⟨h.key,b,fun k a=>?_,fun k a=>?_⟩
 ·exact Ab a
 ·show Tu m.M (m.fst+n) k=B;unfold Tu
  split
  ·rfl
  ·exact h.top k a
def AoG:Value->Nat
 | N _ n _=>n
 | _=>0
def VC (w:Q)(g bm:Nat)(m:GcM)(n:Nat)(F:Value->Value):Ending->Q->Prop:=fun e w'=>∃v,e= O (F v)/\w'.ownsRow w.heap.size 9 1 v n ((MY m.M m.fst n).map Value.string)/\Kept (gcF g bm) w w'/\PGc w' g bm (m.cut n)
theorem Agc{m:GcM}(h:PGc w g bm m)(hn:RunG m.M m.fst n):
 Calls prog 249 #[.pointer (K ⟨g,0,B⟩)] w (VC w g bm m n id):=by
 have a3:=hn.le h.ok;have h0:PGc w g bm (m.cut 0):=by
  have e:m.cut 0=m:=by
   show(⟨m.key,m.fst+0,Tu m.M (m.fst+0)⟩:GcM)=m;rw[Bh,AfU m.M h.ok.past]
  rw[e];exact h
 obtain⟨i0,hi,au,av,aw⟩:=As Tryz.Rr;have an:=hid h.ok;have t:=hid h.lt;have G:=h.ne;have HN:=hid hn;clear h hn;go_enter func249,ntmps249
 go_wp2_with fail
 go_loopw [3] (fun v wr=>∃i:Nat,i<=n/\wr.ownsRow w.heap.size 9 1 v i ((MY m.M m.fst i).map Value.string)/\PGc wr g bm (m.cut i)/\Kept (gcF g bm) w wr) (fun v _=>n+1-AoG v)
 case atStart=>exact⟨0,Af _,⟨rfl,.inl ⟨rfl,rfl⟩⟩,h0,Kept.refl _ _⟩
 case round=>
  obtain⟨i,a2,V,s,hK⟩:=hrel;clear h0;obtain⟨a,c,rfl,a4,a0,ay⟩:=Fg V;obtain⟨E, z⟩ := E7 (m.fst+i);have c1:wr.cell? ⟨g,1,B⟩=K (I T (E:Int)):=by rw[z];exact s.hd.cell 1
  have c2:wr.cell? ⟨g,2,B⟩=K (.map (K bm)):=s.hd.cell 2;have hE:E<=16777216:=by omega
  have hl:=(s.mp.same (w':=wr.drew) rfl).TX (k:=E) (by omega) true;have D:(m.cut i).M E=m.M E:=by rw[z];exact Alo _ _
  rw[D]at hl
  by_cases ar:i<n
  ·obtain⟨x,hx⟩:=Option.isSome_iff_exists.1 (HN.out.1 i ar);rw[<-z]at hx;have hr:=hl.1 x hx;rw[Ab rfl]at hr;obtain⟨y,ax,ae,C⟩:=(s.mp.same (w':=wr.drew.drew) rfl).del (k:=E) (by omega) 0;have aa:=(s.hd.kept (S:=[]) ((Kept.refl _ wr).drew.drew) (by simp)).kept C (by simpa using G);have A:Kept (gcF g bm) w y:=(hK.trans ((Kept.refl _ wr).drew.drew)).trans (C.Fn (by simp[gcF]))
   have H:y.ownsRow w.heap.size 9 1 (N a i c) i ((MY m.M m.fst i).map Value.string):=FY (FY V (S:=[]) ((Kept.refl _ wr).drew.drew) (by simp)) C (fun q hq e=>by
    rw[AC]at e;have h1:=(AB V q hq).1;have h2:=t.out bm (by simp[gcF])
    omega)
   have ag:=A6 H (.cells #[J x] 9);have HX:=hid (K4 y 9 [J x]);have ai:=hid aa;have ap:=hid ae;have al:=hid A;have b:=hid z;have aj:=hid hx;have a5:=A.size;clear hl s hK aa A ae D hx V z;go_upto_region 2 with fail
   go_region;go_upto_region 5 with fail
   go_region
   go_wp2_with(at_builtin;refine I3 (W:=y.alloc (.cells #[J x] 9)) w.heap.size y.heap.size underlying22 hi au av aw rfl (by omega) ag rfl _ _ rfl rfl rfl (news:=[J x]) rfl ?_ ?_ ?_ ?_ ?_ ?_)
   ·intro q u hq;have:q=0:=by
     grind
    subst this;rw[HX.out.cell 0];exact hq
   ·simp[Value.oneCell']
   ·unfold maxLen;omega
   ·omega
   ·rw[Ax];omega
   intro v' P p af aq;have j:Kept (N a i c).ownBlock.toList y P:=((Kept.refl _ y).alloc _).trans (Kept.PR af);have F:∀q∈(N a i c).ownBlock.toList,w.heap.size<=q:=fun q hq=>(AB H q (by simpa using hq)).1
   have a1:=t.out g (by simp[gcF]);have az:=t.out bm (by simp[gcF]);have d:=ai.out.kept j (fun e=>by have:=F _ e;omega);have ad:=ap.out.kept j (fun e=>by have:=F _ e;omega);have y1:P.cell? ⟨g,1,B⟩=K (I T (E:Int)):=by rw[b.out];exact d.cell 1
   have z1:P.frozen? ⟨g,1,B⟩=false:=d.free 1;obtain⟨a',c',rfl, -, -, -⟩:=Fg p;have e1:(MY m.M m.fst i).map Value.string++[J x]=(MY m.M m.fst (i+1)).map Value.string:=by
    rw[Ad6,AR,<-b.out,aj.out];rfl
   rw[e1]at p;have l:Kept [g] P (P.setCell ⟨g,1,B⟩ (I T ((E:Int)+1))):=(Kept.refl _ _).setCell (by simp) _
   have ah:=FY p l (fun q hq e=>by
    grind)
   have ac:PGc (P.setCell ⟨g,1,B⟩ (I T ((E:Int)+1))) g bm (m.cut (i+1)):=by
    refine⟨?_,?_,G,an.out.cut (by omega)⟩
    ·have h6:=d.Gq 1 (I T ((E:Int)+1));have e2:(((m.cut (i+1)).fst:Nat):Int)=(E:Int)+1:=by rw[b.out];show((m.fst+(i+1):Nat):Int)=_;omega
     rw[e2];exact h6
    ·have h6:=ad.kept l (by simpa using fun e=>G e.symm);have e3:KN (m.cut i).M E B=(m.cut (i+1)).M:=by
      rw[b.out];exact AfT _ _
     rw[e3]at h6;exact h6
   have am:=hid ah;have ao:=hid ac;have ab:Kept (gcF g bm) w (P.setCell ⟨g,1,B⟩ (I T ((E:Int)+1))):=((al.out.Anv j (fun x hx=> .inr (F x hx)))).trans (l.Fn (by simp[gcF]));have ak:=hid ab;clear H ag p af aq d ad ac ah ab l j
   go_wp2_with fail;exact⟨⟨i+1,by omega,am.out,ao.out,ak.out⟩,by simp[AoG];omega⟩
  ·obtain rfl:i=n:=by omega
   have hM:=HN.out.2;rw[<-z]at hM;have hr:=hl.2 hM;rw[Ab rfl]at hr;have HP:=hid s;have HO:=hid V;have HK:=hid hK;clear hl s hK D V z;go_upto_region 2 with fail
   go_region
   go_wp2_with fail;go_ret;exact⟨_,rfl,FY HO.out (S:=[]) ((Kept.refl _ wr).drew) (by simp),HK.out.trans (Kept.refl _ wr).drew,HP.out.kept (S:=[]) ((Kept.refl _ wr).drew) (by simp)⟩
end Go.Proofs.YtbjgfoiikhbonahGreatDoor
