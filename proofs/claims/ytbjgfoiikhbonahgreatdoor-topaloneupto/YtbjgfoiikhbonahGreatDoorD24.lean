import Derived.Test.YtbjgfoiikhbonahGreatDoorD23
import Derived.Maps.Keyed
set_option linter.unusedVariables false
set_option linter.unusedSimpArgs false
set_option maxRecDepth 100000
set_option maxHeartbeats 4000000
namespace Go.Proofs.YtbjgfoiikhbonahGreatDoor
open Go.ChangeShapes Go.WideShapes Go.ChangeAt Go.RowKit Go.Maps Go.Proofs.Tryz
open Value (int slice string)
open IntKind (i64)
variable {M:Nat->Option ByteArray}{bm c f g k n o:Nat}{cur:List Value}{v:Value}{w w' w1 w2:World}
def SdM.Mp(m:SdM)(c:Nat):Nat:=c+1-m.beg
def SdM.Kv(m:SdM)(c:Nat):SdM:=⟨m.key,m.beg+m.Mp c,m.wait.drop (m.Mp c)⟩
theorem Af7{m:SdM}{c:Int}(h:PSd w g v m)(i:c<0\/(m.nxt:Int)<=c):
 Calls prog 138 #[.pointer (some ⟨g,0,none⟩),int i64 c] w fun e w'=>e=.returned (int i64 6)/\Below w.heap.size w w':=by
 have b:=OU h;obtain⟨M,d⟩:=E7 ((m.nxt:Nat):Int);rw[<-d]at b i;clear h d
 by_cases j:c<0
 ·clear b i;go_enter func138,ntmps138
  go_wp2_with fail;go_ret;exact⟨rfl,Ad _ _⟩
 ·have l:M<=c:=by omega
  go_enter func138,ntmps138
  go_wp2_with(go_at_call 171;refine b.mono ?_;rintro e w1 ⟨rfl,a⟩);go_ret;exact⟨rfl,a⟩
theorem AcE(L:List ByteArray)(f i:Nat):(L.drop f).getD i ByteArray.empty=L.getD (f+i) ByteArray.empty:=by simp[List.getD,Dc]
theorem SdM.Ok.Kv{m:SdM}(h:m.Ok)(b:c<m.nxt):(m.Kv c).Ok:=by
 have e:m.beg+m.wait.length<=16777216:=h.few;have d:c<m.beg+m.wait.length:=b;refine⟨h.key,?_,fun i hi=>?_⟩
 ·show m.beg+m.Mp c+(m.wait.drop (m.Mp c)).length<=16777216;rw[AJ];unfold SdM.Mp;omega
 ·show((m.wait.drop (m.Mp c)).getD i ByteArray.empty).size<=500;have a:i<(m.wait.drop (m.Mp c)).length:=hi;rw[AJ]at a;rw[AcE];exact h.small _ (by omega)
theorem AdQ{cs:List Value}(h:o+cs.length<=cur.length)(t:Nat):(splice cur o cs)[t]?=if o<=t/\t<o+cs.length then cs[t-o]? else cur[t]?:=by
 unfold splice
 grind
theorem Yk(b:At w g 9 cur)(s:n<=c)(r:o+c<=cur.length)(q:f<=n)(t ty:TypeId)(ht:prog.underlying t=some (.slice 9)):
 ∃cur',(Builtin.clear_ #[t] ty #[slice (some ⟨g,o,none⟩) f c]).run prog w=.ok (.tuple #[]) (w.setRow g cur'.toArray)/\At (w.setRow g cur'.toArray) g 9 cur'/\cur'.length=cur.length/\∀i,o+f<=i->cur'[i]?=cur[i]?:=by
 obtain⟨p,hi,d,l,m⟩:=As Tryz.Rr
 rcases DF f with rfl | h
 ·refine⟨cur,?_,b.set,rfl,fun i _=>rfl⟩;rw[setRow_self w g cur.toArray _ _ b];exact LC w t 9 ty ht _ _
 ·have a:(Builtin.zeroCells (string {data:=#[]}).cells f).toList.length=f:=by rw[AH,Cj];exact By f
  refine⟨splice cur o (Builtin.zeroCells (string {data:=#[]}).cells f).toList,Nt w t 9 ty 9 p _ ht hi d g o f c cur b h ?_ ?_,b.set,?_,fun i e=>?_⟩
  ·show o+f*1<=cur.length;omega
  ·intro u j;have:=OJ j;simp[Value.cells]at this;subst this;rfl
  ·exact BG _ _ _ (by rw[a];omega)
  ·rw[AdQ (by rw[a];omega),a,Aa (by omega)]
theorem Ahr{x:Sem Value}{u:Value}(h:x.run prog w=.ok v w2)(k:x.run prog w=.ok u w1):w1=w2:=by
 grind
theorem Tq{b d:Nat}(q:Nat){m:SdM}(h:PSd w g (slice (some ⟨b,o,none⟩) m.wait.length d) m)(H:f<=m.wait.length)(L:q=o+f\/(d=f/\q=o))(w1:World)(p:Below w.heap.size w w1):
 ∃w2,(Builtin.clear_ #[22] 0 #[slice (some ⟨b,o,none⟩) f d]).run prog w1=.ok (.tuple #[]) w2/\w2.cell? ⟨g,1,none⟩=some (int i64 (m.beg:Int))/\w2.cell? ⟨g,2,none⟩=some (slice (some ⟨b,o,none⟩) m.wait.length d)/\w2.frozen? ⟨g,1,none⟩=false/\w2.frozen? ⟨g,2,none⟩=false/\
  Kept (sdF g (slice (some ⟨b,o,none⟩) m.wait.length d)) w ((w2.setCell ⟨g,2,none⟩ (slice (some ⟨b,q,none⟩) (m.wait.length-f) (d-f))).setCell ⟨g,1,none⟩ (int i64 ((m.beg:Int)+(f:Int))))/\
  (SdM.Ok ⟨m.key,m.beg+f,m.wait.drop f⟩->PSd ((w2.setCell ⟨g,2,none⟩ (slice (some ⟨b,q,none⟩) (m.wait.length-f) (d-f))).setCell ⟨g,1,none⟩ (int i64 ((m.beg:Int)+(f:Int)))) g (slice (some ⟨b,q,none⟩) (m.wait.length-f) (d-f)) ⟨m.key,m.beg+f,m.wait.drop f⟩):=by
 have B:=h.kept (S:=[]) (Kept.E5 p) (by simp);have l:g≠b:=fun e=>h.ne (by simp[KQ,e])
 rcases B.mid with⟨u,_⟩ | ⟨D,N,C,cur,u,E,J,O,K,P⟩
 ·cases u
 simp only[Aq,Bl,BI]at u;obtain⟨⟨rfl,rfl, -⟩, -,rfl⟩:=u;obtain⟨a,G,y,I,A⟩:=Yk E J K H 22 0 underlying22;have r:=FO w1 b a.toArray;have j:=B.hd.kept r (by simpa using l);have F:=(j.Gq 2 (slice (some ⟨b,q,none⟩) (m.wait.length-f) (d-f))).Gq 1 (int i64 ((m.beg:Int)+(f:Int)));have s:Kept [g] (w1.setRow b a.toArray) (((w1.setRow b a.toArray).setCell ⟨g,2,none⟩ (slice (some ⟨b,q,none⟩) (m.wait.length-f) (d-f))).setCell ⟨g,1,none⟩ (int i64 ((m.beg:Int)+(f:Int)))):=((Kept.refl _ _).setCell (by simp) _).setCell (by simp) _;refine⟨_,G,j.cell 1,j.cell 2,j.free 1,j.free 2,?_,fun z=>⟨?_,?_,?_,z⟩⟩
 ·exact((Kept.E5 p).trans (r.Fn (fun x t=>by rw[AC]at t;subst t;simp[sdF,KQ]))).trans (s.Fn (fun x t=>by rw[AC]at t;subst t;simp[sdF]))
 ·grind
 ·refine .inr ⟨b,q,d-f,a,by rw[AJ],y.kept s (by simpa using fun e=>l e.symm),?_,by omega,by omega,fun i hi=>?_⟩
  ·rw[AJ];omega
  grind
 ·simp only[KQ,AC];exact l
theorem AiV{m:SdM}(h:PSd w g v m)(hc:c<m.nxt):
 Calls prog 138 #[.pointer (some ⟨g,0,none⟩),int i64 (c:Int)] w (Ah9 w g v (m.Kv c) (int i64 0)):=by
 have G:=OU h;have d:=h.ok.Kv hc;have hf:m.beg+m.wait.length<=16777216:=h.ok.few;have r:c<m.beg+m.wait.length:=hc;obtain⟨M,eM⟩:=E7 ((m.nxt:Nat):Int);rw[<-eM]at G;have Z:(c:Int)<M:=by omega
 clear eM hc;have c1:=fun w1 (a:Below w.heap.size w w1)=>(h.kept (S:=[]) (Kept.E5 a) (by simp)).hd.cell 1
 have c2:=fun w1 (a:Below w.heap.size w w1)=>(h.kept (S:=[]) (Kept.E5 a) (by simp)).hd.cell 2
 by_cases b:m.beg<=c+1
 ·obtain⟨f,E⟩:∃f,c+1=m.beg+f:=⟨c+1-m.beg,by omega⟩;have t:f<=m.wait.length:=by omega
  have j:m.Kv c=⟨m.key,m.beg+f,m.wait.drop f⟩:=by unfold SdM.Kv SdM.Mp;rw[show c+1-m.beg=f by omega]
  rw[j]at d |-;have z:(c:Int)+1-(m.beg:Int)=(f:Int):=by omega
  rcases h.mid with⟨rfl,Q⟩ | ⟨J,o,F,cur,rfl,R,r1,r2,V,X⟩
  ·have aa:f=0:=by rw[Q]at t;simpa using t
   subst aa;have Y:=hid h;have N:m=⟨m.key,m.beg+0,m.wait.drop 0⟩:=rfl;rw[<-N];have l:=hid c1;have p:=hid c2;have A:=hid h.hd;obtain⟨C,s⟩:=E7 ((c:Int):Int);rw[<-s]at z Z |-;have K:0<=C/\C<=16777216:=by omega
   have D:=fun W=>LC (P:=prog) W 22 9 0 underlying22 none 0
   clear j d c1 c2 r E b s h N;go_enter func138,ntmps138
   go_wp2_with(first
    | (go_at_call 171;refine G.mono ?_;rintro e w1 ⟨rfl,a⟩;have T:w1.cell? ⟨g,1,none⟩=some (int i64 (m.beg:Int)):=l.out w1 a;have U:w1.cell? ⟨g,2,none⟩=some (slice none 0 0):=p.out w1 a;have q1:=(A.out.kept (S:=[]) (Kept.E5 a) (by simp)).free 1;have q2:=(A.out.kept (S:=[]) (Kept.E5 a) (by simp)).free 2))
   go_ret;have hk:Kept [g] w1 ((w1.setCell ⟨g,2,none⟩ (slice none 0 0)).setCell ⟨g,1,none⟩ (int i64 (m.beg:Int))):=((Kept.refl _ _).setCell (by simp) _).setCell (by simp) _;refine⟨rfl,((Kept.E5 a).trans (hk.Fn (by simp[sdF]))),_,⟨?_,.inl ⟨rfl,Q⟩,by simp[KQ],Y.out.ok⟩,fun x u=> .inl u⟩;exact((A.out.kept (S:=[]) (Kept.E5 a) (by simp)).Gq 2 (slice none 0 0)).Gq 1 (int i64 (m.beg:Int))
  ·have O:=hid d;have l:=hid c1;have p:=hid c2;obtain⟨C,s⟩:=E7 ((c:Int):Int);rw[<-s]at z Z |-;have K:0<=C/\C<=16777216:=by omega
   by_cases L:F=f
   ·have B:=fun w1 a=>Tq o h t (.inr ⟨L,rfl⟩) w1 a
    subst L;clear j d c1 c2 X R r E b s h V;obtain rfl:m.wait.length=F:=by omega
    simp only[Bm]at B;have H:=hid B;clear B;go_enter func138,ntmps138
    go_wp2_with(first
     | (go_at_call 171;refine G.mono ?_;rintro e w1 ⟨rfl,a⟩;have T:w1.cell? ⟨g,1,none⟩=some (int i64 (m.beg:Int)):=l.out w1 a;have U:w1.cell? ⟨g,2,none⟩=some (slice (some ⟨J,o,none⟩) m.wait.length m.wait.length):=p.out w1 a;obtain⟨w2,hR,x1,x2,z1,z2,y,i⟩:=H.out w1 a;have I:=hid y;have q:=hid i;clear y i))
    go_ret;exact⟨rfl,I.out,_,q.out O.out,fun x u=> .inl u⟩
   ·have H:=hid (fun w1 a=>Tq (o+f) h t (.inl rfl) w1 a);clear j d c1 c2 X R r E b s h V;go_enter func138,ntmps138
    go_wp2_with(first
     | (go_at_call 171;refine G.mono ?_;rintro e w1 ⟨rfl,a⟩;have T:w1.cell? ⟨g,1,none⟩=some (int i64 (m.beg:Int)):=l.out w1 a;have U:w1.cell? ⟨g,2,none⟩=some (slice (some ⟨J,o,none⟩) m.wait.length F):=p.out w1 a;obtain⟨w2,hR,x1,x2,z1,z2,y,i⟩:=H.out w1 a;have I:=hid y;have q:=hid i;clear y i))
    go_ret;exact⟨rfl,I.out,_,q.out O.out,fun x u=> .inl u⟩
 ·have j:m.Kv c=m:=by unfold SdM.Kv SdM.Mp;rw[show c+1-m.beg=0 by omega];rfl
  rw[j]at d |-;have l:=hid c1;have p:=hid c2;have Y:=hid h;obtain⟨C,s⟩:=E7 ((c:Int):Int);rw[<-s]at Z |-;have K:0<=C/\C<=16777216:=by omega
  have ab:C+1-(m.beg:Int)<0:=by omega
  have ac:max (C+1-(m.beg:Int)) 0=0:=by omega
  rcases h.mid with⟨rfl,Q⟩ | ⟨J,o,F,cur,rfl,R,r1,r2,V,X⟩
  ·have D:=fun W=>LC (P:=prog) W 22 9 0 underlying22 none 0
   have A:=hid h.hd;clear j d c1 c2 r b s h;go_enter func138,ntmps138
   go_wp2_with(first
    | (go_at_call 171;refine G.mono ?_;rintro e w1 ⟨rfl,a⟩;have T:w1.cell? ⟨g,1,none⟩=some (int i64 (m.beg:Int)):=l.out w1 a;have U:w1.cell? ⟨g,2,none⟩=some (slice none 0 0):=p.out w1 a;have q1:=(A.out.kept (S:=[]) (Kept.E5 a) (by simp)).free 1;have q2:=(A.out.kept (S:=[]) (Kept.E5 a) (by simp)).free 2))
   go_ret;have hk:Kept [g] w1 ((w1.setCell ⟨g,2,none⟩ (slice none 0 0)).setCell ⟨g,1,none⟩ (int i64 (m.beg:Int))):=((Kept.refl _ _).setCell (by simp) _).setCell (by simp) _;refine⟨rfl,((Kept.E5 a).trans (hk.Fn (by simp[sdF]))),_,⟨?_,.inl ⟨rfl,Q⟩,by simp[KQ],Y.out.ok⟩,fun x u=> .inl u⟩;exact((A.out.kept (S:=[]) (Kept.E5 a) (by simp)).Gq 2 (slice none 0 0)).Gq 1 (int i64 (m.beg:Int))
  ·have B:=fun w1 a=>Tq (f:=0) o h (Af _) (.inl rfl) w1 a
   have N:(⟨m.key,m.beg+0,m.wait.drop 0⟩:SdM)=m:=rfl;simp only[Dn,N,Int.natCast_zero,Int.add_zero]at B;have H:=hid B;have D:=fun W=>LC (P:=prog) W 22 9 0 underlying22 (some ⟨J,o,none⟩) F
   have O:=hid d;clear j d c1 c2 X R r b s h V B N;go_enter func138,ntmps138
   go_wp2_with(first
    | (go_at_call 171;refine G.mono ?_;rintro e w1 ⟨rfl,a⟩;have T:w1.cell? ⟨g,1,none⟩=some (int i64 (m.beg:Int)):=l.out w1 a;have U:w1.cell? ⟨g,2,none⟩=some (slice (some ⟨J,o,none⟩) m.wait.length F):=p.out w1 a;obtain⟨w2,hR,x1,x2,z1,z2,y,i⟩:=H.out w1 a;obtain rfl:w1=w2:=(Ahr hR (D w1));have I:=hid y;have q:=hid i;clear y i))
   all_goals (go_ret;exact⟨rfl,I.out,_,q.out O.out,fun x u=> .inl u⟩)
def PktM.cells(p:PktM):List Value:=[int i64 p.short,string p.data,string p.sl]
def FJ (l:List PktM):List Value:=l.flatMap PktM.cells
theorem Ln:∀l:List PktM,(FJ l).length=l.length*3
 | []=>rfl
 | x::l=>by
  have e:FJ (x::l)=x.cells++FJ l:=rfl;rw[e,Ai,Ln l,AE]
  show 3+_=_;omega
theorem PI:∀(l:List PktM) (i k:Nat),i<l.length->k<3->(FJ l)[i*3+k]?=(l.getD i .zero).cells[k]?
 | [],i,_,h,_=>by simp at h
 | x::l,0,k,_,hk=>by
  have e:FJ (x::l)=x.cells++FJ l:=rfl;rw[e,BB (by show 0*3+k<3;omega)];simp
 | x::l,i+1,k,h,hk=>by
  have e:FJ (x::l)=x.cells++FJ l:=rfl;have b:=PI l i k (by simpa using h) hk;have a:x.cells.length=3:=rfl
  grind
theorem R0:∀(l:List PktM) (i:Nat) (p:PktM),(((FJ l).set (i*3) (int i64 p.short)).set (i*3+1) (string p.data)).set (i*3+2) (string p.sl)=FJ (l.set i p)
 | [],i,p=>by simp[FJ]
 | x::l,0,p=>by
  show _=p.cells++FJ l;have e:FJ (x::l)=x.cells++FJ l:=rfl;rw[e];rfl
 | x::l,i+1,p=>by
  have a:=R0 l i p;have e:FJ (x::l)=int i64 x.short:: string x.data:: string x.sl::FJ l:=rfl;have e2:FJ ((x::l).set (i+1) p)=int i64 x.short:: string x.data:: string x.sl::FJ (l.set i p):=rfl
  grind
theorem Tryz.Anp:(prog.info? 255).map (fun i=>(i.zero,i.size,i.bytes))=some (some (.agg #[int i64 0,string {data:=#[]},string {data:=#[]}]),3,40):=by kernel_rfl
def SdM.NC(m:SdM)(k:Int):List PktM:=(List.range m.wait.length).map fun i=>QQ k (m.beg+i) (m.wait.getD i ByteArray.empty)
theorem SdM.WZ(m:SdM)(k:Int):(m.NC k).length=m.wait.length:=by simp[SdM.NC]
def SdM.G3(m:SdM)(k:Int)(j:Nat):List PktM:=(List.range m.wait.length).map fun i=>if i<j then QQ k (m.beg+i) (m.wait.getD i ByteArray.empty) else .zero
theorem SdM.NT(m:SdM)(k:Int)(j:Nat):(m.G3 k j).length=m.wait.length:=by simp[SdM.G3]
theorem SdM.YR(m:SdM)(k:Int)(j:Nat):(m.G3 k j).set j (QQ k (m.beg+j) (m.wait.getD j ByteArray.empty))=m.G3 k (j+1):=by
 refine AW (by simp[SdM.G3]) fun i a b=>?_
 rw[B4];simp only[SdM.G3,BR,B6]
 grind
theorem SdM.YQ(m:SdM)(k:Int):m.G3 k m.wait.length=m.NC k:=by simp[SdM.G3,SdM.NC];grind
theorem Xc(l:List PktM)(n:Nat)(b:l.length=n)(h:∀i,i<n->l.getD i .zero=.zero):(madeCells #[int i64 0,string {data:=#[]},string {data:=#[]}] (n*3)).toList=FJ l:=by
 refine Bf fun t=>?_
 by_cases ht:t<n*3
 ·have e1:=PI l (t / 3) (t % 3) (by omega) (by omega);rw[show t / 3*3+t % 3=t by omega,h _ (by omega)]at e1;rw[e1];have a:t % 3=0\/t % 3=1\/t % 3=2:=by omega
  rcases a with a | a | a
  ·simp[madeCells,a,ht,PktM.zero,PktM.cells]
  ·simp[madeCells,a,ht,PktM.zero,PktM.cells];rfl
  ·simp[madeCells,a,ht,PktM.zero,PktM.cells];rfl
 ·rw[AY (by rw[AH,size_madeCells];omega),AY (by rw[Ln];omega)]
def SdM.move(m:SdM)(k:Int):SdM:=⟨k,m.beg,m.wait⟩
def AbS (w:World)(g:Nat)(v:Value)(m:SdM)(k:Int):Ending->World->Prop:=fun e w'=>∃G,e=.returned (.tuple #[slice (some ⟨G,0,none⟩) m.wait.length m.wait.length,int i64 0])/\w.heap.size<=G/\At w' G 255 (FJ (m.NC k))/\Kept (sdF g v) w w'/\PSd w' g v (m.move k)
theorem AiW{m:SdM}{k:Int}(h:PSd w g v m)(hk:KZ k=true):
 Calls prog 140 #[.pointer (some ⟨g,0,none⟩),int i64 k] w (AbS w g v m k):=by
 have hc:=fun wz=>K6 k wz
 rw[show Js k=0 by unfold Js;rw[Ab hk]]at hc;have hb:=QD hk;obtain⟨i0,hi,af,ag,ah⟩:=As Tryz.Anp;obtain⟨a,c,rfl,q1,q2⟩:=h.mid.FC;have c0:w.cell? ⟨g,0,none⟩=some (int i64 m.key):=h.hd.cell 0;have f0:=h.hd.free 0;have Z:=hid h.lt;have s:m.beg+m.wait.length<=16777216:=h.ok.few;have T:=h.ok.small;have A:PSd (w.setCell ⟨g,0,none⟩ (int i64 k)) g (slice a m.wait.length c) (m.move k):=⟨h.hd.Gq 0 (int i64 k),h.mid.kept (S:=[g]) ((Kept.refl _ w).setCell (by simp) _) (fun x X e=>h.ne (by grind)),h.ne,⟨hb,h.ok.few,h.ok.small⟩⟩;have O:Kept (sdF g (slice a m.wait.length c)) w (w.setCell ⟨g,0,none⟩ (int i64 k)):=(Kept.refl _ w).setCell (by simp[sdF]) _;have x2:(w.setCell ⟨g,0,none⟩ (int i64 k)).cell? ⟨g,2,none⟩=some (slice a m.wait.length c):=A.hd.cell 2;have Q:(w.setCell ⟨g,0,none⟩ (int i64 k)).heap.size=w.heap.size:=by simp
 have J:=hid A;have I:=hid O;have u:=hid Q;obtain⟨n,W⟩:=E7 m.wait.length;have ak:n<=16777216:=by omega
 have t:=hid W;have aa:=hid T;have H:=hid s;rw[<-W]at x2;have G:∀e w',AbS w g (slice a m.wait.length c) m k e w'↔AbS w g (slice a n c) m k e w':=fun e w'=>by rw[W]
 clear h A O Q W T s hk q1 q2 G;go_enter func140,ntmps140
 go_wp2_with(first
  | (go_at_call 125;refine(hc _).mono ?_;rintro e w' ⟨rfl,rfl⟩)
  | (at_make;refine CK _ rfl _ _ 265 rfl w.heap.size 255 i0 (.agg #[int i64 0,string {data:=#[]},string {data:=#[]}]) 3 underlying265 hi af ag i64 i64 _ _ n rfl rfl rfl rfl (by rw[ah];omega) (by unfold maxLen;omega) (by rw[u.out];exact Ac _) ?_;intro w2 F p;rw[u.out]at F;have E:Kept [] (w.setCell ⟨g,0,none⟩ (int i64 k)) w2:=⟨p.os,p.tape,p.output,p.size,fun y hy _=>p.block y hy (by simp)⟩;have N:=J.out.kept E (by simp);have y2:w2.cell? ⟨g,2,none⟩=some (slice a n c):=by {have:=N.hd.cell 2;rw[<-t.out]at this;exact this}))
 have ab:At w2 w.heap.size 255 (FJ (m.G3 k 0)):=by
  obtain⟨cur,z, -, -, -,aj,ad, -⟩:=F9 F;have e1:cur=(madeCells #[int i64 0,string {data:=#[]},string {data:=#[]}] (n*3)).toList:=by
   have e0:=ad;rw[Aw (by omega)]at e0;exact e0
  rw[Xc (m.G3 k 0) n (by rw[SdM.NT,t.out]) (fun i hi=>by simp[SdM.G3,List.getD,<-t.out,hi])]at e1;rw[e1]at z;exact z
 have ac:Kept (sdF g (slice a m.wait.length c)) w w2:=I.out.trans (E.Fn (by simp));clear F p E x2 c0 f0 y2
 go_loopw [30] (fun i wr=>∃j:Nat,j<=n/\i=int i64 j/\At wr w.heap.size 255 (FJ (m.G3 k j))/\PSd wr g (slice a m.wait.length c) (m.move k)/\Kept (sdF g (slice a m.wait.length c)) w wr) (fun i _=>n-(intOf i).toNat)
 case atStart=>grind
 case round=>
  obtain⟨j,hj,rfl,z,L,hK⟩:=hrel;clear ab N ac J I u
  by_cases ae:j<n
  ·have C:j<m.wait.length:=by rw[<-t.out];exact ae
   obtain⟨b,o,rfl,l⟩:=L.mid.txs.at C;have ct:wr.cell? ⟨b,o+j,none⟩=some (string (m.wait.getD j ByteArray.empty)):=l j C;have d1:wr.cell? ⟨g,1,none⟩=some (int i64 (m.beg:Int)):=L.hd.cell 1;have U:=aa.out j C;have q:=fun wz=>QM (m.wait.getD j ByteArray.empty) k (m.beg+j) wz U hb (by have:=H.out;omega)
   rw[Int.natCast_add]at q;obtain⟨R,eR⟩:=E7 (QQ k (m.beg+j) (m.wait.getD j ByteArray.empty));have r:=hid (m.YR k j);rw[<-eR]at q r;obtain⟨rx,ry,rz⟩:=R;dsimp only[PktM.val]at q;have ai:(m.beg:Int)+(j:Int)<=16777216:=by have:=H.out;omega
   obtain⟨D,eD⟩:=E7 (m.wait.getD j ByteArray.empty);rw[<-eD]at ct q U;have HA:=hid z;have HP:=hid L;have HK:=hid hK;have Y:=hid (show(FJ (m.G3 k j)).length=n*3 by rw[Ln,SdM.NT,t.out]);clear l eR L hK z eD
   go_wp2_with(first
    | (go_at_call 172;refine(q _).mono ?_;rintro e V ⟨rfl,B⟩;have d:=HA.out.kept (S:=[]) (Kept.E5 B) (by simp);have y0:V.cell? ⟨w.heap.size,j*3,none⟩=some ((FJ (m.G3 k j))[j*3]'(by rw[Y.out];omega)):=by {rw[d.cell,Ap]};have y1:V.cell? ⟨w.heap.size,j*3+1,none⟩=some ((FJ (m.G3 k j))[j*3+1]'(by rw[Y.out];omega)):=by {rw[d.cell,Ap]};have y2:V.cell? ⟨w.heap.size,j*3+2,none⟩=some ((FJ (m.G3 k j))[j*3+2]'(by rw[Y.out];omega)):=by {rw[d.cell,Ap]};have z0:=d.free (j*3);have z1:=d.free (j*3+1);have z2:=d.free (j*3+2)))
   have K:=((d.Gq (j*3) (int i64 rx)).Gq (j*3+1) (string ry)).Gq (j*3+2) (string rz);rw[R0 (m.G3 k j) j ⟨rx,ry,rz⟩,r.out]at K;have P:Kept [w.heap.size] V (((V.setCell ⟨w.heap.size,j*3,none⟩ (int i64 rx)).setCell ⟨w.heap.size,j*3+1,none⟩ (string ry)).setCell ⟨w.heap.size,j*3+2,none⟩ (string rz)):=(((Kept.refl _ _).setCell (by simp) _).setCell (by simp) _).setCell (by simp) _;refine⟨⟨j+1,by omega,by go_num,K,(HP.out.kept (S:=[]) (Kept.E5 B) (by simp)).kept P (fun x X e=>?_),(HK.out.trans (Kept.E5 B)).Anv P (fun x X=> .inr (by rw[AC]at X;omega))⟩,by simp[intOf];omega⟩;rw[AC]at e;have:=Z.out x X;omega
  ·obtain rfl:j=n:=by omega
   rw[t.out,SdM.YQ]at z
   go_wp2_with fail
   go_ret2;exact⟨w.heap.size,by rw[<-t.out];rfl,Ac _,z,hK,L⟩
def KN (M:Nat->Option ByteArray)(k:Nat)(x:Option ByteArray):Nat->Option ByteArray:=fun j=>if j=k then x else M j
theorem M2(M:Nat->Option ByteArray)(k:Nat)(x:Option ByteArray):KN M k x k=x:=Ab rfl
theorem Jz(M:Nat->Option ByteArray){j:Nat}(x:Option ByteArray)(h:j≠k):KN M k x j=M j:=Aa h
def L4 (M:Nat->Option ByteArray):Nat->Nat
 | 0=>0
 | n+1=>L4 M n+if (M n).isSome then 1 else 0
theorem Xj(M:Nat->Option ByteArray):∀n,L4 M n<=n
 | 0=>Ac _
 | n+1=>by have:=Xj M n;rw[L4];split<;>omega
theorem Ack(M:Nat->Option ByteArray)(x:Option ByteArray):∀n,n<=k->L4 (KN M k x) n=L4 M n:=by intro a;induction a<;>grind [L4,KN]
theorem Zi(M:Nat->Option ByteArray)(x:Option ByteArray):∀n,k<n->L4 (KN M k x) n+(if (M k).isSome then 1 else 0)=L4 M n+if x.isSome then 1 else 0:=by intro a;induction a<;>grind [L4,KN,Ack,M2,Jz]
theorem AfO(n:Nat):L4 (fun _=>none) n=0:=by
 induction n with
 | zero=>rfl
 | succ n ih=>rw[L4,ih];rfl
def TZ:Nat:=16777216
def AeL (v:Value):Option (DataW Value×List MemPlace):=some (.held v,[])
theorem Tryz.Ago:Keyed prog 3:=int_keyed underlying3
theorem Tryz.AmX(w:World):(zeroValue 9).run prog w=.ok (string {data:=#[]}) w:=by kernel_rfl
theorem Alz(h:k<=33554432):keyOf prog 3 (.int i64 (k:Int))=some (.int i64 (k:Int)):=keyOf_int_mk underlying3 (Cy (by omega))
theorem AeN(k:Int):WideAt.IsKeyLit (.int i64 k):=by simp[WideAt.IsKeyLit]
theorem OY{j k:Int}(h:j≠k):Lit.int i64 j≠Lit.int i64 k:=by
 grind
theorem LA{P:Program}{k:TypeId}{R:Value->Option (DataW Value×List MemPlace)}{b n':Nat}{D:DataW Value}(h:w.ownsMap P k R b n D)(e:Maps.size D<=n'):w.ownsMap P k R b n' D:=by
 obtain⟨es,a,d,F,_,rfl⟩:=h;refine⟨es,a,d,F,?_,rfl⟩
 simpa [Maps.size,DB]using e
structure Tells(D:DataW Value)(M:Nat->Option ByteArray):Prop where
 size:Maps.size D=L4 M TZ
 has:∀k:Nat,k<=33554432->Maps.has D (.int i64 (k:Int))=(M k).isSome
 val:∀k:Nat,k<=33554432->∀x,M k=some x->∀z,D.atKey (.int i64 (k:Int)) z=.held (.string x)
 keys:∀z:Int,Maps.has D (.int i64 z)=true->0<=z/\z<16777216
def StMap(w:World)(bm:Nat)(M:Nat->Option ByteArray):Prop:=∃D:DataW Value,w.ownsMap prog 3 AeL bm TZ D/\Tells D M
theorem StMap.same(h:StMap w bm M)(e:w'.heap[bm]?=w.heap[bm]?):StMap w' bm M:=by
 obtain⟨D,⟨es,a,d,F,i,b⟩,r⟩:=h;exact⟨D,⟨es,a,by rw[e];exact d,F,i,b⟩,r⟩
theorem StMap.lt(h:StMap w bm M):bm<w.heap.size:=by
 obtain⟨D,h,_⟩:=h;exact CQ h
theorem StMap.kept{S:List Nat}(h:StMap w bm M)(a:Kept S w w')(b:bm∉S):StMap w' bm M:=h.same (a.block bm h.lt b)
theorem StMap.XT(w:World):StMap (w.alloc (.map #[] 0)) w.heap.size (fun _=>none):=
 ⟨.map [],LA (C9 w _ _ _) (by simp[Maps.size]),⟨by rw[AfO];rfl,fun _ _=>rfl,fun _ _ _ a=>absurd a (by simp),fun _ b=>absurd b (by simp[Maps.has])⟩⟩
theorem V9{x:DataW Value}{ps:List MemPlace}(h:AeL v=some (x,ps)):x=.held v:=by
 unfold AeL at h;simp at h;exact h.1.symm
theorem StMap.TX(h:StMap w bm M)(b:k<=33554432)(c:Bool):
 (∀x,M k=some x->(Instr.lookup 243 (.map (some bm)) (.int i64 (k:Int)) c).run prog w=.ok (if c then .tuple #[.string x,.bool true] else .string x) w)/\
 (M k=none->(Instr.lookup 243 (.map (some bm)) (.int i64 (k:Int)) c).run prog w=.ok (if c then .tuple #[.string {data:=#[]},.bool false] else .string {data:=#[]}) w):=by
 obtain⟨D,l,i⟩:=h
 cases c with
 | true=>
  obtain⟨v,ps,a,j⟩:=l.look_ok Tryz.Ago underlying243 (Tryz.AmX w) (zd:=.held (.string {data:=#[]})) (zp:=[]) rfl (Alz b);have e:=V9 j;rw[i.has k b]at a;refine⟨fun x d=>?_,fun d=>?_⟩
  ·rw[i.val k b x d]at e
   grind
  ·rw[atKey_of_not_has (by rw[i.has k b,d];rfl)]at e
   grind
 | false=>
  obtain⟨v,ps,a,j⟩:=l.lookup Tryz.Ago underlying243 (Tryz.AmX w) (zd:=.held (.string {data:=#[]})) (zp:=[]) rfl (Alz b);have e:=V9 j;refine⟨fun x d=>?_,fun d=>?_⟩
  ·rw[i.val k b x d]at e
   grind
  ·rw[atKey_of_not_has (by rw[i.has k b,d];rfl)]at e
   grind
theorem Si(h:w.grownBy w' (some g)):Kept [g] w w':=⟨h.os,h.tape,h.output,h.size,fun k a b=>h.block k a (fun e=>b (by grind))⟩
theorem StMap.put{w:World}{bm:Nat}{M:Nat->Option ByteArray}(h:StMap w bm M){k:Nat}(u:k<16777216)(x:ByteArray)(q:M k=none):
 ∃w',(Instr.mapUpdate 243 (.map (some bm)) (.int i64 (k:Int)) (.string x)).run prog w=.ok () w'/\StMap w' bm (KN M k (some x))/\Kept [bm] w w':=by
 obtain⟨D,l,b⟩:=h;obtain⟨w',d,s,t⟩:=l.update Tryz.Ago underlying243 (by unfold maxLen TZ;omega) (Alz (k:=k) (by omega)) (show AeL (.string x)=some (.held (.string x),[])from rfl);refine⟨w',d,?_,Si t⟩;have i:Maps.size (D.put (.int i64 (k:Int)) (.held (.string x)))=L4 (KN M k (some x)) TZ:=by
  have p:=Zi M (k:=k) (some x) TZ u;rw[q]at p;rw[size_put (l.tidy Tryz.Ago),b.has k (by omega),q,b.size];simp at p |-;omega
 refine⟨_,LA s (by rw[i];exact Xj _ _),i,fun j m=>?_,fun j m y a z=>?_,fun z r=>?_⟩
 ·by_cases e:j=k
  ·subst e;rw[has_put_same l.isMap (AeN _),M2];rfl
  ·rw[has_put_other (OY (by omega)),Jz M _ e];exact b.has j m
 ·by_cases e:j=k
  ·subst e;rw[M2]at a;have a:=AX a;rw[atKey_put_same l.isMap (AeN _),a]
  ·rw[Jz M _ e]at a;rw[atKey_put_other (OY (by omega))];exact b.val j m y a z
 ·by_cases e:z=(k:Int)
  ·omega
  ·rw[has_put_other (OY e)]at r;exact b.keys z r
theorem StMap.del{w:World}{bm:Nat}{M:Nat->Option ByteArray}(h:StMap w bm M){k:Nat}(u:k<16777216)(ty:TypeId):
 ∃w',(Builtin.delete_ #[243,3] ty #[.map (some bm),.int i64 (k:Int)]).run prog w=.ok (.tuple #[]) w'/\StMap w' bm (KN M k none)/\Kept [bm] w w':=by
 obtain⟨D,p,a⟩:=h;obtain⟨w',b,r,s⟩:=p.drop Tryz.Ago underlying243 (Alz (k:=k) (by omega)) ty;refine⟨w',b,?_,Si s.grown⟩;have d:Maps.size (D.del (.int i64 (k:Int)))=L4 (KN M k none) TZ:=by
  have t:=Zi M (k:=k) none TZ u;have m:=size_del (k:=.int i64 (k:Int)) (p.tidy Tryz.Ago);rw[a.has k (by omega),a.size]at m;simp at t m;omega
 refine⟨_,LA r (by rw[d];exact Xj _ _),d,fun j l=>?_,fun j l y i z=>?_,fun z q=>?_⟩
 ·by_cases e:j=k
  ·subst e;rw[has_del_same,M2];rfl
  ·rw[has_del_other (OY (by omega)),Jz M _ e];exact a.has j l
 ·by_cases e:j=k
  ·subst e;rw[M2]at i
   cases i
  ·rw[Jz M _ e]at i;rw[atKey_del_other (OY (by omega))];exact a.val j l y i z
 ·by_cases e:z=(k:Int)
  ·grind
  ·rw[has_del_other (OY e)]at q;exact a.keys z q
structure GcM where
 key:Int
 fst:Nat
 M:Nat->Option ByteArray
def GcM.new(k:Int):GcM:=⟨k,0,fun _=>none⟩
structure GcM.Ok(m:GcM):Prop where
 key:0<=m.key/\m.key<2147483648
 few:m.fst<=16777216
 past:∀k,k<m.fst->m.M k=none
 top:∀k,16777216<=k->m.M k=none
structure PGc(w:World)(g bm:Nat)(m:GcM):Prop where
 hd:At w g 245 [int i64 m.key,int i64 (m.fst:Int),.map (some bm)]
 mp:StMap w bm m.M
 ne:g≠bm
 ok:m.Ok
def gcF (g bm:Nat):List Nat:=[g,bm]
theorem PGc.kept{w w':World}{g bm:Nat}{m:GcM}{S:List Nat}(h:PGc w g bm m)(a:Kept S w w')(b:∀x∈gcF g bm,x∉S):PGc w' g bm m:=
 ⟨h.hd.kept a (b g (by simp[gcF])),h.mp.kept a (b bm (by simp[gcF])),h.ne,h.ok⟩
theorem PGc.lt{w:World}{g bm:Nat}{m:GcM}(h:PGc w g bm m):∀x∈gcF g bm,x<w.heap.size:=fun x a=>by
 simp only[gcF,Ar,Bt,BF]at a
 rcases a with rfl | rfl
 ·exact h.hd.lt
 ·exact h.mp.lt
theorem Vp(w:World):(Instr.makeMap 243 none).run prog w=.ok (.map (some w.heap.size)) (w.alloc (.map #[] 0)):=by
 simp[Instr.makeMap]
theorem AiX(k:Int)(w:World)(a:KZ k=true):
 Calls prog 75 #[int i64 k] w fun e w'=>∃g bm,e=.returned (.tuple #[.pointer (some ⟨g,0,none⟩),int i64 0])/\PGc w' g bm (.new k)/\w.heap.size<=g/\w.heap.size<=bm/\Below w.heap.size w w':=by
 have h:=fun m=>K6 k m
 rw[show Js k=0 by unfold Js;rw[Ab a]]at h;have d:=QD a;have i:(w.alloc (.map #[] 0)).heap.size=w.heap.size+1:=Ax _ _;have j:Hid (PGc ((w.alloc (.map #[] 0)).alloc (.cells #[int i64 k,int i64 0,.map (some w.heap.size)] 245)) (w.heap.size+1) w.heap.size (.new k)):=by
  have b:=K4 (w.alloc (.map #[] 0)) 245 [int i64 k,int i64 0,.map (some w.heap.size)];rw[i]at b;exact⟨b,(StMap.XT w).kept (S:=[]) ((Kept.refl _ _).alloc _) (by simp),by omega,⟨d,Af _,fun _ _=>rfl,fun _ _=>rfl⟩⟩
 have l:=Vp;clear a d i;go_enter func75,ntmps75
 go_wp2_with(go_at_call 125;refine(h _).mono ?_;rintro e w' ⟨rfl,rfl⟩)
 go_ret2;exact⟨_,_,rfl,j.out,by omega,Ac _,((Ad _ w).alloc (Ac _) _).alloc (by simp) _⟩
theorem AcD{m:GcM}(h:PGc w g bm m):
 Calls prog 137 #[.pointer (some ⟨g,0,none⟩)] w fun e w'=>e=.returned (int i64 (m.fst:Int))/\w=w':=by
 have c1:w.cell? ⟨g,1,none⟩=some (int i64 (m.fst:Int)):=h.hd.cell 1;clear h;go_enter func137,ntmps137;go_wp2;go_ret;exact⟨rfl,rfl⟩
def GcM.move(m:GcM)(k:Int):GcM:=⟨k,m.fst,m.M⟩
theorem Af9{m:GcM}{k:Int}(h:PGc w g bm m)(a:KZ k=true):
 Calls prog 139 #[.pointer (some ⟨g,0,none⟩),int i64 k] w fun e w'=>e=.returned (int i64 0)/\Kept (gcF g bm) w w'/\PGc w' g bm (m.move k):=by
 have b:=fun i=>K6 k i
 rw[show Js k=0 by unfold Js;rw[Ab a]]at b;have c0:w.cell? ⟨g,0,none⟩=some (int i64 m.key):=h.hd.cell 0;have j:=h.hd.free 0;have d:Hid (PGc (w.setCell ⟨g,0,none⟩ (int i64 k)) g bm (m.move k)):=⟨h.hd.Gq 0 (int i64 k),h.mp.kept (S:=[g]) ((Kept.refl _ w).setCell (by simp) _) (by simpa using fun e=>h.ne e.symm),h.ne,⟨QD a,h.ok.few,h.ok.past,h.ok.top⟩⟩;clear h a;go_enter func139,ntmps139
 go_wp2_with(go_at_call 125;refine(b _).mono ?_;rintro e w' ⟨rfl,rfl⟩);go_ret;exact⟨rfl,(Kept.refl _ w).setCell (by simp[gcF]) _,d.out⟩
def IB (p:PktM):Bool:=decide (0<=p.short) && decide (p.short<4096) && decide (p.sl.size=3) && decide (p.data.size<=500)
def Gl (p:PktM):Int:=if IB p then 0 else 3
theorem Ia(p:PktM)(w:World)(h:p.sl.size<=140737488355328)(i:p.data.size<=140737488355328):
 Calls prog 246 #[p.val] w fun e w'=>e=.returned (int i64 (Gl p))/\Below w.heap.size w w':=by
 obtain⟨s,d,l⟩:=p;dsimp only[PktM.val]at*;have a:Below w.heap.size w (w.alloc (.cells #[int i64 s,string d,string l] 255)):=(Ad _ w).alloc (Ac _) _
 by_cases j:s<0
 ·have H:=hid (show Gl ⟨s,d,l⟩=3 by unfold Gl IB;simp[show ¬(0<=s)by omega]);go_enter func246,ntmps246;go_wp2;go_ret;exact⟨by rw[H.out];rfl,a⟩
 by_cases m:4096<=s
 ·have H:=hid (show Gl ⟨s,d,l⟩=3 by unfold Gl IB;simp[show ¬(s<4096)by omega]);go_enter func246,ntmps246;go_wp2;go_ret;exact⟨by rw[H.out];rfl,a⟩
 by_cases b:l.size=3
 ·by_cases q:500<d.size
  ·have H:=hid (show Gl ⟨s,d,l⟩=3 by unfold Gl IB;simp[show ¬(d.size<=500)by omega]);go_enter func246,ntmps246;go_wp2;go_ret;exact⟨by rw[H.out];rfl,a⟩
  ·have H:=hid (show Gl ⟨s,d,l⟩=0 by grind [Gl,IB]);go_enter func246,ntmps246;go_wp2;go_ret;exact⟨by rw[H.out];rfl,a⟩
 ·have H:=hid (show Gl ⟨s,d,l⟩=3 by unfold Gl IB;simp[b]);go_enter func246,ntmps246;go_wp2;go_ret;exact⟨by rw[H.out];rfl,a⟩
def SP (f:Nat)(s:Int):Int:=(f:Int)+(if 2048<=(s+4096-(f:Int)) % 4096 then (s+4096-(f:Int)) % 4096-4096 else (s+4096-(f:Int)) % 4096)
def N3 (f:Nat)(s:Int):Bool:=decide (0<=SP f s) && decide (SP f s<16777216)
theorem L7{m:GcM}(h:PGc w g bm m)(s:Int)(u:0<=s/\s<4096):
 Calls prog 247 #[.pointer (some ⟨g,0,none⟩),int i64 s] w fun e w'=>e=.returned (if N3 m.fst s then .tuple #[int i64 (SP m.fst s),int i64 0] else .tuple #[int i64 0,int i64 3])/\Below w.heap.size w w':=by
 have c1:w.cell? ⟨g,1,none⟩=some (int i64 (m.fst:Int)):=h.hd.cell 1;have r:=h.ok.few;obtain⟨V,a⟩:=E7 ((if N3 m.fst s then Value.tuple #[int i64 (SP m.fst s),int i64 0] else .tuple #[int i64 0,int i64 3]));rw[<-a];obtain⟨F,i⟩:=E7 ((m.fst:Int):Int);unfold N3 SP at a;rw[<-i]at c1 a;have hF:0<=F/\F<=16777216:=by omega
 clear h i r;have p:0<=(s+4096-F % 4096):=by omega
 obtain⟨A,d⟩:=E7 ((s+4096-F) % 4096);rw[<-d]at a;have t:0<=A/\A<4096:=by omega
 have q:(s+4096-F) % 4096=A:=d.symm;clear d
 by_cases j:2048<=A
 ·rw[Ab j]at a
  by_cases l:F+(A-4096)<0
  ·have b:=hid (show V=.tuple #[int i64 0,int i64 3]by rw[a,Aa (by simp;omega)]);clear a;go_enter func247,ntmps247;go_wp2
   go_ret2;exact⟨by rw[b.out];rfl,Ad _ _⟩
  ·have b:=hid (show V=.tuple #[int i64 (F+(A-4096)),int i64 0]by rw[a,Ab (by simp;omega)]);clear a;go_enter func247,ntmps247;go_wp2
   go_ret2;exact⟨by rw[b.out];rfl,Ad _ _⟩
 ·rw[Aa j]at a
  by_cases l:16777216<=F+A
  ·have b:=hid (show V=.tuple #[int i64 0,int i64 3]by rw[a,Aa (by simp;omega)]);clear a;go_enter func247,ntmps247;go_wp2
   go_ret2;exact⟨by rw[b.out];rfl,Ad _ _⟩
  ·have b:=hid (show V=.tuple #[int i64 (F+A),int i64 0]by rw[a,Ab (by simp;omega)]);clear a;go_enter func247,ntmps247;go_wp2
   go_ret2;exact⟨by rw[b.out];rfl,Ad _ _⟩
def JQ (m:GcM)(c:Nat):Int:=if c<m.fst then 8 else if (m.M c).isSome then 10 else 0
theorem N1{m:GcM}(h:PGc w g bm m)(c:Nat)(j:c<16777216):
 Calls prog 248 #[.pointer (some ⟨g,0,none⟩),int i64 (c:Int)] w fun e w'=>e=.returned (int i64 (JQ m c))/\w=w':=by
 have c1:w.cell? ⟨g,1,none⟩=some (int i64 (m.fst:Int)):=h.hd.cell 1;have c2:w.cell? ⟨g,2,none⟩=some (.map (some bm)):=h.hd.cell 2;have b:=h.mp.TX (k:=c) (by omega) true;clear h
 by_cases d:c<m.fst
 ·have H:=hid (show JQ m c=8 by unfold JQ;rw[Ab d]);have i:(c:Int)<(m.fst:Int):=by omega
  clear b j;go_enter func248,ntmps248;go_wp2;go_ret;exact⟨by rw[H.out];rfl,rfl⟩
 ·have i:¬(c:Int)<(m.fst:Int):=by omega
  cases a:m.M c with
  | none=>
   have H:=hid (show JQ m c=0 by unfold JQ;rw[Aa d,a];rfl);have l:=b.2 a;rw[Ab rfl]at l;clear b a j;go_enter func248,ntmps248;go_wp2;go_ret;exact⟨by rw[H.out];rfl,rfl⟩
  | some x=>
   have H:=hid (show JQ m c=10 by unfold JQ;rw[Aa d,a];rfl);have l:=b.1 x a;rw[Ab rfl]at l;clear b a j;go_enter func248,ntmps248;go_wp2;go_ret;exact⟨by rw[H.out];rfl,rfl⟩
def RunG (M:Nat->Option ByteArray)(f n:Nat):Prop:=(∀i,i<n->(M (f+i)).isSome=true)/\M (f+n)=none
def MY (M:Nat->Option ByteArray)(f n:Nat):List ByteArray:=(List.range n).map fun i=>(M (f+i)).getD ByteArray.empty
theorem Ny(M:Nat->Option ByteArray)(f n:Nat):(MY M f n).length=n:=by simp[MY]
theorem Ad6(M:Nat->Option ByteArray)(f n:Nat):MY M f (n+1)=MY M f n++[(M (f+n)).getD ByteArray.empty]:=by simp[MY,Az]
def Tu (M:Nat->Option ByteArray)(e:Nat):Nat->Option ByteArray:=fun k=>if k<e then none else M k
theorem AfT(M:Nat->Option ByteArray)(e:Nat):KN (Tu M e) e none=Tu M (e+1):=by grind [KN,Tu]
theorem AfU(M:Nat->Option ByteArray){e:Nat}(h:∀k,k<e->M k=none):Tu M e=M:=by
 grind [Tu]
theorem Alo(M:Nat->Option ByteArray)(e:Nat):Tu M e e=M e:=Aa (by omega)
def GcM.cut(m:GcM)(n:Nat):GcM:=⟨m.key,m.fst+n,Tu m.M (m.fst+n)⟩
theorem RunG.le{m:GcM}(a:m.Ok)(h:RunG m.M m.fst n):m.fst+n<=16777216:=by
 rcases AS 16777216 (m.fst+n)with b | b
 ·have d:=h.1 (16777216-m.fst) (by have:=a.few;omega);rw[show m.fst+(16777216-m.fst)=16777216 by have:=a.few;omega,a.top _ (Ac _)]at d
  cases d
 ·exact b
theorem GcM.Ok.cut{m:GcM}(h:m.Ok)(b:m.fst+n<=16777216):(m.cut n).Ok:=by
 refine⟨h.key,b,fun k a=>?_,fun k a=>?_⟩
 ·exact Ab a
 ·show Tu m.M (m.fst+n) k=none;unfold Tu
  split
  ·rfl
  ·exact h.top k a
def AoG:Value->Nat
 | slice _ n _=>n
 | _=>0
def VC (w:World)(g bm:Nat)(m:GcM)(n:Nat)(F:Value->Value):Ending->World->Prop:=fun e w'=>∃v,e=.returned (F v)/\w'.ownsRow w.heap.size 9 1 v n ((MY m.M m.fst n).map Value.string)/\Kept (gcF g bm) w w'/\PGc w' g bm (m.cut n)
theorem Agc{m:GcM}(h:PGc w g bm m)(hn:RunG m.M m.fst n):
 Calls prog 249 #[.pointer (some ⟨g,0,none⟩)] w (VC w g bm m n id):=by
 have ar:=hn.le h.ok;have h0:PGc w g bm (m.cut 0):=by
  have e:m.cut 0=m:=by
   show(⟨m.key,m.fst+0,Tu m.M (m.fst+0)⟩:GcM)=m;rw[Bh,AfU m.M h.ok.past]
  rw[e];exact h
 obtain⟨i0,hi,ai,aj,ak⟩:=As Tryz.Rr;have ad:=hid h.ok;have s:=hid h.lt;have D:=h.ne;have HN:=hid hn;clear h hn;go_enter func249,ntmps249
 go_wp2_with fail
 go_loopw [3] (fun v wr=>∃i:Nat,i<=n/\wr.ownsRow w.heap.size 9 1 v i ((MY m.M m.fst i).map Value.string)/\PGc wr g bm (m.cut i)/\Kept (gcF g bm) w wr) (fun v _=>n+1-AoG v)
 case atStart=>exact⟨0,Af _,⟨rfl,.inl ⟨rfl,rfl⟩⟩,h0,Kept.refl _ _⟩
 case round=>
  obtain⟨i,aq,H,r,X⟩:=hrel;clear h0;obtain⟨a,c,rfl,au,ao,am⟩:=Fg H;obtain⟨E,y⟩:=E7 (m.fst+i);have c1:wr.cell? ⟨g,1,none⟩=some (int i64 (E:Int)):=by rw[y];exact r.hd.cell 1
  have c2:wr.cell? ⟨g,2,none⟩=some (.map (some bm)):=r.hd.cell 2;have hE:E<=16777216:=by omega
  have R:=(r.mp.same (w':=wr.drew) rfl).TX (k:=E) (by omega) true;have B:(m.cut i).M E=m.M E:=by rw[y];exact Alo _ _
  rw[B]at R
  by_cases ah:i<n
  ·obtain⟨x,J⟩:=Option.isSome_iff_exists.1 (HN.out.1 i ah);rw[<-y]at J;have hr:=R.1 x J;rw[Ab rfl]at hr;obtain⟨t,al,P,A⟩:=(r.mp.same (w':=wr.drew.drew) rfl).del (k:=E) (by omega) 0;have K:=(r.hd.kept (S:=[]) ((Kept.refl _ wr).drew.drew) (by simp)).kept A (by simpa using D);have z:Kept (gcF g bm) w t:=(X.trans ((Kept.refl _ wr).drew.drew)).trans (A.Fn (by simp[gcF]))
   have F:t.ownsRow w.heap.size 9 1 (slice a i c) i ((MY m.M m.fst i).map Value.string):=FY (FY H (S:=[]) ((Kept.refl _ wr).drew.drew) (by simp)) A (fun q I e=>by
    rw[AC]at e;have h1:=(AB H q I).1;have h2:=s.out bm (by simp[gcF])
    omega)
   have T:=A6 F (.cells #[string x] 9);have HX:=hid (K4 t 9 [string x]);have Y:=hid K;have af:=hid P;have ab:=hid z;have b:=hid y;have Z:=hid J;have av:=z.size;clear R r X K z P B J H y;go_upto_region 2 with fail
   go_region;go_upto_region 5 with fail
   go_region
   go_wp2_with(at_builtin;refine I3 (W:=t.alloc (.cells #[string x] 9)) w.heap.size t.heap.size underlying22 hi ai aj ak rfl (by omega) T rfl _ _ rfl rfl rfl (news:=[string x]) rfl ?_ ?_ ?_ ?_ ?_ ?_)
   ·intro q u I;have:q=0:=by
     grind
    subst this;rw[HX.out.cell 0];exact I
   ·simp[Value.oneCell']
   ·unfold maxLen;omega
   ·omega
   ·rw[Ax];omega
   intro v' G p Q ag;have j:Kept (slice a i c).ownBlock.toList t G:=((Kept.refl _ t).alloc _).trans (Kept.PR Q);have C:∀q∈(slice a i c).ownBlock.toList,w.heap.size<=q:=fun q I=>(AB F q (by simpa using I)).1
   have ap:=s.out g (by simp[gcF]);have an:=s.out bm (by simp[gcF]);have d:=Y.out.kept j (fun e=>by have:=C _ e;omega);have O:=af.out.kept j (fun e=>by have:=C _ e;omega);have y1:G.cell? ⟨g,1,none⟩=some (int i64 (E:Int)):=by rw[b.out];exact d.cell 1
   have z1:G.frozen? ⟨g,1,none⟩=false:=d.free 1;obtain⟨a',c',rfl, -, -, -⟩:=Fg p;have e1:(MY m.M m.fst i).map Value.string++[string x]=(MY m.M m.fst (i+1)).map Value.string:=by
    rw[Ad6,AR,<-b.out,Z.out];rfl
   rw[e1]at p;have l:Kept [g] G (G.setCell ⟨g,1,none⟩ (int i64 ((E:Int)+1))):=(Kept.refl _ _).setCell (by simp) _
   have U:=FY p l (fun q I e=>by
    grind)
   have N:PGc (G.setCell ⟨g,1,none⟩ (int i64 ((E:Int)+1))) g bm (m.cut (i+1)):=by
    refine⟨?_,?_,D,ad.out.cut (by omega)⟩
    ·have V:=d.Gq 1 (int i64 ((E:Int)+1));have e2:(((m.cut (i+1)).fst:Nat):Int)=(E:Int)+1:=by rw[b.out];show((m.fst+(i+1):Nat):Int)=_;omega
     rw[e2];exact V
    ·have V:=O.kept l (by simpa using fun e=>D e.symm);have e3:KN (m.cut i).M E none=(m.cut (i+1)).M:=by
      rw[b.out];exact AfT _ _
     rw[e3]at V;exact V
   have ac:=hid U;have ae:=hid N;have L:Kept (gcF g bm) w (G.setCell ⟨g,1,none⟩ (int i64 ((E:Int)+1))):=((ab.out.Anv j (fun x J=> .inr (C x J)))).trans (l.Fn (by simp[gcF]));have aa:=hid L;clear F T p Q ag d O N U L l j
   go_wp2_with fail;exact⟨⟨i+1,by omega,ac.out,ae.out,aa.out⟩,by simp[AoG];omega⟩
  ·obtain rfl:i=n:=by omega
   have hM:=HN.out.2;rw[<-y]at hM;have hr:=R.2 hM;rw[Ab rfl]at hr;have HP:=hid r;have HO:=hid H;have HK:=hid X;clear R r X B H y;go_upto_region 2 with fail
   go_region
   go_wp2_with fail;go_ret;exact⟨_,rfl,FY HO.out (S:=[]) ((Kept.refl _ wr).drew) (by simp),HK.out.trans (Kept.refl _ wr).drew,HP.out.kept (S:=[]) ((Kept.refl _ wr).drew) (by simp)⟩
def GcM.cnt(m:GcM)(p:PktM):Nat:=(SP m.fst p.short).toNat
def GcM.G9(m:GcM)(p:PktM):ByteArray:=LP p.data (Hb m.key (m.cnt p))
def IX (m:GcM)(p:PktM):Int:=if IB p then (if N3 m.fst p.short then (if p.sl=If (m.cnt p) (m.G9 p) then JQ m (m.cnt p) else 4) else 3) else 3
def GcM.put(m:GcM)(p:PktM):GcM:=⟨m.key,m.fst,KN m.M (m.cnt p) (some (m.G9 p))⟩
theorem MK{p:PktM}(h:IB p=true):(0<=p.short/\p.short<4096)/\p.sl.size=3/\p.data.size<=500:=by grind [IB]
theorem Qs{s:Int}(h:N3 f s=true):0<=SP f s/\SP f s<16777216:=by grind [N3,SP]
theorem O9{a b:ByteArray}(h:¬a=b):(a.toList==b.toList)=false:=by
 rw[Cc,Cc]
 cases d:(a.data.toList==b.data.toList)with
 | false=>rfl
 | true=>exact absurd (EJ (by simpa using d)) h
def Qi (w:World)(x:Int):Ending->World->Prop:=fun e w'=>e=.returned (.tuple #[slice none 0 0,int i64 x])/\Below w.heap.size w w'
theorem AcI{q:Addr}(p:PktM)(b:p.sl.size<=140737488355328)(h:p.data.size<=140737488355328)(j:IB p=false):
 Calls prog 209 #[.pointer (some q),p.val] w (Qi w 3):=by
 have i:=fun r=>Ia p r b h
 rw[show Gl p=3 by unfold Gl;rw[j];rfl]at i;obtain⟨s,d,l⟩:=p;dsimp only[PktM.val]at*;have m:Below w.heap.size w (w.alloc (.cells #[int i64 s,string d,string l] 255)):=(Ad _ w).alloc (Ac _) _;clear j;go_enter func209,ntmps209
 go_wp2_with(go_at_call 246;refine(i _).mono ?_;rintro e w1 ⟨rfl,a⟩)
 go_ret2;exact⟨rfl,Fr m a⟩
theorem ZG{m:GcM}(h:PGc w g bm m)(p:PktM)(q:IB p=true)(hi:N3 m.fst p.short=false):
 Calls prog 209 #[.pointer (some ⟨g,0,none⟩),p.val] w (Qi w 3):=by
 obtain⟨x,r,j⟩:=MK q;have u:=fun z=>Ia p z (by omega) (by omega)
 rw[show Gl p=0 by unfold Gl;rw[q];rfl]at u;have t:Below w.heap.size w (w.alloc (.cells #[int i64 p.short,string p.data,string p.sl] 255)):=(Ad _ w).alloc (Ac _) _;have y:∀w1,Below (w.alloc (.cells #[int i64 p.short,string p.data,string p.sl] 255)).heap.size (w.alloc (.cells #[int i64 p.short,string p.data,string p.sl] 255)) w1->w1.cell? ⟨w.heap.size,0,none⟩=some (int i64 p.short)/\Calls prog 247 #[.pointer (some ⟨g,0,none⟩),int i64 p.short] w1 fun e w'=>e=.returned (.tuple #[int i64 0,int i64 3])/\Below w1.heap.size w1 w':=fun w1 a=>by
  refine⟨((K4 w 255 [int i64 p.short,string p.data,string p.sl]).kept (S:=[]) (Kept.E5 a) (by simp)).cell 0,?_⟩;have:=L7 ((h.kept (S:=[]) (Kept.E5 t) (by simp)).kept (S:=[]) (Kept.E5 a) (by simp)) p.short x;rw[hi]at this;exact this
 obtain⟨s,d,l⟩:=p;dsimp only[PktM.val]at*;clear q hi h x r j;go_enter func209,ntmps209
 go_wp2_with(first
  | (go_at_call 246;refine(u _).mono ?_;rintro e w1 ⟨rfl,a⟩;obtain⟨A,i⟩:=y w1 a)
  | (go_at_call 247;refine i.mono ?_;rintro e w2 ⟨rfl,b⟩))
 go_ret2;exact⟨rfl,Fr t (Fr a b)⟩
structure TkW(w w1:World)(g bm:Nat)(m:GcM)(p:PktM):Prop where
 bel:Below w.heap.size w w1
 rc:PGc w1 g bm m
 pk:At w1 w.heap.size 255 [int i64 p.short,string p.data,string p.sl]
theorem TkW.next{m:GcM}{p:PktM}(h:TkW w w1 g bm m p)(a:Below w1.heap.size w1 w2):TkW w w2 g bm m p:=⟨Fr h.bel a,h.rc.kept (S:=[]) (Kept.E5 a) (by simp),h.pk.kept (S:=[]) (Kept.E5 a) (by simp)⟩
theorem TkW.first{m:GcM}(p:PktM)(h:PGc w g bm m):TkW w (w.alloc (.cells #[int i64 p.short,string p.data,string p.sl] 255)) g bm m p:=by
 have a:Below w.heap.size w (w.alloc (.cells #[int i64 p.short,string p.data,string p.sl] 255)):=(Ad _ w).alloc (Ac _) _;exact⟨a,h.kept (S:=[]) (Kept.E5 a) (by simp),K4 w _ _⟩
theorem AcJ{m:GcM}(h:PGc w g bm m)(p:PktM)(N:IB p=true)(hi:N3 m.fst p.short=true)(t:¬p.sl=If (m.cnt p) (m.G9 p)):
 Calls prog 209 #[.pointer (some ⟨g,0,none⟩),p.val] w (Qi w 4):=by
 obtain⟨S,O,r⟩:=MK N;have J:=fun E=>Ia p E (by omega) (by omega)
 rw[show Gl p=0 by unfold Gl;rw[N];rfl]at J;have K:=Qs hi;have R:=TkW.first p h
 obtain⟨C,F⟩:=E7 (m.cnt p);have x:SP m.fst p.short=(C:Int):=by rw[F];unfold GcM.cnt;omega
 have hC:C<16777216:=by omega
 have q:∀w1,TkW w w1 g bm m p->Calls prog 247 #[.pointer (some ⟨g,0,none⟩),int i64 p.short] w1 fun e w'=>e=.returned (.tuple #[int i64 (C:Int),int i64 0])/\Below w1.heap.size w1 w':=fun w1 h1=>by
  have:=L7 h1.rc p.short S;rw[hi,x]at this;exact this
 have b:=fun E=>Nd p.data m.key C E r h.ok.key (by omega)
 have B:=fun E=>Nw (m.G9 p) C E (by unfold GcM.G9;rw[Lg];exact r)
 have Q:LP p.data (Hb m.key C)=m.G9 p:=by rw[F];rfl
 rw[Q]at b;rw[<-F]at t;generalize m.G9 p=D at*;generalize If C D=L at*;obtain⟨M,P⟩:=E7 ((C:Int):Int);rw[<-P]at q b B;clear N hi S O r K F x Q hC h P;obtain⟨s,d,l⟩:=p;dsimp only[PktM.val]at*;have Z:=hid R;have H:=hid q;have aa:=O9 t;clear R q t;go_enter func209,ntmps209
 go_upto_region 7 with(first
  | (go_at_call 246;refine(J _).mono ?_;rintro e w1 ⟨rfl,y⟩;have i:=hid (Z.out.next y);have k0:w1.cell? ⟨w.heap.size,0,none⟩=some (int i64 s):=i.out.pk.cell 0)
  | (go_at_call 247;refine(H.out w1 i.out).mono ?_;rintro e w2 ⟨rfl,z⟩))
 have j:=hid (i.out.next z);have T:w2.cell? ⟨w.heap.size,1,none⟩=some (string d):=j.out.pk.cell 1;have U:w2.cell? ⟨g,0,none⟩=some (int i64 m.key):=j.out.rc.hd.cell 0
 go_region_held3 (fun w'=>w'.cell? ⟨w.heap.size,1,none⟩=some (string d)/\w'.cell? ⟨g,0,none⟩=some (int i64 m.key)) (first | exact⟨T,U⟩ | exact⟨W,X⟩ | go_keep) (first | (go_at_call 214;refine(b _).mono ?_;rintro e G ⟨rfl,A⟩;have a:=hid ((j.out.next ((Ad _ w2).drew)).next A);have W:G.cell? ⟨w.heap.size,1,none⟩=some (string d):=a.out.pk.cell 1;have X:G.cell? ⟨g,0,none⟩=some (int i64 m.key):=a.out.rc.hd.cell 0));have V:G.cell? ⟨w.heap.size,2,none⟩=some (string l):=a.out.pk.cell 2;clear W X T U k0 b J y z A;go_upto_region 8 with fail
 go_region_held3 (fun w'=>w'.cell? ⟨w.heap.size,2,none⟩=some (string l)) (first | exact V | exact Y | go_keep) (first | (go_at_call 215;refine(B _).mono ?_;rintro e w4 ⟨rfl,I⟩;have u:=hid ((a.out.next ((Ad _ G).drew)).next I);have Y:w4.cell? ⟨w.heap.size,2,none⟩=some (string l):=u.out.pk.cell 2));clear V Y
 go_wp2_with fail
 go_ret2;exact⟨rfl,u.out.bel⟩
theorem Agb{m:GcM}(h:PGc w g bm m)(p:PktM)(S:IB p=true)(hi:N3 m.fst p.short=true)(G:p.sl=If (m.cnt p) (m.G9 p))(x:Int)(U:JQ m (m.cnt p)=x)(H:x≠0):
 Calls prog 209 #[.pointer (some ⟨g,0,none⟩),p.val] w (Qi w x):=by
 obtain⟨Z,T,u⟩:=MK S;have Q:=fun I=>Ia p I (by omega) (by omega)
 rw[show Gl p=0 by unfold Gl;rw[S];rfl]at Q;have R:=Qs hi;have Y:=TkW.first p h
 obtain⟨C,y⟩:=E7 (m.cnt p);have z:SP m.fst p.short=(C:Int):=by rw[y];unfold GcM.cnt;omega
 have X:C<16777216:=by omega
 have t:∀w1,TkW w w1 g bm m p->Calls prog 247 #[.pointer (some ⟨g,0,none⟩),int i64 p.short] w1 fun e w'=>e=.returned (.tuple #[int i64 (C:Int),int i64 0])/\Below w1.heap.size w1 w':=fun w1 O=>by
  have:=L7 O.rc p.short Z;rw[hi,z]at this;exact this
 have i:=fun I=>Nd p.data m.key C I u h.ok.key (by omega)
 have F:=fun I=>Nw (m.G9 p) C I (by unfold GcM.G9;rw[Lg];exact u)
 have W:LP p.data (Hb m.key C)=m.G9 p:=by rw[y];rfl
 rw[W]at i;rw[<-y]at G;have b:=fun w1 (O:TkW w w1 g bm m p)=>N1 O.rc C X
 rw[<-y]at U;rw[U]at b;generalize m.G9 p=D at*;generalize If C D=L at*;obtain⟨M,V⟩:=E7 ((C:Int):Int);rw[<-V]at t i F b;have aa:(x !=0)=true:=by simpa using H
 clear S hi Z T u R y z W X h V U H;obtain⟨s,d,l⟩:=p;dsimp only[PktM.val]at*;subst G;have HT:=hid Y;have N:=hid t;have K:=hid b;clear Y t b;go_enter func209,ntmps209
 go_upto_region 7 with(first
  | (go_at_call 246;refine(Q _).mono ?_;rintro e w1 ⟨rfl,A⟩;have j:=hid (HT.out.next A);have k0:w1.cell? ⟨w.heap.size,0,none⟩=some (int i64 s):=j.out.pk.cell 0)
  | (go_at_call 247;refine(N.out w1 j.out).mono ?_;rintro e w2 ⟨rfl,B⟩))
 have q:=hid (j.out.next B);have k1:w2.cell? ⟨w.heap.size,1,none⟩=some (string d):=q.out.pk.cell 1;have k2:w2.cell? ⟨g,0,none⟩=some (int i64 m.key):=q.out.rc.hd.cell 0
 go_region_held3 (fun w'=>w'.cell? ⟨w.heap.size,1,none⟩=some (string d)/\w'.cell? ⟨g,0,none⟩=some (int i64 m.key)) (first | exact⟨k1,k2⟩ | exact⟨y1,y2⟩ | go_keep) (first | (go_at_call 214;refine(i _).mono ?_;rintro e J ⟨rfl,E⟩;have a:=hid ((q.out.next ((Ad _ w2).drew)).next E);have y1:J.cell? ⟨w.heap.size,1,none⟩=some (string d):=a.out.pk.cell 1;have y2:J.cell? ⟨g,0,none⟩=some (int i64 m.key):=a.out.rc.hd.cell 0));have k3:J.cell? ⟨w.heap.size,2,none⟩=some (string l):=a.out.pk.cell 2;clear y1 y2 k1 k2 k0 i Q A B E;go_upto_region 8 with fail
 go_region_held3 (fun w'=>w'.cell? ⟨w.heap.size,2,none⟩=some (string l)) (first | exact k3 | exact y3 | go_keep) (first | (go_at_call 215;refine(F _).mono ?_;rintro e w4 ⟨rfl,P⟩;have r:=hid ((a.out.next ((Ad _ J).drew)).next P);have y3:w4.cell? ⟨w.heap.size,2,none⟩=some (string l):=r.out.pk.cell 2));clear k3 y3
 go_wp2_with(go_at_call 248;refine(K.out w4 r.out).mono ?_;rintro e w5 ⟨rfl,rfl⟩)
 go_ret2;exact⟨rfl,r.out.bel⟩
theorem GcM.Ok.put{m:GcM}{p:PktM}(h:m.Ok)(d:m.cnt p<16777216)(e:m.fst<=m.cnt p):(m.put p).Ok:=by
 refine⟨h.key,h.few,fun k a=>?_,fun k a=>?_⟩
 ·have b:k<m.fst:=a
  show KN m.M (m.cnt p) _ k=none;rw[Jz _ _ (show k≠m.cnt p by omega)];exact h.past k a
 ·show KN m.M (m.cnt p) _ k=none;rw[Jz _ _ (show k≠m.cnt p by omega)];exact h.top k a
def VB (w:World)(g bm:Nat)(m:GcM)(n:Nat):Ending->World->Prop:=VC w g bm m n fun v=> .tuple #[v,int i64 0]
theorem Ai1{m:GcM}(h:PGc w g bm m)(p:PktM)(hf:IB p=true)(hi:N3 m.fst p.short=true)(R:p.sl=If (m.cnt p) (m.G9 p))(u:JQ m (m.cnt p)=0)(hn:RunG (m.put p).M m.fst n):
 Calls prog 209 #[.pointer (some ⟨g,0,none⟩),p.val] w (VB w g bm (m.put p) n):=by
 obtain⟨hs,ae,E⟩:=MK hf;have hc:=fun S=>Ia p S (by omega) (by omega)
 rw[show Gl p=0 by unfold Gl;rw[hf];rfl]at hc;have ad:=Qs hi;have hT:=TkW.first p h
 obtain⟨C,j⟩:=E7 (m.cnt p);have J:SP m.fst p.short=(C:Int):=by rw[j];unfold GcM.cnt;omega
 have T:C<16777216:=by omega
 have B:∀w1,TkW w w1 g bm m p->Calls prog 247 #[.pointer (some ⟨g,0,none⟩),.int i64 p.short] w1 fun e w'=>e=.returned (.tuple #[.int i64 (C:Int),.int i64 0])/\Below w1.heap.size w1 w':=fun w1 Z=>by
  have:=L7 Z.rc p.short hs;rw[hi,J]at this;exact this
 have r:=fun S=>Nd p.data m.key C S E h.ok.key (by omega)
 have Q:=fun S=>Nw (m.G9 p) C S (by unfold GcM.G9;rw[Lg];exact E)
 have eO:LP p.data (Hb m.key C)=m.G9 p:=by rw[j];rfl
 rw[eO]at r;rw[<-j]at R;have q:=fun w1 (Z:TkW w w1 g bm m p)=>N1 Z.rc C T
 have F:m.fst<=C/\m.M C=none:=by
  rw[j];unfold JQ at u
  split at u
  ·cases u
  ·split at u
   ·cases u
   ·rename_i q1 q2;exact⟨by omega,by simpa using q2⟩
 have t:=h.ok.put (p:=p) (by rw[<-j];exact T) (by rw[<-j];exact F.1);have P:=h.ne;have af:=h.lt;have b:∀x,TkW w x g bm m p->x.cell? ⟨g,2,none⟩=some (.map (some bm))/\∃G,(Instr.mapUpdate 243 (.map (some bm)) (.int i64 (C:Int)) (.string (m.G9 p))).run prog x=.ok () G/\Calls prog 249 #[.pointer (some ⟨g,0,none⟩)] G (fun e w'=>∃v a c,e=.returned v/\v=slice a n c/\VB w g bm (m.put p) n (.returned (.tuple #[v,.int i64 0])) w'):=fun x I=>by
  refine⟨I.rc.hd.cell 2,?_⟩;obtain⟨G,hr,hS,hk⟩:=I.rc.mp.put (k:=C) T (m.G9 p) F.2;refine⟨G,hr,?_⟩;have aa:PGc G g bm (m.put p):=by
   refine⟨I.rc.hd.kept hk (by simpa using P),?_,P,t⟩;rw[j]at hS;exact hS
  refine(Agc aa hn).mono ?_;rintro e w7 ⟨v,rfl,ho,hK,ab⟩;obtain⟨a,c,rfl, -, -, -⟩:=Fg ho;have ai:=I.bel.size;have aj:=hk.size;refine⟨_,a,c,rfl,rfl,_,rfl,?_,((Kept.E5 I.bel).trans (hk.Fn (by simp[gcF]))).trans hK,ab⟩;have h8:=ho;refine⟨h8.1,?_⟩
  rcases h8.2 with h9 | ⟨g9,Y,cur,q1,q2,q3⟩
  ·exact .inl h9
  ·exact .inr ⟨g9,Y,cur,q1,by omega,q3⟩
 rw[<-j]at u;rw[u]at q;generalize m.G9 p=D at*;generalize If C D=L at*;obtain⟨M,eM⟩:=E7 ((C:Int):Int);rw[<-eM]at B r Q q b;obtain⟨mp,H⟩:=E7 (m.put p);rw[<-H]at b |-;clear hf hi hs ae E ad j J eO T h eM u F t af hn H;obtain⟨s,d,l⟩:=p;dsimp only[PktM.val]at*;subst R;have HT:=hid hT;have W:=hid B;have V:=hid q;have X:=hid b;clear hT B q b;go_enter func209,ntmps209
 go_upto_region 7 with(first
  | (go_at_call 246;refine(hc _).mono ?_;rintro e w1 ⟨rfl,K⟩;have y:=hid (HT.out.next K);have k0:w1.cell? ⟨w.heap.size,0,none⟩=some (.int i64 s):=y.out.pk.cell 0)
  | (go_at_call 247;refine(W.out w1 y.out).mono ?_;rintro e w2 ⟨rfl,N⟩))
 have z:=hid (y.out.next N);have k1:w2.cell? ⟨w.heap.size,1,none⟩=some (.string d):=z.out.pk.cell 1;have k2:w2.cell? ⟨g,0,none⟩=some (.int i64 m.key):=z.out.rc.hd.cell 0
 go_region_held3 (fun w'=>w'.cell? ⟨w.heap.size,1,none⟩=some (.string d)/\w'.cell? ⟨g,0,none⟩=some (.int i64 m.key)) (first | exact⟨k1,k2⟩ | exact⟨y1,y2⟩ | go_keep) (first | (go_at_call 214;refine(r _).mono ?_;rintro e U ⟨rfl,O⟩;have i:=hid ((z.out.next ((Ad _ w2).drew)).next O);have y1:U.cell? ⟨w.heap.size,1,none⟩=some (.string d):=i.out.pk.cell 1;have y2:U.cell? ⟨g,0,none⟩=some (.int i64 m.key):=i.out.rc.hd.cell 0));have k3:U.cell? ⟨w.heap.size,2,none⟩=some (.string l):=i.out.pk.cell 2;clear y1 y2 k1 k2 k0 r hc K N O;go_upto_region 8 with fail
 go_region_held3 (fun w'=>w'.cell? ⟨w.heap.size,2,none⟩=some (.string l)) (first | exact k3 | exact y3 | go_keep) (first | (go_at_call 215;refine(Q _).mono ?_;rintro e x ⟨rfl,ac⟩;have A:=hid ((i.out.next ((Ad _ U).drew)).next ac);have y3:x.cell? ⟨w.heap.size,2,none⟩=some (.string l):=A.out.pk.cell 2));clear k3 y3;obtain⟨y5,G,ah,ag⟩:=X.out x A.out
 go_wp2_with(first
  | (go_at_call 248;refine(V.out x A.out).mono ?_;rintro e w5 ⟨rfl,rfl⟩)
  | (go_at_call 249;refine ag.mono ?_;rintro e w7 ⟨v,a,c,rfl,rfl,b⟩))
 go_ret2;exact b
end Go.Proofs.YtbjgfoiikhbonahGreatDoor
