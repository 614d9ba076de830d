import Derived.Test.YtbjgfoiikhbonahGreatDoorD12
import Derived.Lib.AppendStr
set_option linter.unusedVariables false
set_option linter.unusedSimpArgs false
set_option maxRecDepth 100000
set_option maxHeartbeats 4000000
namespace Go.Proofs.YtbjgfoiikhbonahGreatDoor
open Go.ChangeShapes Go.WideShapes Go.ChangeAt Go.RowKit Go.Maps Go.Proofs.Tryz
open Value (int slice pointer string)
open IntKind (i64)
variable {B bm f g j k n p:Nat}{L:List Int}{P:Program}{Q:Exit->Act->World->Prop}{S:List Nat}{a:Act}{m:SendM}{o:Oper}{ops:Array Oper}{r s:ByteArray}{rest:List Oper}{size:Int}{v v0 v1 v2 y:Value}{w w' w0 w1:World}{x:Operand}{ρ:Operand->Value}
def VerT (w:World):Prop:=∃T fr,w.heap[3]?=some (.cells #[int i64 0,int i64 2,int i64 3,int i64 1] T fr)
theorem VerT.lt(h:VerT w):3<w.heap.size:=by
 obtain⟨T,fr,e⟩:=h;exact(Array.getElem?_eq_some_iff.1 e).1
theorem VerT.old(h:VerT w)(b:Below w.heap.size w w'):VerT w':=by
 have c:=h.lt;obtain⟨T,fr,e⟩:=h;exact⟨T,fr,(b.block _ c).trans e⟩
theorem VerT.cell{w:World}(h:VerT w)(t:Nat):w.cell? ⟨3,t % 4,none⟩=some (int i64 (PA t)):=by
 obtain⟨T,fr,e⟩:=h;have c:t % 4<4:=AZ _ (by omega);unfold World.cell?;rw[e];have b:t % 4=0\/t % 4=1\/t % 4=2\/t % 4=3:=by omega
 unfold PA
 grind
theorem Uz(w:World){s:Nat}(b:o.op=.fieldAddr 211 x 2)(h:ρ x=pointer (some ⟨g,s,none⟩)):(execOp ρ o).run prog w=.ok (.value (pointer (some ⟨g,s+9,none⟩))) w:=by
 unfold execOp;simp only[b,h];simp[go_sem]
theorem UB(w:World)(c:o.op=.load 209 x)(h:ρ x=pointer (some ⟨g,j,none⟩))(b:w.cell? ⟨g,j,none⟩=some v):(execOp ρ o).run prog w=.ok (.value v) w:=by
 unfold execOp;simp only[c,h];simp[go_sem,b]
theorem Wu(w:World)(b:o.op=.load 213 x)(h:ρ x=pointer (some ⟨g,j,none⟩))(c0:w.cell? ⟨g,j,none⟩=some v0)(c1:w.cell? ⟨g,j+1,none⟩=some v1)(c2:w.cell? ⟨g,j+2,none⟩=some v2):(execOp ρ o).run prog w=.ok (.value (.agg #[v0,v1,v2])) w:=by
 unfold execOp;simp only[b,h];simp[go_sem,c0,c1,c2]
theorem Kept.He(h:Kept S w w'){b:Nat}(c:w.cell? ⟨b,j,none⟩=some v)(d:b∉S):w'.cell? ⟨b,j,none⟩=some v:=(AF (h.block b (Aj w _ c) d)).trans c
theorem Kept.AnQ{a:World}(h:Kept S a w){p:Addr}(d:a.heap.size<=p.block)(u:Value):Kept S a (w.setCell p u):=⟨h.os,h.tape,h.output,by simpa using h.size,fun k b c=>(BA w p u k (by omega)).trans (h.block k b c)⟩
theorem Uw{v3:Value}{t:TypeId}(d:w.heap[g]?=some (.cells #[v0,v1,v2,v3] t (0,0)))(c:Below w.heap.size w w1)(o:Obj):
 ((w1.alloc o).cell? ⟨g,0,none⟩=some v0/\(w1.alloc o).cell? ⟨g,1,none⟩=some v1/\(w1.alloc o).cell? ⟨g,2,none⟩=some v2/\(w1.alloc o).cell? ⟨g,3,none⟩=some v3)/\∀j,(w1.alloc o).frozen? ⟨g,j,none⟩=false:=by
 have hg:g<w.heap.size:=by grind
 have b:(w1.alloc o).heap[g]?=some (.cells #[v0,v1,v2,v3] t (0,0)):=(Bc w1 o g (AI hg c.size)).trans ((c.block g hg).trans d);refine⟨⟨?_,?_,?_,?_⟩,fun j=>Bz _ g j _ _ b⟩<;>(rw[Al _ _ _ _ _ _ b];rfl)
theorem Adq(h:PSend w g bm m)(hV:VerT w)(k:Nat)(c:k<8)(C:(m.tat k).busy=true)(ho:(m.tat k).opn=false):
 Calls prog 60 #[pointer (some ⟨g,0,none⟩),int i64 (k:Int)] w fun e w'=>e=.returned (.tuple #[.agg #[int i64 (k:Int),int i64 (PA (m.tat k).tries),.bool (m.tat k).flag,string (m.tat k).data],int i64 0])/\PSend w' g bm (m.set k (m.tat k).tried)/\Kept [g,bm] w w':=by
 have E:Below w.heap.size w (w.alloc (.cells #[int i64 0,int i64 0,.bool false,string {data:=#[]}] 127)):=(Ad _ w).alloc (Ac _) _;have hq:(w.alloc (.cells #[int i64 0,int i64 0,.bool false,string {data:=#[]}] 127)).heap[w.heap.size]?=_:=Am w _;have D:=O2 (h.old E) k c true (m.tat k).blk 0 C rfl rfl;have l:=h.2.2;have ak:=h.ne;have ar:=h.lt;have J:=(l.each k c C).2 ho;have ao:(m.tat k).tries<8:=AI J l.high;have q:=SH l c C ho;obtain⟨T,eT⟩:=E7 (m.tat k);rw[<-eT]at D ho ao J q |-;have HT:=hid eT;have HB:=hid C;unfold TryM.blk at D;rw[ho]at D;have aq:((T.tries:Int)).tmod 4=((T.tries % 4:Nat):Int):=by grind
 clear eT C J;go_enter func60,ntmps60
 go_wp2_with(go_at_call 111;refine D.mono ?_;rintro e w1 ⟨rfl,F⟩;obtain⟨⟨c0,c1,c2,c3⟩,i⟩:=Uw hq F (.cells #[string T.data,int i64 T.tries,.bool false] 213);have f0:=i 0;have f1:=i 1;have f2:=i 2;have f3:=i 3;have A:=E.trans (F.mono E.size);have d:=A.alloc A.size (.cells #[string T.data,int i64 T.tries,.bool false] 213);have u:=h.old d;have ah:=(hV.old d).cell T.tries);have Y:prog.follows .mixedOrders=true:=by kernel_rfl
 clear c0 c1 c2 c3 f0 f1 f2 f3 i d u ah;have d:Below w.heap.size w (w1.alloc (.cells #[string T.data,int i64 ((T.tries:Int)+1),.bool true] 213)):=A.alloc A.size _;have u:=h.old d;obtain⟨⟨c0,c1,c2,c3⟩,i⟩:=Uw hq F (.cells #[string T.data,int i64 ((T.tries:Int)+1),.bool true] 213);have H:(w1.alloc (.cells #[string T.data,int i64 ((T.tries:Int)+1),.bool true] 213)).heap[w1.heap.size]?=_:=Am w1 _;have U:(w1.alloc (.cells #[string T.data,int i64 ((T.tries:Int)+1),.bool true] 213)).cell? ⟨w1.heap.size,0,none⟩=some (string T.data):=by rw[Al _ _ _ _ _ _ H];rfl
 have e1:(w1.alloc (.cells #[string T.data,int i64 ((T.tries:Int)+1),.bool true] 213)).cell? ⟨w1.heap.size,0+1,none⟩=some (int i64 ((T.tries:Int)+1)):=by rw[Al _ _ _ _ _ _ H];rfl
 have e2:(w1.alloc (.cells #[string T.data,int i64 ((T.tries:Int)+1),.bool true] 213)).cell? ⟨w1.heap.size,0+2,none⟩=some (.bool true):=by rw[Al _ _ _ _ _ _ H];rfl
 have z:w.heap.size≠bm:=by have:=h.2.1.lt;omega
 have ap:w1.heap.size≠bm:=by have:=(h.old A).2.1.lt;omega
 have al:w.heap.size≠g:=by omega
 clear H F D E hq hV;generalize (w1.alloc (.cells #[string T.data,int i64 ((T.tries:Int)+1),.bool true] 213))=Z at*;generalize w1.heap.size=bz at*;have cm:=u.map;have V:=u.2.1;have am:=c;have aa:=hid (show T.tried.busy=true by rw[HT.out];exact HB.out);have ab:=hid (show(.agg #[string T.data,int i64 ((T.tries:Int)+1),.bool true]:Value)=T.tried.blk from rfl)
 refine Bi (Pv (Q:=fun e a' w'=>e=.normal/\a'=({tmps:=(Ft _ [(32,pointer (some ⟨g,0,none⟩)),(33,pointer (some ⟨g,0,none⟩)),(34,pointer (some ⟨g,9,none⟩)),(35,.map (some bm)),(36,int i64 (k:Int)),(37,.agg #[string T.data,int i64 ((T.tries:Int)+1),.bool true])]).toArray,defers:=[]}:Act)/\BlkMap w' bm (m.set k (T.tried))/\Kept [bm] Z w') 7 6 6 [] (fun _=>True) [(32,pointer (some ⟨g,0,none⟩)),(33,pointer (some ⟨g,0,none⟩)),(34,pointer (some ⟨g,9,none⟩)),(35,.map (some bm)),(36,int i64 (k:Int)),(37,.agg #[string T.data,int i64 ((T.tries:Int)+1),.bool true])]
  [[0],[32],[33],[34],[1],[6]] [1,2,3,6,6,6] Z Y rfl (by decide) rfl (show([32,33,34,35,36,37]:List Nat).Nodup by decide) (by kernel_rfl) (by kernel_rfl) (by kernel_rfl) (by kernel_rfl) (by kernel_rfl) (by kernel_rfl) (fun _ _ h _=>h)
  (fun R au av M wc c O Q K N=>by
   have an:R=0\/R=1\/R=2\/R=3\/R=4\/R=5:=by omega
   rcases an with rfl | rfl | rfl | rfl | rfl | rfl
   ·have U:M.eval (.tmp 0)=pointer (some ⟨g,0,none⟩):=O 0 (by decide);exact E6 rfl rfl (Fd wc rfl U) (N wc (NH wc))
   ·have ad:M.eval (.tmp 32)=pointer (some ⟨g,0,none⟩):=O 32 (by decide);exact E6 rfl rfl (Ie wc rfl ad) (N wc (NH wc))
   ·have ae:M.eval (.tmp 33)=pointer (some ⟨g,0,none⟩):=O 33 (by decide);exact E6 rfl rfl (Uz wc rfl ae) (N wc (NH wc))
   ·have af:M.eval (.tmp 34)=pointer (some ⟨g,9,none⟩):=O 34 (by decide);exact E6 rfl rfl (UB wc rfl af (c.He cm (by simp))) (N wc (NH wc))
   ·have e1:M.eval (.tmp 1)=int i64 (k:Int):=O 1 (by decide);exact E6 rfl rfl (Fd wc rfl e1) (N wc (NH wc))
   ·have e6:M.eval (.tmp 6)=pointer (some ⟨bz,0,none⟩):=O 6 (by decide)
    exact E6 rfl rfl (Wu wc rfl e6 (c.He U (by simp)) (c.He e1 (by simp)) (c.He e2 (by simp))) (N wc (NH wc)))
  (fun h=>absurd h (by decide))
  (fun wc c hu=>by
   exact Wk rfl rfl (.tmp 35) (.tmp 36) (.tmp 37) rfl (V.same (c.block bm V.lt (by simp))) l.len am (T.tried) aa.out ((Fj (t:=[(32,pointer (some ⟨g,0,none⟩)),(33,pointer (some ⟨g,0,none⟩)),(34,pointer (some ⟨g,9,none⟩)),(35,.map (some bm)),(36,int i64 (k:Int)),(37,.agg #[string T.data,int i64 ((T.tries:Int)+1),.bool true])]) 35 (show([32,33,34,35,36,37]:List Nat).Nodup by decide) (by kernel_rfl)).trans rfl) ((Fj (t:=[(32,pointer (some ⟨g,0,none⟩)),(33,pointer (some ⟨g,0,none⟩)),(34,pointer (some ⟨g,9,none⟩)),(35,.map (some bm)),(36,int i64 (k:Int)),(37,.agg #[string T.data,int i64 ((T.tries:Int)+1),.bool true])]) 36 (show([32,33,34,35,36,37]:List Nat).Nodup by decide) (by kernel_rfl)).trans rfl) (((Fj (t:=[(32,pointer (some ⟨g,0,none⟩)),(33,pointer (some ⟨g,0,none⟩)),(34,pointer (some ⟨g,9,none⟩)),(35,.map (some bm)),(36,int i64 (k:Int)),(37,.agg #[string T.data,int i64 ((T.tries:Int)+1),.bool true])]) 37 (show([32,33,34,35,36,37]:List Nat).Nodup by decide) (by kernel_rfl)).trans rfl).trans ab.out) (fun w' h1 h2=>⟨rfl,rfl,h1,(c.Fn (by simp)).trans (JG h2 (by simp))⟩))) ?_
 rintro e a' w2 ⟨rfl,rfl,d,b⟩;dsimp only[Ft,List.set,List.append_nil,List.cons_append,List.nil_append];have X:PSend w2 g bm (m.set k T.tried):=⟨(b.block g u.lt (by simpa using ak)).trans (by rw[J1 l.len c _ (by rw[HT.out];rfl)];exact u.1),d,l.set c q⟩;have cf:w2.cell? ⟨g,1+k,none⟩=some (.bool T.flag):=by
  have:=X.flag c;rw[SendM.Lf l.len c,Ab rfl]at this;exact this
 have c0:=b.He c0 (by simpa using z);have c1:=b.He c1 (by simpa using z);have c2:=b.He c2 (by simpa using z);have c3:=b.He c3 (by simpa using z);have U:=b.He U (by simpa using ap);have G:∀j,w2.frozen? ⟨w.heap.size,j,none⟩=false:=fun j=>by
  have hl:=Aj Z _ ‹Z.cell? ⟨w.heap.size,0,none⟩=some (int i64 0)›;have:=i j;unfold World.frozen? at*;rw[b.block _ hl (by simpa using z)];exact this
 have f0:=G 0;have f1:=G 1;have f2:=G 2;have f3:=G 3;have ag:Kept [g,bm] w w2:=(Kept.E5 ‹Below w.heap.size w Z›).trans (b.Fn (by simp));have I:∀(W:World),Kept [g,bm] w W->∀j v,Kept [g,bm] w (W.setCell ⟨w.heap.size,j,none⟩ v):=fun W h j v=>h.AnQ (Ac _) v
 have ai:bm≠w.heap.size:=fun e=>z e.symm
 have aj:g≠w.heap.size:=fun e=>al e.symm
 generalize w.heap.size=bx at*
 go_wp2_with fail
 go_region
 go_wp2_with fail
 (try simp only[Exit.inBlock,Exit.then])
 refine Ah (v:=.tuple #[.agg #[int i64 (k:Int),int i64 (PA T.tries),.bool T.flag,string T.data],int i64 0]) ?_ rfl ⟨rfl,?_,?_⟩
 ·rw[AD rfl]
  go_simp
 ·exact(X.kept (S:=[bx]) (((((Kept.refl [bx] w2).setCell (by simp) _).setCell (by simp) _).setCell (by simp) _).setCell (by simp) _) (by simpa using aj) (by simpa using ai)).drew
 ·exact(I _ (I _ (I _ (I _ ag _ _) _ _) _ _) _ _).drew
theorem AjR(h:PSend w g bm m)(k:Nat)(A:k<8)(u:(m.tat k).busy=true)(I:(m.tat k).opn=true)(t:TryM)(ht:t.busy=false)(R:t.flag=(m.tat k).flag)(V:t.right m.limit):
 Calls prog 62 #[pointer (some ⟨g,0,none⟩),int i64 (k:Int),.bool true] w fun e w'=>e=.returned (.tuple #[.bool true,int i64 0])/\PSend w' g bm (m.set k t)/\Kept [g,bm] w w':=by
 have d:=O2 h k A true (m.tat k).blk 0 u rfl rfl;have l:=h.2.2;have G:=h.ne;obtain⟨T,K⟩:=E7 (m.tat k);rw[<-K]at d I;unfold TryM.blk at d;rw[I]at d;clear K u I;go_enter func62,ntmps62
 go_wp2_with(go_at_call 111;refine d.mono ?_;rintro e w1 ⟨rfl,q⟩;have i:=q.alloc q.size (.cells #[string T.data,int i64 T.tries,.bool true] 213);have b:=h.old i;have N:=b.limit;have J:=b.map)
 go_region;have c:=b.drew;have C:=i.drew;clear b i N J;have J:=c.map;have E:=c.2.1;have H:=c.lt;have U:=c.1;generalize (w1.alloc (.cells #[string T.data,int i64 T.tries,.bool true] 213)).drew=W at*
 go_wp2_with(at_delete;refine PC _ rfl _ _ rfl rfl E l.len A rfl t ht ?_;intro M D F)
 go_ret2;have z:Kept [bm] W M:=JG F (by simp);have O:Kept [g,bm] w M:=(Kept.E5 C).trans (z.Fn (by simp));exact⟨rfl,⟨(z.block g H (by simpa using G)).trans (by rw[J1 l.len A _ R];exact U),D,l.set A V⟩,O⟩
theorem Adl(h:PSend w g bm m)(k:Nat)(A:k<8)(u:(m.tat k).busy=true)(J:(m.tat k).opn=true)(I:(m.tat k).tries=m.limit)(t:TryM)(ht:t.busy=false)(U:t.flag=(m.tat k).flag)(W:t.right m.limit):
 Calls prog 62 #[pointer (some ⟨g,0,none⟩),int i64 (k:Int),.bool false] w fun e w'=>e=.returned (.tuple #[.bool true,int i64 0])/\PSend w' g bm (m.set k t)/\Kept [g,bm] w w':=by
 have d:=O2 h k A true (m.tat k).blk 0 u rfl rfl;have l:=h.2.2;have G:=h.ne;obtain⟨T,M⟩:=E7 (m.tat k);rw[<-M]at d J I;unfold TryM.blk at d;rw[J]at d;have dl:((T.tries:Int)==(m.limit:Int))=true:=by simp[I]
 clear M u J I;go_enter func62,ntmps62
 go_wp2_with(go_at_call 111;refine d.mono ?_;rintro e w1 ⟨rfl,q⟩;have i:=q.alloc q.size (.cells #[string T.data,int i64 T.tries,.bool true] 213);have b:=h.old i;have O:=b.limit;have K:=b.map)
 go_region;have c:=b.drew;have C:=i.drew;clear b i O K;have K:=c.map;have E:=c.2.1;have H:=c.lt;have V:=c.1;generalize (w1.alloc (.cells #[string T.data,int i64 T.tries,.bool true] 213)).drew=X at*
 go_wp2_with(at_delete;refine PC _ rfl _ _ rfl rfl E l.len A rfl t ht ?_;intro N D F)
 go_ret2;have z:Kept [bm] X N:=JG F (by simp);have R:Kept [g,bm] w N:=(Kept.E5 C).trans (z.Fn (by simp));exact⟨rfl,⟨(z.block g H (by simpa using G)).trans (by rw[J1 l.len A _ U];exact V),D,l.set A W⟩,R⟩
theorem Al0(h:PSend w g bm m)(k:Nat)(d:k<8)(F:(m.tat k).busy=true)(X:(m.tat k).opn=true)(hl:(m.tat k).tries≠m.limit)(t:TryM)(ht:t.busy=true)(hf:t.flag=(m.tat k).flag)(z:t.right m.limit)(Z:t.blk=.agg #[string (m.tat k).data,int i64 (m.tat k).tries,.bool false]):
 Calls prog 62 #[pointer (some ⟨g,0,none⟩),int i64 (k:Int),.bool false] w fun e w'=>e=.returned (.tuple #[.bool false,int i64 0])/\PSend w' g bm (m.set k t)/\Kept [g,bm] w w':=by
 have l:=O2 h k d true (m.tat k).blk 0 F rfl rfl;have A:=h.2.2;have V:=h.ne;obtain⟨T,eT⟩:=E7 (m.tat k);rw[<-eT]at l X hl Z;unfold TryM.blk at l;rw[X]at l;have dl:((T.tries:Int)==(m.limit:Int))=false:=by simp;omega
 have HV:=hid Z;clear eT F X hl Z;go_enter func62,ntmps62
 go_wp2_with(go_at_call 111;refine l.mono ?_;rintro e w1 ⟨rfl,i⟩;have c:=i.alloc i.size (.cells #[string T.data,int i64 T.tries,.bool true] 213);have b:=h.old c;have cl:=b.limit;have M:=b.map)
 go_region
 go_wp2_with fail;have H:prog.follows .mixedOrders=true:=by kernel_rfl
 clear c b cl M;have c:Below w.heap.size w (w1.alloc (.cells #[string T.data,int i64 T.tries,.bool false] 213)).drew:=(i.alloc i.size _).drew;have b:=h.old c;have q:(w1.alloc (.cells #[string T.data,int i64 T.tries,.bool false] 213)).drew.heap[w1.heap.size]?=_:=Am w1 _;have N:(w1.alloc (.cells #[string T.data,int i64 T.tries,.bool false] 213)).drew.cell? ⟨w1.heap.size,0,none⟩=some (string T.data):=by rw[Al _ _ _ _ _ _ q];rfl
 have e1:(w1.alloc (.cells #[string T.data,int i64 T.tries,.bool false] 213)).drew.cell? ⟨w1.heap.size,0+1,none⟩=some (int i64 (T.tries:Int)):=by rw[Al _ _ _ _ _ _ q];rfl
 have e2:(w1.alloc (.cells #[string T.data,int i64 T.tries,.bool false] 213)).drew.cell? ⟨w1.heap.size,0+2,none⟩=some (.bool false):=by rw[Al _ _ _ _ _ _ q];rfl
 clear q i l;generalize (w1.alloc (.cells #[string T.data,int i64 T.tries,.bool false] 213)).drew=wB at*;generalize w1.heap.size=bz at*;have M:=b.map;have E:=b.2.1;have W:=d;have I:=hid ht;have J:=hid HV.out.symm
 refine Bi (Pv (Q:=fun e a' w'=>e=.normal/\a'=({tmps:=(Ft _ [(37,pointer (some ⟨g,0,none⟩)),(38,pointer (some ⟨g,0,none⟩)),(39,pointer (some ⟨g,9,none⟩)),(40,.map (some bm)),(41,int i64 (k:Int)),(42,.agg #[string T.data,int i64 (T.tries:Int),.bool false])]).toArray,defers:=[]}:Act)/\BlkMap w' bm (m.set k (t))/\Kept [bm] wB w') 7 6 6 [] (fun _=>True) [(37,pointer (some ⟨g,0,none⟩)),(38,pointer (some ⟨g,0,none⟩)),(39,pointer (some ⟨g,9,none⟩)),(40,.map (some bm)),(41,int i64 (k:Int)),(42,.agg #[string T.data,int i64 (T.tries:Int),.bool false])]
  [[0],[37],[38],[39],[1],[8]] [1,2,3,6,6,6] wB H rfl (by decide) rfl (show([37,38,39,40,41,42]:List Nat).Nodup by decide) (by kernel_rfl) (by kernel_rfl) (by kernel_rfl) (by kernel_rfl) (by kernel_rfl) (by kernel_rfl) (fun _ _ h _=>h)
  (fun D aa ab C wc d z Q K u=>by
   have Y:D=0\/D=1\/D=2\/D=3\/D=4\/D=5:=by omega
   rcases Y with rfl | rfl | rfl | rfl | rfl | rfl
   ·have N:C.eval (.tmp 0)=pointer (some ⟨g,0,none⟩):=z 0 (by decide);exact E6 rfl rfl (Fd wc rfl N) (u wc (NH wc))
   ·have O:C.eval (.tmp 37)=pointer (some ⟨g,0,none⟩):=z 37 (by decide);exact E6 rfl rfl (Ie wc rfl O) (u wc (NH wc))
   ·have R:C.eval (.tmp 38)=pointer (some ⟨g,0,none⟩):=z 38 (by decide);exact E6 rfl rfl (Uz wc rfl R) (u wc (NH wc))
   ·have U:C.eval (.tmp 39)=pointer (some ⟨g,9,none⟩):=z 39 (by decide);exact E6 rfl rfl (UB wc rfl U (d.He M (by simp))) (u wc (NH wc))
   ·have e1:C.eval (.tmp 1)=int i64 (k:Int):=z 1 (by decide);exact E6 rfl rfl (Fd wc rfl e1) (u wc (NH wc))
   ·have e8:C.eval (.tmp 8)=pointer (some ⟨bz,0,none⟩):=z 8 (by decide)
    exact E6 rfl rfl (Wu wc rfl e8 (d.He N (by simp)) (d.He e1 (by simp)) (d.He e2 (by simp))) (u wc (NH wc)))
  (fun h=>absurd h (by decide))
  (fun wc d hu=>by
   exact Wk rfl rfl (.tmp 40) (.tmp 41) (.tmp 42) rfl (E.same (d.block bm E.lt (by simp))) A.len W (t) I.out ((Fj (t:=[(37,pointer (some ⟨g,0,none⟩)),(38,pointer (some ⟨g,0,none⟩)),(39,pointer (some ⟨g,9,none⟩)),(40,.map (some bm)),(41,int i64 (k:Int)),(42,.agg #[string T.data,int i64 (T.tries:Int),.bool false])]) 40 (show([37,38,39,40,41,42]:List Nat).Nodup by decide) (by kernel_rfl)).trans rfl) ((Fj (t:=[(37,pointer (some ⟨g,0,none⟩)),(38,pointer (some ⟨g,0,none⟩)),(39,pointer (some ⟨g,9,none⟩)),(40,.map (some bm)),(41,int i64 (k:Int)),(42,.agg #[string T.data,int i64 (T.tries:Int),.bool false])]) 41 (show([37,38,39,40,41,42]:List Nat).Nodup by decide) (by kernel_rfl)).trans rfl) (((Fj (t:=[(37,pointer (some ⟨g,0,none⟩)),(38,pointer (some ⟨g,0,none⟩)),(39,pointer (some ⟨g,9,none⟩)),(40,.map (some bm)),(41,int i64 (k:Int)),(42,.agg #[string T.data,int i64 (T.tries:Int),.bool false])]) 42 (show([37,38,39,40,41,42]:List Nat).Nodup by decide) (by kernel_rfl)).trans rfl).trans J.out) (fun w' h1 h2=>⟨rfl,rfl,h1,(d.Fn (by simp)).trans (JG h2 (by simp))⟩))) ?_
 rintro e a' w2 ⟨rfl,rfl,c,G⟩;dsimp only[Ft,List.set,List.append_nil,List.cons_append,List.nil_append]
 go_wp2_with fail
 go_ret2;have u:Kept [g,bm] w w2:=(Kept.E5 ‹Below w.heap.size w wB›).trans (G.Fn (by simp));exact⟨rfl,⟨(G.block g b.lt (by simpa using V)).trans (by rw[J1 A.len d _ hf];exact b.1),c,A.set d z⟩,u⟩
structure ItemM where
 ch:Int
 data:ByteArray
def ItemM.zero:ItemM:=⟨0,ByteArray.empty⟩
def FN (s:ByteArray):List Int:=s.data.toList.map fun b=>(b.toNat:Int)
theorem Gk(s:ByteArray):(FN s).length=s.size:=by
 unfold FN;rw[Bo,AH];rfl
theorem LH(s:ByteArray):Lib.strCells s=(FN s).map (Value.int .u8):=by
 unfold Lib.strCells FN;rw[CR];rfl
def ItemM.ok(t:ItemM):Bool:=decide (1<=t.ch/\t.ch<=32/\t.data.size<=1500)
def ItemM.head(t:ItemM):List Int:=[t.ch,((t.data.size / 256:Nat):Int),((t.data.size % 256:Nat):Int)]
def ItemM.bytes(t:ItemM):List Int:=t.head++FN t.data
def Fp (l:List ItemM):List Int:=l.flatMap ItemM.bytes
theorem Og{l:List ItemM}(h:k<l.length):Fp (l.take (k+1))=Fp (l.take k)++(l.getD k .zero).head++FN (l.getD k .zero).data:=by
 have e:l.getD k .zero=l[k]:=by simp[List.getD,h]
 have e2:l.take (k+1)=l.take k++[l[k]]:=Bu h;rw[e,e2,Bg];unfold Fp;rw[Bd,D6];rfl
theorem Oh(l:List ItemM)(k:Nat):(Fp (l.take k)).length<=(Fp l).length:=by
 have h:Fp l=Fp (l.take k)++Fp (l.drop k):=by
  unfold Fp;rw[<-Bd,Cs]
 rw[h,Ai];omega
def No (L:List Int)(n:Nat):List Int:=if L.length<n then L++[63]++List.replicate (n-L.length-1) 0 else L
theorem Ss(h:L.length<=n):(No L n).length=n:=by
 unfold No
 split
 ·simp;omega
 ·omega
structure JoinM where
 text:ByteArray
 err:Int
def GN (l:List ItemM)(size:Int):JoinM:=if size<0\/65535<size then ⟨ByteArray.empty,1⟩ else if l.all ItemM.ok=false then ⟨ByteArray.empty,1⟩ else if size<((Fp l).length:Int) then ⟨ByteArray.empty,2⟩ else ⟨strOfNums (No (Fp l) size.toNat),0⟩
def Itms (w:World)(a:Option Addr)(l:List ItemM):Prop:=l≠[]->∃b o,a=some ⟨b,o,none⟩/\∀i,i<l.length->w.cell? ⟨b,o+i*2,none⟩=some (int i64 (l.getD i .zero).ch)/\w.cell? ⟨b,o+i*2+1,none⟩=some (string (l.getD i .zero).data)
theorem Itms.at{w:World}{a:Option Addr}{l:List ItemM}(h:Itms w a l){i:Nat}(hi:i<l.length):∃b o,a=some ⟨b,o,none⟩/\∀i,i<l.length->w.cell? ⟨b,o+i*2,none⟩=some (int i64 (l.getD i .zero).ch)/\w.cell? ⟨b,o+i*2+1,none⟩=some (string (l.getD i .zero).data):=h (by rintro rfl;simp at hi)
theorem NZ(b:Below w.heap.size w w'){p:Addr}(h:w.cell? p=some v):w'.cell? p=some v:=(b.cell (Aj w _ h)).trans h
theorem Own.cat{M:List Int}(b:n=L.length+M.length)(h:w.ownsRow B 5 1 v n (L.map (Value.int .u8)++M.map (Value.int .u8))):Own w B v (L++M):=by
 unfold Own
 grind
theorem YF(B:Nat)(c:World)(t:ByteArray)(b:Own w0 B v L)(d:o.guard=none)(s x:Operand)
 (z:o.op=.call {callee:=.builtin .append,args:=#[s,x],argTypes:=#[103,9]}) (hs:a.eval s=v)
 (hx:a.eval x=string t) (hlen:L.length+t.size<=70368744177664) (hbel:Below B c w0) (hB:B<=w0.heap.size)
 (h:∀v' w',Own w' B v' (L++FN t)->Below B c w'->wpList prog ops Q rest (a.put o.dst v') w'):wpList prog ops Q (o::rest) a w0:=by
 obtain⟨A,hi,e,i,l⟩:=As Tryz.Of;refine Lib.wpList_append_own_string w0 d s x 103 9 z B 5 A underlying103 underlying9 hi e i l v _ _ hs b t hx (by unfold maxLen;omega) (by omega) hB ?_;intro v' w' q u _;rw[LH]at q;exact h v' w' (Own.cat (M:=FN t) (by rw[Gk]) q) (hbel.grown u hB (Lz b))
theorem Afk{l:List ItemM}(b:k<l.length)(h:(l.getD k .zero).ok=false):l.all ItemM.ok=false:=by grind
theorem Aii{l:List ItemM}(h:∀j,j<l.length->(l.getD j .zero).ok=true):l.all ItemM.ok=true:=by
 rw[AM];intro x b;obtain⟨i,hi,rfl⟩:=A5 b
 grind
def ItemM.err(t:ItemM):Int:=if t.ok=true then 0 else 1
theorem ItemM.Acs{t:ItemM}(h:t.ok=true):t.err=0:=Ab h
theorem ItemM.err_bad{t:ItemM}(h:t.ok=false):t.err=1:=Aa (by rw[h];decide)
theorem VR(t:ItemM)(w:World):
 Calls prog 184 #[.agg #[int i64 t.ch,string t.data]] w fun e w'=>e=.returned (int i64 t.err)/\Below w.heap.size w w':=by
 by_cases c:t.ch<1
 ·have i:decide (t.ch<1)=true:=Ag c;have b:=hid (ItemM.err_bad (show t.ok=false from Ae (by omega)));clear c;go_enter func184,ntmps184;go_wp2;go_ret;exact⟨Fs b.out.symm,(Ad _ w).alloc (Ac _) _⟩
 ·have i:decide (t.ch<1)=false:=Ae c
  by_cases d:32<t.ch
  ·have l:decide (32<t.ch)=true:=Ag d;have b:=hid (ItemM.err_bad (show t.ok=false from Ae (by omega)));clear c d;go_enter func184,ntmps184;go_wp2;go_ret;exact⟨Fs b.out.symm,(Ad _ w).alloc (Ac _) _⟩
  ·have l:decide (32<t.ch)=false:=Ae d
   by_cases h:1500<t.data.size
   ·have q:decide ((1500:Int)<(t.data.size:Int))=true:=Ag (by omega);have b:=hid (ItemM.err_bad (show t.ok=false from Ae (by omega)));clear c d h;go_enter func184,ntmps184;go_wp2;go_ret;exact⟨Fs b.out.symm,(Ad _ w).alloc (Ac _) _⟩
   ·have q:decide ((1500:Int)<(t.data.size:Int))=false:=Ae (by omega);have b:=hid (ItemM.Acs (show t.ok=true from Ag (by omega)));clear c d h;go_enter func184,ntmps184;go_wp2;go_ret;exact⟨Fs b.out.symm,(Ad _ w).alloc (Ac _) _⟩
theorem Acj(l:List ItemM)(size:Int)(v:Value)(w:World)(c:size<0\/65535<size):
 Calls prog 157 #[v,int i64 size] w fun e w'=>e=.returned (int i64 (GN l size).err)/\w=w':=by
 unfold GN;rw[Ab c]
 by_cases b:size<0
 ·have d:decide (size<0)=true:=Ag b;clear b c;go_enter func157,ntmps157;go_wp2;go_ret;exact⟨rfl,rfl⟩
 ·have d:decide (size<0)=false:=Ae b;have h:decide (65535<size)=true:=Ag (by omega);clear b c;go_enter func157,ntmps157;go_wp2;go_ret;exact⟨rfl,rfl⟩
theorem Aci(l:List ItemM)(n:Nat)(a:Option Addr)(F c:Nat)(w:World)(hI:Itms w a l)(R:l.length=F)(hm:F<=maxLen)(hn:n<=65535)(ac:F<=6000000000000):
 Calls prog 157 #[slice a F c,int i64 (n:Int)] w fun e w'=>e=.returned (int i64 (GN l (n:Int)).err)/\Below w.heap.size w w':=by
 have HI:=hid hI;have u:=hid R;have ad:F<=9223372036854775807:=by unfold maxLen at hm;omega
 have d0:decide ((n:Int)<0)=false:=Ae (by omega);have d1:decide ((65535:Int)<(n:Int))=false:=Ae (by omega);have K:¬((n:Int)<0\/(65535:Int)<(n:Int)):=by omega
 have U:Hid (l.all ItemM.ok=false->(GN l (n:Int)).err=1):=fun h=>by unfold GN;rw[Aa K,Ab h]
 have V:Hid (l.all ItemM.ok=true->n<(Fp l).length->(GN l (n:Int)).err=2):=fun h h2=>by unfold GN;grind
 have W:Hid (l.all ItemM.ok=true->(Fp l).length<=n->(GN l (n:Int)).err=0):=fun h h2=>by unfold GN;grind
 clear hI R hm K;go_enter func157,ntmps157
 go_wp2_with fail
 go_loopw [5,17] (fun v i wr=>∃k m:Nat,k<=F/\m<=1503*k/\i=int i64 k/\v=int i64 m/\Hid (m=(Fp (l.take k)).length)/\(∀j,j<k->(l.getD j .zero).ok=true)/\Below w.heap.size w wr) (fun _ i _=>F-(intOf i).toNat)
 case atStart=>exact⟨0,0,by omega,by omega,rfl,rfl,rfl,fun j hj=>by omega,Ad _ w⟩
 case round=>
  obtain⟨k,m,hk,ae,rfl,rfl,HM,d,C⟩:=hrel
  by_cases J:k<F
  ·obtain⟨b,o,rfl,hC⟩:=HI.out.at (i:=k) (by rw[u.out];exact J);obtain⟨q0,q1⟩:=hC k (by rw[u.out];exact J);have H:k<l.length:=by rw[u.out];exact J
   have A:(Fp (l.take (k+1))).length=m+(3+(l.getD k .zero).data.size):=by
    rw[Og H,Ai,Ai,Gk,HM.out];have e3:(l.getD k .zero).head.length=3:=rfl;omega
   have N:=hid (fun h=>U.out (Afk H h));have Y:=hid d;obtain⟨I,eI⟩:=E7 (l.getD k .zero);rw[<-eI]at q0 q1 N A;have Z:=hid A;have q0:=NZ C q0;have q1:=NZ C q1;have HE:=hid eI;have E:=VR I;clear hC eI d H A
   cases q:I.ok with
   | false=>
    rw[ItemM.err_bad q]at E;have O:=hid (N.out q);clear q
    go_wp2_with(go_at_call 184;refine(E _).mono ?_;rintro e w1 ⟨rfl,D⟩);go_ret;exact⟨Fs O.out.symm,(C.alloc C.size _).trans (D.mono (by have:=C.size;simp;omega))⟩
   | true=>
    rw[ItemM.Acs q]at E;have X:=hid q;have K:=(AQ q).2.2;have aa:m+(3+I.data.size)<=1503*(k+1):=by omega
    have af:m+(3+I.data.size)<=9100000000000000:=by omega
    have ab:=fun(T:TypeId) (w1:World) (h1:Below (wr.alloc (.cells #[int i64 I.ch,string I.data] T)).heap.size (wr.alloc (.cells #[int i64 I.ch,string I.data] T)) w1)=>NZ h1 (show(wr.alloc (.cells #[int i64 I.ch,string I.data] T)).cell? ⟨wr.heap.size,1,none⟩=some (string I.data)by rw[Al _ _ _ _ _ _ (Am wr _)];rfl)
    clear q
    go_wp2_with(go_at_call 184;refine(E _).mono ?_;rintro e w1 ⟨rfl,D⟩;have q3:=ab _ _ D)
    go_roundw
    case rel=>exact⟨k+1,m+(3+I.data.size),by omega,aa,by go_num,by go_num,Z.out.symm,fun j hj=>by
     by_cases e:j=k
     ·rw[e,<-HE.out];exact X.out
     ·exact Y.out j (by omega),(C.alloc C.size _).trans (D.mono (by have:=C.size;simp;omega))⟩
    case measure=>simp[intOf];omega
  ·have e:k=F:=by omega
   subst e;have t:=Aii (l:=l) (fun j hj=>d j (by rw[<-u.out];exact hj));have M:l.take k=l:=Aw (by rw[u.out];exact Ac _);have z:=HM.out;rw[M]at z
   by_cases G:n<m
   ·have y1:decide (n<m)=true:=Ag G;have O:=hid (V.out t (by rw[<-z];exact G));clear t M d z
    go_wp2_with fail;go_ret;exact⟨Fs O.out.symm,C⟩
   ·have y1:decide (n<m)=false:=Ae G;have O:=hid (W.out t (by rw[<-z];omega));clear t M d z
    go_wp2_with fail;go_ret;exact⟨Fs O.out.symm,C⟩
theorem Ac6(l:List ItemM)(size:Int)(a:Option Addr)(d c:Nat)(w:World)(i:Itms w a l)(h:l.length=d)(q:d<=maxLen)(b:d<=6000000000000):
 Calls prog 157 #[slice a d c,int i64 size] w fun e w'=>e=.returned (int i64 (GN l size).err)/\Below w.heap.size w w':=by
 by_cases t:size<0\/65535<size
 ·refine(Acj l size _ w t).mono ?_;rintro e w' ⟨rfl,rfl⟩;exact⟨rfl,Ad _ _⟩
 ·obtain⟨n,rfl⟩:∃n:Nat,size=(n:Int):=⟨size.toNat,by omega⟩;exact Aci l n a d c w i h q (by omega) b
theorem Vy(B:Nat)(i:World)(c d e:Int)(b:Own w0 B v L)(q:o.guard=none)(s x:Operand)
 (E:o.op=.call {callee:=.builtin .append,args:=#[s,x],argTypes:=#[103,103]}) (hs:a.eval s=v)
 (gx:Nat) (hgx:gx=w0.heap.size) (hx:a.eval x=slice (some ⟨gx,0,none⟩) 3 3) (hlen:L.length<70368744177664) (hbel:Below B i w0) (hB:B<=w0.heap.size)
 (h:∀v' w',Own w' B v' (L++[c,d,e])->Below B i w'->(w0.alloc (.cells #[int .u8 c,int .u8 d,int .u8 e] 5)).grownBy w' v.ownBlock->wpList prog ops Q rest (a.put o.dst v') w'):wpList prog ops Q (o::rest) a (w0.alloc (.cells #[int .u8 c,int .u8 d,int .u8 e] 5)):=by
 subst hgx;obtain⟨G,hi,t,z,A⟩:=As Tryz.Of;have F:=Am w0 (.cells #[int .u8 c,int .u8 d,int .u8 e] 5);refine CJ _ q s x 103 E B 5 G (int .u8 0) 1 1 underlying103 hi t z A rfl (by decide) v _ _ hs (A6 b _) ⟨w0.heap.size,0,none⟩ 3 3 [int .u8 c,int .u8 d,int .u8 e] hx rfl ?_ ?_ ?_ ?_ ?_ ?_
 ·intro j u l;have e1:(⟨w0.heap.size,0,none⟩:Addr).add j=⟨w0.heap.size,j,none⟩:=by unfold Addr.add;split<;>simp_all
  rw[e1,Al _ _ _ _ _ _ F]
  simpa using l
 ·intro u l;simp at l;rcases l with rfl | rfl | rfl<;>rfl
 ·unfold maxLen;omega
 ·omega
 ·simp;omega
 ·intro v' w' D C _;exact h v' w' (Own.cat (M:=[c,d,e]) rfl D) ((hbel.alloc hB _).grown C (by simp;omega) (Lz b)) C
def Jb (n:Nat):ByteArray:=⟨Array.replicate n 0⟩
theorem SL(n:Nat):(Jb n).size=n:=by simp[Jb,ByteArray.size]
theorem SM(n:Nat):FN (Jb n)=List.replicate n 0:=by
 unfold FN Jb;simp
theorem SO(n:Nat):Builtin.zeroCells #[int .u8 0] n=(Lib.strCells (Jb n)).toArray:=by
 rw[LH,SM];refine C5 (by simp[Builtin.zeroCells]) fun j b c=>?_
 simp[Builtin.zeroCells,Nat.mod_one]
theorem QU(w:World)(t u st ty e:TypeId)(i:TypeInfo)(ht:P.underlying t=some (.slice e))(N:P.underlying u=some (.int i64))(C:P.underlying st=some .string)(hi:P.info? e=some i)(T:i.zero=some (int .u8 0))(h:i.size=1)(A:i.bytes=1)
 (b:Option Addr) (c d n:Nat) (X:c+n<=70368744177664):
 (Builtin.append_ #[t,u] ty #[slice b c d,int i64 (n:Int)]).run P w=(Builtin.append_ #[t,st] ty #[slice b c d,string (Jb n)]).run P w:=by
 have V:IntKind.i64.wrap (n:Int)=(n:Int):=by rw[AO];omega
 have U:¬((n:Int)<0):=by omega
 have F:¬((281474976710656:Int)<(n:Int)):=by omega
 have K:(Value.int IntKind.u8 0).cells=#[int .u8 0]:=rfl;have D:=SL n;have z:∀(m:Int) (W:World),(asInt (int i64 m)).run P W=.ok m W:=fun m W=>by simp[asInt,asIntOf]
 have J:IntKind.i64.wrap 0=0:=by decide
 by_cases M:c+n<=d
 ·by_cases q:n=0
  ·subst q;have l:=Cg (P:=P) w 1 (Jb 0);have R:Lib.strCells (Jb 0)=[]:=rfl;rw[D,R]at l;have E:c<=d:=M;simp[Builtin.append_,Av ht,Av N,Av C,sizeOf,typeInfo,hi,h,A,Builtin.lenOf,D,l,z,J,E]
  ·have l:=Cg (P:=P) w 1 (Jb n);rw[D]at l;simp[Builtin.append_,Av ht,Av N,Av C,sizeOf,typeInfo,zeroValue,hi,T,h,A,Builtin.lenOf,D,l,z,V,U,F,M,q,K,SO]
 ·have O:¬(9223372036854775807<((c:Int)+(n:Int))):=by omega
  have hg:=DC (need:=c+n) (old:=d) (bytes:=1) (by omega) (by omega);rw[By]at hg;have H:¬(281474976710656<Builtin.nextslicecap (c+n) d):=by omega
  by_cases q:n=0
  ·subst q;have l:∀W:World,(Builtin.firstCells 1 0 (string (Jb 0))).run P W=.ok #[] W:=fun W=>by
    have l:=Cg (P:=P) W 1 (Jb 0);have R:Lib.strCells (Jb 0)=[]:=rfl;rw[D,R]at l;exact l
   have E:¬c<=d:=M;have G:¬(9223372036854775807<(c:Int)):=by omega
   have I:¬(281474976710656<Builtin.nextslicecap c d):=H;simp[Builtin.append_,Av ht,Av N,Av C,sizeOf,typeInfo,zeroValue,hi,T,h,A,Builtin.lenOf,D,l,z,J,E,G,I]
  ·have l:∀W:World,(Builtin.firstCells 1 n (string (Jb n))).run P W=.ok (Lib.strCells (Jb n)).toArray W:=fun W=>by
    have l:=Cg (P:=P) W 1 (Jb n);rw[D]at l;exact l
   simp[Builtin.append_,Av ht,Av N,Av C,sizeOf,typeInfo,zeroValue,hi,T,h,A,Builtin.lenOf,D,l,z,V,U,F,M,O,H,q,K,SO]
theorem YG(B:Nat)(u:World)(n:Nat)(d:Own w0 B v L)(z:o.guard=none)(s x:Operand)
 (F:o.op=.call {callee:=.builtin .append,args:=#[s,x],argTypes:=#[103,3]}) (hs:a.eval s=v)
 (N:Int) (hx:a.eval x=int i64 N) (hN:N=(n:Int)) (hlen:L.length+n<=70368744177664) (hbel:Below B u w0) (hB:B<=w0.heap.size)
 (h:∀v' w',Own w' B v' (L++List.replicate n 0)->Below B u w'->wpList prog ops Q rest (a.put o.dst v') w'):wpList prog ops Q (o::rest) a w0:=by
 subst hN;obtain⟨C,hi,l,q,t⟩:=As Tryz.Of;obtain⟨b,c,e, -, -, -⟩:=Own.FC d;subst e;refine CM z fun K E=>?_
 have i:=SL n;obtain⟨v',w',A,G,D,H⟩:=EI (P:=prog) w0 B 103 9 o.type 5 C underlying103 underlying9 hi l q t _ _ _ d (Jb n) (by rw[i];unfold maxLen;omega) (by rw[i];omega) hB;rw[<-QU w0 103 3 9 o.type 5 C underlying103 underlying3 underlying9 hi l q t b L.length c n hlen]at A;unfold Oper.wp execOp;simp only[F,resolve,invoke,builtin,BN,Cv,B7,Ca,Be,BE,hs,hx,A];refine E _ _ (h v' w' ?_ (hbel.grown D hB (Lz d)))
 grind [LH,SM,Own.cat]
theorem ZP{l:List ItemM}(h:(GN l size).err=0):0<=size/\size<=65535/\l.all ItemM.ok=true/\((Fp l).length:Int)<=size/\GN l size=⟨strOfNums (No (Fp l) size.toNat),0⟩:=by grind [GN,ItemM.ok,Fp,No]
theorem Agl{l:List ItemM}(h:(GN l size).err≠0):(GN l size).text=ByteArray.empty:=by grind [GN,ItemM.ok,Fp]
theorem AoP{l:List ItemM}(h:l.all ItemM.ok=true)(b:k<l.length):(l.getD k .zero).ok=true:=by grind
theorem U9{wr:World}{x:Value}{b:TypeId}{d:Obj}(c:Own wr B v L)(hg:((wr.alloc (.cells #[x,y] b)).alloc d).grownBy w1 v.ownBlock):w1.cell? ⟨wr.heap.size,1,none⟩=some y:=by
 refine hg.cell (a:=⟨wr.heap.size,1,none⟩) (v:=y) ?_ (fun e=>?_)
 ·rw[Al _ _ _ _ _ _ ((heap_alloc_old _ _ (by simp)).trans (Am wr _))];rfl
 ·have:=(c.lt _ e.symm).2;simp at this
theorem Agm(l:List ItemM)(n:Nat)(a:Option Addr)(A c:Nat)(w:World)(hI:Itms w a l)(W:l.length=A)(hm:A<=maxLen)(hn:n<=65535)(C:l.all ItemM.ok=true)(T:(Fp l).length<=n)
 (R:∀wz,Itms wz a l->Calls prog 157 #[slice a A c,int i64 (n:Int)] wz fun e w'=>e=.returned (int i64 0)/\Below wz.heap.size wz w'):
 Calls prog 108 #[slice a A c,int i64 (n:Int)] w fun e w'=>e=.returned (.tuple #[string (strOfNums (No (Fp l) n)),int i64 0])/\Below w.heap.size w w':=by
 have HI:=hid hI;have E:=hid W;have N:=hid C;have aq:A<=9223372036854775807:=by unfold maxLen at hm;omega
 obtain⟨i0,hi,al,am,an⟩:=As Tryz.Of;clear W hm C;go_enter func108,ntmps108
 go_wp2_with(first
  | (go_at_call 157;refine(R _ hI).mono ?_;rintro e w1 ⟨rfl,d⟩)
  | (at_make;refine D4 _ rfl _ _ 103 rfl w.heap.size 5 i0 (int .u8 0) 1 underlying103 hi al am i64 i64 _ n rfl rfl rfl (by rw[an];omega) (by unfold maxLen;omega) d.size ?_;intro w2 h U;have t:Below w.heap.size w w2:=d.grown U d.size (by intro k hk;cases hk)))
 have X:Own w2 w.heap.size (slice (some ⟨w1.heap.size,0,none⟩) 0 n) (Fp (l.take 0)):=h;clear h U R
 go_loopw [7,21] (fun v i wr=>∃k:Nat,k<=A/\i=int i64 k/\Own wr w.heap.size v (Fp (l.take k))/\Below w.heap.size w wr) (fun _ i _=>A-(intOf i).toNat)
 case atStart=>exact⟨0,by omega,rfl,X,t⟩
 case round=>
  clear X t d;obtain⟨k,hk,rfl,G,D⟩:=hrel
  by_cases ai:k<A
  ·have u:k<l.length:=by rw[E.out];exact ai
   obtain⟨b,o,rfl,hC⟩:=HI.out.at (i:=k) u;obtain⟨q0,q1⟩:=hC k u;have O:=hid (Og u);have ak:=Oh l k;have z:=Oh l (k+1);rw[Og u,Ai,Ai,Gk]at z;have J:=AoP N.out u;obtain⟨I,eI⟩:=E7 (l.getD k .zero);rw[<-eI]at q0 q1 z O J;have q0:=NZ D q0;have q1:=NZ D q1;have q:=AQ J;have hz:I.data.size<=1500:=q.2.2;have ao:1<=I.ch:=q.1;have ap:I.ch<=32:=q.2.1;have aa:Hid ((Fp (l.take k)).length<70368744177664):=by show _<_;omega
   have ab:Hid (((Fp (l.take k))++[I.ch,(I.data.size:Int) / 256,(I.data.size:Int) % 256]).length+I.data.size<=70368744177664):=by
    show _<=_
    grind
   have Z:=hid (show I.head=[I.ch,(I.data.size:Int) / 256,(I.data.size:Int) % 256]by unfold ItemM.head;grind);have aj:=fun(ob:Obj)=>(show Own (wr.alloc ob) w.heap.size _ _ from A6 G ob)
   have af:=fun(ob:Obj)=>D.alloc D.size ob
   clear ak z eI J q hC u
   go_wp2_with(first
    | (at_builtin;refine Vy w.heap.size w _ _ _ (aj _) rfl _ _ rfl rfl _ (by simp) rfl aa.out (af _) (by have:=D.size;simp;omega) ?_;intro v1 w1 H d ah;have ar:=U9 G ah)
    | (at_builtin;refine YF w.heap.size w I.data H rfl _ _ rfl rfl rfl ab.out d d.size ?_;intro v2 w2 h t))
   go_roundw
   case rel=>exact⟨k+1,by omega,by go_num,by rw[O.out,Z.out];exact h,t⟩
   case measure=>simp[intOf];omega
  ·have e:k=A:=by omega
   subst e;have Y:l.take k=l:=Aw (by rw[E.out];exact Ac _);rw[Y]at G;clear Y HI N E;obtain⟨L,eL⟩:=E7 (Fp l);rw[<-eL]at G T;have HL:=hid eL;clear eL;obtain⟨a6,c6,rfl, -, -, -⟩:=Own.FC G
   by_cases V:L.length<n
   ·have y2:decide ((0:Int)<(n:Int)-(L.length:Int))=true:=Ag (by omega);have ac:Hid (L.length<70368744177664):=by show _<_;omega
    have ad:Hid ((L++[63]).length+(n-L.length-1)<=70368744177664):=by show _<=_;simp;omega
    have K:No (Fp l) n=L++[63]++List.replicate (n-L.length-1) 0:=by rw[<-HL.out];unfold No;rw[Ab V]
    obtain⟨M,eM⟩:=E7 (L++[63]++List.replicate (n-L.length-1) 0);rw[<-eM]at K;have F:=hid K;have HM:=hid eM;clear K eM;have ae:=hid (show(n:Int)-(L.length:Int)-1=((n-L.length-1:Nat):Int)by omega)
    go_wp2_with(first
     | (at_builtin;refine AbR w.heap.size w 63 G rfl _ _ rfl rfl rfl ac.out D D.size ?_;intro v1 w1 H d)
     | (at_builtin;refine YG w.heap.size w (n-L.length-1) H rfl _ _ rfl rfl _ rfl ae.out ad.out d d.size ?_;intro v2 w2 h t;rw[<-HM.out]at h;obtain⟨a7,c7,rfl, -, -, -⟩:=Own.FC h;have ag:=L6 h.rd c7))
    go_ret2;rw[F.out];exact⟨rfl,t⟩
   ·have y2:decide ((0:Int)<(n:Int)-(L.length:Int))=false:=Ae (by omega);have F:=hid (show No (Fp l) n=L by rw[<-HL.out];unfold No;rw[Aa V]);have ag:=L6 G.rd c6
    go_wp2_with fail
    go_ret2;rw[F.out];exact⟨rfl,D⟩
theorem Aja(l:List ItemM)(size er:Int)(a:Option Addr)(h c:Nat)(w:World)(q:(er !=0)=true)(d:∀wz,Itms wz a l->Calls prog 157 #[slice a h c,int i64 size] wz fun e w'=>e=.returned (int i64 er)/\Below wz.heap.size wz w')(i:Itms w a l):
 Calls prog 108 #[slice a h c,int i64 size] w fun e w'=>e=.returned (.tuple #[string ByteArray.empty,int i64 er])/\Below w.heap.size w w':=by
 go_enter func108,ntmps108
 go_wp2_with(go_at_call 157;refine(d _ i).mono ?_;rintro e w1 ⟨rfl,b⟩)
 go_ret2;exact⟨rfl,b⟩
theorem Agw(l:List ItemM)(size:Int)(a:Option Addr)(i c:Nat)(w:World)(u:Itms w a l)(q:l.length=i)(z:i<=maxLen)(d:i<=6000000000000):
 Calls prog 108 #[slice a i c,int i64 size] w fun e w'=>e=.returned (.tuple #[string (GN l size).text,int i64 (GN l size).err])/\Below w.heap.size w w':=by
 have b:=fun E D=>Ac6 l size a i c E D q z d
 by_cases t:(GN l size).err=0
 ·obtain⟨F,G,A,H,C⟩:=ZP t;obtain⟨n,rfl⟩:∃n:Nat,size=(n:Int):=⟨size.toNat,by omega⟩;rw[t]at b;rw[C];exact Agm l n a i c w u q z (by omega) A (by omega) b
 ·have h:=Aja l size (GN l size).err a i c w (by simpa using t) b u;rw[Agl t];exact h
theorem Tryz.Ano:(prog.info? 223).map (fun i=>(i.zero,i.size,i.bytes))=some (some (.agg #[int i64 0,string {data:=#[]}]),2,24):=by kernel_rfl
def Th (l:List ItemM):List Value:=l.flatMap fun t=>[int i64 t.ch,string t.data]
theorem Y5(l:List ItemM)(t:ItemM):Th (l++[t])=Th l++[int i64 t.ch,string t.data]:=by
 unfold Th
 grind
def OwnIt(w:World)(B:Nat)(v:Value)(l:List ItemM):Prop:=w.ownsRow B 223 2 v l.length (Th l)
theorem OwnIt.nil(w:World)(B:Nat):OwnIt w B (slice none 0 0) []:=Bj _ _ _ _
theorem OwnIt.E4{l:List ItemM}(h:OwnIt w B v l):∀k,v.ownBlock=some k->B<=k:=fun k b=>(h.lt k b).1
theorem OwnIt.below{l:List ItemM}(h:OwnIt w B v l)(u:Below w.heap.size w w'):OwnIt w' B v l:=by
 refine⟨h.1,?_⟩
 rcases h.2 with d | ⟨g,b,cur,e,i,q,t⟩
 ·exact .inl d
 ·have c:g<w.heap.size:=by grind
  exact .inr ⟨g,b,cur,e,i,(u.block g c).trans q,t⟩
theorem OwnIt.FC{l:List ItemM}(h:OwnIt w B v l):∃a c,v=slice a l.length c/\l.length<=c/\c<=maxLen:=by
 rcases h.2 with⟨rfl,i⟩ | ⟨g,b,cur,rfl,_,_,d,e,_⟩
 ·grind
 ·exact⟨_,b,rfl,d,e⟩
def Fk (s:ByteArray)(j:Nat):Nat:=if h:j<s.size then s[j].toNat else 0
theorem Jc(s:ByteArray)(j:Nat)(h:j<s.size):Fk s j=s[j].toNat:=by simp[Fk,h]
theorem NY(s:ByteArray)(j:Nat):Fk s j<256:=by
 unfold Fk
 split
 ·exact D7 _
 ·omega
def Gh (s:ByteArray)(p:Nat):Nat:=256*Fk s (p+1)+Fk s (p+2)
def Id (s:ByteArray)(p:Nat):ItemM:=⟨(Fk s p:Int),s.extract (p+3) (p+3+Gh s p)⟩
def Gg (s:ByteArray):Nat->Nat->Option (List ItemM)
 | 0,_=>some []
 | f+1,p=>if p<s.size/\Fk s p≠63 then (if s.size<p+3 then none else if s.size<p+3+Gh s p then none else (Gg s f (p+3+Gh s p)).map (Id s p:: ·)) else some []
def KV (s:ByteArray):Option (List ItemM):=if 65535<s.size then none else match Gg s (s.size+1) 0 with
 | none=>none
 | some l=>if (GN l (s.size:Int)).err=0/\(GN l (s.size:Int)).text=s then some l else none
theorem Adn(b:0<f)(h:¬(p<s.size/\Fk s p≠63)):Gg s f p=some []:=by unfold Gg;repeat split<;>grind
theorem St(c:0<f)(h:p<s.size/\Fk s p≠63)(b:s.size<p+3\/s.size<p+3+Gh s p):Gg s f p=none:=by unfold Gg;repeat split<;>grind
theorem Uk(h:p<s.size/\Fk s p≠63)(b:p+3+Gh s p<=s.size):Gg s (f+1) p=(Gg s f (p+3+Gh s p)).map (Id s p:: ·):=by grind [Fk,Gh,Gg,Id]
def Byt (P:List Int):Prop:=∀x∈P,0<=x/\x<=255
theorem Ab8(s:ByteArray):Byt (FN s):=fun x c=>by
 unfold FN at c;obtain⟨b,_,rfl⟩:=Bb.1 c;have:=D7 b;exact⟨by omega,by omega⟩
theorem Ait{t:ItemM}(h:t.ok=true):Byt t.head:=fun x c=>by
 have b:1<=t.ch/\t.ch<=32/\t.data.size<=1500:=AQ h
 grind [ItemM.head]
theorem AfA{l:List ItemM}(h:l.all ItemM.ok=true):Byt (Fp l):=by grind [ItemM.ok,Byt,Fp,ItemM.bytes,Ait,Ab8]
theorem Alg(h:Byt L)(n:Nat):Byt (No L n):=by grind [Byt,No]
theorem AfC{P:List Int}(h:Byt P)(b:j<P.length):(Fk (strOfNums P) j:Int)=P.getD j 0:=by
 have c:j<(strOfNums P).size:=by rw[BP];exact b
 rw[Jc _ _ c];have e:(strOfNums P)[j]=UInt8.ofNat (P[j]).toNat:=by
  show((P.map fun n=>UInt8.ofNat n.toNat).toArray)[j]'(by simpa using b)=_
  grind
 have d:=h P[j] (A4 b);rw[e];have e2:P.getD j 0=P[j]:=by simp[List.getD,b]
 rw[e2,UInt8.toNat_ofNat'];omega
theorem AhG(s:ByteArray):strOfNums (FN s)=s:=by
 refine EJ ?_;rw[D5];unfold FN;rw[CR]
 conv=>rhs;rw[<-List.map_id s.data.toList]
 refine Du fun b _=>?_
 simp
theorem IT{c:Func}{p u x:Tmp}{ty:TypeId}(h:c.results=#[.cell p ty,.tmp u,.tmp x])(tmps:Array Value)(w:World)(g:Nat)(t:TypeId)(cs:Array Value)(fr:Nat×Nat)(d:TypeDesc)
 (e:tmps.getD p undef=pointer (some ⟨g,0,none⟩)) (hg:w.heap[g]?=some (.cells cs t fr))
 (i:P.underlying ty=some d) (hd:(match d with | .struct _ | .array _ _=>true | _=>false)=true) (hi:(P.info? ty).map (·.size)=some cs.size):
 (results c tmps).run P w=.ok (.tuple #[.agg cs,tmps.getD u undef,tmps.getD x undef]) w:=by
 have b:tmps[p]?.getD undef=pointer (some ⟨g,0,none⟩):=by simpa using e
 simp[results,h,b,asAddr,run_loadVar_row w g t ty cs fr d hg i hd hi]
def KT (s:ByteArray):Option (ItemM×ByteArray):=if s.size<3 then none else if s.size<3+Gh s 0 then none else if (Id s 0).ok=false then none else some (Id s 0,s.extract (3+Gh s 0) s.size)
def TG (s:ByteArray):Value:=match KT s with
 | none=> .tuple #[.agg #[int i64 0,string ByteArray.empty],string ByteArray.empty,int i64 3]
 | some (I,r)=> .tuple #[.agg #[int i64 I.ch,string I.data],string r,int i64 0]
theorem Ma(h:KT s=none):TG s=.tuple #[.agg #[int i64 0,string ByteArray.empty],string ByteArray.empty,int i64 3]:=by unfold TG;rw[h]
theorem Sb{I:ItemM}(h:KT s=some (I,r)):TG s=.tuple #[.agg #[int i64 I.ch,string I.data],string r,int i64 0]:=by unfold TG;rw[h]
theorem WR{x:Value}{T:TypeId}(h:w.heap[g]?=some (.cells #[x,y] T (0,0)))(u v:Value):w.cell? ⟨g,0,none⟩=some x/\w.frozen? ⟨g,0,none⟩=false/\w.cell? ⟨g,1,none⟩=some y/\(w.setCell ⟨g,0,none⟩ u).cell? ⟨g,1,none⟩=some y/\(w.setCell ⟨g,0,none⟩ u).frozen? ⟨g,1,none⟩=false/\
 ((w.setCell ⟨g,0,none⟩ u).setCell ⟨g,1,none⟩ v).heap[g]?=some (.cells #[u,v] T (0,0)):=by
 have b:(w.setCell ⟨g,0,none⟩ u).heap[g]?=some (.cells #[u,y] T (0,0)):=BK w g 0 _ _ u h;have c:((w.setCell ⟨g,0,none⟩ u).setCell ⟨g,1,none⟩ v).heap[g]?=some (.cells #[u,v] T (0,0)):=BK _ g 1 _ _ v b;refine⟨by rw[Al _ _ _ _ _ _ h];rfl,Bz _ _ _ _ _ h,by rw[Al _ _ _ _ _ _ h];rfl,by rw[Al _ _ _ _ _ _ b];rfl,Bz _ _ _ _ _ b,c⟩
theorem Af4(s:ByteArray)(w:World)(hs:s.size<=65535):
 Calls prog 242 #[string s] w fun e w'=>e=.returned (TG s)/\Below w.heap.size w w':=by
 by_cases W:s.size<3
 ·have x3:decide ((s.size:Int)<3)=true:=Ag (by omega);have l:=hid (Ma (s:=s) (by unfold KT;rw[Ab W]));clear W;go_enter func242,ntmps242
  go_wp2_with fail
  (try simp only[Exit.inBlock,Exit.then])
  refine Ah (IT (p:=2) (ty:=223) rfl _ _ w.heap.size 223 _ (0,0) _ rfl (Am w _) underlying223 rfl (by kernel_rfl)) rfl ?_;rw[l.out];exact⟨rfl,(Ad _ w).alloc (Ac _) _⟩
 ·have x3:decide ((s.size:Int)<3)=false:=Ae (by omega);have g0:0<s.size:=by omega
  have g1:1<s.size:=by omega
  have g2:2<s.size:=by omega
  obtain⟨b,X⟩:∃b,s[0].toNat=b:=⟨_,rfl⟩;obtain⟨F,H⟩:∃F,s[1].toNat=F:=⟨_,rfl⟩;obtain⟨G,J⟩:∃G,s[2].toNat=G:=⟨_,rfl⟩;have O:=Jc s 0 g0;have z:=Jc s 1 g1;have A:=Jc s 2 g2;rw[X]at O;rw[H]at z;rw[J]at A;have af:=NY s 0;have ag:=NY s 1;have ah:=NY s 2;have Z:Gh s 0=256*F+G:=by unfold Gh;rw[z,A]
  have aa:(1:Int)<(s.size:Int):=by omega
  have ab:(2:Int)<(s.size:Int):=by omega
  go_enter func242,ntmps242;go_upto_region 3 with fail
  go_region;go_upto_region 4 with fail
  obtain⟨N,eN⟩:=E7 (3+(256*F+G));have K:3+(F:Int)*256+(G:Int)=(N:Int):=by omega
  rw[K];have h:3+Gh s 0=N:=by omega
  have ai:N<=65538:=by omega
  clear z A K eN Z H J
  by_cases V:s.size<N
  ·have y4:decide ((s.size:Int)<(N:Int))=true:=Ag (by omega);have l:=hid (Ma (s:=s) (by unfold KT;grind))
   go_wp2_with fail
   (try simp only[Exit.inBlock,Exit.then])
   refine Ah (IT (p:=2) (ty:=223) rfl _ _ w.heap.size 223 _ (0,0) _ rfl (Am w _) underlying223 rfl (by kernel_rfl)) rfl ?_;rw[l.out];exact⟨rfl,((Ad _ w).alloc (Ac _) _).drew⟩
  ·have y4:decide ((s.size:Int)<(N:Int))=false:=Ae (by omega);have ac:(3:Int)<=(N:Int):=by omega
   have ad:(N:Int)<=(s.size:Int):=by omega
   have ae:(0:Int)<=(N:Int):=by omega
   have M:Id s 0=⟨(b:Int),s.extract 3 N⟩:=by unfold Id;rw[O,<-h,Ao]
   have i:=VR ⟨(b:Int),s.extract 3 N⟩;have HP:=hid M;clear M;go_upto_region 6 with fail
   go_region;go_upto_region 7 with fail
   have q:=Am w (.cells #[int i64 (b:Int),string (s.extract 3 N)] 223);have q:(w.alloc (.cells #[int i64 (b:Int),string (s.extract 3 N)] 223)).drew.drew.heap[w.heap.size]?=some (.cells #[int i64 (b:Int),string (s.extract 3 N)] 223 (0,0)):=q;have Y:w.heap.size<(w.alloc (.cells #[int i64 (b:Int),string (s.extract 3 N)] 223)).drew.drew.heap.size:=by simp
   have T:Below w.heap.size w (w.alloc (.cells #[int i64 (b:Int),string (s.extract 3 N)] 223)).drew.drew:=((Ad _ w).alloc (Ac _) _).drew.drew;generalize (w.alloc (.cells #[int i64 (b:Int),string (s.extract 3 N)] 223)).drew.drew=E at*;have U:=fun(w1:World) (h1:Below E.heap.size E w1)=>(h1.block w.heap.size Y).trans q
   have R:=fun(w1:World) (h1:Below E.heap.size E w1)=>T.trans (h1.mono T.size)
   have q0:E.cell? ⟨w.heap.size,0,none⟩=some (int i64 (b:Int)):=by rw[Al _ _ _ _ _ _ q];rfl
   have q1:E.cell? ⟨w.heap.size,1,none⟩=some (string (s.extract 3 N)):=by rw[Al _ _ _ _ _ _ q];rfl
   cases c:(⟨(b:Int),s.extract 3 N⟩:ItemM).ok with
   | false=>
    rw[ItemM.err_bad c]at i;have l:=hid (Ma (s:=s) (by unfold KT;rw[Aa W,Aa (by rw[h];exact V),HP.out,Ab c]));clear c q
    go_wp2_with(go_at_call 184;refine(i _).mono ?_;rintro e w1 ⟨rfl,d⟩;have t:=U _ d;have D:=R _ d;obtain⟨c0,z0,c1,c2,z2,u⟩:=WR t (int i64 0) (string ByteArray.empty);have C:Below w.heap.size w ((w1.setCell ⟨w.heap.size,0,none⟩ (int i64 0)).setCell ⟨w.heap.size,1,none⟩ (string ByteArray.empty)):=(D.setCell (p:=⟨w.heap.size,0,none⟩) (Ac _) _).setCell (p:=⟨w.heap.size,1,none⟩) (Ac _) _)
    (try simp only[Exit.inBlock,Exit.then])
    refine Ah (IT (p:=2) (ty:=223) rfl _ _ w.heap.size 223 _ (0,0) _ rfl u underlying223 rfl (by kernel_rfl)) rfl ?_;rw[l.out];exact⟨rfl,C⟩
   | true=>
    rw[ItemM.Acs c]at i;have l:=hid (Sb (s:=s) (I:=⟨(b:Int),s.extract 3 N⟩) (r:=s.extract N s.size) (by unfold KT;rw[Aa W,Aa (by rw[h];exact V),HP.out,Aa (by rw[c];decide),h]));clear c q;go_upto_region 9 with(go_at_call 184;refine(i _).mono ?_;rintro e w1 ⟨rfl,d⟩;have t:=U _ d;have D:=R _ d;obtain⟨c0,z0,c1,c2,z2,u⟩:=WR t (int i64 (b:Int)) (string (s.extract 3 N));have C:Below w.heap.size w ((w1.setCell ⟨w.heap.size,0,none⟩ (int i64 (b:Int))).setCell ⟨w.heap.size,1,none⟩ (string (s.extract 3 N))):=(D.setCell (p:=⟨w.heap.size,0,none⟩) (Ac _) _).setCell (p:=⟨w.heap.size,1,none⟩) (Ac _) _)
    go_region
    go_wp2_with fail
    (try simp only[Exit.inBlock,Exit.then])
    refine Ah (IT (p:=2) (ty:=223) rfl _ _ w.heap.size 223 _ (0,0) _ rfl u underlying223 rfl (by kernel_rfl)) rfl ?_;rw[l.out];exact⟨rfl,C.drew⟩
theorem Qw(s:ByteArray)(p q a b:Nat)(h:p+b<=q):(s.extract p q).extract a b=s.extract (p+a) (p+b):=by
 refine ByteArray.ext ?_;rw[CS,CS,CS,Array.extract_extract]
 congr 1
 omega
theorem Xx(s:ByteArray):s.extract 0 s.size=s:=by
 refine ByteArray.ext ?_;rw[CS];exact Array.extract_size
theorem Gy(s:ByteArray)(p q:Nat)(h:q<=s.size):(s.extract p q).size=q-p:=by
 rw[CF];omega
theorem IN(s:ByteArray)(p q j:Nat)(h:p+j<q)(c:q<=s.size):Fk (s.extract p q) j=Fk s (p+j):=by
 have b:j<(s.extract p q).size:=by rw[Gy s p q c];omega
 rw[Jc _ _ b,Jc s (p+j) (by omega)]
 congr 1
 show(s.extract p q).data[j]'_=s.data[p+j]'_;simp only[CS,Array.getElem_extract]
theorem Kd(s:ByteArray)(h:s.size<=j):Fk s j=0:=by
 unfold Fk;rw[dif_neg (by omega)]
theorem Qv(h:s.size=0):s.toList.isEmpty=true:=by
 rw[Cc];have:s.data.toList.length=0:=by rw[AH];exact h
 grind
theorem OQ(h:0<s.size):s.toList.isEmpty=false:=by
 rw[Cc]
 cases b:s.data.toList with
 | nil=>
  have e:s.data.toList.length=s.size:=by rw[AH];rfl
  rw[b]at e;simp at e;omega
 | cons x l=>rfl
def AdU:Value->Nat
 | string s=>s.size
 | _=>0
theorem AhR(s:ByteArray)(w:World)(R:s.size<=65535):
 Calls prog 267 #[string s,int .u8 0] w fun e w'=>(∃p,p<=s.size/\e=.returned (string (s.extract p s.size))/\(∀j,j<p->Fk s j=0)/\(p=s.size\/Fk s p≠0))/\w'=w:=by
 go_enter func267,ntmps267;go_wp2
 go_loop [0] (fun q=>∃p:Nat,p<=s.size/\q=string (s.extract p s.size)/\Hid (∀j,j<p->Fk s j=0)) (fun q=>AdU q)
 case atStart=>exact⟨0,by omega,by rw[Xx],fun j G=>absurd G (CG _)⟩
 case round=>
  obtain⟨p,H,rfl,z⟩:=hrel;have b:=Gy s p s.size (Ac _);obtain⟨u,d⟩:=E7 (s.extract p s.size);rw[<-d]at b |-;have F:=hid d
  by_cases N:p<s.size
  ·have J:0<u.size:=by omega
   have K:(0:Int)<(u.size:Int):=by omega
   obtain⟨h,E⟩:∃h,u[0].toNat=h:=⟨_,rfl⟩;have i:=Jc u 0 J;rw[E]at i;have M:=NY u 0;have c:Fk s p=h:=by rw[<-i,d,IN s p s.size 0 (by omega) (Ac _)];rfl
   by_cases A:h=0
   ·have t:=hid (show u.extract 1 u.size=s.extract (p+1) s.size by grind [Qw]);have D:Hid (∀j,j<p+1->Fk s j=0):=fun j G=>by
     by_cases e:j=p
     ·rw[e,c,A]
     ·exact z.out j (by omega)
    subst A;have C:=hid b;have l:u.size<=65535:=by omega
    clear d c z b;go_wp2
    go_round
    case rel=>exact⟨p+1,by omega,by rw[t.out],D⟩
    case measure=>rw[t.out];show(s.extract (p+1) s.size).size<u.size;rw[Gy _ _ _ (Ac _),C.out];omega
   ·have T:((h:Int)==0)=false:=by simp;omega
    have I:=hid (show Fk s p≠0 by rw[c];exact A);have l:u.size<=65535:=by omega
    clear d c A b;go_wp2;go_ret;exact⟨⟨p,H,by rw[F.out];rfl,z.out,.inr I.out⟩,rfl⟩
  ·have e:p=s.size:=by omega
   have O:u.size=0:=by omega
   have t:=hid e;clear d e b;go_wp2;go_ret;exact⟨⟨p,H,by rw[F.out];rfl,z.out,.inl t.out⟩,rfl⟩
theorem AhS(s:ByteArray)(w:World)(N:s.size<=65535):
 Calls prog 268 #[string s,int .u8 0] w fun e w'=>(∃m,m<=s.size/\e=.returned (string (s.extract 0 m))/\(∀j,m<=j->Fk s j=0)/\(m=0\/Fk s (m-1)≠0))/\w'=w:=by
 go_enter func268,ntmps268;go_wp2
 go_loop [0] (fun q=>∃m:Nat,m<=s.size/\q=string (s.extract 0 m)/\Hid (∀j,m<=j->Fk s j=0)) (fun q=>AdU q)
 case atStart=>exact⟨s.size,Ac _,by rw[Xx],fun j G=>Kd s G⟩
 case round=>
  obtain⟨m,A,rfl,z⟩:=hrel;have d:=Gy s 0 m A;obtain⟨u,c⟩:=E7 (s.extract 0 m);rw[<-c]at d |-;have F:=hid c
  by_cases l:0<m
  ·obtain⟨k,rfl⟩:∃k,m=k+1:=⟨m-1,by omega⟩;have K:u.size=k+1:=by omega
   have I:k<u.size:=by omega
   have M:decide ((0:Int)<(u.size:Int))=true:=Ag (by omega);obtain⟨h,E⟩:∃h,u[k].toNat=h:=⟨_,rfl⟩;have i:=Jc u k I;rw[E]at i;have b:Fk s k=h:=by rw[<-i,c,IN s 0 (k+1) k (by omega) A,Ao]
   have J:(0:Int)<=(k:Int):=by omega
   by_cases C:h=0
   ·have t:=hid (show u.extract 0 k=s.extract 0 k by rw[c,Qw _ _ _ _ _ (by omega)];simp);have D:Hid (∀j,k<=j->Fk s j=0):=fun j G=>by
     by_cases e:j=k
     ·rw[e,b,C]
     ·exact z.out j (by omega)
    subst C;clear c b z d l;go_wp2
    go_round
    case rel=>exact⟨k,by omega,by rw[t.out],D⟩
    case measure=>rw[t.out];show(s.extract 0 k).size<u.size;rw[Gy _ _ _ (by omega)];omega
   ·have O:((h:Int)==0)=false:=by simp;omega
    have H:=hid (show Fk s (k+1-1)≠0 by rw[DD,b];exact C);clear c b C d l;go_wp2;go_ret;exact⟨⟨k+1,A,by rw[F.out];rfl,z.out,.inr H.out⟩,rfl⟩
  ·have e:m=0:=by omega
   have M:decide ((0:Int)<(u.size:Int))=false:=Ae (by omega);have t:=hid e;clear c e;go_wp2;go_ret;exact⟨⟨m,A,by rw[F.out];rfl,z.out,.inl t.out⟩,rfl⟩
theorem exR(s:ByteArray):∀m,m<=s.size->(∀j,m<=j->Fk s j=0)->∃m0,m0<=s.size/\(∀j,m0<=j->Fk s j=0)/\(m0=0\/Fk s (m0-1)≠0)
 | 0,_,hz=>⟨0,by omega,hz,.inl rfl⟩
 | m+1,hm,hz=>by
  by_cases h:Fk s m=0
  ·refine exR s m (by omega) fun j b=>?_
   grind
  ·exact⟨m+1,hm,hz,.inr (by rw[DD];exact h)⟩
theorem Ao8{m:Nat}(b:∀j,m<=j->Fk s j=0)(c:m=0\/Fk s (m-1)≠0)(d:∀j,n<=j->Fk s j=0)(e:n=0\/Fk s (n-1)≠0):n=m:=by grind
theorem exL(s:ByteArray):∀f p,p+f=s.size->(∀j,j<p->Fk s j=0)->∃p0,p0<=s.size/\(∀j,j<p0->Fk s j=0)/\(p0=s.size\/Fk s p0≠0)
 | 0,p,hp,hz=>⟨p,by omega,hz,.inl (by omega)⟩
 | f+1,p,hp,hz=>by
  by_cases h:Fk s p=0
  ·refine exL s f (p+1) (by omega) fun j b=>?_
   grind
  ·exact⟨p,by omega,hz,.inr h⟩
theorem Ao7{q:Nat}(h:p<=s.size)(i:q<=s.size)(b:∀j,j<p->Fk s j=0)(c:p=s.size\/Fk s p≠0)(d:∀j,j<q->Fk s j=0)(e:q=s.size\/Fk s q≠0):q=p:=by grind
theorem AkG(s:ByteArray)(w:World)(N:s.size<=65535):
 Calls prog 243 #[string s,string {data:=#[0]}] w fun e w'=>∃r,e=.returned (string r)/\(r.size=0↔∀j,Fk s j=0)/\Below w.heap.size w w':=by
 by_cases t:s.size=0
 ·have O:=Qv t;have A:=hid (show s.size=0↔∀j,Fk s j=0 from⟨fun _ j=>Kd s (by omega),fun _=>t⟩);clear t;go_enter func243,ntmps243
  go_wp2_with fail;go_ret;exact⟨_,rfl,A.out,Ad _ _⟩
 ·have O:=OQ (s:=s) (by omega);obtain⟨m,D,K,H⟩:=exR s s.size (Ac _) (fun j z=>Kd s z);have J:∀b,Calls prog 268 #[string s,int .u8 0] b fun e w'=>e=.returned (string (s.extract 0 m))/\w'=b:=fun b=>(AhS s b N).mono fun e w' ⟨⟨R,_,C,d,c⟩,F⟩=>⟨by rw[C,Ao8 K H d c],F⟩
  have l:=Gy s 0 m D;have i:∀j,j<m->Fk (s.extract 0 m) j=Fk s j:=fun j z=>by rw[IN s 0 m j (by omega) D,Ao]
  obtain⟨u,G⟩:=E7 (s.extract 0 m);rw[<-G]at J l i;obtain⟨p,I,q,h⟩:=exL u u.size 0 (by omega) (fun j z=>absurd z (CG _));have M:∀b,Calls prog 267 #[string u,int .u8 0] b fun e w'=>e=.returned (string (u.extract p u.size))/\w'=b:=fun b=>(AhR u b (by omega)).mono fun e w' ⟨⟨T,E,C,d,c⟩,F⟩=>⟨by rw[C,Ao7 I E q h d c],F⟩
  have A:Hid ((u.extract p u.size).size=0↔∀j,Fk s j=0):=by
   show _↔_
   grind [Gy]
  clear K H l i q h I G D t;go_enter func243,ntmps243;go_upto_region 4 with fail
  go_region_held3 (fun _=>True) (exact trivial) (first
   | (go_at_call 268;refine(J _).mono ?_;rintro e w1 ⟨rfl,rfl⟩)
   | (go_at_call 267;refine(M _).mono ?_;rintro e w1 ⟨rfl,rfl⟩))
  all_goals
   (try go_wp2_with fail)
   go_ret;exact⟨_,rfl,A.out,(Ad _ w).drew⟩
theorem Ke(s:ByteArray)(h:k<s.size):(FN s)[k]'(by rw[Gk];exact h)=(Fk s k:Int):=by
 rw[Jc s k h];unfold FN;simp;rfl
theorem Ab9(s:ByteArray)(a n:Nat)(h:a+n<=s.size):FN (s.extract a (a+n))=((FN s).drop a).take n:=by
 refine AW ?_ fun j b c=>?_
 ·grind [Gk,Gy]
 grind [Gk,Gy,Ke,IN]
theorem AcR{pre:List ItemM}(d:Fp pre=(FN s).take p)(h:p+3+Gh s p<=s.size):Fp (pre++[Id s p])=(FN s).take (p+3+Gh s p):=by
 have e1:Fp (pre++[Id s p])=Fp pre++(Id s p).bytes:=by
  unfold Fp
  grind
 have i:(FN s).length=s.size:=Gk s;have hd:(Id s p).data.size=Gh s p:=by
  grind [Id,Gh,Gy]
 have e:=NY s (p+2);have b:(Id s p).data.size / 256=Fk s (p+1)/\(Id s p).data.size % 256=Fk s (p+2):=by
  rw[hd];unfold Gh;omega
 have e2:(Id s p).head=[(Fk s p:Int),(Fk s (p+1):Int),(Fk s (p+2):Int)]:=by
  unfold ItemM.head;rw[b.1,b.2];rfl
 have e3:FN (Id s p).data=((FN s).drop (p+3)).take (Gh s p):=Ab9 s (p+3) (Gh s p) h;have c:(FN s).take (p+3)=(FN s).take p++[(Fk s p:Int),(Fk s (p+1):Int),(Fk s (p+2):Int)]:=by
  rw[show p+3=p+2+1 by omega,Bu (by omega),Bu (by omega),Bu (by omega),Ke s (by omega),Ke s (by omega),Ke s (by omega)];simp
 rw[e1,d];unfold ItemM.bytes;rw[e2,e3,List.take_add,c,Bg]
theorem PY(b:p+3<=s.size):Gh (s.extract p s.size) 0=Gh s p:=by grind [Gh,IN]
theorem Su(b:p+3+Gh s p<=s.size):Id (s.extract p s.size) 0=Id s p:=by grind [Gh,Id,PY,IN,Qw]
theorem Acy{I:ItemM}(e:p<=s.size)(h:KT (s.extract p s.size)=some (I,r)):p+3+Gh s p<=s.size/\I=Id s p/\I.ok=true/\r=s.extract (p+3+Gh s p) s.size:=by
 have d:=Gy s p s.size (Ac _);unfold KT at h
 by_cases c:(s.extract p s.size).size<3
 ·rw[Ab c]at h;cases h
 ·rw[Aa c]at h;have b:p+3<=s.size:=by omega
  rw[PY b]at h
  grind [Gh,Su,Id,Qw]
theorem AcT{l:List ItemM}(h:l.all ItemM.ok=false):(GN l (n:Int)).err≠0:=fun b=>by
 have:=(ZP b).2.2.1;rw[h]at this
 cases this
theorem Acx{pre:List ItemM}(D:s.size<=65535)(i:p<s.size)(C:s.size<p+f)(b:Fk s p≠63)(d:Gg s (s.size+1) 0=(Gg s f p).map (pre++ ·))(h:KT (s.extract p s.size)=none):KV s=none:=by
 have A:=Gy s p s.size (Ac _);have c:Gg s (s.size+1) 0=none->KV s=none:=fun h=>by unfold KV;rw[Aa (by omega),h]
 by_cases q:s.size<p+3
 ·exact c (by rw[d,St (by omega) ⟨i,b⟩ (.inl q)];rfl)
 ·by_cases t:s.size<p+3+Gh s p
  ·exact c (by rw[d,St (by omega) ⟨i,b⟩ (.inr t)];rfl)
  ·unfold KT at h;rw[Aa (by omega),PY (by omega),Aa (by omega),Su (by omega)]at h
   by_cases u:(Id s p).ok=false
   ·obtain⟨e,rfl⟩:∃e,f=e+1:=⟨f-1,by omega⟩;rw[Uk ⟨i,b⟩ (by omega)]at d
    cases z:Gg s e (p+3+Gh s p)with
    | none=>exact c (by rw[d,z];rfl)
    | some l=>
     grind [Gg,Id,KV,AcT]
   ·rw[Aa u]at h;cases h
theorem WG{pre:List ItemM}(I:s.size<=65535)(H:p<=s.size)(E:s.size<p+f)(A:p=s.size\/Fk s p=63)(D:Gg s (s.size+1) 0=(Gg s f p).map (pre++ ·))(u:pre.all ItemM.ok=true)(l:Fp pre=(FN s).take p):
 ((∀j,p<j->Fk s j=0)->KV s=some pre)/\((∃j,p<j/\Fk s j≠0)->KV s=none):=by
 have z:Gg s (s.size+1) 0=some pre:=by
  grind [Adn]
 have G:(FN s).length=s.size:=Gk s;have d:(Fp pre).length=p:=by rw[l,Ay];omega
 have F:GN pre (s.size:Int)=⟨strOfNums (No (Fp pre) s.size),0⟩:=by
  grind [GN]
 have h:KV s=if strOfNums (No (Fp pre) s.size)=s then some pre else none:=by
  unfold KV
  grind
 refine⟨fun J=>?_,fun⟨j,q,t⟩=>?_⟩
 ·rw[h,Ab ?_];have b:No (Fp pre) s.size=FN s:=by
   unfold No
   by_cases e:p<s.size
   ·rw[Ab (by omega),d,l];have c:Fk s p=63:=by
     grind
    have e1:(FN s).drop p=(Fk s p:Int)::(FN s).drop (p+1):=by
     rw[CY (by omega),Ke s e]
    have e2:(FN s).drop (p+1)=List.replicate (s.size-p-1) 0:=by
     rw[Ew];refine⟨by rw[AJ];omega,fun x C=>?_⟩;obtain⟨i,hi,rfl⟩:=A5 C
     grind [Ke]
    conv=>rhs;rw[<-Cs p (FN s),e1,e2,c]
    simp
   grind
  rw[b,AhG]
 grind [Kd,AfC,Alg,AfA,Ss,No,Fp]
theorem Vz{l:List ItemM}(B:Nat)(c:World)(t:ItemM)(b:OwnIt w0 B v l)(d:o.guard=none)(s x:Operand)
 (E:o.op=.call {callee:=.builtin .append,args:=#[s,x],argTypes:=#[224,224]}) (hs:a.eval s=v) (g:Nat) (hg:g=w0.heap.size) (hx:a.eval x=slice (some ⟨g,0,none⟩) 1 1) (hlen:l.length<1000000) (hbel:Below B c w0) (hB:B<=w0.heap.size)
 (h:∀v' w',OwnIt w' B v' (l++[t])->Below B c w'->wpList prog ops Q rest (a.put o.dst v') w'):wpList prog ops Q (o::rest) a (w0.alloc (.cells #[int i64 t.ch,string t.data] 223)):=by
 subst hg;obtain⟨G,hi,e,i,q⟩:=As Tryz.Ano;have F:=Am w0 (.cells #[int i64 t.ch,string t.data] 223);refine CJ _ d s x 224 E B 223 G (.agg #[int i64 0,string {data:=#[]}]) 2 24 underlying224 hi e i q rfl (by decide) v _ _ hs (A6 b _) ⟨w0.heap.size,0,none⟩ 1 1 [int i64 t.ch,string t.data] hx rfl ?_ ?_ ?_ ?_ ?_ ?_
 ·intro j u D;rw[BT,Ao,Al _ _ _ _ _ _ F]
  simpa using D
 ·intro u z;simp at z;rcases z with rfl | rfl<;>rfl
 ·unfold maxLen;omega
 ·omega
 ·simp;omega
 ·intro v' w' A C _;refine h v' w' ?_ ((hbel.alloc hB _).grown C (by simp;omega) b.E4);unfold OwnIt;rw[Ai,Y5];exact A
theorem Abw(s:ByteArray)(w:World)(hs:s.size<=65535):
 Calls prog 202 #[string s] w fun e w'=>(KV s=none/\e=.returned (.tuple #[slice none 0 0,int i64 3])\/∃l a c,KV s=some l/\e=.returned (.tuple #[slice a l.length c,int i64 0])/\OwnIt w' w.heap.size (slice a l.length c) l/\l.length<=s.size)/\Below w.heap.size w w':=by
 have d1:decide ((65535:Int)<(s.size:Int))=false:=Ae (by omega);go_enter func202,ntmps202
 go_wp2_with fail
 go_loopw [0,4] (fun q v wr=>∃(p f:Nat) (pre:List ItemM),p<=s.size/\s.size<p+f/\q=string (s.extract p s.size)/\OwnIt wr w.heap.size v pre/\Hid (Gg s (s.size+1) 0=(Gg s f p).map (pre++ ·))/\Hid (pre.all ItemM.ok=true)/\Hid (Fp pre=(FN s).take p)/\pre.length<=p/\Below w.heap.size w wr) (fun q _ _=>AdU q)
 case atStart=>exact⟨0,s.size+1,[],by omega,by omega,by rw[Xx],OwnIt.nil w _,(by show _=_;cases Gg s (s.size+1) 0<;>rfl),(by show _=_;rfl),(by show _=_;rfl),by simp,Ad _ w⟩
 case round=>
  obtain⟨p,f,pre,X,W,rfl,ho,HP,HO,HB,O,D⟩:=hrel;have Z:Hid (pre.length<=s.size):=by show _<=_;omega
  have i:=Gy s p s.size (Ac _);obtain⟨u,E⟩:=E7 (s.extract p s.size);rw[<-E]at i |-;have ak:=hid i;have af:u.size<=65535:=by omega
  by_cases ad:p<s.size
  ·have g0:0<u.size:=by omega
   have xe:=OQ g0;obtain⟨V,al⟩:∃V,u[0].toNat=V:=⟨_,rfl⟩;have t:=Jc u 0 g0;rw[al]at t;have d:Fk s p=V:=by rw[<-t,E,IN s p s.size 0 (by omega) (Ac _)];rfl
   by_cases J:V=63
   ·have au:((V:Int) !=63)=false:=by simp;omega
    obtain⟨z,M⟩:=WG hs X W (.inr (by rw[d,J])) HP.out HO.out HB.out;have T:u.extract 1 u.size=s.extract (p+1) s.size:=by grind [Qw]
    have U:=Gy s (p+1) s.size (Ac _);have ae:=fun wz=>AkG (u.extract 1 u.size) wz (by rw[T,U];omega)
    have aw:(1:Int)<=(u.size:Int):=by omega
    obtain⟨a4,c4,rfl,am,an⟩:=OwnIt.FC ho;have hit:=hid ho
    by_cases hz:∀j,p<j->Fk s j=0
    ·have H:=hid (z hz);have HZ:Hid (∀j,Fk (u.extract 1 u.size) j=0):=fun j=>by
      grind [IN,Kd]
     clear z M hz i E d T U t X W O
     go_wp2_with(go_at_call 243;refine(ae _).mono ?_;rintro e w1 ⟨r0,rfl,C,b⟩;have xr:=Qv (C.2 HZ.out);clear C)
     go_ret2;exact⟨.inr ⟨pre,a4,c4,H.out,rfl,hit.out.below b,Z.out⟩,D.trans (b.mono D.size)⟩
    ·obtain⟨j,ab,ac⟩:∃j,p<j/\Fk s j≠0:=by
      grind
     have H:=hid (M ⟨j,ab,ac⟩);have HZ:Hid (¬∀j,Fk (u.extract 1 u.size) j=0):=fun h=>by
      have ax:j<s.size:=by
       grind [Kd]
      have:=h (j-p-1)
      grind [IN]
     clear z M hz i E d T U t X W O ab ac
     go_wp2_with(go_at_call 243;refine(ae _).mono ?_;rintro e w1 ⟨r0,rfl,C,b⟩;have xr:=OQ (s:=r0) (EO (fun h=>HZ.out (C.1 h)));clear C)
     go_ret2;exact⟨.inl ⟨H.out,rfl⟩,D.trans (b.mono D.size)⟩
   ·have au:((V:Int) !=63)=true:=by simp;omega
    have F:=fun wz=>Af4 u wz af
    cases A:KT u with
    | none=>
     rw[Ma A]at F;have H:=hid (Acx hs ad W (by rw[d];exact J) HP.out (by rw[<-E];exact A));clear i E d t X W O A
     go_wp2_with(go_at_call 242;refine(F _).mono ?_;rintro e w1 ⟨rfl,b⟩)
     go_ret2;exact⟨.inl ⟨H.out,rfl⟩,(D.trans (b.mono D.size)).alloc (by have:=D.size;have:=b.size;omega) _⟩
    | some Ir=>
     obtain⟨I,r⟩:=Ir;rw[Sb A]at F;obtain⟨k1,k2,k3,k4⟩:=Acy X (by rw[<-E];exact A);obtain⟨f',rfl⟩:∃f',f=f'+1:=⟨f-1,by omega⟩;have G:Gg s (s.size+1) 0=(Gg s f' (p+3+Gh s p)).map ((pre++[I])++ ·):=by
      rw[HP.out,Uk ⟨ad,by rw[d];exact J⟩ k1,k2]
      cases Gg s f' (p+3+Gh s p)<;>simp
     have aa:=hid G;have ai:=hid (show(pre++[I]).all ItemM.ok=true by rw[List.all_append,HO.out,List.all_cons,k3];rfl);have Y:=hid (show Fp (pre++[I])=(FN s).take (p+3+Gh s p)by rw[k2];exact AcR HB.out k1);have R:=Gy s (p+3+Gh s p) s.size (Ac _);obtain⟨N,eN⟩:=E7 (p+3+Gh s p);rw[<-eN]at aa Y R k1 k4;have av:p+3<=N:=by omega
     have ag:=hid k4;have aj:=hid (show r.size=s.size-N by rw[k4];exact R);have ah:Hid (pre.length<1000000):=by show _<_;omega
     have ar:=fun(w1:World) (h1:Below wr.heap.size wr w1)=>ho.below h1
     clear i E d t A G k2 k3 k4 R eN HP HO HB
     go_wp2_with(first
      | (go_at_call 242;refine(F _).mono ?_;rintro e w1 ⟨rfl,b⟩;have K:=D.trans (b.mono D.size);have ap:=ar _ b)
      | (at_builtin;refine Vz w.heap.size w I (show OwnIt (w1.alloc _) _ _ _ from A6 ap _) rfl _ _ rfl rfl _ (by simp) rfl ah.out (K.alloc K.size _) (by have:=K.size;simp;omega) ?_;intro v2 w2 aq ao))
     go_roundw
     case rel=>exact⟨N,f',pre++[I],k1,by omega,by rw[ag.out],aq,aa,ai,Y,by simp;omega,ao⟩
     case measure=>show r.size<u.size;rw[aj.out,ak.out];omega
  ·have e:p=s.size:=by omega
   have xe:=Qv (s:=u) (by omega);obtain⟨z,_⟩:=WG hs X W (.inl e) HP.out HO.out HB.out;have H:=hid (z (fun j hj=>Kd s (by omega)));obtain⟨a4,c4,rfl,am,an⟩:=OwnIt.FC ho;have hit:=hid ho;clear z i E e
   go_wp2_with fail
   go_ret2;exact⟨.inr ⟨pre,a4,c4,H.out,rfl,hit.out,Z.out⟩,D⟩
end Go.Proofs.YtbjgfoiikhbonahGreatDoor
