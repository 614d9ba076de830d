import Derived.Test.YtbjgfoiikhbonahGreatDoorA14
import Derived.Lib.AppendStr
set_option linter.unusedVariables false
set_option linter.unusedSimpArgs false
set_option maxRecDepth 100000
set_option maxHeartbeats 4000000
namespace Go.Proofs.YtbjgfoiikhbonahGreatDoor
open Go.ChangeShapes Go.WideShapes Go.ChangeAt Go.RowKit Go.Maps Go.Proofs.Tryz
open Value renaming pointer->A,int->C,string->D,bool->G
open Option renaming some->E,none->F
open Bool renaming false->H,true->J
open Obj renaming cells->O
open Go renaming World->R
open IntKind renaming i64->U
variable {L:List Int}{Q:Exit->Act->R->Prop}{S:List Nat}{a:Act}{bm g j k n:Nat}{m:SendM}{o:Oper}{ops:Array Oper}{p:Addr}{rest:List Oper}{v v0 v1 v2:Value}{w w' w0:R}{x:Operand}{ρ:Operand->Value}
def VerT (w:R):Prop:=∃T fr,w.heap[3]?=E (O #[C U 0, C U 2, C U 3, C U 1] T fr)
theorem VerT.lt(h:VerT w):3<w.heap.size:=by
 obtain⟨T,fr,e⟩:=h;exact(Array.getElem?_eq_some_iff.1 e).1
theorem VerT.old(h:VerT w)(b:Below w.heap.size w w'):VerT w':=by
 have c:=h.lt;obtain⟨T,fr,e⟩:=h;exact⟨T,fr,(b.block _ c).trans e⟩
theorem VerT.cell{w:R}(h:VerT w)(t:Nat):w.cell? ⟨3,t % 4,F⟩=E (C U (PA t)):=by
 obtain⟨T,fr,e⟩:=h;have c:t % 4<4:=AZ _ (by omega);unfold World.cell?;rw[e];have b:t % 4=0\/t % 4=1\/t % 4=2\/t % 4=3:=by omega
 unfold PA
 grind
theorem Uz(w:R){s:Nat}(b:o.op=.fieldAddr 211 x 2)(h:ρ x= A (E ⟨g,s,F⟩)):(execOp ρ o).run prog w=.ok (.value (A (E ⟨g,s+9,F⟩))) w:=by
 unfold execOp;simp only[b,h];simp[go_sem]
theorem UB(w:R)(c:o.op=.load 209 x)(h:ρ x= A (E ⟨g,j,F⟩))(b:w.cell? ⟨g,j,F⟩=E v):(execOp ρ o).run prog w=.ok (.value v) w:=by
 unfold execOp;simp only[c,h];simp[go_sem,b]
theorem Wu(w:R)(b:o.op=.load 213 x)(h:ρ x= A (E ⟨g,j,F⟩))(c0:w.cell? ⟨g,j,F⟩=E v0)(c1:w.cell? ⟨g,j+1,F⟩=E v1)(c2:w.cell? ⟨g,j+2,F⟩=E v2):(execOp ρ o).run prog w=.ok (.value (.agg #[v0,v1,v2])) w:=by
 unfold execOp;simp only[b,h];simp[go_sem,c0,c1,c2]
theorem Kept.He(h:Kept S w w'){b:Nat}(c:w.cell? ⟨b,j,F⟩=E v)(e:b∉S):w'.cell? ⟨b,j,F⟩=E v:=(AF (h.block b (Aj w _ c) e)).trans c
theorem Kept.AnQ{a:R}(h:Kept S a w)(e:a.heap.size<=p.block)(u:Value):Kept S a (w.setCell p u):=⟨h.os,h.tape,h.output,by simpa using h.size,fun k b c=>(BA w p u k (by omega)).trans (h.block k b c)⟩
theorem Uw{w1:R}{v3:Value}{t:TypeId}(e:w.heap[g]?=E (O #[v0,v1,v2,v3] t (0,0)))(c:Below w.heap.size w w1)(o:Obj):
 ((w1.alloc o).cell? ⟨g,0,F⟩=E v0/\(w1.alloc o).cell? ⟨g,1,F⟩=E v1/\(w1.alloc o).cell? ⟨g,2,F⟩=E v2/\(w1.alloc o).cell? ⟨g,3,F⟩=E v3)/\∀j,(w1.alloc o).frozen? ⟨g,j,F⟩=H:=by
 have hg:g<w.heap.size:=by grind
 have b:(w1.alloc o).heap[g]?=E (O #[v0,v1,v2,v3] t (0,0)):=(Bc w1 o g (AI hg c.size)).trans ((c.block g hg).trans e);refine⟨⟨?_,?_,?_,?_⟩,fun j=>Bz _ g j _ _ b⟩<;>(rw[Al _ _ _ _ _ _ b];rfl)
theorem Adq(h:PSend w g bm m)(hV:VerT w)(k:Nat)(c:k<8)(y:(m.tat k).busy=J)(ho:(m.tat k).opn=H):
 Calls prog 60 #[A (E ⟨g,0,F⟩), C U (k:Int)] w fun e w'=>e=.returned (.tuple #[.agg #[C U (k:Int), C U (PA (m.tat k).tries), G (m.tat k).flag, D (m.tat k).data], C U 0])/\PSend w' g bm (m.set k (m.tat k).tried)/\Kept [g,bm] w w':=by
 have B:Below w.heap.size w (w.alloc (O #[C U 0, C U 0, G H, D {data:=#[]}] 127)):=(Ad _ w).alloc (Ac _) _;have hq:(w.alloc (O #[C U 0, C U 0, G H, D {data:=#[]}] 127)).heap[w.heap.size]?=_:=Am w _;have z:=O2 (h.old B) k c J (m.tat k).blk 0 y rfl rfl;have l:=h.2.2;have ao:=h.ne;have ax:=h.lt;have aa:=(l.each k c y).2 ho;have au:(m.tat k).tries<8:=AI aa l.high;have q:=SH l c y ho;obtain⟨T, eT⟩ := E7 (m.tat k);rw[<-eT]at z ho au aa q ⊢;have HT:=hid eT;have HB:=hid y;unfold TryM.blk at z;rw[ho]at z;have aw:((T.tries:Int)).tmod 4=((T.tries % 4:Nat):Int):=by grind
 clear eT y aa;go_enter func60,ntmps60
 go_wp2_with(go_at_call 111;refine z.mono ?_;rintro e w1 ⟨rfl,I⟩;obtain⟨⟨c0,c1,c2,c3⟩,i⟩:=Uw hq I (O #[D T.data, C U T.tries, G H] 213);have f0:=i 0;have f1:=i 1;have f2:=i 2;have f3:=i 3;have u:=B.trans (I.mono B.size);have f:=u.alloc u.size (O #[D T.data, C U T.tries, G H] 213);have r:=h.old f;have al:=(hV.old f).cell T.tries);have ae:prog.follows .mixedOrders=J:=by kernel_rfl
 clear c0 c1 c2 c3 f0 f1 f2 f3 i f r al;have f:Below w.heap.size w (w1.alloc (O #[D T.data, C U ((T.tries:Int)+1), G J] 213)):=u.alloc u.size _;have r:=h.old f;obtain⟨⟨c0,c1,c2,c3⟩,i⟩:=Uw hq I (O #[D T.data, C U ((T.tries:Int)+1), G J] 213);have N:(w1.alloc (O #[D T.data, C U ((T.tries:Int)+1), G J] 213)).heap[w1.heap.size]?=_:=Am w1 _;have e0:(w1.alloc (O #[D T.data, C U ((T.tries:Int)+1), G J] 213)).cell? ⟨w1.heap.size,0,F⟩=E (D T.data):=by rw[Al _ _ _ _ _ _ N];rfl
 have e1:(w1.alloc (O #[D T.data, C U ((T.tries:Int)+1), G J] 213)).cell? ⟨w1.heap.size,0+1,F⟩=E (C U ((T.tries:Int)+1)):=by rw[Al _ _ _ _ _ _ N];rfl
 have e2:(w1.alloc (O #[D T.data, C U ((T.tries:Int)+1), G J] 213)).cell? ⟨w1.heap.size,0+2,F⟩=E (G J):=by rw[Al _ _ _ _ _ _ N];rfl
 have s:w.heap.size≠bm:=by have:=h.2.1.lt;omega
 have av:w1.heap.size≠bm:=by have:=(h.old u).2.1.lt;omega
 have ap:w.heap.size≠g:=by omega
 clear N I z B hq hV;generalize (w1.alloc (O #[D T.data, C U ((T.tries:Int)+1), G J] 213))=wB at*;generalize w1.heap.size=bz at*;have cm:=r.map;have ab:=r.2.1;have aq:=c;have af:=hid (show T.tried.busy=J by rw[HT.out];exact HB.out);have ag:=hid (show(.agg #[D T.data, C U ((T.tries:Int)+1), G J]:Value)=T.tried.blk from rfl)
 refine Bi (Pv (Q:=fun e a' w'=>e=.normal/\a'=({tmps:=(Ft _ [(32, A (E ⟨g,0,F⟩)),(33, A (E ⟨g,0,F⟩)),(34, A (E ⟨g,9,F⟩)),(35,.map (E bm)),(36, C U (k:Int)),(37,.agg #[D T.data, C U ((T.tries:Int)+1), G J])]).toArray,defers:=[]}:Act)/\BlkMap w' bm (m.set k (T.tried))/\Kept [bm] wB w') 7 6 6 [] (fun _=>True) [(32, A (E ⟨g,0,F⟩)),(33, A (E ⟨g,0,F⟩)),(34, A (E ⟨g,9,F⟩)),(35,.map (E bm)),(36, C U (k:Int)),(37,.agg #[D T.data, C U ((T.tries:Int)+1), G J])]
  [[0],[32],[33],[34],[1],[6]] [1,2,3,6,6,6] wB ae rfl (by decide) rfl (show([32,33,34,35,36,37]:List Nat).Nodup by decide) (by kernel_rfl) (by kernel_rfl) (by kernel_rfl) (by kernel_rfl) (by kernel_rfl) (by kernel_rfl) (fun _ _ h _=>h)
  (fun i' ay az ac wc c hr Q K hK=>by
   have ar:i'=0\/i'=1\/i'=2\/i'=3\/i'=4\/i'=5:=by omega
   rcases ar with rfl | rfl | rfl | rfl | rfl | rfl
   ·have e0:ac.eval (.tmp 0)= A (E ⟨g,0,F⟩):=hr 0 (by decide);exact E6 rfl rfl (Fd wc rfl e0) (hK wc (NH wc))
   ·have ah:ac.eval (.tmp 32)= A (E ⟨g,0,F⟩):=hr 32 (by decide);exact E6 rfl rfl (Ie wc rfl ah) (hK wc (NH wc))
   ·have ai:ac.eval (.tmp 33)= A (E ⟨g,0,F⟩):=hr 33 (by decide);exact E6 rfl rfl (Uz wc rfl ai) (hK wc (NH wc))
   ·have aj:ac.eval (.tmp 34)= A (E ⟨g,9,F⟩):=hr 34 (by decide);exact E6 rfl rfl (UB wc rfl aj (c.He cm (by simp))) (hK wc (NH wc))
   ·have e1:ac.eval (.tmp 1)= C U (k:Int):=hr 1 (by decide);exact E6 rfl rfl (Fd wc rfl e1) (hK wc (NH wc))
   ·have e6:ac.eval (.tmp 6)= A (E ⟨bz,0,F⟩):=hr 6 (by decide)
    exact E6 rfl rfl (Wu wc rfl e6 (c.He e0 (by simp)) (c.He e1 (by simp)) (c.He e2 (by simp))) (hK wc (NH wc)))
  (fun h=>absurd h (by decide))
  (fun wc c hu=>by
   exact Wk rfl rfl (.tmp 35) (.tmp 36) (.tmp 37) rfl (ab.same (c.block bm ab.lt (by simp))) l.len aq (T.tried) af.out ((Fj (t:=[(32, A (E ⟨g,0,F⟩)),(33, A (E ⟨g,0,F⟩)),(34, A (E ⟨g,9,F⟩)),(35,.map (E bm)),(36, C U (k:Int)),(37,.agg #[D T.data, C U ((T.tries:Int)+1), G J])]) 35 (show([32,33,34,35,36,37]:List Nat).Nodup by decide) (by kernel_rfl)).trans rfl) ((Fj (t:=[(32, A (E ⟨g,0,F⟩)),(33, A (E ⟨g,0,F⟩)),(34, A (E ⟨g,9,F⟩)),(35,.map (E bm)),(36, C U (k:Int)),(37,.agg #[D T.data, C U ((T.tries:Int)+1), G J])]) 36 (show([32,33,34,35,36,37]:List Nat).Nodup by decide) (by kernel_rfl)).trans rfl) (((Fj (t:=[(32, A (E ⟨g,0,F⟩)),(33, A (E ⟨g,0,F⟩)),(34, A (E ⟨g,9,F⟩)),(35,.map (E bm)),(36, C U (k:Int)),(37,.agg #[D T.data, C U ((T.tries:Int)+1), G J])]) 37 (show([32,33,34,35,36,37]:List Nat).Nodup by decide) (by kernel_rfl)).trans rfl).trans ag.out) (fun w' h1 h2=>⟨rfl,rfl,h1,(c.Fn (by simp)).trans (JG h2 (by simp))⟩))) ?_
 rintro e a' w2 ⟨rfl,rfl,f,b⟩;dsimp only[Ft,List.set,List.append_nil,List.cons_append,List.nil_append];have ad:PSend w2 g bm (m.set k T.tried):=⟨(b.block g r.lt (by simpa using ao)).trans (by rw[J1 l.len c _ (by rw[HT.out];rfl)];exact r.1),f,l.set c q⟩;have cf:w2.cell? ⟨g,1+k,F⟩=E (G T.flag):=by
  have:=ad.flag c;rw[SendM.Lf l.len c,Ab rfl]at this;exact this
 have c0:=b.He c0 (by simpa using s);have c1:=b.He c1 (by simpa using s);have c2:=b.He c2 (by simpa using s);have c3:=b.He c3 (by simpa using s);have e0:=b.He e0 (by simpa using av);have M:∀j,w2.frozen? ⟨w.heap.size,j,F⟩=H:=fun j=>by
  have hl:=Aj wB _ ‹wB.cell? ⟨w.heap.size,0,F⟩=E (C U 0)›;have:=i j;unfold World.frozen? at*;rw[b.block _ hl (by simpa using s)];exact this
 have f0:=M 0;have f1:=M 1;have f2:=M 2;have f3:=M 3;have ak:Kept [g,bm] w w2:=(Kept.E5 ‹Below w.heap.size w wB›).trans (b.Fn (by simp));have P:∀(W:R),Kept [g,bm] w W->∀j v,Kept [g,bm] w (W.setCell ⟨w.heap.size,j,F⟩ v):=fun W h j v=>h.AnQ (Ac _) v
 have am:bm≠w.heap.size:=fun e=>s e.symm
 have an:g≠w.heap.size:=fun e=>ap e.symm
 generalize w.heap.size=bx at*
 go_wp2_with fail
 go_region
 go_wp2_with fail
 (try simp only[Exit.inBlock,Exit.then])
 refine Ah (v:=.tuple #[.agg #[C U (k:Int), C U (PA T.tries), G T.flag, D T.data], C U 0]) ?_ rfl ⟨rfl,?_,?_⟩
 ·rw[AD rfl]
  go_simp
 ·exact(ad.kept (S:=[bx]) (((((Kept.refl [bx] w2).setCell (by simp) _).setCell (by simp) _).setCell (by simp) _).setCell (by simp) _) (by simpa using an) (by simpa using am)).drew
 ·exact(P _ (P _ (P _ (P _ ak _ _) _ _) _ _) _ _).drew
theorem AjR(h:PSend w g bm m)(k:Nat)(u:k<8)(r:(m.tat k).busy=J)(N:(m.tat k).opn=J)(t:TryM)(ht:t.busy=H)(hf:t.flag=(m.tat k).flag)(hr:t.right m.limit):
 Calls prog 62 #[A (E ⟨g,0,F⟩), C U (k:Int), G J] w fun e w'=>e=.returned (.tuple #[G J, C U 0])/\PSend w' g bm (m.set k t)/\Kept [g,bm] w w':=by
 have f:=O2 h k u J (m.tat k).blk 0 r rfl rfl;have l:=h.2.2;have K:=h.ne;obtain⟨T, W⟩ := E7 (m.tat k);rw[<-W]at f N;unfold TryM.blk at f;rw[N]at f;clear W r N;go_enter func62,ntmps62
 go_wp2_with(go_at_call 111;refine f.mono ?_;rintro e w1 ⟨rfl,q⟩;have i:=q.alloc q.size (O #[D T.data, C U T.tries, G J] 213);have b:=h.old i;have cl:=b.limit;have P:=b.map)
 go_region;have c:=b.drew;have y:=i.drew;clear b i cl P;have P:=c.map;have B:=c.2.1;have M:=c.lt;have hh:=c.1;generalize (w1.alloc (O #[D T.data, C U T.tries, G J] 213)).drew=wC at*
 go_wp2_with(at_delete;refine PC _ rfl _ _ rfl rfl B l.len u rfl t ht ?_;intro w3 z I)
 go_ret2;have s:Kept [bm] wC w3:=JG I (by simp);have hK:Kept [g,bm] w w3:=(Kept.E5 y).trans (s.Fn (by simp));exact⟨rfl,⟨(s.block g M (by simpa using K)).trans (by rw[J1 l.len u _ hf];exact hh),z,l.set u hr⟩,hK⟩
theorem Adl(h:PSend w g bm m)(k:Nat)(u:k<8)(r:(m.tat k).busy=J)(P:(m.tat k).opn=J)(N:(m.tat k).tries=m.limit)(t:TryM)(ht:t.busy=H)(hf:t.flag=(m.tat k).flag)(hr:t.right m.limit):
 Calls prog 62 #[A (E ⟨g,0,F⟩), C U (k:Int), G H] w fun e w'=>e=.returned (.tuple #[G J, C U 0])/\PSend w' g bm (m.set k t)/\Kept [g,bm] w w':=by
 have f:=O2 h k u J (m.tat k).blk 0 r rfl rfl;have l:=h.2.2;have K:=h.ne;obtain⟨T, eT⟩ := E7 (m.tat k);rw[<-eT]at f P N;unfold TryM.blk at f;rw[P]at f;have dl:((T.tries:Int)==(m.limit:Int))=J:=by simp[N]
 clear eT r P N;go_enter func62,ntmps62
 go_wp2_with(go_at_call 111;refine f.mono ?_;rintro e w1 ⟨rfl,q⟩;have i:=q.alloc q.size (O #[D T.data, C U T.tries, G J] 213);have b:=h.old i;have cl:=b.limit;have W:=b.map)
 go_region;have c:=b.drew;have y:=i.drew;clear b i cl W;have W:=c.map;have B:=c.2.1;have M:=c.lt;have hh:=c.1;generalize (w1.alloc (O #[D T.data, C U T.tries, G J] 213)).drew=wC at*
 go_wp2_with(at_delete;refine PC _ rfl _ _ rfl rfl B l.len u rfl t ht ?_;intro w3 z I)
 go_ret2;have s:Kept [bm] wC w3:=JG I (by simp);have hK:Kept [g,bm] w w3:=(Kept.E5 y).trans (s.Fn (by simp));exact⟨rfl,⟨(s.block g M (by simpa using K)).trans (by rw[J1 l.len u _ hf];exact hh),z,l.set u hr⟩,hK⟩
theorem Al0(h:PSend w g bm m)(k:Nat)(f:k<8)(I:(m.tat k).busy=J)(ho:(m.tat k).opn=J)(hl:(m.tat k).tries≠m.limit)(t:TryM)(ht:t.busy=J)(hf:t.flag=(m.tat k).flag)(s:t.right m.limit)(hv:t.blk=.agg #[D (m.tat k).data, C U (m.tat k).tries, G H]):
 Calls prog 62 #[A (E ⟨g,0,F⟩), C U (k:Int), G H] w fun e w'=>e=.returned (.tuple #[G H, C U 0])/\PSend w' g bm (m.set k t)/\Kept [g,bm] w w':=by
 have l:=O2 h k f J (m.tat k).blk 0 I rfl rfl;have u:=h.2.2;have ae:=h.ne;obtain⟨T, eT⟩ := E7 (m.tat k);rw[<-eT]at l ho hl hv;unfold TryM.blk at l;rw[ho]at l;have dl:((T.tries:Int)==(m.limit:Int))=H:=by simp;omega
 have HV:=hid hv;clear eT I ho hl hv;go_enter func62,ntmps62
 go_wp2_with(go_at_call 111;refine l.mono ?_;rintro e w1 ⟨rfl,i⟩;have c:=i.alloc i.size (O #[D T.data, C U T.tries, G J] 213);have b:=h.old c;have cl:=b.limit;have cm:=b.map)
 go_region
 go_wp2_with fail;have N:prog.follows .mixedOrders=J:=by kernel_rfl
 clear c b cl cm;have c:Below w.heap.size w (w1.alloc (O #[D T.data, C U T.tries, G H] 213)).drew:=(i.alloc i.size _).drew;have b:=h.old c;have q:(w1.alloc (O #[D T.data, C U T.tries, G H] 213)).drew.heap[w1.heap.size]?=_:=Am w1 _;have e0:(w1.alloc (O #[D T.data, C U T.tries, G H] 213)).drew.cell? ⟨w1.heap.size,0,F⟩=E (D T.data):=by rw[Al _ _ _ _ _ _ q];rfl
 have e1:(w1.alloc (O #[D T.data, C U T.tries, G H] 213)).drew.cell? ⟨w1.heap.size,0+1,F⟩=E (C U (T.tries:Int)):=by rw[Al _ _ _ _ _ _ q];rfl
 have e2:(w1.alloc (O #[D T.data, C U T.tries, G H] 213)).drew.cell? ⟨w1.heap.size,0+2,F⟩=E (G H):=by rw[Al _ _ _ _ _ _ q];rfl
 clear q i l;generalize (w1.alloc (O #[D T.data, C U T.tries, G H] 213)).drew=wB at*;generalize w1.heap.size=bz at*;have cm:=b.map;have B:=b.2.1;have af:=f;have P:=hid ht;have W:=hid HV.out.symm
 refine Bi (Pv (Q:=fun e a' w'=>e=.normal/\a'=({tmps:=(Ft _ [(37, A (E ⟨g,0,F⟩)),(38, A (E ⟨g,0,F⟩)),(39, A (E ⟨g,9,F⟩)),(40,.map (E bm)),(41, C U (k:Int)),(42,.agg #[D T.data, C U (T.tries:Int), G H])]).toArray,defers:=[]}:Act)/\BlkMap w' bm (m.set k (t))/\Kept [bm] wB w') 7 6 6 [] (fun _=>True) [(37, A (E ⟨g,0,F⟩)),(38, A (E ⟨g,0,F⟩)),(39, A (E ⟨g,9,F⟩)),(40,.map (E bm)),(41, C U (k:Int)),(42,.agg #[D T.data, C U (T.tries:Int), G H])]
  [[0],[37],[38],[39],[1],[8]] [1,2,3,6,6,6] wB N rfl (by decide) rfl (show([37,38,39,40,41,42]:List Nat).Nodup by decide) (by kernel_rfl) (by kernel_rfl) (by kernel_rfl) (by kernel_rfl) (by kernel_rfl) (by kernel_rfl) (fun _ _ h _=>h)
  (fun z ah ai y wc f s Q K r=>by
   have ag:z=0\/z=1\/z=2\/z=3\/z=4\/z=5:=by omega
   rcases ag with rfl | rfl | rfl | rfl | rfl | rfl
   ·have e0:y.eval (.tmp 0)= A (E ⟨g,0,F⟩):=s 0 (by decide);exact E6 rfl rfl (Fd wc rfl e0) (r wc (NH wc))
   ·have aa:y.eval (.tmp 37)= A (E ⟨g,0,F⟩):=s 37 (by decide);exact E6 rfl rfl (Ie wc rfl aa) (r wc (NH wc))
   ·have ab:y.eval (.tmp 38)= A (E ⟨g,0,F⟩):=s 38 (by decide);exact E6 rfl rfl (Uz wc rfl ab) (r wc (NH wc))
   ·have ad:y.eval (.tmp 39)= A (E ⟨g,9,F⟩):=s 39 (by decide);exact E6 rfl rfl (UB wc rfl ad (f.He cm (by simp))) (r wc (NH wc))
   ·have e1:y.eval (.tmp 1)= C U (k:Int):=s 1 (by decide);exact E6 rfl rfl (Fd wc rfl e1) (r wc (NH wc))
   ·have e8:y.eval (.tmp 8)= A (E ⟨bz,0,F⟩):=s 8 (by decide)
    exact E6 rfl rfl (Wu wc rfl e8 (f.He e0 (by simp)) (f.He e1 (by simp)) (f.He e2 (by simp))) (r wc (NH wc)))
  (fun h=>absurd h (by decide))
  (fun wc f hu=>by
   exact Wk rfl rfl (.tmp 40) (.tmp 41) (.tmp 42) rfl (B.same (f.block bm B.lt (by simp))) u.len af (t) P.out ((Fj (t:=[(37, A (E ⟨g,0,F⟩)),(38, A (E ⟨g,0,F⟩)),(39, A (E ⟨g,9,F⟩)),(40,.map (E bm)),(41, C U (k:Int)),(42,.agg #[D T.data, C U (T.tries:Int), G H])]) 40 (show([37,38,39,40,41,42]:List Nat).Nodup by decide) (by kernel_rfl)).trans rfl) ((Fj (t:=[(37, A (E ⟨g,0,F⟩)),(38, A (E ⟨g,0,F⟩)),(39, A (E ⟨g,9,F⟩)),(40,.map (E bm)),(41, C U (k:Int)),(42,.agg #[D T.data, C U (T.tries:Int), G H])]) 41 (show([37,38,39,40,41,42]:List Nat).Nodup by decide) (by kernel_rfl)).trans rfl) (((Fj (t:=[(37, A (E ⟨g,0,F⟩)),(38, A (E ⟨g,0,F⟩)),(39, A (E ⟨g,9,F⟩)),(40,.map (E bm)),(41, C U (k:Int)),(42,.agg #[D T.data, C U (T.tries:Int), G H])]) 42 (show([37,38,39,40,41,42]:List Nat).Nodup by decide) (by kernel_rfl)).trans rfl).trans W.out) (fun w' h1 h2=>⟨rfl,rfl,h1,(f.Fn (by simp)).trans (JG h2 (by simp))⟩))) ?_
 rintro e a' w2 ⟨rfl,rfl,c,M⟩;dsimp only[Ft,List.set,List.append_nil,List.cons_append,List.nil_append]
 go_wp2_with fail
 go_ret2;have r:Kept [g,bm] w w2:=(Kept.E5 ‹Below w.heap.size w wB›).trans (M.Fn (by simp));exact⟨rfl,⟨(M.block g b.lt (by simpa using ae)).trans (by rw[J1 u.len f _ hf];exact b.1),c,u.set f s⟩,r⟩
structure ItemM where
 ch:Int
 data:ByteArray
def ItemM.zero:ItemM:=⟨0,ByteArray.empty⟩
def FN (s:ByteArray):List Int:=s.data.toList.map fun b=>(b.toNat:Int)
theorem Gk(s:ByteArray):(FN s).length=s.size:=by
 unfold FN;rw[Bo,AH];rfl
theorem LH(s:ByteArray):Lib.strCells s=(FN s).map (Value.int .u8):=by
 unfold Lib.strCells FN;rw[CR];rfl
def ItemM.ok(t:ItemM):Bool:=decide (1<=t.ch/\t.ch<=32/\t.data.size<=1500)
def ItemM.head(t:ItemM):List Int:=[t.ch,((t.data.size / 256:Nat):Int),((t.data.size % 256:Nat):Int)]
def ItemM.bytes(t:ItemM):List Int:=t.head++FN t.data
def Fp (l:List ItemM):List Int:=l.flatMap ItemM.bytes
theorem Og{l:List ItemM}(h:k<l.length):Fp (l.take (k+1))=Fp (l.take k)++(l.getD k .zero).head++FN (l.getD k .zero).data:=by
 have e:l.getD k .zero=l[k]:=by simp[List.getD,h]
 have e2:l.take (k+1)=l.take k++[l[k]]:=Bu h;rw[e,e2,Bg];unfold Fp;rw[Bd,D6];rfl
theorem Oh(l:List ItemM)(k:Nat):(Fp (l.take k)).length<=(Fp l).length:=by
 have h:Fp l=Fp (l.take k)++Fp (l.drop k):=by
  unfold Fp;rw[<-Bd,Cs]
 rw[h,Ai];omega
def No (L:List Int)(n:Nat):List Int:=if L.length<n then L++[63]++List.replicate (n-L.length-1) 0 else L
theorem Ss(h:L.length<=n):(No L n).length=n:=by
 unfold No
 split
 ·simp;omega
 ·omega
structure JoinM where
 text:ByteArray
 err:Int
def GN (l:List ItemM)(size:Int):JoinM:=if size<0\/65535<size then ⟨ByteArray.empty,1⟩ else if l.all ItemM.ok=H then ⟨ByteArray.empty,1⟩ else if size<((Fp l).length:Int) then ⟨ByteArray.empty,2⟩ else ⟨strOfNums (No (Fp l) size.toNat),0⟩
def Itms (w:R)(a:Option Addr)(l:List ItemM):Prop:=l≠[]->∃b o,a=E ⟨b,o,F⟩/\∀i,i<l.length->w.cell? ⟨b,o+i*2,F⟩=E (C U (l.getD i .zero).ch)/\w.cell? ⟨b,o+i*2+1,F⟩=E (D (l.getD i .zero).data)
theorem Itms.at{w:R}{a:Option Addr}{l:List ItemM}(h:Itms w a l){i:Nat}(hi:i<l.length):∃b o,a=E ⟨b,o,F⟩/\∀i,i<l.length->w.cell? ⟨b,o+i*2,F⟩=E (C U (l.getD i .zero).ch)/\w.cell? ⟨b,o+i*2+1,F⟩=E (D (l.getD i .zero).data):=h (by rintro rfl;simp at hi)
theorem NZ(b:Below w.heap.size w w')(h:w.cell? p=E v):w'.cell? p=E v:=(b.cell (Aj w _ h)).trans h
theorem Own.cat{B:Nat}{M:List Int}(b:n=L.length+M.length)(h:w.ownsRow B 5 1 v n (L.map (Value.int .u8)++M.map (Value.int .u8))):Own w B v (L++M):=by
 unfold Own
 grind
theorem YF(B:Nat)(c:R)(t:ByteArray)(b:Own w0 B v L)(e:o.guard=F)(s x:Operand)
 (u:o.op=.call {callee:=.builtin .append,args:=#[s,x],argTypes:=#[103,9]}) (hs:a.eval s=v)
 (hx:a.eval x= D t) (hlen:L.length+t.size<=70368744177664) (hbel:Below B c w0) (hB:B<=w0.heap.size)
 (h:∀v' w',Own w' B v' (L++FN t)->Below B c w'->wpList prog ops Q rest (a.put o.dst v') w'):wpList prog ops Q (o::rest) a w0:=by
 obtain⟨y,hi,f,i,l⟩:=As Tryz.Of;refine Lib.wpList_append_own_string w0 e s x 103 9 u B 5 y underlying103 underlying9 hi f i l v _ _ hs b t hx (by unfold maxLen;omega) (by omega) hB ?_;intro v' w' q r _;rw[LH]at q;exact h v' w' (Own.cat (M:=FN t) (by rw[Gk]) q) (hbel.grown r hB (Lz b))
theorem Afk{l:List ItemM}(b:k<l.length)(h:(l.getD k .zero).ok=H):l.all ItemM.ok=H:=by grind
theorem Aii{l:List ItemM}(h:∀j,j<l.length->(l.getD j .zero).ok=J):l.all ItemM.ok=J:=by
 rw[AM];intro x b;obtain⟨i,hi,rfl⟩:=A5 b
 grind
def ItemM.err(t:ItemM):Int:=if t.ok=J then 0 else 1
theorem ItemM.Acs{t:ItemM}(h:t.ok=J):t.err=0:=Ab h
theorem ItemM.err_bad{t:ItemM}(h:t.ok=H):t.err=1:=Aa (by rw[h];decide)
theorem VR(t:ItemM)(w:R):
 Calls prog 184 #[.agg #[C U t.ch, D t.data]] w fun e w'=>e=.returned (C U t.err)/\Below w.heap.size w w':=by
 by_cases c:t.ch<1
 ·have i:decide (t.ch<1)=J:=Ag c;have b:=hid (ItemM.err_bad (show t.ok=H from Ae (by omega)));clear c;go_enter func184,ntmps184;go_wp2;go_ret;exact⟨Fs b.out.symm,(Ad _ w).alloc (Ac _) _⟩
 ·have i:decide (t.ch<1)=H:=Ae c
  by_cases f:32<t.ch
  ·have l:decide (32<t.ch)=J:=Ag f;have b:=hid (ItemM.err_bad (show t.ok=H from Ae (by omega)));clear c f;go_enter func184,ntmps184;go_wp2;go_ret;exact⟨Fs b.out.symm,(Ad _ w).alloc (Ac _) _⟩
  ·have l:decide (32<t.ch)=H:=Ae f
   by_cases h:1500<t.data.size
   ·have q:decide ((1500:Int)<(t.data.size:Int))=J:=Ag (by omega);have b:=hid (ItemM.err_bad (show t.ok=H from Ae (by omega)));clear c f h;go_enter func184,ntmps184;go_wp2;go_ret;exact⟨Fs b.out.symm,(Ad _ w).alloc (Ac _) _⟩
   ·have q:decide ((1500:Int)<(t.data.size:Int))=H:=Ae (by omega);have b:=hid (ItemM.Acs (show t.ok=J from Ag (by omega)));clear c f h;go_enter func184,ntmps184;go_wp2;go_ret;exact⟨Fs b.out.symm,(Ad _ w).alloc (Ac _) _⟩
theorem Acj(l:List ItemM)(size:Int)(v:Value)(w:R)(c:size<0\/65535<size):
 Calls prog 157 #[v, C U size] w fun e w'=>e=.returned (C U (GN l size).err)/\w=w':=by
 unfold GN;rw[Ab c]
 by_cases b:size<0
 ·have f:decide (size<0)=J:=Ag b;clear b c;go_enter func157,ntmps157;go_wp2;go_ret;exact⟨rfl,rfl⟩
 ·have f:decide (size<0)=H:=Ae b;have h:decide (65535<size)=J:=Ag (by omega);clear b c;go_enter func157,ntmps157;go_wp2;go_ret;exact⟨rfl,rfl⟩
theorem Aci(l:List ItemM)(n:Nat)(a:Option Addr)(K c:Nat)(w:R)(hI:Itms w a l)(ac:l.length=K)(hm:K<=maxLen)(hn:n<=65535)(al:K<=6000000000000):
 Calls prog 157 #[.slice a K c, C U (n:Int)] w fun e w'=>e=.returned (C U (GN l (n:Int)).err)/\Below w.heap.size w w':=by
 have HI:=hid hI;have s:=hid ac;have am:K<=9223372036854775807:=by unfold maxLen at hm;omega
 have d0:decide ((n:Int)<0)=H:=Ae (by omega);have d1:decide ((65535:Int)<(n:Int))=H:=Ae (by omega);have W:¬((n:Int)<0\/(65535:Int)<(n:Int)):=by omega
 have ad:Hid (l.all ItemM.ok=H->(GN l (n:Int)).err=1):=fun h=>by unfold GN;rw[Aa W,Ab h]
 have ae:Hid (l.all ItemM.ok=J->n<(Fp l).length->(GN l (n:Int)).err=2):=fun h h2=>by unfold GN;grind
 have af:Hid (l.all ItemM.ok=J->(Fp l).length<=n->(GN l (n:Int)).err=0):=fun h h2=>by unfold GN;grind
 clear hI ac hm W;go_enter func157,ntmps157
 go_wp2_with fail
 go_loopw [5,17] (fun v i wr=>∃k m:Nat,k<=K/\m<=1503*k/\i= C U k/\v= C U m/\Hid (m=(Fp (l.take k)).length)/\(∀j,j<k->(l.getD j .zero).ok=J)/\Below w.heap.size w wr) (fun _ i _=>K-(intOf i).toNat)
 case atStart=>exact⟨0,0,by omega,by omega,rfl,rfl,rfl,fun j hj=>by omega,Ad _ w⟩
 case round=>
  obtain⟨k,m,hk,an,rfl,rfl,HM,f,y⟩:=hrel
  by_cases P:k<K
  ·obtain⟨b,o,rfl,hC⟩:=HI.out.at (i:=k) (by rw[s.out];exact P);obtain⟨q0,q1⟩:=hC k (by rw[s.out];exact P);have N:k<l.length:=by rw[s.out];exact P
   have u:(Fp (l.take (k+1))).length=m+(3+(l.getD k .zero).data.size):=by
    rw[Og N,Ai,Ai,Gk,HM.out];have e3:(l.getD k .zero).head.length=3:=rfl;omega
   have ab:=hid (fun h=>ad.out (Afk N h));have ah:=hid f;obtain⟨I, eI⟩ := E7 (l.getD k .zero);rw[<-eI]at q0 q1 ab u;have ai:=hid u;have q0:=NZ y q0;have q1:=NZ y q1;have HE:=hid eI;have B:=VR I;clear hC eI f N u
   cases q:I.ok with
   | false=>
    rw[ItemM.err_bad q]at B;have HX:=hid (ab.out q);clear q
    go_wp2_with(go_at_call 184;refine(B _).mono ?_;rintro e w1 ⟨rfl,z⟩);go_ret;exact⟨Fs HX.out.symm,(y.alloc y.size _).trans (z.mono (by have:=y.size;simp;omega))⟩
   | true=>
    rw[ItemM.Acs q]at B;have ag:=hid q;have W:=(AQ q).2.2;have aj:m+(3+I.data.size)<=1503*(k+1):=by omega
    have ao:m+(3+I.data.size)<=9100000000000000:=by omega
    have ak:=fun(T:TypeId) (w1:R) (h1:Below (wr.alloc (O #[C U I.ch, D I.data] T)).heap.size (wr.alloc (O #[C U I.ch, D I.data] T)) w1)=>NZ h1 (show(wr.alloc (O #[C U I.ch, D I.data] T)).cell? ⟨wr.heap.size,1,F⟩=E (D I.data)by rw[Al _ _ _ _ _ _ (Am wr _)];rfl)
    clear q
    go_wp2_with(go_at_call 184;refine(B _).mono ?_;rintro e w1 ⟨rfl,z⟩;have q3:=ak _ _ z)
    go_roundw
    case rel=>exact⟨k+1,m+(3+I.data.size),by omega,aj,by go_num,by go_num,ai.out.symm,fun j hj=>by
     by_cases e:j=k
     ·rw[e,<-HE.out];exact ag.out
     ·exact ah.out j (by omega),(y.alloc y.size _).trans (z.mono (by have:=y.size;simp;omega))⟩
    case measure=>simp[intOf];omega
  ·have e:k=K:=by omega
   subst e;have r:=Aii (l:=l) (fun j hj=>f j (by rw[<-s.out];exact hj));have aa:l.take k=l:=Aw (by rw[s.out];exact Ac _);have t:=HM.out;rw[aa]at t
   by_cases M:n<m
   ·have y1:decide (n<m)=J:=Ag M;have HX:=hid (ae.out r (by rw[<-t];exact M));clear r aa f t
    go_wp2_with fail;go_ret;exact⟨Fs HX.out.symm,y⟩
   ·have y1:decide (n<m)=H:=Ae M;have HX:=hid (af.out r (by rw[<-t];omega));clear r aa f t
    go_wp2_with fail;go_ret;exact⟨Fs HX.out.symm,y⟩
theorem Ac6(l:List ItemM)(size:Int)(a:Option Addr)(f c:Nat)(w:R)(i:Itms w a l)(h:l.length=f)(q:f<=maxLen)(b:f<=6000000000000):
 Calls prog 157 #[.slice a f c, C U size] w fun e w'=>e=.returned (C U (GN l size).err)/\Below w.heap.size w w':=by
 by_cases r:size<0\/65535<size
 ·refine(Acj l size _ w r).mono ?_;rintro e w' ⟨rfl,rfl⟩;exact⟨rfl,Ad _ _⟩
 ·obtain⟨n,rfl⟩:∃n:Nat,size=(n:Int):=⟨size.toNat,by omega⟩;exact Aci l n a f c w i h q (by omega) b
theorem Vy(B:Nat)(i:R)(c e f:Int)(b:Own w0 B v L)(q:o.guard=F)(s x:Operand)
 (K:o.op=.call {callee:=.builtin .append,args:=#[s,x],argTypes:=#[103,103]}) (hs:a.eval s=v)
 (gx:Nat) (hgx:gx=w0.heap.size) (hx:a.eval x=.slice (E ⟨gx,0,F⟩) 3 3) (hlen:L.length<70368744177664) (hbel:Below B i w0) (hB:B<=w0.heap.size)
 (h:∀v' w',Own w' B v' (L++[c,e,f])->Below B i w'->(w0.alloc (O #[C .u8 c, C .u8 e, C .u8 f] 5)).grownBy w' v.ownBlock->wpList prog ops Q rest (a.put o.dst v') w'):wpList prog ops Q (o::rest) a (w0.alloc (O #[C .u8 c, C .u8 e, C .u8 f] 5)):=by
 subst hgx;obtain⟨P,hi,r,t,y⟩:=As Tryz.Of;have N:=Am w0 (O #[C .u8 c, C .u8 e, C .u8 f] 5);refine CJ _ q s x 103 K B 5 P (C .u8 0) 1 1 underlying103 hi r t y rfl (by decide) v _ _ hs (A6 b _) ⟨w0.heap.size,0,F⟩ 3 3 [C .u8 c, C .u8 e, C .u8 f] hx rfl ?_ ?_ ?_ ?_ ?_ ?_
 ·intro j u l;have e1:(⟨w0.heap.size,0,F⟩:Addr).add j=⟨w0.heap.size,j,F⟩:=by unfold Addr.add;split<;>simp_all
  rw[e1,Al _ _ _ _ _ _ N]
  simpa using l
 ·intro u l;simp at l;rcases l with rfl | rfl | rfl<;>rfl
 ·unfold maxLen;omega
 ·omega
 ·simp;omega
 ·intro v' w' I z _;exact h v' w' (Own.cat (M:=[c,e,f]) rfl I) ((hbel.alloc hB _).grown z (by simp;omega) (Lz b)) z
def Jb (n:Nat):ByteArray:=⟨Array.replicate n 0⟩
theorem SL(n:Nat):(Jb n).size=n:=by simp[Jb,ByteArray.size]
theorem SM(n:Nat):FN (Jb n)=List.replicate n 0:=by
 unfold FN Jb;simp
theorem SO(n:Nat):Builtin.zeroCells #[C .u8 0] n=(Lib.strCells (Jb n)).toArray:=by
 rw[LH,SM];refine C5 (by simp[Builtin.zeroCells]) fun j b c=>?_
 simp[Builtin.zeroCells,Nat.mod_one]
theorem QU{P:Program}(w:R)(t u st ty e:TypeId)(i:TypeInfo)(ht:P.underlying t=E (.slice e))(hu:P.underlying u=E (.int U))(y:P.underlying st=E .string)(hi:P.info? e=E i)(hz:i.zero=E (C .u8 0))(h:i.size=1)(s:i.bytes=1)
 (b:Option Addr) (c f n:Nat) (hn:c+n<=70368744177664):
 (Builtin.append_ #[t,u] ty #[.slice b c f, C U (n:Int)]).run P w=(Builtin.append_ #[t,st] ty #[.slice b c f, D (Jb n)]).run P w:=by
 have hw:IntKind.i64.wrap (n:Int)=(n:Int):=by rw[AO];omega
 have h0:¬((n:Int)<0):=by omega
 have I:¬((281474976710656:Int)<(n:Int)):=by omega
 have aa:(Value.int IntKind.u8 0).cells=#[C .u8 0]:=rfl;have z:=SL n;have r:∀(m:Int) (W:R),(asInt (C U m)).run P W=.ok m W:=fun m W=>by simp[asInt,asIntOf]
 have T:IntKind.i64.wrap 0=0:=by decide
 by_cases hr:c+n<=f
 ·by_cases q:n=0
  ·subst q;have l:=Cg (P:=P) w 1 (Jb 0);have he:Lib.strCells (Jb 0)=[]:=rfl;rw[z,he]at l;have B:c<=f:=hr;simp[Builtin.append_,Av ht,Av hu,Av y,sizeOf,typeInfo,hi,h,s,Builtin.lenOf,z,l,r,T,B]
  ·have l:=Cg (P:=P) w 1 (Jb n);rw[z]at l;simp[Builtin.append_,Av ht,Av hu,Av y,sizeOf,typeInfo,zeroValue,hi,hz,h,s,Builtin.lenOf,z,l,r,hw,h0,I,hr,q,aa,SO]
 ·have ab:¬(9223372036854775807<((c:Int)+(n:Int))):=by omega
  have hg:=DC (need:=c+n) (old:=f) (bytes:=1) (by omega) (by omega);rw[By]at hg;have M:¬(281474976710656<Builtin.nextslicecap (c+n) f):=by omega
  by_cases q:n=0
  ·subst q;have l:∀W:R,(Builtin.firstCells 1 0 (D (Jb 0))).run P W=.ok #[] W:=fun W=>by
    have l:=Cg (P:=P) W 1 (Jb 0);have he:Lib.strCells (Jb 0)=[]:=rfl;rw[z,he]at l;exact l
   have B:¬c<=f:=hr;have K:¬(9223372036854775807<(c:Int)):=by omega
   have N:¬(281474976710656<Builtin.nextslicecap c f):=M;simp[Builtin.append_,Av ht,Av hu,Av y,sizeOf,typeInfo,zeroValue,hi,hz,h,s,Builtin.lenOf,z,l,r,T,B,K,N]
  ·have l:∀W:R,(Builtin.firstCells 1 n (D (Jb n))).run P W=.ok (Lib.strCells (Jb n)).toArray W:=fun W=>by
    have l:=Cg (P:=P) W 1 (Jb n);rw[z]at l;exact l
   simp[Builtin.append_,Av ht,Av hu,Av y,sizeOf,typeInfo,zeroValue,hi,hz,h,s,Builtin.lenOf,z,l,r,hw,h0,I,hr,ab,M,q,aa,SO]
theorem YG(B:Nat)(t:R)(n:Nat)(f:Own w0 B v L)(u:o.guard=F)(s x:Operand)
 (ho:o.op=.call {callee:=.builtin .append,args:=#[s,x],argTypes:=#[103,3]}) (hs:a.eval s=v)
 (N:Int) (hx:a.eval x= C U N) (hN:N=(n:Int)) (hlen:L.length+n<=70368744177664) (hbel:Below B t w0) (hB:B<=w0.heap.size)
 (h:∀v' w',Own w' B v' (L++List.replicate n 0)->Below B t w'->wpList prog ops Q rest (a.put o.dst v') w'):wpList prog ops Q (o::rest) a w0:=by
 subst hN;obtain⟨I,hi,l,q,r⟩:=As Tryz.Of;obtain⟨b,c,e, -, -, -⟩:=Own.FC f;subst e;refine CM u fun K W=>?_
 have i:=SL n;obtain⟨v',w',z,y,T,h4⟩:=EI (P:=prog) w0 B 103 9 o.type 5 I underlying103 underlying9 hi l q r _ _ _ f (Jb n) (by rw[i];unfold maxLen;omega) (by rw[i];omega) hB;rw[<-QU w0 103 3 9 o.type 5 I underlying103 underlying3 underlying9 hi l q r b L.length c n hlen]at z;unfold Oper.wp execOp;simp only[ho,resolve,invoke,builtin,BN,Cv,B7,Ca,Be,BE,hs,hx,z];refine W _ _ (h v' w' ?_ (hbel.grown T hB (Lz f)));rw[LH,SM,i]at y;exact Own.cat (M:=List.replicate n 0) (by simp) y
end Go.Proofs.YtbjgfoiikhbonahGreatDoor
