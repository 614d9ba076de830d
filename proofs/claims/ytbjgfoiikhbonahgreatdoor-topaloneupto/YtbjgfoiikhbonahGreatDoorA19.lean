import Derived.Test.YtbjgfoiikhbonahGreatDoorA01
import Derived.BigRegion
import Derived.Deep.Cut
import Derived.Maps.AppendAt
import Derived.Lib.Overlaps
import Derived.Laws.Externs
import Derived.Lib.AppendZerosOnto
set_option linter.unusedVariables false
set_option linter.unusedSimpArgs false
set_option maxRecDepth 100000
set_option maxHeartbeats 4000000
namespace Go.Proofs.YtbjgfoiikhbonahGreatDoor
open Go.ChangeShapes Go.WideShapes Go.ChangeAt Go.RowKit Go.Proofs.Tryz
open Value renaming slice->C,int->H
open Option renaming some->D,none->G
open Bool renaming true->I
open Ending renaming returned->J
open IntKind renaming i64->L
variable {B bytes c g gx hi j k lo m size:Nat}{E:Prop}{K:Act->World->Prop}{P:Program}{Q:Exit->Act->World->Prop}{S:List Nat}{T e ty:TypeId}{W w w':World}{args:Array Value}{cs cur news xs:List Value}{i0:TypeInfo}{l:List ByteArray}{o:Oper}{ops:Array Oper}{p:Nat->Bool}{q:Int}{rest:List Oper}{ts:Array TypeId}{v v' z:Value}
def Kk (p:Nat->Bool)(lo:Nat):Nat->Nat
 | 0=>lo
 | n+1=>if p lo=I then lo else Kk p (lo+1) n
def Fv (p:Nat->Bool)(lo hi:Nat):Nat:=Kk p lo (hi-lo)
theorem Af1(p:Nat->Bool)(n:Nat):∀lo,lo<=Kk p lo n:=by
 induction n with
 | zero=>intro lo;exact Ac _
 | succ n ih=>
  intro lo;unfold Kk
  grind
theorem Af2(p:Nat->Bool)(n:Nat):∀lo,Kk p lo n<=lo+n:=by
 induction n with
 | zero=>intro lo;exact Ac _
 | succ n ih=>
  intro lo;unfold Kk
  grind
theorem Acw(p:Nat->Bool)(n:Nat):∀lo k,lo<=k->k<Kk p lo n->p k=false:=by
 induction n with
 | zero=>intro lo k b a;unfold Kk at a;omega
 | succ n ih=>
  intro lo k b a;unfold Kk at a
  grind
theorem Af0(p:Nat->Bool)(n:Nat):∀lo,Kk p lo n<lo+n->p (Kk p lo n)=I:=by
 induction n with
 | zero=>intro lo h;unfold Kk at h;omega
 | succ n ih=>
  intro lo h;unfold Kk at h ⊢
  grind
theorem PN(p:Nat->Bool)(lo hi:Nat):lo<=Fv p lo hi:=Af1 p _ lo
theorem Nb(p:Nat->Bool)(h:lo<=hi):Fv p lo hi<=hi:=by
 have:=Af2 p (hi-lo) lo;unfold Fv;omega
theorem L9(a:lo<=k)(b:k<Fv p lo hi):p k=false:=Acw p _ lo k a b
theorem TF(h:Fv p lo hi<hi):p (Fv p lo hi)=I:=by grind [Fv,PN,Af0]
theorem Ge(a:lo<=k)(b:k<=hi)(f:∀j,lo<=j->j<k->p j=false)(d:k<hi->p k=I):Fv p lo hi=k:=by grind [Fv,PN,Nb,TF,L9]
theorem Acv(a:lo<=k)(b:p k=I):Fv p lo hi<=k:=by grind [Fv,L9]
theorem IQ(h:lo<=hi)(a:∀k,lo<=k->k<hi->p k=false):Fv p lo hi=hi:=
 Ge h (Ac _) a (fun h=>absurd h (Bp _))
structure PieceM where
 num:Int
 frm:Int
 last:Bool
 data:ByteArray
def PieceM.zero:PieceM:=⟨0,0,false,ByteArray.empty⟩
structure GapM where
 num:Int
 frm:Int
 til:Int
structure ReportM where
 next:Int
 miss:List GapM
structure OutM where
 win:Nat
 text:List ByteArray
 mark:Nat->Nat->Nat
 done:Nat->Bool
 beg:Nat
def OutM.new(win:Nat):OutM:=⟨win,[],fun _ _=>0,fun _=>false,0⟩
def OutM.n(m:OutM):Nat:=m.text.length
def OutM.t(m:OutM)(u:Nat):ByteArray:=m.text.getD u ByteArray.empty
def OutM.sz(m:OutM)(u:Nat):Nat:=(m.t u).size
def OutM.wait(m:OutM):Nat:=((List.range m.n).filter fun u=>!m.done u).length
structure OutS where
 m:OutM
 err:Int
def OutM.KW(m:OutM)(s:ByteArray):OutS:=
 if s.size=0 then ⟨m,1⟩ else if 1500<s.size then ⟨m,2⟩ else if 64<=m.wait then ⟨m,7⟩ else ⟨{m with text:=m.text++[s]},0⟩
def OutM.hit(m:OutM)(k u:Nat):Nat:=Fv (fun i=>m.mark u i==k) 0 (m.sz u)
def OutM.can(m:OutM)(k u:Nat):Bool:=decide (m.hit k u<m.sz u) && (k==2 || !m.done u)
def OutM.Xu(m:OutM)(k:Nat):Nat:=if k=2 then m.n else min m.n (m.beg+m.win)
def OutM.who(m:OutM)(k:Nat):Nat:=Fv (m.can k) m.beg (m.Xu k)
def OutM.cut(m:OutM)(k u size:Nat):Nat:=Fv (fun i=>m.mark u i !=k) (m.hit k u) (min (m.sz u) (m.hit k u+size))
def OutM.sent(m:OutM)(u a b:Nat):OutM:={m with mark:=fun v i=>if v=u/\a<=i/\i<b then 1 else m.mark v i}
def OutM.AjU(m:OutM)(u a b:Nat):PieceM:=⟨((u % 64:Nat):Int),a,decide (b=m.sz u),(m.t u).extract a b⟩
structure OutP where
 m:OutM
 p:PieceM
 err:Int
def OutM.Mw(m:OutM)(k u size:Nat):OutP:=⟨m.sent u (m.hit k u) (m.cut k u size),m.AjU u (m.hit k u) (m.cut k u size),0⟩
def OutM.next(m:OutM)(size:Int):OutP:=
 if size<1\/1500<size then ⟨m,.zero,1⟩ else if m.who 2<m.Xu 2 then m.Mw 2 (m.who 2) size.toNat else if m.who 0<m.Xu 0 then m.Mw 0 (m.who 0) size.toNat else ⟨m,.zero,6⟩
def E9 (num:Int)(beg:Nat):Nat:=((num-((beg % 64:Nat):Int)) % 64).toNat
def OutM.Ys(m:OutM)(d:Nat):Bool:=(List.range d).all fun i=>decide (m.beg+i<m.n) && (m.mark (m.beg+i) 0 !=0)
def OutM.TH(m:OutM)(d:Nat)(g:GapM):Bool:=
 decide (0<=g.num/\g.num<=63) && (decide (E9 g.num m.beg<d) && decide (0<=g.frm/\g.frm<m.sz (m.beg+E9 g.num m.beg)/\g.til<=m.sz (m.beg+E9 g.num m.beg)/\(g.til<0\/g.frm<g.til)))
def GapM.of(beg:Nat)(u:Nat)(g:GapM):Bool:=beg+E9 g.num beg==u
def GapM.at(g:GapM)(i:Nat):Bool:=decide (g.frm<=i/\(g.til<0\/(i:Int)<g.til))
def XE (beg:Nat)(gs:List GapM)(u:Nat):Bool:=gs.any fun g=>g.of beg u
def ZN (beg:Nat)(gs:List GapM)(u i:Nat):Bool:=gs.any fun g=>g.of beg u && g.at i
def OutM.Wg(m:OutM)(d:Nat)(gs:List GapM)(u i:Nat):Nat:=
 if u<m.beg then m.mark u i
 else if u<m.beg+d then
  if XE m.beg gs u=I then (if ZN m.beg gs u i=I/\m.mark u i=1/\m.done u=false then 2 else m.mark u i)
  else (if m.mark u i=2 then 1 else m.mark u i)
 else (if m.mark u i=1/\m.done u=false then 2 else m.mark u i)
def OutM.N9(m:OutM)(d:Nat)(gs:List GapM)(u:Nat):Bool:=m.done u || (decide (m.beg<=u/\u<m.beg+d) && !XE m.beg gs u)
def OutM.taken(m:OutM)(d:Nat)(gs:List GapM):OutM:=
 ⟨m.win,m.text,m.Wg d gs,m.N9 d gs,Fv (fun u=>!m.N9 d gs u) m.beg m.n⟩
def OutM.take(m:OutM)(r:ReportM):OutS:=
 if r.next<0\/63<r.next then ⟨m,3⟩ else if m.Ys (E9 r.next m.beg)=false then ⟨m,3⟩ else if r.miss.all (m.TH (E9 r.next m.beg))=false then ⟨m,3⟩ else ⟨m.taken (E9 r.next m.beg) r.miss,0⟩
structure InM where
 win:Nat
 fst:Nat
 hi:Nat
 got:Nat->Nat->Option UInt8
 len:Nat->Option Nat
 fin:Nat->Nat
def InM.new(win:Nat):InM:=⟨win,0,0,fun _ _=>G,fun _=>G,fun _=>0⟩
def PieceM.bad(p:PieceM):Bool:=decide (p.num<0\/63<p.num\/p.frm<0\/1500<p.frm\/1500<p.frm+p.data.size\/p.data.size=0)
def PieceM.a(p:PieceM):Nat:=p.frm.toNat
def PieceM.b(p:PieceM):Nat:=p.frm.toNat+p.data.size
def InM.J9(r:InM)(u:Nat)(p:PieceM):Bool:=
 (match r.len u with
  | none=>false
  | some n=>(p.last && n !=p.b) || decide (n<p.b)) || (p.last && decide (p.b<r.fin u))
def InM.put(r:InM)(u:Nat)(p:PieceM):InM:=
 ⟨r.win,r.fst,max r.hi (u+1),fun v i=>if v=u/\p.a<=i/\i<p.b/\r.got v i=G then D (p.data.get! (i-p.a)) else r.got v i,
  fun v=>if v=u/\p.last=I then D p.b else r.len v,fun v=>if v=u then max (r.fin u) p.b else r.fin v⟩
def InM.whole(r:InM)(u:Nat):Bool:=
 match r.len u with
 | none=>false
 | some n=>Fv (fun i=>(r.got u i).isNone) 0 n==n
def InM.RP(r:InM)(u:Nat):ByteArray:=⟨((List.range ((r.len u).getD 0)).map fun i=>(r.got u i).getD 0).toArray⟩
def InM.upto(r:InM):Nat:=Fv (fun u=>!r.whole u) r.fst (max r.fst r.hi)
structure InS where
 m:InM
 out:List ByteArray
 err:Int
def InM.Ad2(r:InM):InS:=⟨{r with fst:=r.upto},(List.range (r.upto-r.fst)).map fun i=>r.RP (r.fst+i),0⟩
def InM.take(r:InM)(p:PieceM):InS:=
 if p.bad=I then ⟨r,[],3⟩ else if r.win<=E9 p.num r.fst then ⟨r,[],8⟩ else if r.J9 (r.fst+E9 p.num r.fst) p=I then ⟨r,[],3⟩ else (r.put (r.fst+E9 p.num r.fst) p).Ad2
def MS (p:Nat->Bool)(e:Nat):Nat->Nat->List (Nat×Nat)
 | 0,_=>[]
 | f+1,i=>if Fv p i e<e then (Fv p i e,Fv (fun k=>!p k) (Fv p i e) e)::MS p e f (Fv (fun k=>!p k) (Fv p i e) e) else []
def InM.ends(r:InM)(u:Nat):Nat:=(r.len u).getD (r.fin u)
def InM.NR(r:InM)(u:Nat):List GapM:=
 ((MS (fun i=>(r.got u i).isNone) (r.ends u) (r.ends u+1) 0).map fun q=>(⟨((u % 64:Nat):Int),q.1,q.2⟩:GapM))++(match r.len u with
  | none=>[⟨((u % 64:Nat):Int),r.ends u, -1⟩]
  | some _=>[])
def InM.nxt(r:InM):Nat:=max r.fst r.hi
def InM.Fx(r:InM):ReportM:=⟨((r.nxt % 64:Nat):Int),(List.range (r.nxt-r.fst)).flatMap fun i=>r.NR (r.fst+i)⟩
def PieceM.cells(p:PieceM):List Value:=[H L p.num, H L p.frm,.bool p.last,.string p.data]
def PieceM.val(p:PieceM):Value:=.agg #[H L p.num, H L p.frm,.bool p.last,.string p.data]
def GapM.cells(g:GapM):List Value:=[H L g.num, H L g.frm, H L g.til]
def GapM.zero:GapM:=⟨0,0,0⟩
def Txs (w:World)(a:Option Addr)(l:List ByteArray):Prop:=l≠[]->∃b o,a=D ⟨b,o,G⟩/\∀i,i<l.length->w.cell? ⟨b,o+i,G⟩=D (.string (l.getD i ByteArray.empty))
theorem Txs.at{w:World}{a:Option Addr}{l:List ByteArray}(h:Txs w a l){i:Nat}(hi:i<l.length):∃b o,a=D ⟨b,o,G⟩/\∀i,i<l.length->w.cell? ⟨b,o+i,G⟩=D (.string (l.getD i ByteArray.empty)):=h (by rintro rfl;simp at hi)
def Gps (w:World)(a:Option Addr)(l:List GapM):Prop:=l≠[]->∃b o,a=D ⟨b,o,G⟩/\∀i,i<l.length->w.cell? ⟨b,o+i*3,G⟩=D (H L (l.getD i .zero).num)/\w.cell? ⟨b,o+i*3+1,G⟩=D (H L (l.getD i .zero).frm)/\w.cell? ⟨b,o+i*3+2,G⟩=D (H L (l.getD i .zero).til)
def Aen (n:Nat)(a:Option Addr):Prop:=∀x,a=D x->n<=x.block
def Qh (F:List Nat)(a:Option Addr):Prop:=∀x,a=D x->x.block∉F
def Ga (n:Nat)(F F':List Nat):Prop:=∀x∈F',x∈F\/n<=x
theorem E8(b:Kept S w w'){a:Addr}(h:w.cell? a=D v)(d:a.block∉S):w'.cell? a=D v:=(AF (b.block a.block (Aj w a h) d)).trans h
theorem Txs.kept{a:Option Addr}(h:Txs w a l)(b:Kept S w w')(d:Qh S a):Txs w' a l:=by grind [Txs,Qh,E8]
theorem Gps.kept{a:Option Addr}{l:List GapM}(h:Gps w a l)(b:Kept S w w')(d:Qh S a):Gps w' a l:=by grind [Gps,Qh,E8]
def Wf:Nat:=140737488355328
theorem Ty{s:ByteArray}(h:s.size≠0):s.toList.isEmpty=false:=by
 rw[Cc]
 cases a:s.data.toList with
 | nil=>
  have e:s.data.toList.length=s.size:=by rw[AH];rfl
  rw[a]at e;simp at e;omega
 | cons x l=>rfl
theorem FY{n:Nat}(h:w.ownsRow B T k v n xs)(t:Kept S w w')(u:∀g,v.ownBlock=D g->g∉S):w'.ownsRow B T k v n xs:=by
 refine⟨h.1,?_⟩
 rcases h.2 with f | ⟨g,a,cur,d,i,r,s⟩
 ·exact .inl f
 ·have b:g<w.heap.size:=by grind
  exact .inr ⟨g,a,cur,d,i,(t.block g b (u g (by rw[d];rfl))).trans r,s⟩
theorem Kept.PR{row:Option Nat}(h:w.grownBy w' row):Kept row.toList w w':=⟨h.os,h.tape,h.output,h.size,fun k a b=>h.block k a (fun e=>b (by rw[<-e];simp))⟩
theorem AdT{a:Act}{n:Nat}{t:TypeId}(B g:Nat)(ht:prog.underlying t=D (.slice e))(hi:prog.info? e=D i0)(hz:i0.zero=D z)(i:i0.size=size)(d:i0.bytes=bytes)(r:z.cells.size=size)(A:0<size)
 (b:W.ownsRow B e size v n xs) (f:o.guard=G) (s x:Operand) (ho:o.op=.call {callee:=.builtin .append,args:=#[s,x],argTypes:=#[t,t]}) (hs:a.eval s=v) (hx:a.eval x= C (D ⟨g,0,G⟩) 1 1) (hl:news.length=1*size) (hc:∀(k:Nat) u,news[k]?=D u->W.cell? ⟨g,k,G⟩=D u) (h1:∀u∈news,u.oneCell'=I) (h63:n+1<=maxLen) (hlen:(n+1)*bytes<=140737488355328) (hB:B<=W.heap.size)
 (h:∀v' w',w'.ownsRow B e size v' (n+1) (xs++news)->W.grownBy w' v.ownBlock->(v'.ownBlock=v.ownBlock\/v'.ownBlock=D W.heap.size)->K (a.put o.dst v') w'):if Region.wanted o (yielded ops a.tmps)=I then Oper.wp prog o a W K Q else E:=by
 have hw:Region.wanted o (yielded ops a.tmps)=I:=by simp[Region.wanted,f]
 rw[Ab hw];obtain⟨v',w',hr,F,X,_,h4⟩:=Ec (P:=prog) (w:=W) B t o.type e i0 z size bytes ht hi hz i d r A v n xs b ⟨g,0,G⟩ 1 1 news hl (fun j u hj=>by rw[BT,Ao];exact hc j u hj) h1 h63 hlen hB;unfold Oper.wp execOp;simp only[ho,resolve,invoke,builtin,BN,Cv,B7,Ca,Be,BE,hs,hx,hr];exact h v' w' F X h4
theorem I3{a:Act}{n:Nat}{t:TypeId}(B g:Nat)(ht:prog.underlying t=D (.slice e))(hi:prog.info? e=D i0)(hz:i0.zero=D z)(i:i0.size=size)(d:i0.bytes=bytes)(r:z.cells.size=size)(A:0<size)
 (b:W.ownsRow B e size v n xs) (f:o.guard=G) (s x:Operand) (ho:o.op=.call {callee:=.builtin .append,args:=#[s,x],argTypes:=#[t,t]}) (hs:a.eval s=v) (hx:a.eval x= C (D ⟨g,0,G⟩) 1 1) (hl:news.length=1*size) (hc:∀(k:Nat) u,news[k]?=D u->W.cell? ⟨g,k,G⟩=D u) (h1:∀u∈news,u.oneCell'=I) (h63:n+1<=maxLen) (hlen:(n+1)*bytes<=140737488355328) (hB:B<=W.heap.size)
 (h:∀v' w',w'.ownsRow B e size v' (n+1) (xs++news)->W.grownBy w' v.ownBlock->(v'.ownBlock=v.ownBlock\/v'.ownBlock=D W.heap.size)->wpList prog ops Q rest (a.put o.dst v') w'):wpList prog ops Q (o::rest) a W:=
 wpList_append_own_at W f s x t ho B e i0 z size bytes ht hi hz i d r A v n xs hs b ⟨g,0,G⟩ 1 1 news hx hl (fun j u hj=>by rw[BT,Ao];exact hc j u hj) h1 h63 hlen hB (fun v' w' F X _ h4=>h v' w' F X h4)
theorem Fg{n:Nat}(h:w.ownsRow B T k v n xs):∃a c,v= C a n c/\n<=c/\c<=maxLen/\(∀x,a=D x->∃g,x=⟨g,0,G⟩/\v.ownBlock=D g):=by
 rcases h.2 with⟨rfl,rfl⟩ | ⟨g,b,cur,rfl,_,_,d,f,_⟩
 ·grind
 ·exact⟨_,b,rfl,d,f,fun x e=>⟨g,(AX e).symm,rfl⟩⟩
theorem Amd{n:Nat}{a:Option Addr}(h:w.ownsRow B T 1 (C a n c) l.length (l.map Value.string)):Txs w a l:=by
 intro r
 rcases h.2 with⟨b,s⟩ | ⟨g,f,cur,b,_,hg,_,_,_,ht⟩
 ·grind
 ·simp only[Aq]at b;obtain⟨rfl,_,_⟩:=b;refine⟨g,0,rfl,fun i hi=>?_⟩;have d:cur[i]?=(l.map Value.string)[i]?:=by
   grind
  rw[Ao,Al _ _ _ _ _ _ hg,d];simp[List.getD,hi]
theorem Tryz.Rr:(prog.info? 9).map (fun i=>(i.zero,i.size,i.bytes))=D (D (.string {data:=#[]}),1,16):=by kernel_rfl
def At (w:World)(b:Nat)(T:TypeId)(cur:List Value):Prop:=w.heap[b]?=D (.cells cur.toArray T (0,0))
theorem At.lt{b:Nat}(h:At w b T cur):b<w.heap.size:=(Array.getElem?_eq_some_iff.1 h).1
theorem At.set{b:Nat}{new:List Value}(h:At w b T cur):At (w.setRow b new.toArray) b T new:=Cn w b _ _ T _ h
theorem At.other{b:Nat}(h:At w b T cur)(a:b≠g)(x:Array Value):At (w.setRow g x) b T cur:=(Cl w g b x a).trans h
theorem At.kept{b:Nat}(h:At w b T cur)(a:Kept S w w')(d:b∉S):At w' b T cur:=(a.block b h.lt d).trans h
theorem At.cell{b:Nat}(h:At w b T cur)(j:Nat):w.cell? ⟨b,j,G⟩=cur[j]?:=by
 rw[Al _ _ _ _ _ _ h];simp
theorem At.free{b:Nat}(h:At w b T cur)(j:Nat):w.frozen? ⟨b,j,G⟩=false:=Bz w b j _ T h
theorem At.src{b:Nat}(h:At w b T cur)(o:Nat)(d:∀j,j<cs.length->cs[j]?=cur[o+j]?):∀j v,cs[j]?=D v->w.cell? ((⟨b,o,G⟩:Addr).add j)=D v:=fun j v a=>by
 have f:=(List.getElem?_eq_some_iff.1 a).1;rw[BT,h.cell,<-d j f,a]
theorem FO(w:World)(b:Nat)(x:Array Value):Kept [b] w (w.setRow b x):=⟨rfl,rfl,rfl,by simp[World.setRow],fun k _ a=>Cl w b k x (by simpa using a)⟩
theorem At.row{n:Nat}(h:At w g T cur)(b:xs.length=n*k)(d:n<=c)(a:c<=maxLen)(f:cur.length=c*k)(ht:cur.take (n*k)=xs):w.ownsRow 0 T k (C (D ⟨g,0,G⟩) n c) n xs:=
 ⟨b,.inr ⟨g,c,cur.toArray,rfl,Af _,h,d,a,by simpa using f,by simpa using ht⟩⟩
theorem F9{n:Nat}(h:w.ownsRow B T k (C (D ⟨g,0,G⟩) m c) n xs):∃cur,At w g T cur/\m=n/\n<=c/\c<=maxLen/\cur.length=c*k/\cur.take (n*k)=xs/\xs.length=n*k:=by
 rcases h.2 with⟨a,_⟩ | ⟨s,b,cur,a,_,hg,d,f,i,r⟩
 ·simp at a
 ·simp only[Aq,Bl,BI]at a;obtain⟨⟨rfl, -, -⟩,rfl,rfl⟩:=a;refine⟨cur.toList,?_,rfl,d,f,by simpa using i,r,h.1⟩;unfold At;rw[ES];exact hg
theorem O6{n:Nat}{a:Option Addr}(h:w.ownsRow B T k (C a m c) n xs):m=n:=by
 rcases h.2 with⟨d,i⟩ | ⟨f,b,cur,d,_,hg,r,s,t,u⟩
 ·grind
 grind
theorem Li(w:World)(x sT ty d tb:TypeId)(k g o b h:Nat)(a:Addr)(f t:Nat)(cur cs:List Value)
 (hu:P.underlying x=D (.slice d)) (A:(P.info? d).map (·.size)=D k)
 (hg:At w g tb cur) (hn:cs.length=Nat.min f b*k)
 (r:∀j v,cs[j]?=D v->w.cell? (a.add j)=D v) (n:o+cs.length<=cur.length) (F:∀v∈cs,v.oneCell'=I):
 (Builtin.copy_ #[x,sT] ty #[C (D ⟨g,o,G⟩) b h, C (D a) f t]).run P w=
  .ok (goInt (Nat.min f b)) (w.setRow g (splice cur o cs).toArray):=by
 have X:=run_loadCells_list (P:=P) w a cs r;have s:=CU P g o tb cs 0 cur.toArray w hg (by simpa using n) F
 cases u:P.info? d with
 | none=>simp[u]at A
 | some i=>
  have hi:i.size=k:=by simpa [u]using A
  simp only[Bh]at s;simp[Builtin.copy_,Av hu,Builtin.lenOf,Builtin.firstCells,sizeOf,typeInfo,u,hi,<-hn,X,s,splice]
theorem Nt(w:World)(t e ty tb:TypeId)(i:TypeInfo)(z:Value)(ht:P.underlying t=D (.slice e))(hi:P.info? e=D i)(h:i.zero=D z)(g o n c:Nat)(cur:List Value)(hg:At w g tb cur)(r:0<n)
 (a:o+n*z.cells.size<=cur.length) (d:∀v∈(Builtin.zeroCells z.cells n).toList,v.oneCell'=I):
 (Builtin.clear_ #[t] ty #[C (D ⟨g,o,G⟩) n c]).run P w=.ok (.tuple #[]) (w.setRow g (splice cur o (Builtin.zeroCells z.cells n).toList).toArray):=by
 have f:(Builtin.zeroCells z.cells n).toList.length=n*z.cells.size:=by rw[AH,Cj]
 have b:=CU P g o tb (Builtin.zeroCells z.cells n).toList 0 cur.toArray w hg (by rw[f];simpa using a) d;simp only[Bh]at b;obtain⟨m,rfl⟩:∃m,n=m+1:=⟨n-1,by omega⟩;simp[Builtin.clear_,Av ht,zeroValue,typeInfo,hi,h,b,splice]
theorem LC(w:World)(t e ty:TypeId)(ht:P.underlying t=D (.slice e))(a:Option Addr)(c:Nat):(Builtin.clear_ #[t] ty #[C a 0 c]).run P w=.ok (.tuple #[]) w:=by
 cases a<;>simp[Builtin.clear_,Av ht]
theorem GG(h:(Builtin.append_ ts ty args).run P w=.ok v w'):∀cs,(builtin .append ts ty cs args).run P w=.ok (.value v) w':=fun cs=>by simp[builtin,h]
theorem W8(h:(Builtin.copy_ ts ty args).run P w=.ok v w'):∀cs,(builtin .copy ts ty cs args).run P w=.ok (.value v) w':=fun cs=>by simp[builtin,h]
theorem OJ{z:Array Value}{n:Nat}(h:v∈(Builtin.zeroCells z n).toList):v∈z:=by
 simp only[Builtin.zeroCells,Array.toList_map,Bb]at h;obtain⟨i,hi,rfl⟩:=h;have b:i<n*z.size:=by simpa using hi
 have a:0<z.size:=by
  grind
 have d:=AZ i a
 grind
theorem IM(w:World){a:Act}(b:o.guard=G)(d:Builtin)(s x:Operand)(t f:TypeId)
 (n:o.op=.call {callee:=.builtin d,args:=#[s,x],argTypes:=#[t,f]}) (vs vx:Value) (hs:a.eval s=vs) (hx:a.eval x=vx)
 (hr:∀cs,(builtin d #[t,f] o.type cs #[vs,vx]).run P w=.ok (.value v') w') (h:wpList P ops Q rest (a.put o.dst v') w'):wpList P ops Q (o::rest) a w:=by
 refine CM b fun K i=>?_
 unfold Oper.wp execOp;simp only[n,resolve,invoke,BN,Cv,B7,Ca,Be,BE,hs,hx,hr];exact i _ _ h
theorem KJ{a:Act}(b:o.guard=G)(d:Builtin)(s x:Operand)(t f:TypeId)
 (i:o.op=.call {callee:=.builtin d,args:=#[s,x],argTypes:=#[t,f]}) (vs vx:Value) (hs:a.eval s=vs) (hx:a.eval x=vx)
 (hr:∀cs,(builtin d #[t,f] o.type cs #[vs,vx]).run P w=.ok (.value v') w') (h:K (a.put o.dst v') w'):if Region.wanted o (yielded ops a.tmps)=I then Oper.wp P o a w K Q else E:=by
 have n:Region.wanted o (yielded ops a.tmps)=I:=by simp[Region.wanted,b]
 rw[Ab n];unfold Oper.wp execOp;simp only[i,resolve,invoke,BN,Cv,B7,Ca,Be,BE,hs,hx,hr];exact h
theorem Tryz.PS:(prog.info? 146).map (fun i=>(i.zero,i.size,i.bytes))=D (D (.agg #[H L 0, H L 0]),2,16):=by kernel_rfl
theorem Tryz.AcN:(prog.info? 151).map (fun i=>(i.zero,i.size,i.bytes))=D (D (.agg #[C G 0 0, C G 0 0, H L 0]),3,56):=by kernel_rfl
theorem Tryz.Ai7:(prog.info? 143).map (fun i=>(i.zero,i.size,i.bytes))=D (D (.agg #[.string {data:=#[]}, H L 0, C G 0 0,.bool false]),4,56):=by kernel_rfl
theorem Am8{S:TypeId}{K n b:Nat}(hU:prog.underlying S=D (.slice T))(hI:(prog.info? T).map (fun i=>(i.zero,i.size,i.bytes))=D (D z,K,b))(ae:z.cells.size=K)(ar:∀v∈z.cells,v.oneCell'=I)(h:w.ownsRow 0 T K (C (D ⟨g,0,G⟩) n c) n xs)(au:∀u∈xs,u.oneCell'=I)(hn:n<=c)(hc:c<=maxLen)(hj:j<=n)(h0:j≠0):
 ∃A W1 W2,(if c=j then D (⟨g,0,G⟩:Addr) else D ⟨g,j*K,G⟩)=D A/\Hid (∀ty m c',m=n-j->(Builtin.append_ #[S,S] ty #[C (D ⟨g,0,G⟩) 0 c, C (D A) m c']).run prog w.drew=.ok (C (D ⟨g,0,G⟩) (n-j) c) W1)/\Hid (∀ty,(Builtin.clear_ #[S] ty #[C (D ⟨g,(n-j)*K,G⟩) j (c-(n-j))]).run prog W1=.ok (.tuple #[]) W2)/\Hid (W2.ownsRow 0 T K (C (D ⟨g,0,G⟩) (n-j) c) (n-j) (xs.drop (j*K)))/\Hid (Kept [g] w W2):=by
 obtain⟨cur,hA, -, -, -,aa,aw,ao⟩:=F9 h;obtain⟨i0,ab,ap,aq,ay⟩:=As hI;obtain⟨news, x⟩ := E7 (xs.drop (j*K));have s:news.length=(n-j)*K:=by rw[x,AJ,ao,<-Nat.sub_mul]
 have av:(n-j)*K+j*K=n*K:=by rw[<-CD,Nat.sub_add_cancel hj]
 have ai:∀t,t<news.length->news[t]?=cur[j*K+t]?:=by grind
 have af:∀u∈news,u.oneCell'=I:=by
  grind
 have ax:n*K<=cur.length:=by rw[aa];exact BM _ hn
 obtain⟨A,ah,ad⟩:∃A:Addr,(if c=j then D (⟨g,0,G⟩:Addr) else D ⟨g,j*K,G⟩)=D A/\Hid (∀t u,news[t]?=D u->w.drew.cell? (A.add t)=D u):=by
  by_cases e:c=j
  ·refine⟨⟨g,0,G⟩,by simp[e],fun t u hu=>?_⟩
   grind
  ·exact⟨⟨g,j*K,G⟩,by simp[e],(show At w.drew g T cur from hA).src _ ai⟩
 have aj:((Builtin.zeroCells z.cells j).toList).length=j*K:=by rw[AH,Cj,ae]
 obtain⟨a, f⟩ := E7 (splice cur 0 news);have F:a.length=cur.length:=by rw[f];exact BG _ _ _ (by rw[s];omega)
 obtain⟨d, r⟩ := E7 (splice a ((n-j)*K) (Builtin.zeroCells z.cells j).toList);have ak:d.length=cur.length:=by rw[r];exact(BG _ _ _ (by rw[aj,F];omega)).trans F
 have al:∀ty m c',m=n-j->(Builtin.append_ #[S,S] ty #[C (D ⟨g,0,G⟩) 0 c, C (D A) m c']).run prog w.drew=.ok (C (D ⟨g,0,G⟩) (n-j) c) (w.drew.setRow g a.toArray):=by
  rintro ty m c' rfl;have:=run_append_room (P:=prog) w.drew S ty T i0 hU ab g 0 c cur.toArray hA A (n-j) c' news (by rw[aq];exact s) ad.out af (by omega) (by grind);rw[this,f];simp[splice]
 have X:At (w.drew.setRow g a.toArray) g T a:=At.set (T:=T) (cur:=cur) hA;have am:∀ty m c',m=j->(Builtin.clear_ #[S] ty #[C (D ⟨g,(n-j)*K,G⟩) m c']).run prog (w.drew.setRow g a.toArray)=.ok (.tuple #[]) ((w.drew.setRow g a.toArray).setRow g d.toArray):=by
  rintro ty m c' rfl;rw[r];exact Nt _ S T ty T i0 _ hU ab ap g _ m c' a X (by omega) (by rw[F];rw[ae];omega) (fun v hv=>ar v (OJ hv))
 have ag:At ((w.drew.setRow g a.toArray).setRow g d.toArray) g T d:=X.set;have hk:Kept [g] w ((w.drew.setRow g a.toArray).setRow g d.toArray):=((Kept.refl _ w).drew.trans (FO _ g _)).trans (FO _ g _);have an:d.take ((n-j)*K)=news:=by
  rw[r,f];unfold splice
  grind
 have ac:((w.drew.setRow g a.toArray).setRow g d.toArray).ownsRow 0 T K (C (D ⟨g,0,G⟩) (n-j) c) (n-j) news:=ag.row s (by omega) hc (by rw[ak,aa]) an;subst x;exact⟨A,_,_,ah,al,fun ty=>am ty _ _ rfl,ac,hk⟩
theorem Xr{a:Option Addr}{n:Nat}(h:w.ownsRow 0 146 2 (C a n c) n xs)(d:∀u∈xs,u.oneCell'=I)(hj:j<=n):
 Calls prog 183 #[C a n c, H L (0:Int), H L (j:Int)] w fun e w'=>e= J (C a (n-j) c)/\w'.ownsRow 0 146 2 (C a (n-j) c) (n-j) (xs.drop (j*2))/\Kept (C a n c).ownBlock.toList w w':=by
 by_cases h0:j=0
 ·subst h0;have f:Calls prog 183 #[C a n c, H L (0:Int), H L ((0:Nat):Int)] w fun e w'=>e= J (C a n c)/\w'=w:=by
   obtain⟨x,cc,e,hn,r,_⟩:=Fg h;simp only[Aq]at e;obtain⟨rfl, -,rfl⟩:=e;have X:c<=9223372036854775807:=by unfold maxLen at r;omega
   clear h r
   cases a with
   | none=>
    go_enter func183,ntmps183;go_wp2
    all_goals (go_ret;exact⟨rfl,rfl⟩)
   | some x=>
    obtain⟨b,o,s⟩:=x;go_enter func183,ntmps183;go_wp2
    all_goals (go_ret;exact⟨rfl,rfl⟩)
  refine f.mono ?_;rintro e w' ⟨rfl,rfl⟩;refine⟨by simp,?_,Kept.refl _ _⟩
  simpa using h
 ·obtain⟨x,cc,e,hn,r,hx⟩:=Fg h;simp only[Aq]at e;obtain⟨rfl, -,rfl⟩:=e
  cases a with
  | none=>
   rcases h.2 with⟨h',ac⟩ | ⟨g',ab,cur,h',_⟩
   ·omega
   ·simp at h'
  | some ad=>
   obtain⟨g,rfl, -⟩:=hx ad rfl;obtain⟨A,W1,W2,ae,t,F,i,hK⟩:=Am8 underlying141 Tryz.PS rfl (by simp[Value.cells,Value.oneCell']) h d hn r hj h0;have ag:j<=c:=by omega
   have X:c<=9223372036854775807:=by unfold maxLen at r;omega
   clear h hx d;go_enter func183,ntmps183
   go_wp2_with fail
   go_region_law (refine KJ rfl .append (.tmp 22) (.tmp 25) 141 141 rfl (C (D ⟨g,0,G⟩) 0 c) (C (D A) (n-j) (c-j)) (by simp[Act.eval,Act.put]) (by simp[Act.eval,Act.put]) (GG (t.out _ _ _ rfl)) ?_);have aj:n-(n-j)=j:=by omega
   have ai:¬(c=n-j):=by omega
   have ah:n-j<=n:=by omega
   have aa:((n-j:Nat):Int)<=(n:Int):=by omega
   have af:=F.out;go_wp2
   all_goals (go_ret;exact⟨rfl,i.out,hK.out⟩)
theorem Xs{a:Option Addr}{n:Nat}(h:w.ownsRow 0 151 3 (C a n c) n xs)(d:∀u∈xs,u.oneCell'=I)(hj:j<=n):
 Calls prog 245 #[C a n c, H L (0:Int), H L (j:Int)] w fun e w'=>e= J (C a (n-j) c)/\w'.ownsRow 0 151 3 (C a (n-j) c) (n-j) (xs.drop (j*3))/\Kept (C a n c).ownBlock.toList w w':=by
 by_cases h0:j=0
 ·subst h0;have f:Calls prog 245 #[C a n c, H L (0:Int), H L ((0:Nat):Int)] w fun e w'=>e= J (C a n c)/\w'=w:=by
   obtain⟨x,cc,e,hn,r,_⟩:=Fg h;simp only[Aq]at e;obtain⟨rfl, -,rfl⟩:=e;have X:c<=9223372036854775807:=by unfold maxLen at r;omega
   clear h r
   cases a with
   | none=>
    go_enter func245,ntmps245;go_wp2
    all_goals (go_ret;exact⟨rfl,rfl⟩)
   | some x=>
    obtain⟨b,o,s⟩:=x;go_enter func245,ntmps245;go_wp2
    all_goals (go_ret;exact⟨rfl,rfl⟩)
  refine f.mono ?_;rintro e w' ⟨rfl,rfl⟩;refine⟨by simp,?_,Kept.refl _ _⟩
  simpa using h
 ·obtain⟨x,cc,e,hn,r,hx⟩:=Fg h;simp only[Aq]at e;obtain⟨rfl, -,rfl⟩:=e
  cases a with
  | none=>
   rcases h.2 with⟨h',ac⟩ | ⟨g',ab,cur,h',_⟩
   ·omega
   ·simp at h'
  | some ad=>
   obtain⟨g,rfl, -⟩:=hx ad rfl;obtain⟨A,W1,W2,ae,t,F,i,hK⟩:=Am8 underlying147 Tryz.AcN rfl (by simp[Value.cells,Value.oneCell']) h d hn r hj h0;have ag:j<=c:=by omega
   have X:c<=9223372036854775807:=by unfold maxLen at r;omega
   clear h hx d;go_enter func245,ntmps245
   go_wp2_with fail
   go_region_law (refine KJ rfl .append (.tmp 22) (.tmp 25) 147 147 rfl (C (D ⟨g,0,G⟩) 0 c) (C (D A) (n-j) (c-j)) (by simp[Act.eval,Act.put]) (by simp[Act.eval,Act.put]) (GG (t.out _ _ _ rfl)) ?_);have aj:n-(n-j)=j:=by omega
   have ai:¬(c=n-j):=by omega
   have ah:n-j<=n:=by omega
   have aa:((n-j:Nat):Int)<=(n:Int):=by omega
   have af:=F.out;go_wp2
   all_goals (go_ret;exact⟨rfl,i.out,hK.out⟩)
theorem Xq{a:Option Addr}{n:Nat}(h:w.ownsRow 0 143 4 (C a n c) n xs)(d:∀u∈xs,u.oneCell'=I)(hj:j<=n):
 Calls prog 119 #[C a n c, H L (0:Int), H L (j:Int)] w fun e w'=>e= J (C a (n-j) c)/\w'.ownsRow 0 143 4 (C a (n-j) c) (n-j) (xs.drop (j*4))/\Kept (C a n c).ownBlock.toList w w':=by
 by_cases h0:j=0
 ·subst h0;have f:Calls prog 119 #[C a n c, H L (0:Int), H L ((0:Nat):Int)] w fun e w'=>e= J (C a n c)/\w'=w:=by
   obtain⟨x,cc,e,hn,r,_⟩:=Fg h;simp only[Aq]at e;obtain⟨rfl, -,rfl⟩:=e;have X:c<=9223372036854775807:=by unfold maxLen at r;omega
   clear h r
   cases a with
   | none=>
    go_enter func119,ntmps119;go_wp2
    all_goals (go_ret;exact⟨rfl,rfl⟩)
   | some x=>
    obtain⟨b,o,s⟩:=x;go_enter func119,ntmps119;go_wp2
    all_goals (go_ret;exact⟨rfl,rfl⟩)
  refine f.mono ?_;rintro e w' ⟨rfl,rfl⟩;refine⟨by simp,?_,Kept.refl _ _⟩
  simpa using h
 ·obtain⟨x,cc,e,hn,r,hx⟩:=Fg h;simp only[Aq]at e;obtain⟨rfl, -,rfl⟩:=e
  cases a with
  | none=>
   rcases h.2 with⟨h',ac⟩ | ⟨g',ab,cur,h',_⟩
   ·omega
   ·simp at h'
  | some ad=>
   obtain⟨g,rfl, -⟩:=hx ad rfl;obtain⟨A,W1,W2,ae,t,F,i,hK⟩:=Am8 underlying136 Tryz.Ai7 rfl (by simp[Value.cells,Value.oneCell']) h d hn r hj h0;have ag:j<=c:=by omega
   have X:c<=9223372036854775807:=by unfold maxLen at r;omega
   clear h hx d;go_enter func119,ntmps119
   go_wp2_with fail
   go_region_law (refine KJ rfl .append (.tmp 22) (.tmp 25) 136 136 rfl (C (D ⟨g,0,G⟩) 0 c) (C (D A) (n-j) (c-j)) (by simp[Act.eval,Act.put]) (by simp[Act.eval,Act.put]) (GG (t.out _ _ _ rfl)) ?_);have aj:n-(n-j)=j:=by omega
   have ai:¬(c=n-j):=by omega
   have ah:n-j<=n:=by omega
   have aa:((n-j:Nat):Int)<=(n:Int):=by omega
   have af:=F.out;go_wp2
   all_goals (go_ret;exact⟨rfl,i.out,hK.out⟩)
theorem Pw(w:World){t h r:TypeId}{i:TypeInfo}(ht:P.underlying t=D (.slice e))(f:P.underlying h=D (.slice r))(hi:P.info? e=D i)(a b:Option Addr)(n c m d:Nat):(Builtin.append_ #[t,h] ty #[C a n c, C b m d]).run P w=(Builtin.append_ #[t,t] ty #[C a n c, C b m d]).run P w:=by
 simp[Builtin.append_,Av ht,Av f,sizeOf,typeInfo,hi]
theorem Tryz.AhJ:(prog.info? 146).map (·.size)=D 2:=by kernel_rfl
def Aib (w:World)(a:Option Addr)(v:Value):Prop:=∀g,v.ownBlock=D g->(∃o,a=D ⟨g,o,G⟩)\/w.heap.size<=g
def I7 (w:World)(a:Option Addr)(n':Nat)(ys:List Value)(S:List Nat):Ending->World->Prop:=fun e w'=>∃v',e= J v'/\w'.ownsRow 0 146 2 v' n' ys/\Aib w a v'/\Kept S w w'
theorem AcP{a:Option Addr}{n:Nat}{p:Int}(h:w.ownsRow 0 146 2 (C a n c) n xs)(hb:n<=4000)(hX:At w gx 146 [H L p, H L q]):
 Calls prog 210 #[C a n c, H L (n:Int), C (D ⟨gx,0,G⟩) 1 1] w (I7 w a (n+1) (xs++[H L p, H L q]) (C a n c).ownBlock.toList):=by
 obtain⟨x,cc,e,hn,hc,hx⟩:=Fg h;simp only[Aq]at e;obtain⟨rfl, -,rfl⟩:=e;obtain⟨i0,i,t,A,F⟩:=As Tryz.PS;have r:=Ec (P:=prog) w 0 141 141 146 i0 _ 2 16 underlying141 i t A F rfl (by decide) (C a n c) n xs h ⟨gx,0,G⟩ 1 1 [H L p, H L q] rfl (hX.src 0 (fun j _=>by rw[Ao])) (by intro u hu;simp at hu;rcases hu with rfl | rfl<;>rfl) (by unfold maxLen;omega) (by omega) (Af _);obtain⟨v',w',r,X,h2, -,f⟩:=r;rw[<-Pw w underlying141 underlying140 i]at r;have hL:Aib w a v':=fun g hg=>by
  rcases f with f | f
  ·rw[f]at hg
   cases a with
   | none=>simp[Value.ownBlock]at hg
   | some y=>grind
  grind
 have hR:=hid r;have d:=hid (show I7 w a (n+1) (xs++[H L p, H L q]) (C a n c).ownBlock.toList (J v') w' from⟨v',rfl,X,hL,Kept.PR h2⟩);clear h hX hx X h2 f r hL
 cases a with
 | none=>
  go_enter func210,ntmps210
  go_wp2_with(at_builtin;refine IM _ rfl .append _ _ 141 140 rfl _ _ rfl rfl (GG hR.out) ?_)
  all_goals (go_ret;exact d.out)
 | some x=>
  obtain⟨b,o,s⟩:=x;go_enter func210,ntmps210
  go_wp2_with(at_builtin;refine IM _ rfl .append _ _ 141 140 rfl _ _ rfl rfl (GG hR.out) ?_)
  all_goals (go_ret;exact d.out)
theorem At.FC{b:Nat}(h:At w b T cur):w.shape? b=D (T,cur.length):=by
 unfold At at h;simp[World.shape?,h]
theorem SD{o:Nat}(h:o+cs.length<=cur.length)(m:Nat)(a:m<=o):(splice cur o cs).take m=cur.take m:=by
 unfold splice
 grind
theorem JK{o:Nat}(h:o+cs.length<=cur.length)(t:Nat):(splice cur o cs)[t]?=if o<=t/\t<o+cs.length then cs[t-o]? else cur[t]?:=by
 unfold splice
 grind
theorem On{p:Int}:∀u∈[H L p,H L q],u.oneCell'=I:=by
 intro u a;simp at a
 rcases a with rfl | rfl<;>rfl
theorem Oz{a:Option Addr}{n:Nat}(h:w.ownsRow 0 T k (C a n c) n xs)(r:0<n):∃g,a=D ⟨g,0,G⟩:=by
 cases a with
 | none=>
  rcases h.2 with⟨_,f⟩ | ⟨i,b,cur,d,_⟩
  ·omega
  ·simp at d
 | some ad=>
  obtain⟨x,cc,e,t,s,u⟩:=Fg h
  grind
theorem XI{n i:Nat}{p:Int}(h:w.ownsRow 0 146 2 (C (D ⟨g,0,G⟩) n c) n xs)(ag:∀u∈xs,u.oneCell'=I)(hb:n<=4000)(hX:At w gx 146 [H L p, H L q])(aw:gx≠g)(hi:i<n)(al:n+1<=c):
 Calls prog 210 #[C (D ⟨g,0,G⟩) n c, H L (i:Int), C (D ⟨gx,0,G⟩) 1 1] w (I7 w (D ⟨g,0,G⟩) (n+1) (xs.take (i*2)++([H L p, H L q]++xs.drop (i*2))) [g]):=by
 obtain⟨cur,hA, -,hn,hc,s,a0,ax⟩:=F9 h;obtain⟨i0,a1,a3,a4,a5⟩:=As Tryz.PS;obtain⟨X, ab⟩ := E7 ([H L p,H L q]);have ac:X.length=2:=by rw[ab];rfl
 have ao:∀u∈X,u.oneCell'=I:=by rw[ab];exact On
 rw[<-ab]at hX ⊢;have ad:(xs.drop (i*2)).length=(n-i)*2:=by rw[AJ,ax];omega
 have aq:∀t,t<(xs.drop (i*2)).length->(xs.drop (i*2))[t]?=cur[i*2+t]?:=by grind
 obtain⟨a, d⟩ := E7 (splice cur ((i+1)*2) (xs.drop (i*2)));have ae:(i+1)*2+(xs.drop (i*2)).length<=cur.length:=by rw[ad,s];omega
 have ai:a.length=cur.length:=by rw[d];exact BG _ _ _ ae
 have af:i*2+X.length<=a.length:=by rw[ai,ac,s];omega
 obtain⟨b, f⟩ := E7 (splice a (i*2) X);have au:b.length=cur.length:=by rw[f];exact(BG _ _ _ af).trans ai
 have aa:At w.drew g 146 cur:=hA;have aj:∀ty (A B:Addr) (dl sl dc sc:Nat),A=⟨g,(i+1)*2,G⟩->B=⟨g,i*2,G⟩->dl=n-i->sl=n+1-i->(Builtin.copy_ #[141,141] ty #[C (D A) dl dc, C (D B) sl sc]).run prog w.drew=.ok (goInt ((n-i:Nat):Int)) (w.drew.setRow g a.toArray):=by
  rintro ty A B dl sl dc sc rfl rfl rfl rfl;have x:Nat.min (n+1-i) (n-i)=n-i:=Dv (by omega);have:=Li (P:=prog) w.drew 141 141 ty 146 146 2 g ((i+1)*2) (n-i) dc ⟨g,i*2,G⟩ (n+1-i) sc cur (xs.drop (i*2)) underlying141 Tryz.AhJ aa (by rw[x,ad]) (aa.src _ aq) ae (fun v hv=>ag v (BQ hv))
  grind
 have ah:At (w.drew.setRow g a.toArray) g 146 a:=aa.set;have ap:At (w.drew.setRow g a.toArray) gx 146 X:=At.other (w:=w.drew) hX aw _;obtain⟨W1, r⟩ := E7 (w.drew.setRow g a.toArray);have ak:∀ty (A:Addr) (dl dc:Nat),A=⟨g,i*2,G⟩->dl=n+1-i->(Builtin.copy_ #[141,140] ty #[C (D A) dl dc, C (D ⟨gx,0,G⟩) 1 1]).run prog W1=.ok (goInt 1) (W1.setRow g b.toArray):=by
  rintro ty A dl dc rfl rfl;rw[r];have x:Nat.min 1 (n+1-i)=1:=B8 (by omega);have:=Li (P:=prog) _ 141 140 ty 146 146 2 g (i*2) (n+1-i) dc ⟨gx,0,G⟩ 1 1 a X underlying141 Tryz.AhJ ah (by rw[x,ac]) (ap.src 0 (fun j _=>by rw[Ao])) af ao
  grind
 have a2:∀lb cb,(callFunc 211 #[C (D ⟨gx,0,G⟩) 1 1, C (D ⟨g,(i+1)*2,G⟩) lb cb]).run prog w=.ok (.value (.bool false)) w:=fun lb cb=>by
  rw[run_callFunc_extern func211 (by kernel_rfl) (by kernel_rfl) (by kernel_rfl) (e:=Extern.SlicesOverlaps.overlaps #[140,140] #[4]) (by kernel_rfl),
   Lib.run_overlaps_apart w 140 4 146 underlying140 2 sizeOf146 ⟨gx,0,G⟩ ⟨g,(i+1)*2,G⟩ 1 1 lb cb aw _ _ _ _ hX.FC hA.FC (by rw[s];omega) (hX.free 0) (hX.free _)]
  rfl
 have hk:Kept [g] w (W1.setRow g b.toArray):=by
  rw[r];exact((Kept.refl _ w).drew.trans (FO _ g _)).trans (FO _ g _)
 have F:(W1.setRow g b.toArray).ownsRow 0 146 2 (C (D ⟨g,0,G⟩) (n+1) c) (n+1) (xs.take (i*2)++(X++xs.drop (i*2))):=by
  have av:(xs.take (i*2)++(X++xs.drop (i*2))).length=(n+1)*2:=by
   grind
  refine At.row (T:=146) (cur:=b) (by rw[r];exact ah.set) av al hc (by rw[au,s]) ?_;refine Bf fun t=>?_
  by_cases ht:t<(n+1)*2
  ·rw[A3 ht,f,JK af,d,JK ae,ac,ad]
   grind
  grind
 rw[<-r]at aj;have ay:=hid aj;obtain⟨W2, an⟩ := E7 (W1.setRow g b.toArray);rw[<-an]at ak F hk;have az:=hid ak;have am:=hid (show I7 w (D ⟨g,0,G⟩) (n+1) (xs.take (i*2)++(X++xs.drop (i*2))) [g] (J (C (D ⟨g,0,G⟩) (n+1) c)) W2 from⟨_,rfl,F,fun g' ar=>by simp[Value.ownBlock]at ar;subst ar;exact .inl ⟨0,rfl⟩,hk⟩);have a4:¬((i:Int)=(n:Int)):=by omega
 have bb:¬(c=i):=by omega
 have a6:¬(c=i+1):=by omega
 have bc:¬((c:Int)<(n:Int)+1):=by omega
 have be:IntKind.i64.wrap ((i:Int)+1)=(i:Int)+1:=by rw[AO];omega
 have a8:(0:Int)<=(i:Int)+1:=by omega
 have bd:((i:Int)+1).toNat=i+1:=by omega
 have a9:(i:Int)+1<=(n:Int)+1:=by omega
 have ba:(i:Int)<=(n:Int)+1:=by omega
 clear h hX ag hA aa ah ap aj ak hk F d f ai au ae af ad aq s a0 ax ab ac ao r an a1 a3 a5;go_enter func210,ntmps210
 go_wp2_with(simp only[a2])
 go_region_law (refine KJ rfl .copy _ _ 141 141 rfl (C (D ⟨g,(i+1)*2,G⟩) (n-i) (c-(i+1))) (C (D ⟨g,i*2,G⟩) (n+1-i) (c-i)) (by simp[Act.eval,Act.put]) (by simp[Act.eval,Act.put]) (W8 (ay.out _ _ _ _ _ _ _ rfl rfl rfl rfl)) ?_);have a7:∀ty,(Builtin.copy_ #[141,140] ty #[C (D ⟨g,i*2,G⟩) (n+1-i) (c-i), C (D ⟨gx,0,G⟩) 1 1]).run prog W1=.ok (goInt 1) W2:=fun ty=>az.out _ _ _ _ rfl rfl
 go_wp2
 all_goals (go_ret;exact am.out)
end Go.Proofs.YtbjgfoiikhbonahGreatDoor
