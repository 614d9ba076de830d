import Derived.Test.YtbjgfoiikhbonahGreatDoorD01
import Derived.BigRegion
import Derived.Deep.Cut
import Derived.Maps.AppendAt
import Derived.Lib.Overlaps
import Derived.Laws.Externs
import Derived.Lib.AppendZerosOnto
set_option linter.unusedVariables false
set_option linter.unusedSimpArgs false
set_option maxRecDepth 100000
set_option maxHeartbeats 4000000
namespace Go.Proofs.YtbjgfoiikhbonahGreatDoor
open Go.ChangeShapes Go.WideShapes Go.ChangeAt Go.RowKit Go.Proofs.Tryz
open Value (int slice)
open IntKind (i64)
variable {B bytes c e g gx hi i j k lo m size x y:Nat}{E:Prop}{K:Act->World->Prop}{P:Program}{Q:Exit->Act->World->Prop}{S:List Nat}{T ty:TypeId}{W w w':World}{args:Array Value}{cs cur news xs:List Value}{i0:TypeInfo}{o:Oper}{ops:Array Oper}{p q:Int}{rest:List Oper}{ts:Array TypeId}{v v' z:Value}
def Kk (p:Nat->Bool)(lo:Nat):Nat->Nat
 | 0=>lo
 | n+1=>if p lo=true then lo else Kk p (lo+1) n
def Fv (p:Nat->Bool)(lo hi:Nat):Nat:=Kk p lo (hi-lo)
theorem Af1(p:Nat->Bool)(n:Nat):∀lo,lo<=Kk p lo n:=by
 induction n with
 | zero=>intro lo;exact Ac _
 | succ n ih=>
  grind [Kk]
theorem Af2(p:Nat->Bool)(n:Nat):∀lo,Kk p lo n<=lo+n:=by
 induction n with
 | zero=>intro lo;exact Ac _
 | succ n ih=>
  grind [Kk]
theorem Acw(p:Nat->Bool)(n:Nat):∀lo k,lo<=k->k<Kk p lo n->p k=false:=by
 induction n with
 | zero=>intro lo k b a;unfold Kk at a;omega
 | succ n ih=>
  grind [Kk]
theorem Af0(p:Nat->Bool)(n:Nat):∀lo,Kk p lo n<lo+n->p (Kk p lo n)=true:=by
 induction n with
 | zero=>intro lo h;unfold Kk at h;omega
 | succ n ih=>
  grind [Kk]
theorem PN(p:Nat->Bool)(lo hi:Nat):lo<=Fv p lo hi:=Af1 p _ lo
theorem Nb(p:Nat->Bool)(h:lo<=hi):Fv p lo hi<=hi:=by
 have:=Af2 p (hi-lo) lo;unfold Fv;omega
theorem L9{p:Nat->Bool}(a:lo<=k)(b:k<Fv p lo hi):p k=false:=Acw p _ lo k a b
theorem TF{p:Nat->Bool}(h:Fv p lo hi<hi):p (Fv p lo hi)=true:=by grind [Fv,PN,Af0]
theorem Ge{p:Nat->Bool}(a:lo<=k)(b:k<=hi)(f:∀j,lo<=j->j<k->p j=false)(d:k<hi->p k=true):Fv p lo hi=k:=by grind [Fv,PN,Nb,TF,L9]
theorem Acv{p:Nat->Bool}(a:lo<=k)(b:p k=true):Fv p lo hi<=k:=by grind [Fv,L9]
theorem IQ{p:Nat->Bool}(h:lo<=hi)(a:∀k,lo<=k->k<hi->p k=false):Fv p lo hi=hi:=
 Ge h (Ac _) a (fun h=>absurd h (Bp _))
structure PieceM where
 num:Int
 frm:Int
 last:Bool
 data:ByteArray
def PieceM.zero:PieceM:=⟨0,0,false,ByteArray.empty⟩
structure GapM where
 num:Int
 frm:Int
 til:Int
structure ReportM where
 next:Int
 miss:List GapM
structure OutM where
 win:Nat
 text:List ByteArray
 mark:Nat->Nat->Nat
 done:Nat->Bool
 beg:Nat
def OutM.new(win:Nat):OutM:=⟨win,[],fun _ _=>0,fun _=>false,0⟩
def OutM.n(m:OutM):Nat:=m.text.length
def OutM.t(m:OutM)(u:Nat):ByteArray:=m.text.getD u ByteArray.empty
def OutM.sz(m:OutM)(u:Nat):Nat:=(m.t u).size
def OutM.wait(m:OutM):Nat:=((List.range m.n).filter fun u=>!m.done u).length
structure OutS where
 m:OutM
 err:Int
def OutM.KW(m:OutM)(s:ByteArray):OutS:=
 if s.size=0 then ⟨m,1⟩ else if 1500<s.size then ⟨m,2⟩ else if 64<=m.wait then ⟨m,7⟩ else ⟨{m with text:=m.text++[s]},0⟩
def OutM.hit(m:OutM)(k u:Nat):Nat:=Fv (fun i=>m.mark u i==k) 0 (m.sz u)
def OutM.can(m:OutM)(k u:Nat):Bool:=decide (m.hit k u<m.sz u) && (k==2 || !m.done u)
def OutM.Xu(m:OutM)(k:Nat):Nat:=if k=2 then m.n else min m.n (m.beg+m.win)
def OutM.who(m:OutM)(k:Nat):Nat:=Fv (m.can k) m.beg (m.Xu k)
def OutM.cut(m:OutM)(k u size:Nat):Nat:=Fv (fun i=>m.mark u i !=k) (m.hit k u) (min (m.sz u) (m.hit k u+size))
def OutM.sent(m:OutM)(u a b:Nat):OutM:={m with mark:=fun v i=>if v=u/\a<=i/\i<b then 1 else m.mark v i}
def OutM.AjU(m:OutM)(u a b:Nat):PieceM:=⟨((u % 64:Nat):Int),a,decide (b=m.sz u),(m.t u).extract a b⟩
structure OutP where
 m:OutM
 p:PieceM
 err:Int
def OutM.Mw(m:OutM)(k u size:Nat):OutP:=⟨m.sent u (m.hit k u) (m.cut k u size),m.AjU u (m.hit k u) (m.cut k u size),0⟩
def OutM.next(m:OutM)(size:Int):OutP:=
 if size<1\/1500<size then ⟨m,.zero,1⟩ else if m.who 2<m.Xu 2 then m.Mw 2 (m.who 2) size.toNat else if m.who 0<m.Xu 0 then m.Mw 0 (m.who 0) size.toNat else ⟨m,.zero,6⟩
def E9 (num:Int)(beg:Nat):Nat:=((num-((beg % 64:Nat):Int)) % 64).toNat
def OutM.Ys(m:OutM)(d:Nat):Bool:=(List.range d).all fun i=>decide (m.beg+i<m.n) && (m.mark (m.beg+i) 0 !=0)
def OutM.TH(m:OutM)(d:Nat)(g:GapM):Bool:=
 decide (0<=g.num/\g.num<=63) && (decide (E9 g.num m.beg<d) && decide (0<=g.frm/\g.frm<m.sz (m.beg+E9 g.num m.beg)/\g.til<=m.sz (m.beg+E9 g.num m.beg)/\(g.til<0\/g.frm<g.til)))
def GapM.of(beg:Nat)(u:Nat)(g:GapM):Bool:=beg+E9 g.num beg==u
def GapM.at(g:GapM)(i:Nat):Bool:=decide (g.frm<=i/\(g.til<0\/(i:Int)<g.til))
def XE (beg:Nat)(gs:List GapM)(u:Nat):Bool:=gs.any fun g=>g.of beg u
def ZN (beg:Nat)(gs:List GapM)(u i:Nat):Bool:=gs.any fun g=>g.of beg u && g.at i
def OutM.Wg(m:OutM)(d:Nat)(gs:List GapM)(u i:Nat):Nat:=
 if u<m.beg then m.mark u i
 else if u<m.beg+d then
  if XE m.beg gs u=true then (if ZN m.beg gs u i=true/\m.mark u i=1/\m.done u=false then 2 else m.mark u i)
  else (if m.mark u i=2 then 1 else m.mark u i)
 else (if m.mark u i=1/\m.done u=false then 2 else m.mark u i)
def OutM.N9(m:OutM)(d:Nat)(gs:List GapM)(u:Nat):Bool:=m.done u || (decide (m.beg<=u/\u<m.beg+d) && !XE m.beg gs u)
def OutM.taken(m:OutM)(d:Nat)(gs:List GapM):OutM:=
 ⟨m.win,m.text,m.Wg d gs,m.N9 d gs,Fv (fun u=>!m.N9 d gs u) m.beg m.n⟩
def OutM.take(m:OutM)(r:ReportM):OutS:=
 if r.next<0\/63<r.next then ⟨m,3⟩ else if m.Ys (E9 r.next m.beg)=false then ⟨m,3⟩ else if r.miss.all (m.TH (E9 r.next m.beg))=false then ⟨m,3⟩ else ⟨m.taken (E9 r.next m.beg) r.miss,0⟩
structure InM where
 win:Nat
 fst:Nat
 hi:Nat
 got:Nat->Nat->Option UInt8
 len:Nat->Option Nat
 fin:Nat->Nat
def InM.new(win:Nat):InM:=⟨win,0,0,fun _ _=>none,fun _=>none,fun _=>0⟩
def PieceM.bad(p:PieceM):Bool:=decide (p.num<0\/63<p.num\/p.frm<0\/1500<p.frm\/1500<p.frm+p.data.size\/p.data.size=0)
def PieceM.a(p:PieceM):Nat:=p.frm.toNat
def PieceM.b(p:PieceM):Nat:=p.frm.toNat+p.data.size
def InM.J9(r:InM)(u:Nat)(p:PieceM):Bool:=
 (match r.len u with
  | none=>false
  | some n=>(p.last && n !=p.b) || decide (n<p.b)) || (p.last && decide (p.b<r.fin u))
def InM.put(r:InM)(u:Nat)(p:PieceM):InM:=
 ⟨r.win,r.fst,max r.hi (u+1),fun v i=>if v=u/\p.a<=i/\i<p.b/\r.got v i=none then some (p.data.get! (i-p.a)) else r.got v i,
  fun v=>if v=u/\p.last=true then some p.b else r.len v,fun v=>if v=u then max (r.fin u) p.b else r.fin v⟩
def InM.whole(r:InM)(u:Nat):Bool:=
 match r.len u with
 | none=>false
 | some n=>Fv (fun i=>(r.got u i).isNone) 0 n==n
def InM.RP(r:InM)(u:Nat):ByteArray:=⟨((List.range ((r.len u).getD 0)).map fun i=>(r.got u i).getD 0).toArray⟩
def InM.upto(r:InM):Nat:=Fv (fun u=>!r.whole u) r.fst (max r.fst r.hi)
structure InS where
 m:InM
 out:List ByteArray
 err:Int
def InM.Ad2(r:InM):InS:=⟨{r with fst:=r.upto},(List.range (r.upto-r.fst)).map fun i=>r.RP (r.fst+i),0⟩
def InM.take(r:InM)(p:PieceM):InS:=
 if p.bad=true then ⟨r,[],3⟩ else if r.win<=E9 p.num r.fst then ⟨r,[],8⟩ else if r.J9 (r.fst+E9 p.num r.fst) p=true then ⟨r,[],3⟩ else (r.put (r.fst+E9 p.num r.fst) p).Ad2
def MS (p:Nat->Bool)(e:Nat):Nat->Nat->List (Nat×Nat)
 | 0,_=>[]
 | f+1,i=>if Fv p i e<e then (Fv p i e,Fv (fun k=>!p k) (Fv p i e) e)::MS p e f (Fv (fun k=>!p k) (Fv p i e) e) else []
def InM.ends(r:InM)(u:Nat):Nat:=(r.len u).getD (r.fin u)
def InM.NR(r:InM)(u:Nat):List GapM:=
 ((MS (fun i=>(r.got u i).isNone) (r.ends u) (r.ends u+1) 0).map fun q=>(⟨((u % 64:Nat):Int),q.1,q.2⟩:GapM))++(match r.len u with
  | none=>[⟨((u % 64:Nat):Int),r.ends u, -1⟩]
  | some _=>[])
def InM.nxt(r:InM):Nat:=max r.fst r.hi
def InM.Fx(r:InM):ReportM:=⟨((r.nxt % 64:Nat):Int),(List.range (r.nxt-r.fst)).flatMap fun i=>r.NR (r.fst+i)⟩
def PieceM.cells(p:PieceM):List Value:=[int i64 p.num,int i64 p.frm,.bool p.last,.string p.data]
def PieceM.val(p:PieceM):Value:=.agg #[int i64 p.num,int i64 p.frm,.bool p.last,.string p.data]
def GapM.cells(g:GapM):List Value:=[int i64 g.num,int i64 g.frm,int i64 g.til]
def GapM.zero:GapM:=⟨0,0,0⟩
def Txs (w:World)(a:Option Addr)(l:List ByteArray):Prop:=l≠[]->∃b o,a=some ⟨b,o,none⟩/\∀i,i<l.length->w.cell? ⟨b,o+i,none⟩=some (.string (l.getD i ByteArray.empty))
theorem Txs.at{w:World}{a:Option Addr}{l:List ByteArray}(h:Txs w a l){i:Nat}(hi:i<l.length):∃b o,a=some ⟨b,o,none⟩/\∀i,i<l.length->w.cell? ⟨b,o+i,none⟩=some (.string (l.getD i ByteArray.empty)):=h (by rintro rfl;simp at hi)
def Gps (w:World)(a:Option Addr)(l:List GapM):Prop:=l≠[]->∃b o,a=some ⟨b,o,none⟩/\∀i,i<l.length->w.cell? ⟨b,o+i*3,none⟩=some (int i64 (l.getD i .zero).num)/\w.cell? ⟨b,o+i*3+1,none⟩=some (int i64 (l.getD i .zero).frm)/\w.cell? ⟨b,o+i*3+2,none⟩=some (int i64 (l.getD i .zero).til)
def Aen (n:Nat)(a:Option Addr):Prop:=∀x,a=some x->n<=x.block
def Qh (F:List Nat)(a:Option Addr):Prop:=∀x,a=some x->x.block∉F
def Ga (n:Nat)(F F':List Nat):Prop:=∀x∈F',x∈F\/n<=x
theorem E8(b:Kept S w w'){a:Addr}(h:w.cell? a=some v)(d:a.block∉S):w'.cell? a=some v:=(AF (b.block a.block (Aj w a h) d)).trans h
theorem Txs.kept{a:Option Addr}{l:List ByteArray}(h:Txs w a l)(b:Kept S w w')(d:Qh S a):Txs w' a l:=by grind [Txs,Qh,E8]
theorem Gps.kept{a:Option Addr}{l:List GapM}(h:Gps w a l)(b:Kept S w w')(d:Qh S a):Gps w' a l:=by grind [Gps,Qh,E8]
def Wf:Nat:=140737488355328
theorem Ty{s:ByteArray}(h:s.size≠0):s.toList.isEmpty=false:=by
 rw[Cc]
 cases a:s.data.toList with
 | nil=>
  have e:s.data.toList.length=s.size:=by rw[AH];rfl
  rw[a]at e;simp at e;omega
 | cons x l=>rfl
theorem FY{n:Nat}(h:w.ownsRow B T k v n xs)(t:Kept S w w')(u:∀g,v.ownBlock=some g->g∉S):w'.ownsRow B T k v n xs:=by
 refine⟨h.1,?_⟩
 rcases h.2 with f | ⟨g,a,cur,d,l,r,s⟩
 ·exact .inl f
 ·have b:g<w.heap.size:=by grind
  exact .inr ⟨g,a,cur,d,l,(t.block g b (u g (by rw[d];rfl))).trans r,s⟩
theorem Kept.PR{row:Option Nat}(h:w.grownBy w' row):Kept row.toList w w':=⟨h.os,h.tape,h.output,h.size,fun k a b=>h.block k a (fun e=>b (by rw[<-e];simp))⟩
theorem AdT{a:Act}{n:Nat}{t e:TypeId}(B g:Nat)(ht:prog.underlying t=some (.slice e))(hi:prog.info? e=some i0)(L:i0.zero=some z)(l:i0.size=size)(d:i0.bytes=bytes)(r:z.cells.size=size)(A:0<size)
 (b:W.ownsRow B e size v n xs) (f:o.guard=none) (s x:Operand) (H:o.op=.call {callee:=.builtin .append,args:=#[s,x],argTypes:=#[t,t]}) (hs:a.eval s=v) (hx:a.eval x=slice (some ⟨g,0,none⟩) 1 1) (hl:news.length=1*size) (hc:∀(k:Nat) u,news[k]?=some u->W.cell? ⟨g,k,none⟩=some u) (h1:∀u∈news,u.oneCell'=true) (h63:n+1<=maxLen) (hlen:(n+1)*bytes<=140737488355328) (hB:B<=W.heap.size)
 (h:∀v' w',w'.ownsRow B e size v' (n+1) (xs++news)->W.grownBy w' v.ownBlock->(v'.ownBlock=v.ownBlock\/v'.ownBlock=some W.heap.size)->K (a.put o.dst v') w'):if Region.wanted o (yielded ops a.tmps)=true then Oper.wp prog o a W K Q else E:=by
 have J:Region.wanted o (yielded ops a.tmps)=true:=by simp[Region.wanted,f]
 rw[Ab J];obtain⟨v',w',I,C,D,_,F⟩:=Ec (P:=prog) (w:=W) B t o.type e i0 z size bytes ht hi L l d r A v n xs b ⟨g,0,none⟩ 1 1 news hl (fun j u G=>by rw[BT,Ao];exact hc j u G) h1 h63 hlen hB;unfold Oper.wp execOp;simp only[H,resolve,invoke,builtin,BN,Cv,B7,Ca,Be,BE,hs,hx,I];exact h v' w' C D F
theorem I3{a:Act}{n:Nat}{t e:TypeId}(B g:Nat)(ht:prog.underlying t=some (.slice e))(hi:prog.info? e=some i0)(I:i0.zero=some z)(l:i0.size=size)(d:i0.bytes=bytes)(r:z.cells.size=size)(A:0<size)
 (b:W.ownsRow B e size v n xs) (f:o.guard=none) (s x:Operand) (H:o.op=.call {callee:=.builtin .append,args:=#[s,x],argTypes:=#[t,t]}) (hs:a.eval s=v) (hx:a.eval x=slice (some ⟨g,0,none⟩) 1 1) (hl:news.length=1*size) (hc:∀(k:Nat) u,news[k]?=some u->W.cell? ⟨g,k,none⟩=some u) (h1:∀u∈news,u.oneCell'=true) (h63:n+1<=maxLen) (hlen:(n+1)*bytes<=140737488355328) (hB:B<=W.heap.size)
 (h:∀v' w',w'.ownsRow B e size v' (n+1) (xs++news)->W.grownBy w' v.ownBlock->(v'.ownBlock=v.ownBlock\/v'.ownBlock=some W.heap.size)->wpList prog ops Q rest (a.put o.dst v') w'):wpList prog ops Q (o::rest) a W:=
 wpList_append_own_at W f s x t H B e i0 z size bytes ht hi I l d r A v n xs hs b ⟨g,0,none⟩ 1 1 news hx hl (fun j u G=>by rw[BT,Ao];exact hc j u G) h1 h63 hlen hB (fun v' w' C D _ F=>h v' w' C D F)
theorem Fg{n:Nat}(h:w.ownsRow B T k v n xs):∃a c,v=slice a n c/\n<=c/\c<=maxLen/\(∀x,a=some x->∃g,x=⟨g,0,none⟩/\v.ownBlock=some g):=by
 rcases h.2 with⟨rfl,rfl⟩ | ⟨g,b,cur,rfl,_,_,d,f,_⟩
 ·grind
 ·exact⟨_,b,rfl,d,f,fun x e=>⟨g,(AX e).symm,rfl⟩⟩
theorem Amd{n:Nat}{a:Option Addr}{l:List ByteArray}(h:w.ownsRow B T 1 (slice a n c) l.length (l.map Value.string)):Txs w a l:=by
 intro r
 rcases h.2 with⟨b,s⟩ | ⟨g,f,cur,b,_,hg,_,_,_,ht⟩
 ·grind
 ·simp only[Aq]at b;obtain⟨rfl,_,_⟩:=b;refine⟨g,0,rfl,fun i hi=>?_⟩;have d:cur[i]?=(l.map Value.string)[i]?:=by
   grind
  rw[Ao,Al _ _ _ _ _ _ hg,d];simp[List.getD,hi]
theorem Tryz.Rr:(prog.info? 9).map (fun i=>(i.zero,i.size,i.bytes))=some (some (.string {data:=#[]}),1,16):=by kernel_rfl
def At (w:World)(b:Nat)(T:TypeId)(cur:List Value):Prop:=w.heap[b]?=some (.cells cur.toArray T (0,0))
theorem At.lt{b:Nat}(h:At w b T cur):b<w.heap.size:=(Array.getElem?_eq_some_iff.1 h).1
theorem At.set{b:Nat}{new:List Value}(h:At w b T cur):At (w.setRow b new.toArray) b T new:=Cn w b _ _ T _ h
theorem At.other{b:Nat}(h:At w b T cur)(a:b≠g)(x:Array Value):At (w.setRow g x) b T cur:=(Cl w g b x a).trans h
theorem At.kept{b:Nat}(h:At w b T cur)(a:Kept S w w')(d:b∉S):At w' b T cur:=(a.block b h.lt d).trans h
theorem At.cell{b:Nat}(h:At w b T cur)(j:Nat):w.cell? ⟨b,j,none⟩=cur[j]?:=by
 rw[Al _ _ _ _ _ _ h];simp
theorem At.free{b:Nat}(h:At w b T cur)(j:Nat):w.frozen? ⟨b,j,none⟩=false:=Bz w b j _ T h
theorem At.src{b:Nat}(h:At w b T cur)(o:Nat)(d:∀j,j<cs.length->cs[j]?=cur[o+j]?):∀j v,cs[j]?=some v->w.cell? ((⟨b,o,none⟩:Addr).add j)=some v:=fun j v a=>by
 have f:=(List.getElem?_eq_some_iff.1 a).1;rw[BT,h.cell,<-d j f,a]
theorem FO(w:World)(b:Nat)(x:Array Value):Kept [b] w (w.setRow b x):=⟨rfl,rfl,rfl,by simp[World.setRow],fun k _ a=>Cl w b k x (by simpa using a)⟩
theorem At.row{n:Nat}(h:At w g T cur)(b:xs.length=n*k)(d:n<=c)(a:c<=maxLen)(f:cur.length=c*k)(ht:cur.take (n*k)=xs):w.ownsRow 0 T k (slice (some ⟨g,0,none⟩) n c) n xs:=
 ⟨b,.inr ⟨g,c,cur.toArray,rfl,Af _,h,d,a,by simpa using f,by simpa using ht⟩⟩
theorem F9{n:Nat}(h:w.ownsRow B T k (slice (some ⟨g,0,none⟩) m c) n xs):∃cur,At w g T cur/\m=n/\n<=c/\c<=maxLen/\cur.length=c*k/\cur.take (n*k)=xs/\xs.length=n*k:=by
 rcases h.2 with⟨a,_⟩ | ⟨s,b,cur,a,_,hg,d,f,l,r⟩
 ·simp at a
 ·simp only[Aq,Bl,BI]at a;obtain⟨⟨rfl, -, -⟩,rfl,rfl⟩:=a;refine⟨cur.toList,?_,rfl,d,f,by simpa using l,r,h.1⟩;unfold At;rw[ES];exact hg
theorem O6{n:Nat}{a:Option Addr}(h:w.ownsRow B T k (slice a m c) n xs):m=n:=by
 rcases h.2 with⟨d,l⟩ | ⟨f,b,cur,d,_,hg,r,s,t,u⟩
 ·grind
 grind
theorem Li(w:World)(u H ty d tb:TypeId)(k g o b h:Nat)(a:Addr)(f s:Nat)(cur cs:List Value)
 (G:P.underlying u=some (.slice d)) (A:(P.info? d).map (·.size)=some k)
 (hg:At w g tb cur) (F:cs.length=Nat.min f b*k)
 (n:∀j v,cs[j]?=some v->w.cell? (a.add j)=some v) (l:o+cs.length<=cur.length) (C:∀v∈cs,v.oneCell'=true):
 (Builtin.copy_ #[u,H] ty #[slice (some ⟨g,o,none⟩) b h,slice (some a) f s]).run P w=
  .ok (goInt (Nat.min f b)) (w.setRow g (splice cur o cs).toArray):=by
 have D:=run_loadCells_list (P:=P) w a cs n;have r:=CU P g o tb cs 0 cur.toArray w hg (by simpa using l) C
 cases t:P.info? d with
 | none=>simp[t]at A
 | some i=>
  have hi:i.size=k:=by simpa [t]using A
  simp only[Bh]at r;simp[Builtin.copy_,Av G,Builtin.lenOf,Builtin.firstCells,sizeOf,typeInfo,t,hi,<-F,D,r,splice]
theorem Nt(w:World)(t e ty tb:TypeId)(i:TypeInfo)(z:Value)(ht:P.underlying t=some (.slice e))(hi:P.info? e=some i)(h:i.zero=some z)(g o n c:Nat)(cur:List Value)(hg:At w g tb cur)(l:0<n)
 (a:o+n*z.cells.size<=cur.length) (d:∀v∈(Builtin.zeroCells z.cells n).toList,v.oneCell'=true):
 (Builtin.clear_ #[t] ty #[slice (some ⟨g,o,none⟩) n c]).run P w=.ok (.tuple #[]) (w.setRow g (splice cur o (Builtin.zeroCells z.cells n).toList).toArray):=by
 have f:(Builtin.zeroCells z.cells n).toList.length=n*z.cells.size:=by rw[AH,Cj]
 have b:=CU P g o tb (Builtin.zeroCells z.cells n).toList 0 cur.toArray w hg (by rw[f];simpa using a) d;simp only[Bh]at b;obtain⟨m,rfl⟩:∃m,n=m+1:=⟨n-1,by omega⟩;simp[Builtin.clear_,Av ht,zeroValue,typeInfo,hi,h,b,splice]
theorem LC(w:World)(t e ty:TypeId)(ht:P.underlying t=some (.slice e))(a:Option Addr)(c:Nat):(Builtin.clear_ #[t] ty #[slice a 0 c]).run P w=.ok (.tuple #[]) w:=by
 cases a<;>simp[Builtin.clear_,Av ht]
theorem GG(h:(Builtin.append_ ts ty args).run P w=.ok v w'):∀cs,(builtin .append ts ty cs args).run P w=.ok (.value v) w':=fun cs=>by simp[builtin,h]
theorem W8(h:(Builtin.copy_ ts ty args).run P w=.ok v w'):∀cs,(builtin .copy ts ty cs args).run P w=.ok (.value v) w':=fun cs=>by simp[builtin,h]
theorem OJ{z:Array Value}{n:Nat}(h:v∈(Builtin.zeroCells z n).toList):v∈z:=by
 simp only[Builtin.zeroCells,Array.toList_map,Bb]at h;obtain⟨i,hi,rfl⟩:=h;have b:i<n*z.size:=by simpa using hi
 have a:0<z.size:=by
  grind
 have d:=AZ i a
 grind
theorem IM(w:World){a:Act}(b:o.guard=none)(d:Builtin)(s x:Operand)(t f:TypeId)
 (n:o.op=.call {callee:=.builtin d,args:=#[s,x],argTypes:=#[t,f]}) (vs vx:Value) (hs:a.eval s=vs) (hx:a.eval x=vx)
 (hr:∀cs,(builtin d #[t,f] o.type cs #[vs,vx]).run P w=.ok (.value v') w') (h:wpList P ops Q rest (a.put o.dst v') w'):wpList P ops Q (o::rest) a w:=by
 refine CM b fun K l=>?_
 unfold Oper.wp execOp;simp only[n,resolve,invoke,BN,Cv,B7,Ca,Be,BE,hs,hx,hr];exact l _ _ h
theorem KJ{a:Act}(b:o.guard=none)(d:Builtin)(s x:Operand)(t f:TypeId)
 (l:o.op=.call {callee:=.builtin d,args:=#[s,x],argTypes:=#[t,f]}) (vs vx:Value) (hs:a.eval s=vs) (hx:a.eval x=vx)
 (hr:∀cs,(builtin d #[t,f] o.type cs #[vs,vx]).run P w=.ok (.value v') w') (h:K (a.put o.dst v') w'):if Region.wanted o (yielded ops a.tmps)=true then Oper.wp P o a w K Q else E:=by
 have n:Region.wanted o (yielded ops a.tmps)=true:=by simp[Region.wanted,b]
 rw[Ab n];unfold Oper.wp execOp;simp only[l,resolve,invoke,BN,Cv,B7,Ca,Be,BE,hs,hx,hr];exact h
theorem Tryz.PS:(prog.info? 146).map (fun i=>(i.zero,i.size,i.bytes))=some (some (.agg #[int i64 0,int i64 0]),2,16):=by kernel_rfl
theorem Tryz.AcN:(prog.info? 151).map (fun i=>(i.zero,i.size,i.bytes))=some (some (.agg #[slice none 0 0,slice none 0 0,int i64 0]),3,56):=by kernel_rfl
theorem Tryz.Ai7:(prog.info? 143).map (fun i=>(i.zero,i.size,i.bytes))=some (some (.agg #[.string {data:=#[]},int i64 0,slice none 0 0,.bool false]),4,56):=by kernel_rfl
theorem Am8{S:TypeId}{K n b:Nat}(hU:prog.underlying S=some (.slice T))(hI:(prog.info? T).map (fun i=>(i.zero,i.size,i.bytes))=some (some z,K,b))(J:z.cells.size=K)(ad:∀v∈z.cells,v.oneCell'=true)(h:w.ownsRow 0 T K (slice (some ⟨g,0,none⟩) n c) n xs)(ae:∀u∈xs,u.oneCell'=true)(hn:n<=c)(hc:c<=maxLen)(hj:j<=n)(h0:j≠0):
 ∃A W1 W2,(if c=j then some (⟨g,0,none⟩:Addr) else some ⟨g,j*K,none⟩)=some A/\Hid (∀ty m c',m=n-j->(Builtin.append_ #[S,S] ty #[slice (some ⟨g,0,none⟩) 0 c,slice (some A) m c']).run prog w.drew=.ok (slice (some ⟨g,0,none⟩) (n-j) c) W1)/\Hid (∀ty,(Builtin.clear_ #[S] ty #[slice (some ⟨g,(n-j)*K,none⟩) j (c-(n-j))]).run prog W1=.ok (.tuple #[]) W2)/\Hid (W2.ownsRow 0 T K (slice (some ⟨g,0,none⟩) (n-j) c) (n-j) (xs.drop (j*K)))/\Hid (Kept [g] w W2):=by
 obtain⟨cur,M, -, -, -,F,ag,aa⟩:=F9 h;obtain⟨i0,G,ab,ac,ai⟩:=As hI;obtain⟨news,s⟩:=E7 (xs.drop (j*K));have r:news.length=(n-j)*K:=by rw[s,AJ,aa,<-Nat.sub_mul]
 have af:(n-j)*K+j*K=n*K:=by rw[<-CD,Nat.sub_add_cancel hj]
 have R:∀t,t<news.length->news[t]?=cur[j*K+t]?:=by grind
 have L:∀u∈news,u.oneCell'=true:=by
  grind
 have ah:n*K<=cur.length:=by rw[F];exact BM _ hn
 obtain⟨A,O,I⟩:∃A:Addr,(if c=j then some (⟨g,0,none⟩:Addr) else some ⟨g,j*K,none⟩)=some A/\Hid (∀t u,news[t]?=some u->w.drew.cell? (A.add t)=some u):=by
  by_cases e:c=j
  ·refine⟨⟨g,0,none⟩,by simp[e],fun t u hu=>?_⟩
   grind
  ·exact⟨⟨g,j*K,none⟩,by simp[e],(show At w.drew g T cur from M).src _ R⟩
 have U:((Builtin.zeroCells z.cells j).toList).length=j*K:=by rw[AH,Cj,J]
 obtain⟨a,f⟩:=E7 (splice cur 0 news);have C:a.length=cur.length:=by rw[f];exact BG _ _ _ (by rw[r];omega)
 obtain⟨d,l⟩:=E7 (splice a ((n-j)*K) (Builtin.zeroCells z.cells j).toList);have V:d.length=cur.length:=by rw[l];exact(BG _ _ _ (by rw[U,C];omega)).trans C
 have X:∀ty m c',m=n-j->(Builtin.append_ #[S,S] ty #[slice (some ⟨g,0,none⟩) 0 c,slice (some A) m c']).run prog w.drew=.ok (slice (some ⟨g,0,none⟩) (n-j) c) (w.drew.setRow g a.toArray):=by
  rintro ty m c' rfl;have:=run_append_room (P:=prog) w.drew S ty T i0 hU G g 0 c cur.toArray M A (n-j) c' news (by rw[ac];exact r) I.out L (by omega) (by grind);rw[this,f];simp[splice]
 have D:At (w.drew.setRow g a.toArray) g T a:=At.set (T:=T) (cur:=cur) M;have Y:∀ty m c',m=j->(Builtin.clear_ #[S] ty #[slice (some ⟨g,(n-j)*K,none⟩) m c']).run prog (w.drew.setRow g a.toArray)=.ok (.tuple #[]) ((w.drew.setRow g a.toArray).setRow g d.toArray):=by
  rintro ty m c' rfl;rw[l];exact Nt _ S T ty T i0 _ hU G ab g _ m c' a D (by omega) (by rw[C];rw[J];omega) (fun v hv=>ad v (OJ hv))
 have N:At ((w.drew.setRow g a.toArray).setRow g d.toArray) g T d:=D.set;have hk:Kept [g] w ((w.drew.setRow g a.toArray).setRow g d.toArray):=((Kept.refl _ w).drew.trans (FO _ g _)).trans (FO _ g _);have Z:d.take ((n-j)*K)=news:=by
  rw[l,f];unfold splice
  grind
 have H:((w.drew.setRow g a.toArray).setRow g d.toArray).ownsRow 0 T K (slice (some ⟨g,0,none⟩) (n-j) c) (n-j) news:=N.row r (by omega) hc (by rw[V,F]) Z;subst s;exact⟨A,_,_,O,X,fun ty=>Y ty _ _ rfl,H,hk⟩
theorem Xr{a:Option Addr}{n:Nat}(h:w.ownsRow 0 146 2 (slice a n c) n xs)(d:∀u∈xs,u.oneCell'=true)(U:j<=n):
 Calls prog 183 #[slice a n c,int i64 (0:Int),int i64 (j:Int)] w fun e w'=>e=.returned (slice a (n-j) c)/\w'.ownsRow 0 146 2 (slice a (n-j) c) (n-j) (xs.drop (j*2))/\Kept (slice a n c).ownBlock.toList w w':=by
 by_cases H:j=0
 ·subst H;have f:Calls prog 183 #[slice a n c,int i64 (0:Int),int i64 ((0:Nat):Int)] w fun e w'=>e=.returned (slice a n c)/\w'=w:=by
   obtain⟨x,cc,e,I,r,_⟩:=Fg h;simp only[Aq]at e;obtain⟨rfl, -,rfl⟩:=e;have D:c<=9223372036854775807:=by unfold maxLen at r;omega
   clear h r
   cases a with
   | none=>
    go_enter func183,ntmps183;go_wp2
    all_goals (go_ret;exact⟨rfl,rfl⟩)
   | some x=>
    obtain⟨b,o,s⟩:=x;go_enter func183,ntmps183;go_wp2
    all_goals (go_ret;exact⟨rfl,rfl⟩)
  refine f.mono ?_
  grind [Kept.refl]
 ·obtain⟨x,cc,e,I,r,J⟩:=Fg h;simp only[Aq]at e;obtain⟨rfl, -,rfl⟩:=e
  cases a with
  | none=>
   rcases h.2 with⟨G,M⟩ | ⟨g',L,cur,G,_⟩
   ·omega
   ·simp at G
  | some ad=>
   obtain⟨g,rfl, -⟩:=J ad rfl;obtain⟨A,W1,W2,N,t,C,l,O⟩:=Am8 underlying141 Tryz.PS rfl (by simp[Value.cells,Value.oneCell']) h d I r U H;have V:j<=c:=by omega
   have D:c<=9223372036854775807:=by unfold maxLen at r;omega
   clear h J d;go_enter func183,ntmps183
   go_wp2_with fail
   go_region_law (refine KJ rfl .append (.tmp 22) (.tmp 25) 141 141 rfl (slice (some ⟨g,0,none⟩) 0 c) (slice (some A) (n-j) (c-j)) (by simp[Act.eval,Act.put]) (by simp[Act.eval,Act.put]) (GG (t.out _ _ _ rfl)) ?_);have Z:n-(n-j)=j:=by omega
   have Y:¬(c=n-j):=by omega
   have X:n-j<=n:=by omega
   have F:((n-j:Nat):Int)<=(n:Int):=by omega
   have R:=C.out;go_wp2
   all_goals (go_ret;exact⟨rfl,l.out,O.out⟩)
theorem Xs{a:Option Addr}{n:Nat}(h:w.ownsRow 0 151 3 (slice a n c) n xs)(d:∀u∈xs,u.oneCell'=true)(U:j<=n):
 Calls prog 245 #[slice a n c,int i64 (0:Int),int i64 (j:Int)] w fun e w'=>e=.returned (slice a (n-j) c)/\w'.ownsRow 0 151 3 (slice a (n-j) c) (n-j) (xs.drop (j*3))/\Kept (slice a n c).ownBlock.toList w w':=by
 by_cases H:j=0
 ·subst H;have f:Calls prog 245 #[slice a n c,int i64 (0:Int),int i64 ((0:Nat):Int)] w fun e w'=>e=.returned (slice a n c)/\w'=w:=by
   obtain⟨x,cc,e,I,r,_⟩:=Fg h;simp only[Aq]at e;obtain⟨rfl, -,rfl⟩:=e;have D:c<=9223372036854775807:=by unfold maxLen at r;omega
   clear h r
   cases a with
   | none=>
    go_enter func245,ntmps245;go_wp2
    all_goals (go_ret;exact⟨rfl,rfl⟩)
   | some x=>
    obtain⟨b,o,s⟩:=x;go_enter func245,ntmps245;go_wp2
    all_goals (go_ret;exact⟨rfl,rfl⟩)
  refine f.mono ?_
  grind [Kept.refl]
 ·obtain⟨x,cc,e,I,r,J⟩:=Fg h;simp only[Aq]at e;obtain⟨rfl, -,rfl⟩:=e
  cases a with
  | none=>
   rcases h.2 with⟨G,M⟩ | ⟨g',L,cur,G,_⟩
   ·omega
   ·simp at G
  | some ad=>
   obtain⟨g,rfl, -⟩:=J ad rfl;obtain⟨A,W1,W2,N,t,C,l,O⟩:=Am8 underlying147 Tryz.AcN rfl (by simp[Value.cells,Value.oneCell']) h d I r U H;have V:j<=c:=by omega
   have D:c<=9223372036854775807:=by unfold maxLen at r;omega
   clear h J d;go_enter func245,ntmps245
   go_wp2_with fail
   go_region_law (refine KJ rfl .append (.tmp 22) (.tmp 25) 147 147 rfl (slice (some ⟨g,0,none⟩) 0 c) (slice (some A) (n-j) (c-j)) (by simp[Act.eval,Act.put]) (by simp[Act.eval,Act.put]) (GG (t.out _ _ _ rfl)) ?_);have Z:n-(n-j)=j:=by omega
   have Y:¬(c=n-j):=by omega
   have X:n-j<=n:=by omega
   have F:((n-j:Nat):Int)<=(n:Int):=by omega
   have R:=C.out;go_wp2
   all_goals (go_ret;exact⟨rfl,l.out,O.out⟩)
theorem Xq{a:Option Addr}{n:Nat}(h:w.ownsRow 0 143 4 (slice a n c) n xs)(d:∀u∈xs,u.oneCell'=true)(U:j<=n):
 Calls prog 119 #[slice a n c,int i64 (0:Int),int i64 (j:Int)] w fun e w'=>e=.returned (slice a (n-j) c)/\w'.ownsRow 0 143 4 (slice a (n-j) c) (n-j) (xs.drop (j*4))/\Kept (slice a n c).ownBlock.toList w w':=by
 by_cases H:j=0
 ·subst H;have f:Calls prog 119 #[slice a n c,int i64 (0:Int),int i64 ((0:Nat):Int)] w fun e w'=>e=.returned (slice a n c)/\w'=w:=by
   obtain⟨x,cc,e,I,r,_⟩:=Fg h;simp only[Aq]at e;obtain⟨rfl, -,rfl⟩:=e;have D:c<=9223372036854775807:=by unfold maxLen at r;omega
   clear h r
   cases a with
   | none=>
    go_enter func119,ntmps119;go_wp2
    all_goals (go_ret;exact⟨rfl,rfl⟩)
   | some x=>
    obtain⟨b,o,s⟩:=x;go_enter func119,ntmps119;go_wp2
    all_goals (go_ret;exact⟨rfl,rfl⟩)
  refine f.mono ?_
  grind [Kept.refl]
 ·obtain⟨x,cc,e,I,r,J⟩:=Fg h;simp only[Aq]at e;obtain⟨rfl, -,rfl⟩:=e
  cases a with
  | none=>
   rcases h.2 with⟨G,M⟩ | ⟨g',L,cur,G,_⟩
   ·omega
   ·simp at G
  | some ad=>
   obtain⟨g,rfl, -⟩:=J ad rfl;obtain⟨A,W1,W2,N,t,C,l,O⟩:=Am8 underlying136 Tryz.Ai7 rfl (by simp[Value.cells,Value.oneCell']) h d I r U H;have V:j<=c:=by omega
   have D:c<=9223372036854775807:=by unfold maxLen at r;omega
   clear h J d;go_enter func119,ntmps119
   go_wp2_with fail
   go_region_law (refine KJ rfl .append (.tmp 22) (.tmp 25) 136 136 rfl (slice (some ⟨g,0,none⟩) 0 c) (slice (some A) (n-j) (c-j)) (by simp[Act.eval,Act.put]) (by simp[Act.eval,Act.put]) (GG (t.out _ _ _ rfl)) ?_);have Z:n-(n-j)=j:=by omega
   have Y:¬(c=n-j):=by omega
   have X:n-j<=n:=by omega
   have F:((n-j:Nat):Int)<=(n:Int):=by omega
   have R:=C.out;go_wp2
   all_goals (go_ret;exact⟨rfl,l.out,O.out⟩)
theorem Pw(w:World){t h e l:TypeId}{i:TypeInfo}(ht:P.underlying t=some (.slice e))(f:P.underlying h=some (.slice l))(hi:P.info? e=some i)(a b:Option Addr)(n c m d:Nat):(Builtin.append_ #[t,h] ty #[slice a n c,slice b m d]).run P w=(Builtin.append_ #[t,t] ty #[slice a n c,slice b m d]).run P w:=by
 simp[Builtin.append_,Av ht,Av f,sizeOf,typeInfo,hi]
theorem Tryz.AhJ:(prog.info? 146).map (·.size)=some 2:=by kernel_rfl
def Aib (w:World)(a:Option Addr)(v:Value):Prop:=∀g,v.ownBlock=some g->(∃o,a=some ⟨g,o,none⟩)\/w.heap.size<=g
def I7 (w:World)(a:Option Addr)(n':Nat)(ys:List Value)(S:List Nat):Ending->World->Prop:=fun e w'=>∃v',e=.returned v'/\w'.ownsRow 0 146 2 v' n' ys/\Aib w a v'/\Kept S w w'
theorem AcP{a:Option Addr}{n:Nat}(h:w.ownsRow 0 146 2 (slice a n c) n xs)(M:n<=4000)(I:At w gx 146 [int i64 p,int i64 q]):
 Calls prog 210 #[slice a n c,int i64 (n:Int),slice (some ⟨gx,0,none⟩) 1 1] w (I7 w a (n+1) (xs++[int i64 p,int i64 q]) (slice a n c).ownBlock.toList):=by
 obtain⟨x,cc,e,O,N,L⟩:=Fg h;simp only[Aq]at e;obtain⟨rfl, -,rfl⟩:=e;obtain⟨i0,l,t,A,C⟩:=As Tryz.PS;have r:=Ec (P:=prog) w 0 141 141 146 i0 _ 2 16 underlying141 l t A C rfl (by decide) (slice a n c) n xs h ⟨gx,0,none⟩ 1 1 [int i64 p,int i64 q] rfl (I.src 0 (fun j _=>by rw[Ao])) (by intro u J;simp at J;rcases J with rfl | rfl<;>rfl) (by unfold maxLen;omega) (by omega) (Af _);obtain⟨v',w',r,D,F, -,f⟩:=r;rw[<-Pw w underlying141 underlying140 l]at r;have G:Aib w a v':=fun g hg=>by
  rcases f with f | f
  ·rw[f]at hg
   cases a with
   | none=>simp[Value.ownBlock]at hg
   | some y=>grind
  grind
 have H:=hid r;have d:=hid (show I7 w a (n+1) (xs++[int i64 p,int i64 q]) (slice a n c).ownBlock.toList (.returned v') w' from⟨v',rfl,D,G,Kept.PR F⟩);clear h I L D F f r G
 cases a with
 | none=>
  go_enter func210,ntmps210
  go_wp2_with(at_builtin;refine IM _ rfl .append _ _ 141 140 rfl _ _ rfl rfl (GG H.out) ?_)
  all_goals (go_ret;exact d.out)
 | some x=>
  obtain⟨b,o,s⟩:=x;go_enter func210,ntmps210
  go_wp2_with(at_builtin;refine IM _ rfl .append _ _ 141 140 rfl _ _ rfl rfl (GG H.out) ?_)
  all_goals (go_ret;exact d.out)
theorem At.FC{b:Nat}(h:At w b T cur):w.shape? b=some (T,cur.length):=by
 unfold At at h;simp[World.shape?,h]
theorem SD{o:Nat}(h:o+cs.length<=cur.length)(m:Nat)(a:m<=o):(splice cur o cs).take m=cur.take m:=by
 unfold splice
 grind
theorem JK{o:Nat}(h:o+cs.length<=cur.length)(t:Nat):(splice cur o cs)[t]?=if o<=t/\t<o+cs.length then cs[t-o]? else cur[t]?:=by
 unfold splice
 grind
theorem On:∀u∈[int i64 p,int i64 q],u.oneCell'=true:=by
 intro u a;simp at a
 rcases a with rfl | rfl<;>rfl
theorem Oz{a:Option Addr}{n:Nat}(h:w.ownsRow 0 T k (slice a n c) n xs)(r:0<n):∃g,a=some ⟨g,0,none⟩:=by
 cases a with
 | none=>
  rcases h.2 with⟨_,f⟩ | ⟨l,b,cur,d,_⟩
  ·omega
  ·simp at d
 | some ad=>
  grind [Fg]
theorem XI{n:Nat}(h:w.ownsRow 0 146 2 (slice (some ⟨g,0,none⟩) n c) n xs)(L:∀u∈xs,u.oneCell'=true)(hb:n<=4000)(Z:At w gx 146 [int i64 p,int i64 q])(ai:gx≠g)(hi:i<n)(V:n+1<=c):
 Calls prog 210 #[slice (some ⟨g,0,none⟩) n c,int i64 (i:Int),slice (some ⟨gx,0,none⟩) 1 1] w (I7 w (some ⟨g,0,none⟩) (n+1) (xs.take (i*2)++([int i64 p,int i64 q]++xs.drop (i*2))) [g]):=by
 obtain⟨cur,hA, -,hn,hc,r,am,aj⟩:=F9 h;obtain⟨i0,an,ap,aq,ar⟩:=As Tryz.PS;obtain⟨X,F⟩:=E7 ([int i64 p,int i64 q]);have G:X.length=2:=by rw[F];rfl
 have ac:∀u∈X,u.oneCell'=true:=by rw[F];exact On
 rw[<-F]at Z |-;have H:(xs.drop (i*2)).length=(n-i)*2:=by rw[AJ,aj];omega
 have ae:∀t,t<(xs.drop (i*2)).length->(xs.drop (i*2))[t]?=cur[i*2+t]?:=by grind
 obtain⟨a,d⟩:=E7 (splice cur ((i+1)*2) (xs.drop (i*2)));have I:(i+1)*2+(xs.drop (i*2)).length<=cur.length:=by rw[H,r];omega
 have O:a.length=cur.length:=by rw[d];exact BG _ _ _ I
 have J:i*2+X.length<=a.length:=by rw[O,G,r];omega
 obtain⟨b,f⟩:=E7 (splice a (i*2) X);have ag:b.length=cur.length:=by rw[f];exact(BG _ _ _ J).trans O
 have D:At w.drew g 146 cur:=hA;have R:∀ty (A B:Addr) (dl sl M sc:Nat),A=⟨g,(i+1)*2,none⟩->B=⟨g,i*2,none⟩->dl=n-i->sl=n+1-i->(Builtin.copy_ #[141,141] ty #[slice (some A) dl M,slice (some B) sl sc]).run prog w.drew=.ok (goInt ((n-i:Nat):Int)) (w.drew.setRow g a.toArray):=by
  rintro ty A B dl sl M sc rfl rfl rfl rfl;have s:Nat.min (n+1-i) (n-i)=n-i:=Dv (by omega);have:=Li (P:=prog) w.drew 141 141 ty 146 146 2 g ((i+1)*2) (n-i) M ⟨g,i*2,none⟩ (n+1-i) sc cur (xs.drop (i*2)) underlying141 Tryz.AhJ D (by rw[s,H]) (D.src _ ae) I (fun v hv=>L v (BQ hv))
  grind
 have N:At (w.drew.setRow g a.toArray) g 146 a:=D.set;have ad:At (w.drew.setRow g a.toArray) gx 146 X:=At.other (w:=w.drew) Z ai _;obtain⟨Y,l⟩:=E7 (w.drew.setRow g a.toArray);have U:∀ty (A:Addr) (dl M:Nat),A=⟨g,i*2,none⟩->dl=n+1-i->(Builtin.copy_ #[141,140] ty #[slice (some A) dl M,slice (some ⟨gx,0,none⟩) 1 1]).run prog Y=.ok (goInt 1) (Y.setRow g b.toArray):=by
  rintro ty A dl M rfl rfl;rw[l];have s:Nat.min 1 (n+1-i)=1:=B8 (by omega);have:=Li (P:=prog) _ 141 140 ty 146 146 2 g (i*2) (n+1-i) M ⟨gx,0,none⟩ 1 1 a X underlying141 Tryz.AhJ N (by rw[s,G]) (ad.src 0 (fun j _=>by rw[Ao])) J ac
  grind
 have ao:∀lb cb,(callFunc 211 #[slice (some ⟨gx,0,none⟩) 1 1,slice (some ⟨g,(i+1)*2,none⟩) lb cb]).run prog w=.ok (.value (.bool false)) w:=fun lb cb=>by
  rw[run_callFunc_extern func211 (by kernel_rfl) (by kernel_rfl) (by kernel_rfl) (e:=Extern.SlicesOverlaps.overlaps #[140,140] #[4]) (by kernel_rfl),
   Lib.run_overlaps_apart w 140 4 146 underlying140 2 sizeOf146 ⟨gx,0,none⟩ ⟨g,(i+1)*2,none⟩ 1 1 lb cb ai _ _ _ _ Z.FC hA.FC (by rw[r];omega) (Z.free 0) (Z.free _)]
  rfl
 have hk:Kept [g] w (Y.setRow g b.toArray):=by
  rw[l];exact((Kept.refl _ w).drew.trans (FO _ g _)).trans (FO _ g _)
 have C:(Y.setRow g b.toArray).ownsRow 0 146 2 (slice (some ⟨g,0,none⟩) (n+1) c) (n+1) (xs.take (i*2)++(X++xs.drop (i*2))):=by
  have ah:(xs.take (i*2)++(X++xs.drop (i*2))).length=(n+1)*2:=by
   grind
  refine At.row (T:=146) (cur:=b) (by rw[l];exact N.set) ah V hc (by rw[ag,r]) ?_;refine Bf fun t=>?_
  by_cases ht:t<(n+1)*2
  ·rw[A3 ht,f,JK J,d,JK I,G,H]
   grind
  grind
 rw[<-l]at R;have ak:=hid R;obtain⟨W2,ab⟩:=E7 (Y.setRow g b.toArray);rw[<-ab]at U C hk;have al:=hid U;have aa:=hid (show I7 w (some ⟨g,0,none⟩) (n+1) (xs.take (i*2)++(X++xs.drop (i*2))) [g] (.returned (slice (some ⟨g,0,none⟩) (n+1) c)) W2 from⟨_,rfl,C,fun g' af=>by simp[Value.ownBlock]at af;subst af;exact .inl ⟨0,rfl⟩,hk⟩);have aq:¬((i:Int)=(n:Int)):=by omega
 have az:¬(c=i):=by omega
 have au:¬(c=i+1):=by omega
 have a0:¬((c:Int)<(n:Int)+1):=by omega
 have a2:IntKind.i64.wrap ((i:Int)+1)=(i:Int)+1:=by rw[AO];omega
 have aw:(0:Int)<=(i:Int)+1:=by omega
 have a1:((i:Int)+1).toNat=i+1:=by omega
 have ax:(i:Int)+1<=(n:Int)+1:=by omega
 have ay:(i:Int)<=(n:Int)+1:=by omega
 clear h Z L hA D N ad R U hk C d f O ag I J H ae r am aj F G ac l ab an ap ar;go_enter func210,ntmps210
 go_wp2_with(simp only[ao])
 go_region_law (refine KJ rfl .copy _ _ 141 141 rfl (slice (some ⟨g,(i+1)*2,none⟩) (n-i) (c-(i+1))) (slice (some ⟨g,i*2,none⟩) (n+1-i) (c-i)) (by simp[Act.eval,Act.put]) (by simp[Act.eval,Act.put]) (W8 (ak.out _ _ _ _ _ _ _ rfl rfl rfl rfl)) ?_);have av:∀ty,(Builtin.copy_ #[141,140] ty #[slice (some ⟨g,i*2,none⟩) (n+1-i) (c-i),slice (some ⟨gx,0,none⟩) 1 1]).run prog Y=.ok (goInt 1) W2:=fun ty=>al.out _ _ _ _ rfl rfl
 go_wp2
 all_goals (go_ret;exact aa.out)
theorem Xb(a:List Value)(b c:Array Value):a.toArray++b++c=(a++b.toList++c.toList).toArray:=by
 apply Array.ext';simp
theorem Fc(w:World)(T:TypeId)(cur:List Value):At (w.alloc (.cells cur.toArray T)) w.heap.size T cur:=Am w (.cells cur.toArray T)
theorem ZO{n:Nat}(h:w.ownsRow 0 146 2 (slice (some ⟨g,0,none⟩) n c) n xs)(U:∀u∈xs,u.oneCell'=true)(hb:n<=4000)(hX:At w gx 146 [int i64 p,int i64 q])(bc:gx≠g)(hi:i<n)(bb:c<n+1):
 Calls prog 210 #[slice (some ⟨g,0,none⟩) n c,int i64 (i:Int),slice (some ⟨gx,0,none⟩) 1 1] w (I7 w (some ⟨g,0,none⟩) (n+1) (xs.take (i*2)++([int i64 p,int i64 q]++xs.drop (i*2))) [g]):=by
 obtain⟨cur,hA, -,hn,hc,a9,ba,af⟩:=F9 h;obtain⟨i0,aw,a5,a6,ag⟩:=As Tryz.PS;obtain rfl:c=n:=by omega
 obtain⟨X,H⟩:=E7 ([int i64 p,int i64 q]);have I:X.length=2:=by rw[H];rfl
 have an:∀u∈X,u.oneCell'=true:=by rw[H];exact On
 rw[<-H]at hX |-;have J:(xs.drop (i*2)).length=(c-i)*2:=by rw[AJ,af];omega
 have a4:(xs.take (i*2)).length=i*2:=by rw[Ay,af];omega
 have ar:∀t,t<(xs.drop (i*2)).length->(xs.drop (i*2))[t]?=cur[i*2+t]?:=by grind
 obtain⟨G,hG⟩:=E7 (grownCap w (c+1) c 146);have a8:c+1<=G:=by rw[hG];exact grownCap_ge w _ _ _
 have aj:G<=maxLen:=by rw[hG];exact grownCap_le_maxLen w _ _ _ (by unfold maxLen;omega)
 have bd:G<=9223372036854775807:=by unfold maxLen at aj;omega
 obtain⟨Z1,ab⟩:=E7 ((Builtin.zeroCells (Value.agg #[int i64 0,int i64 0]).cells (c+1-i)).toList);obtain⟨Z2,ac⟩:=E7 ((Builtin.zeroCells (Value.agg #[int i64 0,int i64 0]).cells (G-(c+1))).toList);have ap:Z1.length=(c+1-i)*2:=by rw[ab,AH,Cj];rfl
 have aq:Z2.length=(G-(c+1))*2:=by rw[ac,AH,Cj];rfl
 obtain⟨a,A⟩:=E7 (xs.take (i*2)++Z1++Z2);have ad:a.length=G*2:=by
  grind
 obtain⟨C,D⟩:=E7 (w.drew.alloc (.cells a.toArray 146));have ax:i+(c+1-i)=c+1:=by omega
 have a1:∀(N:Int),N=((c+1-i:Nat):Int)->(Builtin.append_ #[141,3] 141 #[slice (some ⟨g,0,none⟩) i c,int i64 N]).run prog w=.ok (slice (some ⟨w.heap.size,0,none⟩) (c+1) G) C:=by
  rintro N rfl;have a0:(Builtin.firstCells i0.size i (slice (some ⟨g,0,none⟩) i c)).run prog w.drew=.ok (xs.take (i*2)).toArray w.drew:=by
   rw[a6]
   exact run_firstCells_some w.drew 2 i ⟨g,0,none⟩ i c (xs.take (i*2)) a4 ((show At w.drew g 146 cur from hA).src 0 (fun j hj=>by
    grind))
  have:=Lib.run_append_grow_zeros w 141 3 141 146 i0 _ i64 i64 underlying141 underlying3 aw a5 (some ⟨g,0,none⟩) i c (xs.take (i*2)) a0 (c+1-i) (by omega) (by omega) (by omega) (by omega) (by rw[ag];omega) (by rw[ag,ax];exact DC (by omega) (by omega));rw[ax,<-hG]at this;rw[this,D,A,ab,ac,Xb]
 have Y:At C w.heap.size 146 a:=by rw[D];exact Fc w.drew _ _
 have d:Kept [] w C:=by rw[D];exact(Kept.refl _ w).drew.trans (Kept.alloc (Kept.refl _ _) _)
 have ao:At C gx 146 X:=hX.kept d (by simp);have ah:At C g 146 cur:=hA.kept d (by simp);have av:g≠w.heap.size:=Nat.ne_of_lt hA.lt;have L:i*2+X.length<=a.length:=by rw[ad,I];omega
 obtain⟨b,f⟩:=E7 (splice a (i*2) X);have ae:b.length=G*2:=by rw[f];exact(BG _ _ _ L).trans ad
 obtain⟨O,F⟩:=E7 (C.setRow w.heap.size b.toArray);have a2:∀ty,(Builtin.copy_ #[141,140] ty #[slice (some ⟨w.heap.size,i*2,none⟩) (c+1-i) (G-i),slice (some ⟨gx,0,none⟩) 1 1]).run prog C=.ok (goInt 1) O:=by
  intro ty;have s:Nat.min 1 (c+1-i)=1:=B8 (by omega);have:=Li (P:=prog) C 141 140 ty 146 146 2 w.heap.size (i*2) (c+1-i) (G-i) ⟨gx,0,none⟩ 1 1 a X underlying141 Tryz.AhJ Y (by rw[s,I]) (ao.src 0 (fun j _=>by rw[Ao])) L an
  grind
 have Z:At O w.heap.size 146 b:=by rw[F];exact Y.set
 have ai:At O.drew g 146 cur:=by
  show At O g _ cur;rw[F];exact ah.other av _
 have M:(i+1)*2+(xs.drop (i*2)).length<=b.length:=by rw[ae,J];omega
 obtain⟨r,l⟩:=E7 (splice b ((i+1)*2) (xs.drop (i*2)));have ay:r.length=G*2:=by rw[l];exact(BG _ _ _ M).trans ae
 obtain⟨W3,aa⟩:=E7 (O.drew.setRow w.heap.size r.toArray);have a3:∀ty,(Builtin.copy_ #[141,141] ty #[slice (some ⟨w.heap.size,(i+1)*2,none⟩) (c-i) (G-(i+1)),slice (some ⟨g,i*2,none⟩) (c-i) (c-i)]).run prog O.drew=.ok (goInt ((c-i:Nat):Int)) W3:=by
  intro ty;have s:Nat.min (c-i) (c-i)=c-i:=Nat.min_self _;have:=Li (P:=prog) O.drew 141 141 ty 146 146 2 w.heap.size ((i+1)*2) (c-i) (G-(i+1)) ⟨g,i*2,none⟩ (c-i) (c-i) b (xs.drop (i*2)) underlying141 Tryz.AhJ Z (by rw[s,J]) (ai.src _ ar) M (fun v hv=>U v (BQ hv))
  grind
 have hk:Kept [g] w W3:=by
  have h2:Kept [w.heap.size] C W3:=by
   rw[aa,F];exact((FO C _ _).trans (Kept.refl _ _).drew).trans (FO _ _ _)
  refine⟨h2.os.trans d.os,h2.tape.trans d.tape,h2.output.trans d.output,Ak d.size h2.size,fun k hk _=>?_⟩;rw[h2.block k (AI hk d.size) (by simp;omega),d.block k hk (by simp)]
 have V:W3.ownsRow 0 146 2 (slice (some ⟨w.heap.size,0,none⟩) (c+1) G) (c+1) (xs.take (i*2)++(X++xs.drop (i*2))):=by
  have az:(xs.take (i*2)++(X++xs.drop (i*2))).length=(c+1)*2:=by
   grind
  have a7:At W3 w.heap.size 146 r:=by rw[aa];exact At.set (w:=O.drew) Z
  refine At.row (T:=146) (cur:=r) a7 az a8 aj ay ?_;refine Bf fun t=>?_
  by_cases ht:t<(c+1)*2
  ·rw[A3 ht,l,JK M,f,JK L,I,J]
   grind
  grind
 have ak:=hid a1;have al:=hid a2;have am:=hid a3;have R:=hid (show I7 w (some ⟨g,0,none⟩) (c+1) (xs.take (i*2)++(X++xs.drop (i*2))) [g] (.returned (slice (some ⟨w.heap.size,0,none⟩) (c+1) G)) W3 from⟨_,rfl,V,fun g' au=>by simp[Value.ownBlock]at au;subst au;exact .inr (Ac _),hk⟩);have bl:i<=c:=by omega
 have bk:¬(c=i):=by omega
 have bg:¬(G=i):=by omega
 have be:¬(G=i+1):=by omega
 have bn:IntKind.i64.wrap ((i:Int)+1)=(i:Int)+1:=by rw[AO];omega
 have bo:IntKind.i64.wrap ((c:Int)+1)=(c:Int)+1:=by rw[AO];omega
 have bp:IntKind.i64.wrap ((c:Int)+1-(i:Int))=(c:Int)+1-(i:Int):=by rw[AO];omega
 have bh:(0:Int)<=(i:Int)+1:=by omega
 have bm:((i:Int)+1).toNat=i+1:=by omega
 have bi:(i:Int)+1<=(c:Int)+1:=by omega
 have bj:(i:Int)<=(c:Int)+1:=by omega
 obtain⟨N,hN⟩:=E7 w.heap.size;rw[<-hN]at ak al am R;clear h hX U hA Y ao ah ai Z a1 a2 a3 hk d V A f l ad ae ay L M J a4 ar a9 ba af H I an D F aa aw a5 a6 ag hG ab ac ap aq av hN;go_enter func210,ntmps210;go_upto_region 10 with(at_builtin;refine IM _ rfl .append _ _ 141 3 rfl _ _ rfl rfl (GG (ak.out _ (by omega))) ?_)
 have bf:=al.out;go_upto_region 11 with fail
 go_region_law (refine KJ rfl .copy _ _ 141 141 rfl (slice (some ⟨N,(i+1)*2,none⟩) (c-i) (G-(i+1))) (slice (some ⟨g,i*2,none⟩) (c-i) (c-i)) (by simp[Act.eval,Act.put]) (by simp[Act.eval,Act.put]) (W8 (am.out _)) ?_);go_wp2
 all_goals (go_ret;exact R.out)
theorem AcO{a:Option Addr}{n:Nat}(h:w.ownsRow 0 146 2 (slice a n c) n xs)(b:∀u∈xs,u.oneCell'=true)(l:n<=4000)(f:At w gx 146 [int i64 p,int i64 q])(d:∀y,a=some y->gx≠y.block)(hi:i<=n):
 Calls prog 210 #[slice a n c,int i64 (i:Int),slice (some ⟨gx,0,none⟩) 1 1] w (I7 w a (n+1) (xs.take (i*2)++([int i64 p,int i64 q]++xs.drop (i*2))) (slice a n c).ownBlock.toList):=by
 by_cases e:i=n
 ·subst e;have s:=h.1;have:=AcP h l f;rw[Aw (by omega),Dd (by omega),AA];exact this
 ·obtain⟨g,rfl⟩:=Oz h (by omega)
  by_cases r:n+1<=c
  ·exact XI h b l f (d _ rfl) (by omega) r
  ·exact ZO h b l f (d _ rfl) (by omega) (by omega)
theorem Nj{d:Nat}:Aib w (some ⟨g,0,none⟩) (slice (some ⟨g,0,none⟩) m d):=fun b a=>by
 simp[Value.ownBlock]at a;subst a;exact .inl ⟨0,rfl⟩
theorem Yi{a:Option Addr}{n:Nat}(h:w.ownsRow 0 146 2 (slice a n c) n xs)(f:∀u∈xs,u.oneCell'=true)(G:n<=4000)(D:At w gx 146 [int i64 p,int i64 q])(t:∀y,a=some y->gx≠y.block)(hi:i<=n):
 Calls prog 169 #[slice a n c,int i64 (i:Int),int i64 (i:Int),slice (some ⟨gx,0,none⟩) 1 1] w (I7 w a (n+1) (xs.take (i*2)++([int i64 p,int i64 q]++xs.drop (i*2))) (slice a n c).ownBlock.toList):=by
 have d:=AcO h f G D t hi;obtain⟨x,cc,e,L,J,I⟩:=Fg h;simp only[Aq]at e;obtain⟨rfl, -,rfl⟩:=e;have H:i<=c:=by omega
 obtain⟨r,C⟩:=E7 (I7 w a (n+1) (xs.take (i*2)++([int i64 p,int i64 q]++xs.drop (i*2))) (slice a n c).ownBlock.toList);have l:∀e w',r e w'->∃v',e=.returned v':=fun e w' h=>by
  rw[C]at h;obtain⟨v',F, -⟩:=h;exact⟨v',F⟩
 rw[<-C]at d |-;clear h f D t I C
 cases a with
 | none=>
  go_enter func169,ntmps169
  go_wp2_with(go_at_call 210;refine d.mono ?_;intro e w1 A;obtain⟨v',rfl⟩:=l _ _ A)
  all_goals exact A
 | some y=>
  obtain⟨b,o,s⟩:=y;go_enter func169,ntmps169
  go_wp2_with(go_at_call 210;refine d.mono ?_;intro e w1 A;obtain⟨v',rfl⟩:=l _ _ A)
  all_goals exact A
theorem AaX{n:Nat}(h:w.ownsRow 0 146 2 (slice (some ⟨g,0,none⟩) n c) n xs)(hX:At w gx 146 [int i64 p,int i64 q])(hb:n<=4000)(hi:i<n):
 Calls prog 169 #[slice (some ⟨g,0,none⟩) n c,int i64 (i:Int),int i64 (n:Int),slice (some ⟨gx,0,none⟩) 1 1] w (I7 w (some ⟨g,0,none⟩) (i+1) (xs.take (i*2)++[int i64 p,int i64 q]) [g]):=by
 obtain⟨cur,hA, -,hn,hc,l,ad,aa⟩:=F9 h;obtain⟨i0,H,ab,J,ag⟩:=As Tryz.PS;have am:c<=9223372036854775807:=by unfold maxLen at hc;omega
 obtain⟨X,F⟩:=E7 ([int i64 p,int i64 q]);have s:X.length=2:=by rw[F];rfl
 have Y:∀u∈X,u.oneCell'=true:=by rw[F];exact On
 rw[<-F]at hX |-;have Z:(xs.take (i*2)).length=i*2:=by rw[Ay,aa];omega
 have G:i*2+X.length<=cur.length:=by rw[l,s];omega
 obtain⟨b,a⟩:=E7 (splice cur (i*2) X);have I:b.length=cur.length:=by rw[a];exact BG _ _ _ G
 obtain⟨W1,D⟩:=E7 (w.setRow g b.toArray);have R:(Builtin.append_ #[141,140] 141 #[slice (some ⟨g,0,none⟩) i c,slice (some ⟨gx,0,none⟩) 1 1]).run prog w=.ok (slice (some ⟨g,0,none⟩) (i+1) c) W1:=by
  have:=run_append_room (P:=prog) w 141 141 146 i0 underlying141 H g i c cur.toArray hA ⟨gx,0,none⟩ 1 1 X (by rw[J,s]) (hX.src 0 (fun j _=>by rw[Ao])) Y (by omega) (by rw[J];simpa using G);rw[Pw w underlying141 underlying140 H,this,D,a,J];simp[splice]
 have A:At W1 g 146 b:=by rw[D];exact hA.set
 have O:Kept [g] w W1:=by rw[D];exact FO _ _ _
 have r:(xs.take (i*2)++X).length=(i+1)*2:=by rw[Ai,Z,s];omega
 have U:b.take ((i+1)*2)=xs.take (i*2)++X:=by
  refine Bf fun t=>?_
  by_cases ht:t<(i+1)*2
  ·rw[A3 ht,a,JK G,s]
   grind
  grind
 by_cases he:i+1<n
 ·have ac:(Builtin.zeroCells (Value.agg #[int i64 0,int i64 0]).cells (n-(i+1))).toList.length=(n-(i+1))*2:=by rw[AH,Cj];rfl
  have N:(i+1)*2+(n-(i+1))*2<=b.length:=by rw[I,l];omega
  obtain⟨L,d⟩:=E7 (splice b ((i+1)*2) (Builtin.zeroCells (Value.agg #[int i64 0,int i64 0]).cells (n-(i+1))).toList);have ae:L.length=cur.length:=by rw[d];exact(BG _ _ _ (by rw[ac];exact N)).trans I
  obtain⟨W2,M⟩:=E7 (W1.setRow g L.toArray);have af:∀ty,(Builtin.clear_ #[141] ty #[slice (some ⟨g,(i+1)*2,none⟩) (n-(i+1)) (c-(i+1))]).run prog W1=.ok (.tuple #[]) W2:=by
   intro ty;rw[M,d]
   exact Nt _ 141 146 ty 146 i0 _ underlying141 H ab g _ _ _ b A (by omega) N (fun v hv=>by
    have:=OJ hv;simp[Value.cells]at this;subst this
    rfl)
  have f:I7 w (some ⟨g,0,none⟩) (i+1) (xs.take (i*2)++X) [g] (.returned (slice (some ⟨g,0,none⟩) (i+1) c)) W2:=by
   refine⟨_,rfl,At.row (T:=146) (cur:=L) (by rw[M];exact A.set) r (by omega) hc (by rw[ae,l]) ?_,Nj,by rw[M];exact O.trans (FO _ _ _)⟩;rw[d,SD (by rw[ac];exact N) _ (Ac _),U]
  have V:=hid R;have ah:=hid af;have C:=hid f;have hz:¬((i:Int)=(n:Int)):=by omega
  have ai:i<=c:=by omega
  have aj:i<=n:=by omega
  have ak:(i:Int)+1<(n:Int):=by omega
  have an:¬(c=i+1):=by omega
  have al:((i:Int)+1).toNat=i+1:=by omega
  clear h hX hA A R af f O a d I ae G N ac r U Z l ad aa F s Y D M H ab J ag;go_enter func169,ntmps169;go_upto_region 6 with(at_builtin;refine IM _ rfl .append _ _ 141 140 rfl _ _ rfl rfl (GG V.out) ?_)
  have l:=ah.out;go_wp2
  all_goals (go_ret;exact C.out)
 ·have f:I7 w (some ⟨g,0,none⟩) (i+1) (xs.take (i*2)++X) [g] (.returned (slice (some ⟨g,0,none⟩) (i+1) c)) W1:=⟨_,rfl,A.row r (by omega) hc (by rw[I,l]) U,Nj,O⟩;have V:=hid R;have C:=hid f;have hz:¬((i:Int)=(n:Int)):=by omega
  have ai:i<=c:=by omega
  have aj:i<=n:=by omega
  have ak:¬((i:Int)+1<(n:Int)):=by omega
  clear h hX hA A R f O a I G r U Z l ad aa F s Y D H ab J ag;go_enter func169,ntmps169;go_upto_region 6 with(at_builtin;refine IM _ rfl .append _ _ 141 140 rfl _ _ rfl rfl (GG V.out) ?_)
  go_wp2
  all_goals (go_ret;exact C.out)
theorem AaY{n:Nat}(h:w.ownsRow 0 146 2 (slice (some ⟨g,0,none⟩) n c) n xs)(N:∀u∈xs,u.oneCell'=true)(hX:At w gx 146 [int i64 p,int i64 q])(ay:gx≠g)(hb:n<=4000)(hi:i<j)(hj:j<n):
 Calls prog 169 #[slice (some ⟨g,0,none⟩) n c,int i64 (i:Int),int i64 (j:Int),slice (some ⟨gx,0,none⟩) 1 1] w (I7 w (some ⟨g,0,none⟩) (i+1+(n-j)) (xs.take (i*2)++([int i64 p,int i64 q]++xs.drop (j*2))) [g]):=by
 obtain⟨cur,hA, -,hn,hc,d,ar,ac⟩:=F9 h;obtain⟨i0,ah,al,aw,ax⟩:=As Tryz.PS;have a7:c<=9223372036854775807:=by unfold maxLen at hc;omega
 obtain⟨X,D⟩:=E7 ([int i64 p,int i64 q]);have F:X.length=2:=by rw[D];rfl
 have ae:∀u∈X,u.oneCell'=true:=by rw[D];exact On
 rw[<-D]at hX |-;obtain⟨T,hT⟩:=E7 (i+1+(n-j));rw[<-hT];have a5:T<=n:=by omega
 have av:(xs.take (i*2)).length=i*2:=by rw[Ay,ac];omega
 have G:(xs.drop (j*2)).length=(n-j)*2:=by rw[AJ,ac];omega
 have H:i*2+X.length<=cur.length:=by rw[d,F];omega
 obtain⟨a,f⟩:=E7 (splice cur (i*2) X);have aa:a.length=cur.length:=by rw[f];exact BG _ _ _ H
 obtain⟨R,U⟩:=E7 (w.drew.setRow g a.toArray);have ai:∀ty,(Builtin.copy_ #[141,140] ty #[slice (some ⟨g,i*2,none⟩) (T-i) (c-i),slice (some ⟨gx,0,none⟩) 1 1]).run prog w.drew=.ok (goInt 1) R:=by
  intro ty;have s:Nat.min 1 (T-i)=1:=B8 (by omega);have:=Li (P:=prog) w.drew 141 140 ty 146 146 2 g (i*2) (T-i) (c-i) ⟨gx,0,none⟩ 1 1 cur X underlying141 Tryz.AhJ hA (by rw[s,F]) (At.src (w:=w.drew) hX 0 (fun j _=>by rw[Ao])) H ae
  grind
 have A:At R g 146 a:=by rw[U];exact At.set (w:=w.drew) hA
 have af:∀t,t<(xs.drop (j*2)).length->(xs.drop (j*2))[t]?=a[j*2+t]?:=fun t ht=>by
  grind [JK]
 have I:(i+1)*2+(xs.drop (j*2)).length<=a.length:=by rw[aa,d,G];omega
 obtain⟨b,l⟩:=E7 (splice a ((i+1)*2) (xs.drop (j*2)));have J:b.length=cur.length:=by rw[l];exact(BG _ _ _ I).trans aa
 obtain⟨L,V⟩:=E7 (R.drew.setRow g b.toArray);have aj:∀ty,(Builtin.copy_ #[141,141] ty #[slice (some ⟨g,(i+1)*2,none⟩) (T-(i+1)) (c-(i+1)),slice (some ⟨g,j*2,none⟩) (n-j) (c-j)]).run prog R.drew=.ok (goInt ((n-j:Nat):Int)) L:=by
  intro ty;have s:Nat.min (n-j) (T-(i+1))=n-j:=B8 (by omega);have:=Li (P:=prog) R.drew 141 141 ty 146 146 2 g ((i+1)*2) (T-(i+1)) (c-(i+1)) ⟨g,j*2,none⟩ (n-j) (c-j) a (xs.drop (j*2)) underlying141 Tryz.AhJ A (by rw[s,G]) (At.src (w:=R.drew) A _ af) I (fun v hv=>N v (BQ hv))
  grind
 have C:At L g 146 b:=by rw[V];exact At.set (w:=R.drew) A
 have Z:Kept [g] w L:=by
  rw[V,U];exact(((Kept.refl _ w).drew.trans (FO _ g _)).trans (Kept.refl _ _).drew).trans (FO _ g _)
 have r:(xs.take (i*2)++(X++xs.drop (j*2))).length=T*2:=by
  grind
 have ab:b.take (T*2)=xs.take (i*2)++(X++xs.drop (j*2)):=by
  refine Bf fun t=>?_
  by_cases ht:t<T*2
  ·rw[A3 ht,l,JK I,f,JK H,F,G]
   grind
  grind
 obtain⟨W3,ak,O⟩:∃W3,(∀ty (a':Option Addr),(¬(c=T)->a'=some ⟨g,T*2,none⟩)->(Builtin.clear_ #[141] ty #[slice a' (n-T) (c-T)]).run prog L=.ok (.tuple #[]) W3)/\I7 w (some ⟨g,0,none⟩) T (xs.take (i*2)++(X++xs.drop (j*2))) [g] (.returned (slice (some ⟨g,0,none⟩) T c)) W3:=by
  by_cases he:n-T=0
  ·refine⟨L,fun ty a' _=>by rw[he];exact LC _ _ _ _ underlying141 _ _,_,rfl,C.row r (by omega) hc (by rw[J,d]) ab,Nj,Z⟩
  ·have am:(Builtin.zeroCells (Value.agg #[int i64 0,int i64 0]).cells (n-T)).toList.length=(n-T)*2:=by rw[AH,Cj];rfl
   have Y:T*2+(n-T)*2<=b.length:=by rw[J,d];omega
   refine⟨L.setRow g (splice b (T*2) (Builtin.zeroCells (Value.agg #[int i64 0,int i64 0]).cells (n-T)).toList).toArray,fun ty a' ap=>?_,_,rfl,?_,Nj,Z.trans (FO _ _ _)⟩
   ·rw[ap (by omega)]
    exact Nt _ 141 146 ty 146 i0 _ underlying141 ah al g _ _ _ b C (by omega) Y (fun v hv=>by
     have:=OJ hv;simp[Value.cells]at this;subst this
     rfl)
   ·refine At.row (T:=146) C.set r (by omega) hc ?_ ?_
    ·rw[BG _ _ _ (by rw[am];exact Y),J,d]
    ·rw[SD (by rw[am];exact Y) _ (Ac _),ab]
 have an:=hid ai;have ao:=hid aj;have ad:=hid ak;have M:=hid O;have bg:IntKind.i64.wrap ((i:Int)+1)=(i:Int)+1:=by rw[AO];omega
 have bh:IntKind.i64.wrap ((i:Int)+1+((n-j:Nat):Int))=(T:Int):=by rw[AO];omega
 have a3:¬((j:Int)=(n:Int)):=by omega
 have bc:i<=j:=by omega
 have bd:j<=c:=by omega
 have be:j<=n:=by omega
 have bb:i<=c:=by omega
 have a9:¬(c=j):=by omega
 have a8:¬(c=i):=by omega
 have a0:¬(c=i+1):=by omega
 have a4:¬((c:Int)<(T:Int)):=by omega
 have az:T<=c:=by omega
 have ba:i<=T:=by omega
 have a1:(i:Int)+1<=(T:Int):=by omega
 have a6:(0:Int)<=(i:Int)+1:=by omega
 have bf:((i:Int)+1).toNat=i+1:=by omega
 have a2:(i:Int)+1<=(j:Int):=by omega
 clear h hX N hA A C ai aj ak O Z f l aa J H I r ab av G af d ar ac D F ae U V ah al aw ax hT;go_enter func169,ntmps169;go_upto_region 9 with fail
 go_region;have ag:=an.out;go_upto_region 18 with fail
 clear ag
 go_region_law (refine KJ rfl .copy _ _ 141 141 rfl (slice (some ⟨g,(i+1)*2,none⟩) (T-(i+1)) (c-(i+1))) (slice (some ⟨g,j*2,none⟩) (n-j) (c-j)) (by simp[Act.eval,Act.put]) (by simp[Act.eval,Act.put]) (W8 (ao.out _)) ?_)
 by_cases aq:c=T
 ·have au:n=T:=by omega
  subst au;subst aq;have d:∀ty,(Builtin.clear_ #[141] ty #[slice (some ⟨g,0,none⟩) 0 0]).run prog L=.ok (.tuple #[]) W3:=fun ty=>by
   have:=ad.out ty (some ⟨g,0,none⟩) (fun h=>absurd rfl h)
   rwa [Bm]at this
  go_wp2
  all_goals (go_ret;exact M.out)
 ·have d:∀ty,(Builtin.clear_ #[141] ty #[slice (some ⟨g,T*2,none⟩) (n-T) (c-T)]).run prog L=.ok (.tuple #[]) W3:=fun ty=>ad.out ty _ (fun _=>rfl)
  go_wp2
  all_goals (go_ret;exact M.out)
theorem AaW{a:Option Addr}{n:Nat}(h:w.ownsRow 0 146 2 (slice a n c) n xs)(b:∀u∈xs,u.oneCell'=true)(l:n<=4000)(f:At w gx 146 [int i64 p,int i64 q])(d:∀y,a=some y->gx≠y.block)(hi:i<=j)(r:j<=n):
 Calls prog 169 #[slice a n c,int i64 (i:Int),int i64 (j:Int),slice (some ⟨gx,0,none⟩) 1 1] w (I7 w a (i+1+(n-j)) (xs.take (i*2)++([int i64 p,int i64 q]++xs.drop (j*2))) (slice a n c).ownBlock.toList):=by
 by_cases e:i=j
 ·subst e;rw[show i+1+(n-i)=n+1 by omega];exact Yi h b l f d r
 ·obtain⟨g,rfl⟩:=Oz h (by omega)
  by_cases e2:j=n
  ·subst e2;have s:=h.1;rw[Bm,Bh,Dd (by omega),AA];exact AaX h f l (by omega)
  ·exact AaY h b f (d _ rfl) l (by omega) (by omega)
abbrev Sps:=List (Nat×Nat)
def inS (l:Sps)(i:Nat):Prop:=∃q∈l,q.1<=i/\i<q.2
def Srt (l:Sps):Prop:=(∀q∈l,q.1<q.2)/\l.Pairwise fun p q=>p.2<q.1
def Qe (l:Sps)(e:Nat):Prop:=∀q∈l,q.2<=e
theorem Srt.nil:Srt []:=⟨fun _ h=>absurd h Bt,.nil⟩
theorem GT(i:Nat):¬inS [] i:=fun⟨_,h,_⟩=>absurd h Bt
theorem Gc(q:Nat×Nat)(l:Sps)(i:Nat):inS (q::l) i↔(q.1<=i/\i<q.2)\/inS l i:=by simp[inS]
theorem OV(l r:Sps)(i:Nat):inS (l++r) i↔inS l i\/inS r i:=by simp_all[Sps,inS];grind
theorem Srt.KX{q:Nat×Nat}{l:Sps}(h:Srt (q::l)):Srt l:=⟨fun p a=>h.1 p (AU _ a),(CN.1 h.2).2⟩
theorem Srt.head{q:Nat×Nat}{l:Sps}(h:Srt (q::l)):q.1<q.2/\∀p∈l,q.2<p.1:=⟨h.1 q AL,(CN.1 h.2).1⟩
theorem Srt.len{l:Sps}(h:Srt l):∀{lo e:Nat},(∀q∈l,lo<=q.1)->Qe l e->lo<=e->l.length<=e-lo:=by
 induction l with
 | nil=>intros;simp
 | cons q l ih=>
  intro lo e f d s;have r:=h.head;have n:=f q AL;have a:=d q AL;have:=ih h.KX (lo:=q.2) (e:=e) (fun p b=>by have:=r.2 p b;omega) (fun p b=>d p (AU _ b)) a;rw[AE];omega
theorem Srt.few{l:Sps}(h:Srt l)(a:Qe l e):l.length<=e:=by
 have:=h.len (lo:=0) (e:=e) (fun _ _=>Af _) a (Af _);omega
theorem Srt.AeF{l:Sps}(h:Srt l)(a:i<j)(b:j<l.length):(l.getD i (0,0)).2<(l.getD j (0,0)).1:=by
 have:=List.pairwise_iff_getElem.1 h.2 i j (by omega) b a
 grind
theorem Srt.XC{l:Sps}(h:Srt l)(a:j<l.length):(l.getD j (0,0)).1<(l.getD j (0,0)).2:=by simp_all[Sps,Srt];grind
theorem Rp{l:Sps}(a:j<l.length):l.getD j (0,0)∈l:=by grind
theorem Agv{l:Sps}{b:Nat}{q:Nat×Nat}(h:q∈l.take b):∃k,k<b/\k<l.length/\q=l.getD k (0,0):=by
 obtain⟨k,a,e⟩:=List.mem_iff_getElem.1 h;rw[Ay]at a;rw[List.getElem_take]at e;refine⟨k,by omega,by omega,?_⟩
 grind
theorem Agu{l:Sps}{b:Nat}{q:Nat×Nat}(h:q∈l.drop b):∃k,b<=k/\k<l.length/\q=l.getD k (0,0):=by
 obtain⟨k,a,e⟩:=List.mem_iff_getElem.1 h;rw[AJ]at a;rw[List.getElem_drop]at e;refine⟨b+k,by omega,by omega,?_⟩
 grind
structure Joins(l:Sps)(a z b e x y:Nat):Prop where
 be:b<=e
 el:e<=l.length
 ahead:∀k,k<b->(l.getD k (0,0)).2<a
 from_:∀k,b<=k->k<l.length->a<=(l.getD k (0,0)).2
 lo:x<=a
 hi:z<=y
 aheadX:∀k,k<b->(l.getD k (0,0)).2<x
 mem:∀i,(x<=i/\i<y)↔((a<=i/\i<z)\/inS ((l.drop b).take (e-b)) i)
theorem Joins.SF{l:Sps}{a z b:Nat}(s:b<=l.length)(f:∀k,k<b->(l.getD k (0,0)).2<a)(r:Srt l)(n:b<l.length->a<=(l.getD b (0,0)).2):Joins l a z b b a z:=by
 refine⟨Ac _,s,f,fun k t d=>?_,Ac _,Ac _,f,fun i=>?_⟩
 ·rcases DR t with e | e
  ·subst e;exact n d
  ·have:=n (by omega);have u:=r.AeF e d;have A:=r.XC d;omega
 ·rw[Bm,C0]
  constructor
  ·exact .inl
  ·rintro(h | h)
   ·exact h
   ·exact absurd h (GT i)
theorem Joins.step{l:Sps}{a z b:Nat}(h:Joins l a z b e x y)(u:Srt l)(f:a<z)(d:e<l.length)(F:(l.getD e (0,0)).1<=y):Joins l a z b (e+1) (min x (l.getD e (0,0)).1) (max y (l.getD e (0,0)).2):=by
 have n:=h.be;have D:=h.from_ e h.be d;have t:=h.lo;have r:=h.hi;refine⟨by omega,by omega,h.ahead,h.from_,by omega,by omega,fun k s=>?_,fun i=>?_⟩
 ·have A:=h.aheadX k s;have C:=u.AeF (show k<e by omega) d;omega
 ·have e1:(l.drop b).take (e+1-b)=(l.drop b).take (e-b)++[l.getD e (0,0)]:=by
   rw[show e+1-b=(e-b)+1 by omega,Br,Dc,show b+(e-b)=e by omega,Ap d,Au,Ap d];rfl
  have e2:inS [l.getD e (0,0)] i↔(l.getD e (0,0)).1<=i/\i<(l.getD e (0,0)).2:=by
   rw[Gc]
   constructor
   ·rintro(h | h)
    ·exact h
    ·exact absurd h (GT i)
   ·exact .inl
  rw[e1,OV,<-or_assoc,<-h.mem i,e2];omega
theorem Joins.done{l:Sps}{a z b:Nat}(h:Joins l a z b e x y)(f:Srt l)(A:a<z)(t:e<l.length->y<(l.getD e (0,0)).1):Srt (l.take b++(x,y)::l.drop e)/\(∀i,inS (l.take b++(x,y)::l.drop e) i↔inS l i\/(a<=i/\i<z))/\(l.take b++(x,y)::l.drop e).length=b+1+(l.length-e):=by
 have C:=h.be;have D:=h.el;have G:=h.lo;have F:=h.hi;have u:∀q∈l.drop e,y<q.1:=fun q d=>by
  obtain⟨k,n,s,rfl⟩:=Agu d
  rcases DR n with r | r
  ·subst r;exact t s
  ·have I:=f.AeF r s;have J:=f.XC (show e<l.length by omega);have L:=t (by omega);omega
 have M:∀q∈l.take b,q.2<x:=fun q d=>by
  obtain⟨k,n,s,rfl⟩:=Agv d;exact h.aheadX k n
 refine⟨⟨fun q d=>?_,?_⟩,fun i=>?_,?_⟩
 ·rw[BH,Ar]at d
  rcases d with d | rfl | d
  ·exact f.1 q (Cr d)
  ·show x<y;omega
  ·exact f.1 q (BQ d)
 ·rw[List.pairwise_append,CN];refine⟨f.2.sublist (List.take_sublist _ _),⟨u,f.2.sublist (List.drop_sublist _ _)⟩,fun p N q d=>?_⟩
  grind
 ·have e1:l=l.take b++((l.drop b).take (e-b)++l.drop e):=by
   have n:l.drop b=(l.drop b).take (e-b)++l.drop e:=by
    have:=(Cs (e-b) (l.drop b)).symm
    rwa [List.drop_drop,show b+(e-b)=e by omega]at this
   rw[<-n,Cs]
  have e2:inS l i↔inS (l.take b) i\/(inS ((l.drop b).take (e-b)) i\/inS (l.drop e) i):=by
   conv=>lhs;rw[e1]
   rw[OV,OV]
  rw[e2,OV,Gc];have H:=h.mem i
  show _\/((x<=i/\i<y)\/_)↔_;rw[H]
  constructor
  ·grind
  grind
 grind
def F7 (hi:Nat):Nat->Sps->Sps
 | lo,[]=>if lo<hi then [(lo,hi)] else []
 | lo,y::r=>(if lo<min hi y.1 then [(lo,min hi y.1)] else [])++F7 hi (max lo y.2) r
theorem OS{hi lo:Nat}(h:hi<=lo):∀r,F7 hi lo r=[]
 | []=>by unfold F7;rw[Aa (by omega)]
 | y::r=>by
  unfold F7;rw[Aa (by omega),OS (by omega:hi<=max lo y.2) r];rfl
theorem VY{hi:Nat}:∀{l:Sps} {lo:Nat},Srt l->∀i,inS (F7 hi lo l) i↔lo<=i/\i<hi/\¬inS l i
 | [],lo,_,i=>by
  grind [F7,Gc,GT]
 | y::r,lo,hs,i=>by
  unfold F7;have a:=hs.head;have b:=VY (hi:=hi) (l:=r) (lo:=max lo y.2) hs.KX i
  grind [inS,Gc,GT,OV]
theorem VZ{hi:Nat}:∀{l:Sps} {lo:Nat} (q:Nat×Nat),q∈F7 hi lo l->lo<=q.1/\q.1<q.2/\q.2<=hi
 | [],lo,q,h=>by
  grind [F7]
 | y::r,lo,q,h=>by
  unfold F7 at h;rw[BH]at h
  rcases h with h | h
  ·grind
  ·have:=VZ q h;omega
theorem OR{hi:Nat}:∀{l:Sps} {lo:Nat},(F7 hi lo l).length<=l.length+1
 | [],lo=>by unfold F7;split<;>simp
 | y::r,lo=>by
  unfold F7;have:=OR (hi:=hi) (l:=r) (lo:=max lo y.2)
  grind
theorem K8{p:Nat->Bool}(e:Nat):Fv p e e=e:=IQ (Ac _) (fun k a b=>by omega)
theorem RD{p:Nat->Bool}{e:Nat}:∀{l:Sps} {f i:Nat},Srt l->l.length<f->i<=e->(∀k,i<=k->k<e->(p k=true↔¬inS l k))->MS p e f i=F7 e i l
 | [],f,i,_,s,hie,hp=>by
  obtain⟨f,rfl⟩:∃f',f=f'+1:=⟨f-1,by simp at s;omega⟩;have n:∀k,i<=k->k<e->p k=true:=fun k b d=>(hp k b d).2 (GT k)
  unfold MS F7
  by_cases h:i<e
  ·have e1:Fv p i e=i:=Ge (Ac _) hie (fun j b d=>by omega) (fun h=>n i (Ac _) h);have e2:Fv (fun k=>!p k) i e=e:=IQ hie (fun k b d=>by rw[n k b d];rfl);rw[e1,e2,Ab h,Ab h]
   cases f with
   | zero=>rfl
   | succ f=>unfold MS;rw[K8,Aa (Bp _)]
  grind [K8]
 | y::r,f,i,hs,s,hie,hp=>by
  obtain⟨f,rfl⟩:∃f',f=f'+1:=⟨f-1,by simp at s;omega⟩;have I:=hs.head;have A:r.length<f:=by simp at s;omega
  have C:∀k,y.2<=k->(inS (y::r) k↔inS r k):=fun k N=>by
   grind [Gc]
  have skip:∀f,r.length<f->∀a,i<=a->y.1<=a->a<=e->MS p e f a=F7 e (max a y.2) r:=by
   intro f s a G J D
   by_cases d:e<=y.2
   ·rw[OS (by omega)];obtain⟨f,rfl⟩:∃f',f=f'+1:=⟨f-1,by omega⟩
    grind [Fv,IQ,Gc,MS]
   ·have L:=RD (p:=p) (e:=e) (l:=r) (f:=f) (i:=max a y.2) hs.KX s (by omega) (fun k u F=>by grind);rw[<-L];obtain⟨f,rfl⟩:∃f',f=f'+1:=⟨f-1,by omega⟩;have e1:Fv p a e=Fv p (max a y.2) e:=by
     refine Ge ?_ ?_ ?_ ?_
     ·have:=PN p (max a y.2) e;omega
     ·exact Nb p (by omega)
     ·grind [Gc,L9]
     ·intro u;exact TF u
    unfold MS;rw[e1]
  unfold F7
  by_cases h:i<min e y.1
  ·rw[Ab h]
   have t:∀k,i<=k->k<min e y.1->p k=true:=fun k b d=>(hp k b (by omega)).2 (by
    rw[Gc];rintro(h | ⟨q,H,F,M⟩)
    ·omega
    ·have:=I.2 q H
     omega)
   have e1:Fv p i e=i:=Ge (Ac _) hie (fun j b d=>by omega) (fun _=>t i (Ac _) h)
   have e2:Fv (fun k=>!p k) i e=min e y.1:=Ge (by omega) (by omega) (fun j b d=>by rw[t j b d];rfl) (fun u=>by
    grind [Gc])
   unfold MS;rw[e1,e2,Ab (by omega)]
   show _::_=_::_
   congr 1
   by_cases u:y.1<e
   ·rw[show min e y.1=y.1 by omega,skip f A y.1 (by omega) (Ac _) (by omega)]
    congr 1
    omega
   ·rw[show min e y.1=e by omega,OS (by omega)]
    cases f with
    | zero=>rfl
    | succ f=>unfold MS;rw[K8,Aa (Bp _)];rfl
  grind [OS,MS,K8]
def G8 (l:Sps):Nat:=(l.getLastD (0,0)).2
theorem AeA{l:Sps}(a:l≠[]):G8 l=(l.getD (l.length-1) (0,0)).2:=by unfold G8;grind
theorem Srt.Tz{l:Sps}(h:Srt l):Qe l (G8 l):=fun q d=>by
 have a:l≠[]:=by rintro rfl;cases d
 obtain⟨k,s,e⟩:=List.mem_iff_getElem.1 d;have f:q=l.getD k (0,0):=by grind
 rw[AeA a]
 rcases AS k (l.length-1)with b | b
 ·have n:=h.AeF b (by omega);have r:=h.XC (show l.length-1<l.length by omega);rw[f];omega
 grind
theorem Srt.AmK{l:Sps}(h:Srt l)(a:0<G8 l):inS l (G8 l-1):=by simp_all[Sps,Srt,G8,inS];grind
theorem XH{l:Sps}(h:Srt l)(hi:inS l i):i<G8 l:=by
 obtain⟨q,a,b,d⟩:=hi;have:=h.Tz q a;omega
theorem Alq{l:Sps}(h:Srt l)(b:∀i,inS l i->i<e)(d:0<e->inS l (e-1)):G8 l=e:=by
 rcases Ea (G8 l) e with a | a | a
 ·have:=XH h (d (by omega));omega
 ·exact a
 ·have:=b _ (h.AmK (by omega));omega
def FD (l:Sps):List Value:=l.flatMap fun q=>[int i64 (q.1:Int),int i64 (q.2:Int)]
theorem Zb(l:Sps):(FD l).length=l.length*2:=by
 induction l with
 | nil=>rfl
 | cons q l ih=>grind [FD]
theorem R7(l:Sps):∀u∈FD l,u.oneCell'=true:=by
 intro u a;simp only[FD,Ce]at a;obtain⟨q,_,h⟩:=a;simp at h
 rcases h with rfl | rfl<;>rfl
theorem Za(l r:Sps):FD (l++r)=FD l++FD r:=by simp[FD]
theorem Xd(l:Sps):∀i,(FD l).take (i*2)=FD (l.take i):=by
 induction l with
 | nil=>intro i;simp[FD]
 | cons q l ih=>
  intro i
  cases i with
  | zero=>simp[FD]
  | succ i=>
   grind [FD]
theorem Qp(l:Sps):∀i,(FD l).drop (i*2)=FD (l.drop i):=by
 induction l with
 | nil=>intro i;simp[FD]
 | cons q l ih=>
  intro i
  cases i with
  | zero=>simp
  | succ i=>
   grind [FD]
theorem Ace(l:Sps):∀i,i<l.length->(FD l)[i*2]?=some (int i64 ((l.getD i (0,0)).1:Int))/\(FD l)[i*2+1]?=some (int i64 ((l.getD i (0,0)).2:Int)):=by
 induction l with
 | nil=>intro i h;simp at h
 | cons q l ih=>
  intro i h;have e:FD (q::l)=int i64 (q.1:Int):: int i64 (q.2:Int)::FD l:=rfl
  grind
def OwnSp(w:World)(v:Value)(l:Sps):Prop:=w.ownsRow 0 146 2 v l.length (FD l)
theorem OwnSp.nil(w:World):OwnSp w (slice none 0 0) []:=Bj _ _ _ _
theorem OwnSp.kept{l:Sps}(h:OwnSp w v l)(a:Kept S w w')(b:∀g,v.ownBlock=some g->g∉S):OwnSp w' v l:=FY h a b
theorem OwnSp.FC{l:Sps}(h:OwnSp w v l):∃a c,v=slice a l.length c/\l.length<=c/\c<=maxLen/\(∀x,a=some x->∃g,x=⟨g,0,none⟩/\v.ownBlock=some g):=Fg h
theorem OwnSp.lt{l:Sps}(h:OwnSp w v l)(hg:v.ownBlock=some g):g<w.heap.size:=(AB h g hg).2
theorem OwnSp.at{a:Option Addr}{n:Nat}{l:Sps}(h:OwnSp w (slice a n c) l)(hi:i<l.length):∃g,a=some ⟨g,0,none⟩/\g<w.heap.size/\∀k,k<l.length->w.cell? ⟨g,k*2,none⟩=some (int i64 ((l.getD k (0,0)).1:Int))/\w.cell? ⟨g,k*2+1,none⟩=some (int i64 ((l.getD k (0,0)).2:Int)):=by
 have s:=O6 h;subst s;obtain⟨g,rfl⟩:=Oz h (by omega);obtain⟨cur,b, -, -, -, -,d,t⟩:=F9 h;refine⟨g,rfl,b.lt,fun k r=>?_⟩;have f:=Ace l k r;rw[b.cell,b.cell,<-f.1,<-f.2,<-d,A3 (by omega),A3 (by omega)];exact⟨rfl,rfl⟩
theorem WF{a:Option Addr}{n:Nat}{l:Sps}(h:OwnSp w (slice a n c) l)(t:l.length<=4000):
 Calls prog 121 #[slice a n c] w fun e w'=>e=.returned (int i64 ((G8 l:Nat):Int))/\w'=w:=by
 have A:=O6 h;subst A
 by_cases b:l.length=0
 ·have e:l=[]:=Cp b;subst e;clear h t b;go_enter func121,ntmps121;go_wp2
  all_goals (go_ret;exact⟨rfl,rfl⟩)
 ·obtain⟨g,rfl, -,s⟩:=h.at (i:=0) (by omega);have f:=(s (l.length-1) (by omega)).2;have u:=hid (AeA (l:=l) (by rintro rfl;simp at b));obtain⟨N,d⟩:∃N,l.length=N+1:=⟨l.length-1,by omega⟩;rw[d,DD]at f;rw[d]at t b |-;have r:Hid (G8 l=(l.getD N (0,0)).2):=by
   grind
  have C:IntKind.i64.wrap ((N:Int)+1-1)=(N:Int):=by rw[AO];omega
  generalize (l.getD N (0,0)).2=E at*;clear h u s d;go_enter func121,ntmps121;go_wp2
  all_goals (go_ret;exact⟨by rw[r.out];rfl,rfl⟩)
end Go.Proofs.YtbjgfoiikhbonahGreatDoor
