import Derived.Test.YtdgdklmgnnhadafK06
namespace Go.Proofs.Ytdgdklmgnnhadaf
open Go.ChangeShapes Go.WideShapes Go.ChangeAt Go.RowKit
theorem rowLt {w : World} {B n k g : Nat} {T : TypeId} {v : Value} {xs : List Value} (h : w.ownsRow B T k v n xs) (hg : v.ownBlock = some g) : B ≤ g ∧ g < w.heap.size := h.lt g hg
structure Su (Snd : World → Addr → List Nat → OutM → Prop) (Rcv : World → Addr → List Nat → InM → Prop) (p q : Addr) (rb sb : Nat) (B : Nat) (w0 w : World) (F G : List Nat) (m : OutM) (r : InM) (v : Value) (texts : List ByteArray) : Prop where
  snd : Snd w p F m
  rcv : Rcv w q G r
  pair : Pair m r
  rbx : w.heap[rb]? = some (.cells #[.pointer (some q)] 47 (0, 0))
  sbx : w.heap[sb]? = some (.cells #[v] 67 (0, 0))
  own : w.ownsRow B 9 1 v texts.length (texts.map Value.string)
  fg : ∀ x ∈ F, x ∉ G
  fr : rb ∉ F
  gr : rb ∉ G
  fs : sb ∉ F
  gs : sb ∉ G
  rs : rb ≠ sb
  vo : ∀ g, v.ownBlock = some g → g ∉ F ∧ g ∉ G ∧ g ≠ rb ∧ g ≠ sb
  bf : ∀ x ∈ F, B ≤ x
  bg : ∀ x ∈ G, B ≤ x
  bs : B ≤ sb
  bw : B ≤ w.heap.size
  bel : Below B w0 w
theorem ltOf {w : World} {b : Nat} {o : Obj} (h : w.heap[b]? = some o) : b < w.heap.size := (Array.getElem?_eq_some_iff.1 h).1
theorem Su.sends {Snd : World → Addr → List Nat → OutM → Prop} {Rcv : World → Addr → List Nat → InM → Prop} {p q : Addr} {rb sb : Nat} {texts : List ByteArray} {B : Nat} {w0 w w' : World} {F F' G : List Nat} {m m' : OutM} {r : InM} {v : Value} (L : RepLaws Snd Rcv) (h : Su Snd Rcv p q rb sb B w0 w F G m r v texts) (hk : Kept F w w') (hs : Snd w' p F' m') (hg : Grown w.heap.size F F') (hp : Pair m' r) : Su Snd Rcv p q rb sb B w0 w' F' G m' r v texts := by
  have hl := hk.size
  refine ⟨hs, L.rkept h.rcv hk (fun x hx e => h.fg x e hx), hp, (hk.block rb (ltOf h.rbx) h.fr).trans h.rbx, (hk.block sb (ltOf h.sbx) h.fs).trans h.sbx, keptRow h.own hk (fun g hg => (h.vo g hg).1), ?_, hg.out h.fr (ltOf h.rbx), h.gr, hg.out h.fs (ltOf h.sbx), h.gs, h.rs, fun g e => ⟨hg.out (h.vo g e).1 (rowLt h.own e).2, (h.vo g e).2⟩, hg.low h.bf h.bw, h.bg, h.bs, Nat.le_trans h.bw hl, h.bel.trans (hk.below h.bw h.bf)⟩
  intro x hx hx2
  rcases hg x hx with g | g
  · exact h.fg x g hx2
  · have := L.rlt h.rcv x hx2
    omega
theorem Su.mem {Snd : World → Addr → List Nat → OutM → Prop} {Rcv : World → Addr → List Nat → InM → Prop} {p q : Addr} {rb sb : Nat} {texts : List ByteArray} {B : Nat} {w0 w w' : World} {F G : List Nat} {m : OutM} {r : InM} {v : Value} (L : RepLaws Snd Rcv) (h : Su Snd Rcv p q rb sb B w0 w F G m r v texts) (hb : Below w.heap.size w w') : Su Snd Rcv p q rb sb B w0 w' F G m r v texts :=
  h.sends L (Kept.of_below hb) (L.skept h.snd (Kept.of_below (S := []) hb) (by simp)) (fun _ hx => Or.inl hx) h.pair
theorem Su.pushed {Snd : World → Addr → List Nat → OutM → Prop} {Rcv : World → Addr → List Nat → InM → Prop} {p q : Addr} {rb sb : Nat} {texts : List ByteArray} {B : Nat} {w0 w w1 : World} {F G : List Nat} {m : OutM} {r : InM} {v v' : Value} (L : RepLaws Snd Rcv) {s : ByteArray} (h : Su Snd Rcv p q rb sb B w0 w F G m r v texts) (hg : w.grownBy w1 v.ownBlock) (ho : w1.ownsRow B 9 1 v' (texts.length + 1) (texts.map Value.string ++ [.string s])) (hloc : v'.ownBlock = v.ownBlock ∨ v'.ownBlock = some w.heap.size) :
    w1.cell? ⟨sb, 0, none⟩ = some v ∧ w1.frozen? ⟨sb, 0, none⟩ = false ∧ Su Snd Rcv p q rb sb B w0 (w1.setCell ⟨sb, 0, none⟩ v') F G m r v' (texts ++ [s]) := by
  have hk : Kept v.ownBlock.toList w w1 := Kept.grownR hg
  have hin : ∀ x, x ∈ v.ownBlock.toList → v.ownBlock = some x := fun x hx => by simpa using hx
  have hkS : Kept (sb :: v.ownBlock.toList) w (w1.setCell ⟨sb, 0, none⟩ v') := (hk.wider fun x hx => List.mem_cons_of_mem _ hx).setCell (by simp) _
  have hnm : ∀ x, x ≠ sb → (∀ g, v.ownBlock = some g → x ≠ g) → x ∉ sb :: v.ownBlock.toList := fun x h1 h2 e => by
    rcases List.mem_cons.mp e with e | e
    · exact h1 e
    · exact h2 x (hin x e) rfl
  have hs1 : w1.heap[sb]? = some (.cells #[v] 67 (0, 0)) := (hk.block sb (ltOf h.sbx) (fun e => (h.vo sb (hin sb e)).2.2.2 rfl)).trans h.sbx
  have hvo : ∀ g, v'.ownBlock = some g → g ∉ F ∧ g ∉ G ∧ g ≠ rb ∧ g ≠ sb := fun g e => by
    rcases hloc with hl | hl
    · exact h.vo g (hl.symm.trans e)
    · have eg : g = w.heap.size := Option.some.inj (e.symm.trans hl)
      refine ⟨fun hx => ?_, fun hx => ?_, fun hx => ?_, fun hx => ?_⟩
      · have := L.slt h.snd g hx; omega
      · have := L.rlt h.rcv g hx; omega
      · have := ltOf h.rbx; omega
      · have := ltOf h.sbx; omega
  have hown2 : (w1.setCell ⟨sb, 0, none⟩ v').ownsRow B 9 1 v' (texts ++ [s]).length ((texts ++ [s]).map Value.string) := by
    rw [List.length_append, List.map_append]
    exact keptRow ho ((Kept.refl [sb] w1).setCell (by simp) _) (fun g e => by simpa using (hvo g e).2.2.2)
  refine ⟨by rw [cell_of_row _ _ _ _ _ _ hs1]; rfl, frozen_of_row _ _ _ _ _ hs1, ⟨L.skept h.snd hkS (fun x hx => hnm x (fun e => h.fs (e ▸ hx)) (fun g e1 e2 => (h.vo g e1).1 (e2 ▸ hx))), L.rkept h.rcv hkS (fun x hx => hnm x (fun e => h.gs (e ▸ hx)) (fun g e1 e2 => (h.vo g e1).2.1 (e2 ▸ hx))), h.pair, (hkS.block rb (ltOf h.rbx) (hnm rb h.rs (fun g e1 e2 => (h.vo g e1).2.2.1 e2.symm))).trans h.rbx, heap_setCell_same w1 sb 0 _ _ v' hs1, hown2, h.fg, h.fr, h.gr, h.fs, h.gs, h.rs, hvo, h.bf, h.bg, h.bs, Nat.le_trans h.bw hkS.size, h.bel.trans (hkS.below h.bw ?_)⟩⟩
  intro x hx
  rcases List.mem_cons.mp hx with rfl | hx
  · exact h.bs
  · exact (rowLt h.own (hin x hx)).1
/-- Units are submitted: rounds begin. -/
theorem Su.rounds {Snd : World → Addr → List Nat → OutM → Prop} {Rcv : World → Addr → List Nat → InM → Prop} {p q : Addr} {rb tb sb : Nat} {asl : Option Addr} {ns cs : Nat} {texts : List ByteArray} {B : Nat} {w0 w w' : World} {F G : List Nat} {m : OutM} {r : InM} (L : RepLaws Snd Rcv) (h : Su Snd Rcv p q rb sb B w0 w F G m r (.slice asl ns cs) texts) (ht : m.text = texts) (hb : Below w.heap.size w w') (htb : w.heap.size ≤ tb) (hA : ArrAt .i64 3 w' tb [(r.fst : Int)]) : Cl Snd Rcv p q rb tb sb asl ns cs texts B w0 w' F G m r := by
  have h1 := h.mem L hb
  have hsh := row_shape h.own
  obtain ⟨a, c, e, _, _, hsa⟩ := hsh
  simp only [Value.slice.injEq] at e
  obtain ⟨rfl, rfl, rfl⟩ := e
  have hlt : ∀ x, asl = some x → ∃ g, x.block = g ∧ (Value.slice asl texts.length cs).ownBlock = some g := fun x e => by
    obtain ⟨g, rfl, hg⟩ := hsa x e
    exact ⟨g, rfl, hg⟩
  have hbl : ∀ x, asl = some x → x.block < w.heap.size := fun x e => by
    obtain ⟨g, e1, hg⟩ := hlt x e
    rw [e1]; exact (rowLt h.own hg).2
  have lr := ltOf h.rbx
  have ls := ltOf h.sbx
  refine ⟨h1.snd, h1.rcv, h1.pair, ht, by rw [cell_of_row _ _ _ _ _ _ h1.rbx]; rfl, hA, by rw [cell_of_row _ _ _ _ _ _ h1.sbx]; rfl, row_txs h1.own, h.fg, fun e => ?_, fun e => ?_, h.fr, h.gr, h.fs, h.gs, fun x e => ?_, fun x e => ?_, by omega, by omega, fun x e => ?_, fun x e => Nat.lt_of_lt_of_le (hbl x e) hb.size, h.bf, h.bg, Nat.le_trans h.bw htb, h1.bw, h1.bel⟩
  · have := L.slt h.snd tb e; omega
  · have := L.rlt h.rcv tb e; omega
  · obtain ⟨g, e1, hg⟩ := hlt x e
    rw [e1]; exact (h.vo g hg).1
  · obtain ⟨g, e1, hg⟩ := hlt x e
    rw [e1]; exact (h.vo g hg).2.1
  · have := hbl x e
    simp only [List.mem_singleton]
    omega
/-- A block of the law's own. -/
def Off (F G : List Nat) (rb tb sb : Nat) (asl : Option Addr) (g : Nat) : Prop := g ∉ F ∧ g ∉ G ∧ g ≠ tb ∧ g ≠ rb ∧ g ≠ sb ∧ NotIn [g] asl
theorem Off.grF {rb tb sb : Nat} {asl : Option Addr} {F F' G : List Nat} {g n : Nat} (h : Off F G rb tb sb asl g) (hg : Grown n F F') (hl : g < n) : Off F' G rb tb sb asl g := ⟨hg.out h.1 hl, h.2⟩
theorem Off.grG {rb tb sb : Nat} {asl : Option Addr} {F G G' : List Nat} {g n : Nat} (h : Off F G rb tb sb asl g) (hg : Grown n G G') (hl : g < n) : Off F G' rb tb sb asl g := ⟨h.1, hg.out h.2.1 hl, h.2.2⟩
theorem Cl.offNew {Snd : World → Addr → List Nat → OutM → Prop} {Rcv : World → Addr → List Nat → InM → Prop} {p q : Addr} {rb tb sb : Nat} {asl : Option Addr} {ns cs : Nat} {texts : List ByteArray} {B : Nat} {w0 w : World} {F G : List Nat} {m : OutM} {r : InM} {g : Nat} (L : RepLaws Snd Rcv) (h : Cl Snd Rcv p q rb tb sb asl ns cs texts B w0 w F G m r) (hg : w.heap.size ≤ g) : Off F G rb tb sb asl g := by
  have h1 := h.lr
  have h2 := h.lt
  have h3 := h.ls
  refine ⟨fun e => ?_, fun e => ?_, by omega, by omega, by omega, fun x e => ?_⟩
  · have := L.slt h.snd g e; omega
  · have := L.rlt h.rcv g e; omega
  · have := h.al x e
    simp only [List.mem_singleton]
    omega
/-- Blocks of the law's own changed. -/
theorem Cl.other {Snd : World → Addr → List Nat → OutM → Prop} {Rcv : World → Addr → List Nat → InM → Prop} {p q : Addr} {rb tb sb : Nat} {asl : Option Addr} {ns cs : Nat} {texts : List ByteArray} {B : Nat} {w0 w w' : World} {F G : List Nat} {m : OutM} {r : InM} {S : List Nat} (L : RepLaws Snd Rcv) (h : Cl Snd Rcv p q rb tb sb asl ns cs texts B w0 w F G m r) (hk : Kept S w w') (hS : ∀ g ∈ S, Off F G rb tb sb asl g ∧ B ≤ g) : Cl Snd Rcv p q rb tb sb asl ns cs texts B w0 w' F G m r := by
  have hl := hk.size
  exact ⟨L.skept h.snd hk (fun x hx e => (hS x e).1.1 hx), L.rkept h.rcv hk (fun x hx e => (hS x e).1.2.1 hx), h.pair, h.text, keptCellQ hk h.c1 (fun e => (hS _ e).1.2.2.2.1 rfl), h.tl.kept hk (fun e => (hS _ e).1.2.2.1 rfl), keptCellQ hk h.c3 (fun e => (hS _ e).1.2.2.2.2.1 rfl), h.tx.kept hk (fun x ex e => (hS _ e).1.2.2.2.2.2 x ex (by simp)), h.fg, h.ft, h.gt, h.fr, h.gr, h.fs, h.gs, h.fa, h.ga, h.ts, h.tr, h.ta, fun x e => Nat.lt_of_lt_of_le (h.al x e) hl, h.bf, h.bg, h.bt, Nat.le_trans h.bw hl, h.bel.trans (hk.below h.bw (fun x hx => (hS x hx).2))⟩
structure Mn (Snd : World → Addr → List Nat → OutM → Prop) (Rcv : World → Addr → List Nat → InM → Prop) (p q : Addr) (rb tb sb : Nat) (asl : Option Addr) (ns cs : Nat) (texts : List ByteArray) (B : Nat) (w0 w : World) (F G : List Nat) (m : OutM) (r : InM) (gb : Nat) (vo vu : Value) (outs : List PieceM) (us : List Nat) (bb : Nat) : Prop where
  cl : Cl Snd Rcv p q rb tb sb asl ns cs texts B w0 w F G m r
  beg : ArrAt .i64 3 w gb [(bb : Int)]
  po : w.ownsRow B 64 4 vo outs.length (cellsPc outs)
  io : w.ownsRow B 3 1 vu us.length (us.map fun (x : Nat) => Value.int .i64 x)
  og : Off F G rb tb sb asl gb
  oo : ∀ g, vo.ownBlock = some g → Off F G rb tb sb asl g ∧ g ≠ gb
  ou : ∀ g, vu.ownBlock = some g → Off F G rb tb sb asl g ∧ g ≠ gb ∧ vo.ownBlock ≠ some g
  bgb : B ≤ gb
theorem Mn.sends {Snd : World → Addr → List Nat → OutM → Prop} {Rcv : World → Addr → List Nat → InM → Prop} {p q : Addr} {rb tb sb gb : Nat} {asl : Option Addr} {ns cs : Nat} {texts : List ByteArray} {B : Nat} {w0 w w' : World} {F F' G : List Nat} {m m' : OutM} {r : InM} {vo vu : Value} {outs : List PieceM} {us : List Nat} {bb : Nat} (L : RepLaws Snd Rcv) (h : Mn Snd Rcv p q rb tb sb asl ns cs texts B w0 w F G m r gb vo vu outs us bb) (hk : Kept F w w') (hs : Snd w' p F' m') (hg : Grown w.heap.size F F') (hp : Pair m' r) (ht : m'.text = m.text) : Mn Snd Rcv p q rb tb sb asl ns cs texts B w0 w' F' G m' r gb vo vu outs us bb :=
  ⟨h.cl.sends L hk hs hg hp ht, h.beg.kept hk h.og.1, keptRow h.po hk (fun g e => (h.oo g e).1.1), keptRow h.io hk (fun g e => (h.ou g e).1.1), h.og.grF hg h.beg.lt, fun g e => ⟨(h.oo g e).1.grF hg (rowLt h.po e).2, (h.oo g e).2⟩, fun g e => ⟨(h.ou g e).1.grF hg (rowLt h.io e).2, (h.ou g e).2⟩, h.bgb⟩
theorem Mn.takes {Snd : World → Addr → List Nat → OutM → Prop} {Rcv : World → Addr → List Nat → InM → Prop} {p q : Addr} {rb tb sb gb : Nat} {asl : Option Addr} {ns cs : Nat} {texts : List ByteArray} {B : Nat} {w0 w w' : World} {F G G' : List Nat} {m : OutM} {r r' : InM} {vo vu : Value} {outs : List PieceM} {us : List Nat} {bb : Nat} (h : Mn Snd Rcv p q rb tb sb asl ns cs texts B w0 w F G m r gb vo vu outs us bb) (hk : Kept (tb :: G) w w') (hg : Grown w.heap.size G G') (hc : Cl Snd Rcv p q rb tb sb asl ns cs texts B w0 w' F G' m r') : Mn Snd Rcv p q rb tb sb asl ns cs texts B w0 w' F G' m r' gb vo vu outs us bb := by
  have hn : ∀ g, Off F G rb tb sb asl g → g ∉ tb :: G := fun g ho e => by
    rcases List.mem_cons.mp e with e | e
    · exact ho.2.2.1 e
    · exact ho.2.1 e
  exact ⟨hc, h.beg.kept hk (hn gb h.og), keptRow h.po hk (fun g e => hn g (h.oo g e).1), keptRow h.io hk (fun g e => hn g (h.ou g e).1), h.og.grG hg h.beg.lt, fun g e => ⟨(h.oo g e).1.grG hg (rowLt h.po e).2, (h.oo g e).2⟩, fun g e => ⟨(h.ou g e).1.grG hg (rowLt h.io e).2, (h.ou g e).2⟩, h.bgb⟩
theorem Mn.tells {Snd : World → Addr → List Nat → OutM → Prop} {Rcv : World → Addr → List Nat → InM → Prop} {p q : Addr} {rb tb sb gb : Nat} {asl : Option Addr} {ns cs : Nat} {texts : List ByteArray} {B : Nat} {w0 w w' : World} {F G G' : List Nat} {m : OutM} {r : InM} {vo vu : Value} {outs : List PieceM} {us : List Nat} {bb : Nat} (L : RepLaws Snd Rcv) (h : Mn Snd Rcv p q rb tb sb asl ns cs texts B w0 w F G m r gb vo vu outs us bb) (hk : Kept G w w') (hr : Rcv w' q G' r) (hg : Grown w.heap.size G G') : Mn Snd Rcv p q rb tb sb asl ns cs texts B w0 w' F G' m r gb vo vu outs us bb :=
  h.takes (hk.wider fun _ hx => List.mem_cons_of_mem _ hx) hg (h.cl.tells L hk hr hg)
theorem Mn.mem {Snd : World → Addr → List Nat → OutM → Prop} {Rcv : World → Addr → List Nat → InM → Prop} {p q : Addr} {rb tb sb gb : Nat} {asl : Option Addr} {ns cs : Nat} {texts : List ByteArray} {B : Nat} {w0 w w' : World} {F G : List Nat} {m : OutM} {r : InM} {vo vu : Value} {outs : List PieceM} {us : List Nat} {bb : Nat} (L : RepLaws Snd Rcv) (h : Mn Snd Rcv p q rb tb sb asl ns cs texts B w0 w F G m r gb vo vu outs us bb) (hb : Below w.heap.size w w') : Mn Snd Rcv p q rb tb sb asl ns cs texts B w0 w' F G m r gb vo vu outs us bb :=
  h.tells L (Kept.of_below hb) (L.rkept h.cl.rcv (Kept.of_below (S := []) hb) (by simp)) (fun _ hx => Or.inl hx)
theorem Mn.pushO {Snd : World → Addr → List Nat → OutM → Prop} {Rcv : World → Addr → List Nat → InM → Prop} {p q : Addr} {rb tb sb gb : Nat} {asl : Option Addr} {ns cs : Nat} {texts : List ByteArray} {B : Nat} {w0 w w' : World} {F G : List Nat} {m : OutM} {r : InM} {v' vo vu : Value} {outs : List PieceM} {us : List Nat} {bb : Nat} (L : RepLaws Snd Rcv) {x : PieceM} (h : Mn Snd Rcv p q rb tb sb asl ns cs texts B w0 w F G m r gb vo vu outs us bb) (hg : w.grownBy w' vo.ownBlock) (ho : w'.ownsRow B 64 4 v' (outs.length + 1) (cellsPc outs ++ x.cells)) (hloc : v'.ownBlock = vo.ownBlock ∨ v'.ownBlock = some w.heap.size) : Mn Snd Rcv p q rb tb sb asl ns cs texts B w0 w' F G m r gb v' vu (outs ++ [x]) us bb := by
  have hk : Kept vo.ownBlock.toList w w' := Kept.grownR hg
  have hin : ∀ x, x ∈ vo.ownBlock.toList → vo.ownBlock = some x := fun x hx => by simpa using hx
  refine ⟨h.cl.other L hk (fun g e => ⟨(h.oo g (hin g e)).1, (rowLt h.po (hin g e)).1⟩), h.beg.kept hk (fun e => (h.oo gb (hin gb e)).2 rfl), ?_, keptRow h.io hk (fun g e e2 => (h.ou g e).2.2 (hin g e2)), h.og, fun g e => ?_, fun g e => ⟨(h.ou g e).1, (h.ou g e).2.1, fun e2 => ?_⟩, h.bgb⟩
  · rw [List.length_append, cellsPc_snoc]; exact ho
  · rcases hloc with hl | hl
    · exact h.oo g (hl.symm.trans e)
    · have eg : g = w.heap.size := Option.some.inj (e.symm.trans hl)
      exact ⟨h.cl.offNew L (by omega), by have := h.beg.lt; omega⟩
  · rcases hloc with hl | hl
    · exact (h.ou g e).2.2 (hl.symm.trans e2)
    · have eg : g = w.heap.size := Option.some.inj (e2.symm.trans hl)
      have := (rowLt h.io e).2
      omega
theorem Mn.pushU {Snd : World → Addr → List Nat → OutM → Prop} {Rcv : World → Addr → List Nat → InM → Prop} {p q : Addr} {rb tb sb gb : Nat} {asl : Option Addr} {ns cs : Nat} {texts : List ByteArray} {B : Nat} {w0 w w' : World} {F G : List Nat} {m : OutM} {r : InM} {v' vo vu : Value} {outs : List PieceM} {us : List Nat} {bb : Nat} (L : RepLaws Snd Rcv) {x : Nat} (h : Mn Snd Rcv p q rb tb sb asl ns cs texts B w0 w F G m r gb vo vu outs us bb) (hg : w.grownBy w' vu.ownBlock) (ho : w'.ownsRow B 3 1 v' (us.length + 1) ((us.map fun (x : Nat) => Value.int .i64 x) ++ [.int .i64 (x : Int)])) (hloc : v'.ownBlock = vu.ownBlock ∨ v'.ownBlock = some w.heap.size) : Mn Snd Rcv p q rb tb sb asl ns cs texts B w0 w' F G m r gb vo v' outs (us ++ [x]) bb := by
  have hk : Kept vu.ownBlock.toList w w' := Kept.grownR hg
  have hin : ∀ x, x ∈ vu.ownBlock.toList → vu.ownBlock = some x := fun x hx => by simpa using hx
  refine ⟨h.cl.other L hk (fun g e => ⟨(h.ou g (hin g e)).1, (rowLt h.io (hin g e)).1⟩), h.beg.kept hk (fun e => (h.ou gb (hin gb e)).2.1 rfl), keptRow h.po hk (fun g e e2 => (h.ou g (hin g e2)).2.2 e), ?_, h.og, h.oo, fun g e => ?_, h.bgb⟩
  · rw [List.length_append, List.map_append]; exact ho
  · rcases hloc with hl | hl
    · exact h.ou g (hl.symm.trans e)
    · have eg : g = w.heap.size := Option.some.inj (e.symm.trans hl)
      refine ⟨h.cl.offNew L (by omega), by have := h.beg.lt; omega, fun e2 => ?_⟩
      have := (rowLt h.po e2).2
      omega
theorem Mn.setB {Snd : World → Addr → List Nat → OutM → Prop} {Rcv : World → Addr → List Nat → InM → Prop} {p q : Addr} {rb tb sb gb : Nat} {asl : Option Addr} {ns cs : Nat} {texts : List ByteArray} {B : Nat} {w0 w : World} {F G : List Nat} {m : OutM} {r : InM} {vo vu : Value} {outs : List PieceM} {us : List Nat} {bb : Nat} (L : RepLaws Snd Rcv) (h : Mn Snd Rcv p q rb tb sb asl ns cs texts B w0 w F G m r gb vo vu outs us bb) (b2 : Nat) : Mn Snd Rcv p q rb tb sb asl ns cs texts B w0 (w.setCell ⟨gb, 0, none⟩ (.int .i64 (b2 : Int))) F G m r gb vo vu outs us b2 := by
  have hk : Kept [gb] w (w.setCell ⟨gb, 0, none⟩ (.int .i64 (b2 : Int))) := (Kept.refl [gb] w).setCell (by simp) _
  exact ⟨h.cl.other L hk (fun g e => by obtain rfl : g = gb := (by simpa using e); exact ⟨h.og, h.bgb⟩), h.beg.set 0 _, keptRow h.po hk (fun g e => by simpa using (h.oo g e).2), keptRow h.io hk (fun g e => by simpa using (h.ou g e).2.1), h.og, h.oo, h.ou, h.bgb⟩
end Go.Proofs.Ytdgdklmgnnhadaf
