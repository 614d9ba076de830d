import Derived.Test.YtbjgfoiikhbonafK06
import Derived.Test.YtbjgfoiikhbonafK13
set_option linter.unusedVariables false
set_option linter.unusedSimpArgs false
namespace Go.Proofs.Ytbjgfoiikhbonaf
open Go.ChangeShapes Go.WideShapes Go.ChangeAt Go.RowKit
theorem rowLt {w : World} {B n k g : Nat} {T : TypeId} {v : Value} {xs : List Value} (h : w.ownsRow B T k v n xs) (hg : v.ownBlock = some g) : B ≤ g ∧ g < w.heap.size := h.lt g hg
theorem ltOf {w : World} {b : Nat} {o : Obj} (h : w.heap[b]? = some o) : b < w.heap.size := (Array.getElem?_eq_some_iff.1 h).1
structure Su (Snd : World → Addr → List Nat → OutM → Prop) (Rcv : World → Addr → List Nat → InM → Prop) (p q : Addr) (rb sb : Nat) (B : Nat) (w0 w : World) (F G : List Nat) (m : OutM) (r : InM) (v : Value) (texts : List ByteArray) : Prop where
  snd : Snd w p F m
  rcv : Rcv w q G r
  pair : Pair m r
  rbx : w.heap[rb]? = some (.cells #[.pointer (some q)] 47 (0, 0))
  sbx : w.heap[sb]? = some (.cells #[v] 67 (0, 0))
  own : w.ownsRow B 9 1 v texts.length (texts.map Value.string)
  fg : ∀ x ∈ F, x ∉ G
  fr : rb ∉ F
  gr : rb ∉ G
  fs : sb ∉ F
  gs : sb ∉ G
  rs : rb ≠ sb
  vo : ∀ g, v.ownBlock = some g → g ∉ F ∧ g ∉ G ∧ g ≠ rb ∧ g ≠ sb
  bf : ∀ x ∈ F, B ≤ x
  bg : ∀ x ∈ G, B ≤ x
  bs : B ≤ sb
  bw : B ≤ w.heap.size
  bel : Below B w0 w
theorem Su.sends {Snd : World → Addr → List Nat → OutM → Prop} {Rcv : World → Addr → List Nat → InM → Prop} {p q : Addr} {rb sb : Nat} {texts : List ByteArray} {B : Nat} {w0 w w' : World} {F F' G : List Nat} {m m' : OutM} {r : InM} {v : Value} (L : RepLaws Snd Rcv) (h : Su Snd Rcv p q rb sb B w0 w F G m r v texts) (hk : Kept F w w') (hs : Snd w' p F' m') (hg : Grown w.heap.size F F') (hp : Pair m' r) : Su Snd Rcv p q rb sb B w0 w' F' G m' r v texts := by
  have hl := hk.size
  refine ⟨hs, L.rkept h.rcv hk (fun x hx e => h.fg x e hx), hp, (hk.block rb (ltOf h.rbx) h.fr).trans h.rbx, (hk.block sb (ltOf h.sbx) h.fs).trans h.sbx, keptRow h.own hk (fun g hg => (h.vo g hg).1), ?_, hg.out h.fr (ltOf h.rbx), h.gr, hg.out h.fs (ltOf h.sbx), h.gs, h.rs, fun g e => ⟨hg.out (h.vo g e).1 (rowLt h.own e).2, (h.vo g e).2⟩, hg.low h.bf h.bw, h.bg, h.bs, Nat.le_trans h.bw hl, h.bel.trans (hk.below h.bw h.bf)⟩
  intro x hx hx2
  rcases hg x hx with g | g
  · exact h.fg x g hx2
  · have := L.rlt h.rcv x hx2
    omega
theorem Su.mem {Snd : World → Addr → List Nat → OutM → Prop} {Rcv : World → Addr → List Nat → InM → Prop} {p q : Addr} {rb sb : Nat} {texts : List ByteArray} {B : Nat} {w0 w w' : World} {F G : List Nat} {m : OutM} {r : InM} {v : Value} (L : RepLaws Snd Rcv) (h : Su Snd Rcv p q rb sb B w0 w F G m r v texts) (hb : Below w.heap.size w w') : Su Snd Rcv p q rb sb B w0 w' F G m r v texts :=
  h.sends L (Kept.of_below hb) (L.skept h.snd (Kept.of_below (S := []) hb) (by simp)) (fun _ hx => Or.inl hx) h.pair
/-- Units are submitted: rounds begin. -/
theorem Su.rounds {Snd : World → Addr → List Nat → OutM → Prop} {Rcv : World → Addr → List Nat → InM → Prop} {p q : Addr} {rb tb sb : Nat} {asl : Option Addr} {ns cs : Nat} {texts : List ByteArray} {B : Nat} {w0 w w' : World} {F G : List Nat} {m : OutM} {r : InM} (L : RepLaws Snd Rcv) (h : Su Snd Rcv p q rb sb B w0 w F G m r (.slice asl ns cs) texts) (ht : m.text = texts) (hb : Below w.heap.size w w') (htb : w.heap.size ≤ tb) (hA : ArrAt .i64 3 w' tb [(r.fst : Int)]) : Cl Snd Rcv p q rb tb sb asl ns cs texts B w0 w' F G m r := by
  have h1 := h.mem L hb
  have hsh := row_shape h.own
  obtain ⟨a, c, e, _, _, hsa⟩ := hsh
  simp only [Value.slice.injEq] at e
  obtain ⟨rfl, rfl, rfl⟩ := e
  have hlt : ∀ x, asl = some x → ∃ g, x.block = g ∧ (Value.slice asl texts.length cs).ownBlock = some g := fun x e => by
    obtain ⟨g, rfl, hg⟩ := hsa x e
    exact ⟨g, rfl, hg⟩
  have hbl : ∀ x, asl = some x → x.block < w.heap.size := fun x e => by
    obtain ⟨g, e1, hg⟩ := hlt x e
    rw [e1]; exact (rowLt h.own hg).2
  have lr := ltOf h.rbx
  have ls := ltOf h.sbx
  refine ⟨h1.snd, h1.rcv, h1.pair, ht, by rw [cell_of_row _ _ _ _ _ _ h1.rbx]; rfl, hA, by rw [cell_of_row _ _ _ _ _ _ h1.sbx]; rfl, row_txs h1.own, h.fg, fun e => ?_, fun e => ?_, h.fr, h.gr, h.fs, h.gs, fun x e => ?_, fun x e => ?_, by omega, by omega, fun x e => ?_, fun x e => Nat.lt_of_lt_of_le (hbl x e) hb.size, h.bf, h.bg, Nat.le_trans h.bw htb, h1.bw, h1.bel⟩
  · have := L.slt h.snd tb e; omega
  · have := L.rlt h.rcv tb e; omega
  · obtain ⟨g, e1, hg⟩ := hlt x e
    rw [e1]; exact (h.vo g hg).1
  · obtain ⟨g, e1, hg⟩ := hlt x e
    rw [e1]; exact (h.vo g hg).2.1
  · have := hbl x e
    simp only [List.mem_singleton]
    omega
/-- A block of the law's own. -/
def Off (F G : List Nat) (rb tb sb : Nat) (asl : Option Addr) (g : Nat) : Prop := g ∉ F ∧ g ∉ G ∧ g ≠ tb ∧ g ≠ rb ∧ g ≠ sb ∧ NotIn [g] asl
theorem Off.grF {rb tb sb : Nat} {asl : Option Addr} {F F' G : List Nat} {g n : Nat} (h : Off F G rb tb sb asl g) (hg : Grown n F F') (hl : g < n) : Off F' G rb tb sb asl g := ⟨hg.out h.1 hl, h.2⟩
theorem Off.grG {rb tb sb : Nat} {asl : Option Addr} {F G G' : List Nat} {g n : Nat} (h : Off F G rb tb sb asl g) (hg : Grown n G G') (hl : g < n) : Off F G' rb tb sb asl g := ⟨h.1, hg.out h.2.1 hl, h.2.2⟩
/-- Blocks of the law's own changed. -/
theorem Cl.other {Snd : World → Addr → List Nat → OutM → Prop} {Rcv : World → Addr → List Nat → InM → Prop} {p q : Addr} {rb tb sb : Nat} {asl : Option Addr} {ns cs : Nat} {texts : List ByteArray} {B : Nat} {w0 w w' : World} {F G : List Nat} {m : OutM} {r : InM} {S : List Nat} (L : RepLaws Snd Rcv) (h : Cl Snd Rcv p q rb tb sb asl ns cs texts B w0 w F G m r) (hk : Kept S w w') (hS : ∀ g ∈ S, Off F G rb tb sb asl g ∧ B ≤ g) : Cl Snd Rcv p q rb tb sb asl ns cs texts B w0 w' F G m r := by
  have hl := hk.size
  exact ⟨L.skept h.snd hk (fun x hx e => (hS x e).1.1 hx), L.rkept h.rcv hk (fun x hx e => (hS x e).1.2.1 hx), h.pair, h.text, keptCellQ hk h.c1 (fun e => (hS _ e).1.2.2.2.1 rfl), h.tl.kept hk (fun e => (hS _ e).1.2.2.1 rfl), keptCellQ hk h.c3 (fun e => (hS _ e).1.2.2.2.2.1 rfl), h.tx.kept hk (fun x ex e => (hS _ e).1.2.2.2.2.2 x ex (by simp)), h.fg, h.ft, h.gt, h.fr, h.gr, h.fs, h.gs, h.fa, h.ga, h.ts, h.tr, h.ta, fun x e => Nat.lt_of_lt_of_le (h.al x e) hl, h.bf, h.bg, h.bt, Nat.le_trans h.bw hl, h.bel.trans (hk.below h.bw (fun x hx => (hS x hx).2))⟩
structure Mn (Snd : World → Addr → List Nat → OutM → Prop) (Rcv : World → Addr → List Nat → InM → Prop) (p q : Addr) (rb tb sb : Nat) (asl : Option Addr) (ns cs : Nat) (texts : List ByteArray) (B : Nat) (w0 w : World) (F G : List Nat) (m : OutM) (r : InM) (gb : Nat) (vo vu : Value) (outs : List PieceM) (us : List Nat) (bb : Nat) : Prop where
  cl : Cl Snd Rcv p q rb tb sb asl ns cs texts B w0 w F G m r
  beg : ArrAt .i64 3 w gb [(bb : Int)]
  po : w.ownsRow B 64 4 vo outs.length (cellsPc outs)
  io : w.ownsRow B 3 1 vu us.length (us.map fun (x : Nat) => Value.int .i64 x)
  og : Off F G rb tb sb asl gb
  oo : ∀ g, vo.ownBlock = some g → Off F G rb tb sb asl g ∧ g ≠ gb
  ou : ∀ g, vu.ownBlock = some g → Off F G rb tb sb asl g ∧ g ≠ gb ∧ vo.ownBlock ≠ some g
  bgb : B ≤ gb
theorem Mn.sends {Snd : World → Addr → List Nat → OutM → Prop} {Rcv : World → Addr → List Nat → InM → Prop} {p q : Addr} {rb tb sb gb : Nat} {asl : Option Addr} {ns cs : Nat} {texts : List ByteArray} {B : Nat} {w0 w w' : World} {F F' G : List Nat} {m m' : OutM} {r : InM} {vo vu : Value} {outs : List PieceM} {us : List Nat} {bb : Nat} (L : RepLaws Snd Rcv) (h : Mn Snd Rcv p q rb tb sb asl ns cs texts B w0 w F G m r gb vo vu outs us bb) (hk : Kept F w w') (hs : Snd w' p F' m') (hg : Grown w.heap.size F F') (hp : Pair m' r) (ht : m'.text = m.text) : Mn Snd Rcv p q rb tb sb asl ns cs texts B w0 w' F' G m' r gb vo vu outs us bb :=
  ⟨h.cl.sends L hk hs hg hp ht, h.beg.kept hk h.og.1, keptRow h.po hk (fun g e => (h.oo g e).1.1), keptRow h.io hk (fun g e => (h.ou g e).1.1), h.og.grF hg h.beg.lt, fun g e => ⟨(h.oo g e).1.grF hg (rowLt h.po e).2, (h.oo g e).2⟩, fun g e => ⟨(h.ou g e).1.grF hg (rowLt h.io e).2, (h.ou g e).2⟩, h.bgb⟩
theorem Mn.takes {Snd : World → Addr → List Nat → OutM → Prop} {Rcv : World → Addr → List Nat → InM → Prop} {p q : Addr} {rb tb sb gb : Nat} {asl : Option Addr} {ns cs : Nat} {texts : List ByteArray} {B : Nat} {w0 w w' : World} {F G G' : List Nat} {m : OutM} {r r' : InM} {vo vu : Value} {outs : List PieceM} {us : List Nat} {bb : Nat} (h : Mn Snd Rcv p q rb tb sb asl ns cs texts B w0 w F G m r gb vo vu outs us bb) (hk : Kept (tb :: G) w w') (hg : Grown w.heap.size G G') (hc : Cl Snd Rcv p q rb tb sb asl ns cs texts B w0 w' F G' m r') : Mn Snd Rcv p q rb tb sb asl ns cs texts B w0 w' F G' m r' gb vo vu outs us bb := by
  have hn : ∀ g, Off F G rb tb sb asl g → g ∉ tb :: G := fun g ho e => by
    rcases List.mem_cons.mp e with e | e
    · exact ho.2.2.1 e
    · exact ho.2.1 e
  exact ⟨hc, h.beg.kept hk (hn gb h.og), keptRow h.po hk (fun g e => hn g (h.oo g e).1), keptRow h.io hk (fun g e => hn g (h.ou g e).1), h.og.grG hg h.beg.lt, fun g e => ⟨(h.oo g e).1.grG hg (rowLt h.po e).2, (h.oo g e).2⟩, fun g e => ⟨(h.ou g e).1.grG hg (rowLt h.io e).2, (h.ou g e).2⟩, h.bgb⟩
theorem Mn.tells {Snd : World → Addr → List Nat → OutM → Prop} {Rcv : World → Addr → List Nat → InM → Prop} {p q : Addr} {rb tb sb gb : Nat} {asl : Option Addr} {ns cs : Nat} {texts : List ByteArray} {B : Nat} {w0 w w' : World} {F G G' : List Nat} {m : OutM} {r : InM} {vo vu : Value} {outs : List PieceM} {us : List Nat} {bb : Nat} (L : RepLaws Snd Rcv) (h : Mn Snd Rcv p q rb tb sb asl ns cs texts B w0 w F G m r gb vo vu outs us bb) (hk : Kept G w w') (hr : Rcv w' q G' r) (hg : Grown w.heap.size G G') : Mn Snd Rcv p q rb tb sb asl ns cs texts B w0 w' F G' m r gb vo vu outs us bb :=
  h.takes (hk.wider fun _ hx => List.mem_cons_of_mem _ hx) hg (h.cl.tells L hk hr hg)
theorem Mn.mem {Snd : World → Addr → List Nat → OutM → Prop} {Rcv : World → Addr → List Nat → InM → Prop} {p q : Addr} {rb tb sb gb : Nat} {asl : Option Addr} {ns cs : Nat} {texts : List ByteArray} {B : Nat} {w0 w w' : World} {F G : List Nat} {m : OutM} {r : InM} {vo vu : Value} {outs : List PieceM} {us : List Nat} {bb : Nat} (L : RepLaws Snd Rcv) (h : Mn Snd Rcv p q rb tb sb asl ns cs texts B w0 w F G m r gb vo vu outs us bb) (hb : Below w.heap.size w w') : Mn Snd Rcv p q rb tb sb asl ns cs texts B w0 w' F G m r gb vo vu outs us bb :=
  h.tells L (Kept.of_below hb) (L.rkept h.cl.rcv (Kept.of_below (S := []) hb) (by simp)) (fun _ hx => Or.inl hx)
end Go.Proofs.Ytbjgfoiikhbonaf
namespace Go.Proofs.Ytbjgfoiikhbonaf
open Go.ChangeShapes Go.WideShapes Go.ChangeAt Go.RowKit
theorem any_inv {P : Program} {ops : Array Oper} {Q : Exit → Act → World → Prop} (k : Nat) (Inv : (Nat → Bool) → Act → World → Prop) (hk : ops.size = k) (htopo : ∀ i, i < k → laterNone ops i = true)
    (hstep : ∀ (L : Nat → Bool) (a : Act) (w : World) (i : Nat), Inv L a w → i < k → L i = false → (∀ j, waitsFor ops i j = true → L j = true) → wpOp P ops Q i (fun a' w' => Inv (fun j => if j = i then true else L j) a' w') a w)
    (hdone : ∀ (L : Nat → Bool) (a : Act) (w : World), (∀ j, j < k → L j = true) → Inv L a w → Q .normal a w) :
    ∀ (fuel : Nat) (listed : Array Bool) (a : Act) (w : World), listed.size = k → listed.toList.count false ≤ fuel → Inv (fun j => listed.getD j false) a w → wpAny P .any ops Q fuel listed a w := by
  have hdn : ∀ (listed : Array Bool) (a : Act) (w : World), listed.size = k → Region.ready .any ops listed = [] → Inv (fun j => listed.getD j false) a w → Q .normal a w := by
    intro listed a w hls hr hi
    refine hdone _ a w (fun j hj => ?_) hi
    show listed.getD j false = true
    by_cases hex : ∃ i, i < k ∧ listed.getD i true = false
    · obtain ⟨i0, hi0⟩ := hex
      obtain ⟨i, ⟨hi1, hf⟩, hmin⟩ := least (p := fun i => i < k ∧ listed.getD i true = false) i0 hi0
      have : i ∈ Region.ready .any ops listed := ready_first (by omega) hf (fun j hj => by
        have hjs : j < listed.size := by omega
        cases hb : listed.getD j false with
        | true => rfl
        | false =>
          have h2 : listed.getD j true = false := by
            rw [Array.getD_eq_getD_getElem?, Array.getElem?_eq_getElem hjs] at hb ⊢
            simpa using hb
          exact absurd (show j < k ∧ listed.getD j true = false from ⟨by omega, h2⟩) (hmin j hj)) (htopo i hi1)
      rw [hr] at this
      cases this
    · have hjs : j < listed.size := by omega
      have h2 : listed.getD j true ≠ false := fun h => hex ⟨j, hj, h⟩
      rw [Array.getD_eq_getD_getElem?, Array.getElem?_eq_getElem hjs] at h2 ⊢
      simpa using h2
  intro fuel
  induction fuel with
  | zero =>
    intro listed a w hls hc hi
    have hr : Region.ready .any ops listed = [] := ready_done fun j hj => by
      have hjs : j < listed.size := by omega
      cases hb : listed.getD j true with
      | true => rfl
      | false =>
        have := count_set listed j hb
        omega
    exact ⟨hr, hdn listed a w hls hr hi⟩
  | succ fuel ih =>
    intro listed a w hls hc hi
    refine ⟨fun hr => hdn listed a w hls hr hi, fun i hir => ?_⟩
    obtain ⟨his, hiu⟩ := ready_un hir
    have hil : i < listed.size := by omega
    refine wpOp_mono (fun a' w' h => ?_) (hstep _ a w i hi (by omega) (by
      rw [Array.getD_eq_getD_getElem?, Array.getElem?_eq_getElem hil] at hiu
      show listed.getD i false = false
      rw [Array.getD_eq_getD_getElem?, Array.getElem?_eq_getElem hil]
      simpa using hiu) (fun j hj => ready_waits hir hj))
    refine ih _ a' w' (by rw [Array.size_setIfInBounds]; exact hls) (by have := count_set listed i hiu; omega) ?_
    have e : (fun j => (listed.setIfInBounds i true).getD j false) = fun j => if j = i then true else listed.getD j false := by
      funext j
      rw [getD_set]
      by_cases h1 : j = i
      · subst h1
        rw [if_pos ⟨rfl, hil⟩, if_pos rfl]
      · rw [if_neg (fun h => h1 h.1.symm), if_neg h1]
    rw [e]
    exact h
theorem region_inv {P : Program} {ops : Array Oper} {Q : Exit → Act → World → Prop} {id : Nat} (k : Nat) (Inv : (Nat → Bool) → Act → World → Prop) (a0 : Act) (w : World) (hm : P.follows .mixedOrders = true) (hk : ops.size = k) (htopo : ((List.range k).all fun i => laterNone ops i) = true)
    (h0 : Inv (fun _ => false) a0 w.drew)
    (hstep : ∀ (L : Nat → Bool) (a : Act) (w : World) (i : Nat), Inv L a w → i < k → L i = false → (∀ j, waitsFor ops i j = true → L j = true) → wpOp P ops Q i (fun a' w' => Inv (fun j => if j = i then true else L j) a' w') a w)
    (hdone : ∀ (L : Nat → Bool) (a : Act) (w : World), (∀ j, j < k → L j = true) → Inv L a w → Q .normal a w) : (Code.region id ops true).wp P Q a0 w := by
  refine wp_region_any hm ?_
  show wpAny P .any ops Q ops.size (Array.replicate ops.size false) a0 w.drew
  rw [hk]
  refine any_inv k Inv hk (fun i hi => List.all_eq_true.1 htopo i (List.mem_range.2 hi)) hstep hdone k _ a0 w.drew (by simp) (by simp) ?_
  have e : (fun j => (Array.replicate k false).getD j false) = fun _ : Nat => false := by
    funext j
    rw [Array.getD_eq_getD_getElem?, Array.getElem?_replicate]
    split <;> rfl
  rw [e]
  exact h0
theorem act_known (a : Act) (lst : List Value) (hs : a.tmps.size = lst.length) (hd : a.defers = []) (h : ∀ s : Nat, s < lst.length → a.eval (.tmp s) = lst.getD s undef) : a = { tmps := lst.toArray, defers := [] } := by
  obtain ⟨t, d⟩ := a
  simp only at hs hd
  subst hd
  congr 1
  refine Array.ext (by simpa using hs) fun i i1 i2 => ?_
  have hti : t[i] = t.getD i undef := by simp [Array.getD, i1]
  have := h i (by omega)
  have hev : ({ tmps := t, defers := [] } : Act).eval (.tmp i) = t.getD i undef := rfl
  rw [hti, ← hev, this]
  simp [List.getD, show i < lst.length by omega]
def setAll (l : List Value) : List (Nat × Value) → List Value
  | [] => l
  | q :: t => setAll (l.set q.1 q.2) t
theorem setAll_length (t : List (Nat × Value)) : ∀ l : List Value, (setAll l t).length = l.length := by
  induction t with
  | nil => intro l; rfl
  | cons q t ih => intro l; rw [setAll, ih, List.length_set]
theorem beq_ne {a b : Nat} (h : a ≠ b) : Nat.beq a b = false := by
  cases hb : Nat.beq a b with
  | false => rfl
  | true => exact absurd (Nat.eq_of_beq_eq_true hb) h
/-- What a slot holds behind it all. -/
def lkp (l0 : List Value) : List (Nat × Value) → Nat → Value
  | [], s => l0.getD s undef
  | q :: t, s => match Nat.beq q.1 s with
    | true => q.2
    | false => lkp l0 t s
theorem lkp_set {l0 : List Value} {i : Nat} {v : Value} : ∀ (t : List (Nat × Value)) (s : Nat), i ≠ s → lkp (l0.set i v) t s = lkp l0 t s
  | [], s, h => by simp [lkp, List.getD, h]
  | q :: t, s, h => by
    rw [lkp, lkp, lkp_set t s h]
theorem lkp_none {l0 : List Value} : ∀ (t : List (Nat × Value)) (s : Nat), (∀ q ∈ t, q.1 ≠ s) → lkp l0 t s = l0.getD s undef
  | [], s, _ => rfl
  | q :: t, s, h => by
    have h1 : Nat.beq q.1 s = false := beq_ne (h q (by simp))
    rw [lkp, h1]
    exact lkp_none t s (fun q hq => h q (List.mem_cons_of_mem _ hq))
theorem setAll_lkp (t : List (Nat × Value)) : ∀ (l0 : List Value) (s : Nat), (t.map (·.1)).Nodup → (∀ q ∈ t, q.1 < l0.length) → (setAll l0 t).getD s undef = lkp l0 t s := by
  induction t with
  | nil => intro l0 s _ _; rfl
  | cons q t ih =>
    intro l0 s hn hl
    rw [List.map_cons, List.nodup_cons] at hn
    rw [setAll, ih _ s hn.2 (fun p hp => by rw [List.length_set]; exact hl p (List.mem_cons_of_mem _ hp)), lkp]
    by_cases e : q.1 = s
    · subst e
      have h1 : Nat.beq q.1 q.1 = true := Nat.beq_refl q.1
      rw [h1, lkp_none t _ (fun p hp he => hn.1 (List.mem_map.2 ⟨p, hp, he⟩))]
      simp [List.getD, hl q (by simp)]
    · have h1 : Nat.beq q.1 s = false := beq_ne e
      rw [h1]
      exact lkp_set t s e
theorem lkp_at (l0 : List Value) (t : List (Nat × Value)) (hn : (t.map (·.1)).Nodup) : ∀ i, i < t.length → lkp l0 t (t.getD i (0, undef)).1 = (t.getD i (0, undef)).2 := by
  induction t with
  | nil => intro i hi; simp at hi
  | cons q t ih =>
    intro i hi
    rw [List.map_cons, List.nodup_cons] at hn
    cases i with
    | zero => simp [lkp, List.getD]
    | succ i =>
      have hi' : i < t.length := by simpa using hi
      have e : (q :: t).getD (i + 1) (0, undef) = t.getD i (0, undef) := by simp [List.getD]
      rw [e, lkp]
      have hm : (t.getD i (0, undef)) ∈ t := by
        have e2 : t.getD i (0, undef) = t[i] := by simp [List.getD, hi']
        rw [e2]
        exact List.getElem_mem hi'
      have h1 : Nat.beq q.1 (t.getD i (0, undef)).1 = false := beq_ne (fun h => hn.1 (List.mem_map.2 ⟨_, hm, h.symm⟩))
      rw [h1]
      exact ih hn.2 i hi'
theorem op_value {P : Program} {ops : Array Oper} {Q : Exit → Act → World → Prop} {i : Nat} {o : Oper} {a : Act} {w w' : World} {v : Value} {K : Act → World → Prop} (hi : ops[i]? = some o) (hg : o.guard = none)
    (hrun : (execOp a.eval o).run P w = .ok (.value v) w') (hK : K (a.put o.dst v) w') : wpOp P ops Q i K a w := by
  unfold wpOp
  rw [hi]
  have hw : Region.wanted o (yielded ops a.tmps) = true := by simp [Region.wanted, hg]
  simp only [hw, if_true, Oper.wp]
  left
  rw [hrun]
  exact hK
end Go.Proofs.Ytbjgfoiikhbonaf
