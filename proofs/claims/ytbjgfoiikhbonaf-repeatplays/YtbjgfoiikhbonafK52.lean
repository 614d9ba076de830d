import Derived.Test.YtbjgfoiikhbonafK47
import Derived.Test.YtbjgfoiikhbonafK51
set_option linter.unusedVariables false
set_option linter.unusedSimpArgs false
namespace Go.Proofs.Ytbjgfoiikhbonaf
open Go.ChangeShapes Go.WideShapes Go.ChangeAt Go.RowKit
theorem below_keptG {w wr w' : World} {S : List Nat} (h : Below w.heap.size w wr) (hk : Kept S wr w') (hs : ∀ x ∈ S, w.heap.size ≤ x) : Below w.heap.size w w' :=
  ⟨hk.os.trans h.os, hk.tape.trans h.tape, hk.output.trans h.output, Nat.le_trans h.size hk.size, fun i hi => (hk.block i (Nat.lt_of_lt_of_le hi h.size) (fun e => by have := hs i e; omega)).trans (h.block i hi)⟩
/-- A thing that lies in blocks. -/
structure Cmp where
  P : World → List Nat → Prop
  lt : ∀ w F, P w F → ∀ x ∈ F, x < w.heap.size
  kept : ∀ w w' F S, P w F → Kept S w w' → (∀ x ∈ F, x ∉ S) → P w' F
structure Sep (w wr : World) (L : List (Cmp × List Nat)) : Prop where
  bel : Below w.heap.size w wr
  each : ∀ c ∈ L, c.1.P wr c.2
  nw : ∀ c ∈ L, ∀ x ∈ c.2, w.heap.size ≤ x
  ap : L.Pairwise (fun a b => ∀ x ∈ a.2, x ∉ b.2)
theorem Sep.below {w wr w' : World} {L : List (Cmp × List Nat)} (h : Sep w wr L) (hb : Below wr.heap.size wr w') : Sep w w' L :=
  ⟨bthen h.bel hb, fun c hc => c.1.kept _ _ _ [] (h.each c hc) (Kept.of_below hb) (by simp), h.nw, h.ap⟩
theorem Sep.step {w wr w' : World} (A : List (Cmp × List Nat)) {B : List (Cmp × List Nat)} {c c' : Cmp} {F F' : List Nat} (h : Sep w wr (A ++ (c, F) :: B)) (hk : Kept F wr w') (hP : c'.P w' F') (hg : Grown wr.heap.size F F') : Sep w w' (A ++ (c', F') :: B) := by
  have hc : (c, F) ∈ A ++ (c, F) :: B := List.mem_append_right _ List.mem_cons_self
  have hA : ∀ d ∈ A, d ∈ A ++ (c, F) :: B := fun d hd => List.mem_append_left _ hd
  have hB : ∀ d ∈ B, d ∈ A ++ (c, F) :: B := fun d hd => List.mem_append_right _ (List.mem_cons_of_mem _ hd)
  obtain ⟨p1, p2, p3⟩ := List.pairwise_append.1 h.ap
  obtain ⟨p4, p5⟩ := List.pairwise_cons.1 p2
  have hs := h.bel.size
  have gA : ∀ d ∈ A, ∀ x ∈ d.2, x ∉ F' := fun d hd x hx e => by
    rcases hg x e with q | q
    · exact p3 d hd (c, F) List.mem_cons_self x hx q
    · have := d.1.lt _ _ (h.each d (hA d hd)) x hx
      omega
  have gB : ∀ d ∈ B, ∀ x ∈ F', x ∉ d.2 := fun d hd x hx e => by
    rcases hg x hx with q | q
    · exact p4 d hd x q e
    · have := d.1.lt _ _ (h.each d (hB d hd)) x e
      omega
  refine ⟨below_keptG h.bel hk (h.nw (c, F) hc), fun d hd => ?_, fun d hd x hx => ?_, ?_⟩
  · rcases List.mem_append.1 hd with hd | hd
    · exact d.1.kept _ _ _ _ (h.each d (hA d hd)) hk (fun x hx => p3 d hd (c, F) List.mem_cons_self x hx)
    · rcases List.mem_cons.1 hd with rfl | hd
      · exact hP
      · exact d.1.kept _ _ _ _ (h.each d (hB d hd)) hk (fun x hx e => p4 d hd x e hx)
  · rcases List.mem_append.1 hd with hd | hd
    · exact h.nw d (hA d hd) x hx
    · rcases List.mem_cons.1 hd with rfl | hd
      · rcases hg x hx with q | q
        · exact h.nw (c, F) hc x q
        · omega
      · exact h.nw d (hB d hd) x hx
  · refine List.pairwise_append.2 ⟨p1, List.pairwise_cons.2 ⟨gB, p5⟩, fun d hd e he => ?_⟩
    rcases List.mem_cons.1 he with rfl | he
    · exact gA d hd
    · exact p3 d hd e (List.mem_cons_of_mem _ he)
theorem Sep.add {w wr : World} {L : List (Cmp × List Nat)} (h : Sep w wr L) {n : Nat} (hn : w.heap.size ≤ n) (hL : ∀ d ∈ L, ∀ x ∈ d.2, x < n) (c : Cmp) (F : List Nat) (hP : c.P wr F) (hF : ∀ x ∈ F, n ≤ x) : Sep w wr (L ++ [(c, F)]) := by
  refine ⟨h.bel, fun d hd => ?_, fun d hd x hx => ?_, List.pairwise_append.2 ⟨h.ap, List.pairwise_cons.2 ⟨fun d hd => absurd hd (by simp), List.Pairwise.nil⟩, fun d hd e he x hx q => ?_⟩⟩
  · rcases List.mem_append.1 hd with hd | hd
    · exact h.each d hd
    · rw [List.mem_singleton] at hd; subst hd; exact hP
  · rcases List.mem_append.1 hd with hd | hd
    · exact h.nw d hd x hx
    · rw [List.mem_singleton] at hd; subst hd
      have := hF x hx
      omega
  · rw [List.mem_singleton] at he; subst he
    have h1 := hL d hd x hx
    have h2 := hF x q
    omega
theorem Sep.lts {w wr : World} {L : List (Cmp × List Nat)} (h : Sep w wr L) : ∀ d ∈ L, ∀ x ∈ d.2, x < wr.heap.size := fun d hd x hx => d.1.lt _ _ (h.each d hd) x hx
theorem Sep.less {w wr : World} {L K : List (Cmp × List Nat)} (h : Sep w wr (L ++ K)) : Sep w wr L :=
  ⟨h.bel, fun c hc => h.each c (List.mem_append_left _ hc), fun c hc => h.nw c (List.mem_append_left _ hc), (List.pairwise_append.1 h.ap).1⟩
/-- One thing steps, and hands something out. -/
theorem Sep.step2 {w wr w' : World} (A : List (Cmp × List Nat)) {B : List (Cmp × List Nat)} {c c' d : Cmp} {F F' D : List Nat} (h : Sep w wr (A ++ (c, F) :: B)) (hk : Kept F wr w') (hP : c'.P w' F') (hg : Grown wr.heap.size F F') (hd : d.P w' D) (hD : ∀ x ∈ D, wr.heap.size ≤ x) (hn : ∀ x ∈ D, x ∉ F') : Sep w w' (A ++ (c', F') :: (B ++ [(d, D)])) := by
  have h1 := Sep.step A h hk hP hg
  have hs := h.bel.size
  have e : A ++ (c', F') :: (B ++ [(d, D)]) = (A ++ (c', F') :: B) ++ [(d, D)] := by simp
  rw [e]
  refine ⟨h1.bel, fun q hq => ?_, fun q hq x hx => ?_, List.pairwise_append.2 ⟨h1.ap, List.pairwise_cons.2 ⟨fun q hq => absurd hq (by simp), List.Pairwise.nil⟩, fun q hq r hr x hx hx2 => ?_⟩⟩
  · rcases List.mem_append.1 hq with hq | hq
    · exact h1.each q hq
    · rw [List.mem_singleton] at hq; subst hq; exact hd
  · rcases List.mem_append.1 hq with hq | hq
    · exact h1.nw q hq x hx
    · rw [List.mem_singleton] at hq; subst hq
      have := hD x hx
      omega
  · rw [List.mem_singleton] at hr; subst hr
    have h3 := hD x hx2
    rcases List.mem_append.1 hq with hq | hq
    · have := q.1.lt _ _ (h.each q (List.mem_append_left _ hq)) x hx
      omega
    · rcases List.mem_cons.1 hq with rfl | hq
      · exact hn x hx2 hx
      · have := q.1.lt _ _ (h.each q (List.mem_append_right _ (List.mem_cons_of_mem _ hq))) x hx
        omega
def adB (a : Option Addr) : List Nat := (a.map (·.block)).toList
theorem adB_mem {a : Option Addr} {x : Nat} (h : x ∈ adB a) : ∃ y, a = some y ∧ y.block = x := by
  unfold adB at h
  cases a with
  | none => simp at h
  | some y => exact ⟨y, rfl, by have h1 : x = y.block := by simpa using h
                                exact h1.symm⟩
theorem adB_at {a : Option Addr} {y : Addr} (h : a = some y) : y.block ∈ adB a := by subst h; simp [adB]
def ssC (p : Addr) (m : OutM) : Cmp := ⟨fun w F => Snd w p F m, fun _ _ h => rep_laws.slt h, fun _ _ _ _ h hk hn => rep_laws.skept h hk hn⟩
def rrC (p : Addr) (r : InM) : Cmp := ⟨fun w F => Rcv w p F r, fun _ _ h => rep_laws.rlt h, fun _ _ _ _ h hk hn => rep_laws.rkept h hk hn⟩
def saC (p : Addr) (m : OutM) : Cmp := ⟨fun w F => RSndO w p F m, fun _ _ h => rsnd_lt h.1, fun _ _ _ _ h hk hn => ⟨rsnd_kept h.1 hk hn, h.2⟩⟩
def rbC (p : Addr) (r : InM) (K : Nat) : Cmp := ⟨fun w F => RRcv K w p F r, fun _ _ h => rrcv_lt h, fun _ _ _ _ h hk hn => rrcv_kept h hk hn⟩
def pcC (v : Value) (l : List PieceM) : Cmp := ⟨fun w F => F = v.ownBlock.toList ∧ w.ownsRow 0 64 4 v l.length (cellsPc l), fun w F ⟨e, h⟩ => by subst e; exact fun x hx => (World.ownsRow.lt h x (by simpa using hx)).2, fun w w' F S ⟨e, h⟩ hk hn => by subst e; exact ⟨rfl, keptRow h hk (fun x hx => hn x (by simpa using hx))⟩⟩
def txC (a : Option Addr) (l : List ByteArray) : Cmp := ⟨fun w F => F = adB a ∧ Txs w a l ∧ ∀ x ∈ F, x < w.heap.size, fun w F h => h.2.2, fun w w' F S ⟨e, h1, h2⟩ hk hn => ⟨e, h1.kept hk (fun y hy => hn _ (by rw [e]; exact adB_at hy)), fun x hx => Nat.lt_of_lt_of_le (h2 x hx) hk.size⟩⟩
def gpC (a : Option Addr) (l : List GapM) : Cmp := ⟨fun w F => F = adB a ∧ Gps w a l ∧ ∀ x ∈ F, x < w.heap.size, fun w F h => h.2.2, fun w w' F S ⟨e, h1, h2⟩ hk hn => ⟨e, h1.kept hk (fun y hy => hn _ (by rw [e]; exact adB_at hy)), fun x hx => Nat.lt_of_lt_of_le (h2 x hx) hk.size⟩⟩
structure RpS where
  ps : Addr
  pr : Addr
  pa : Addr
  pb : Addr
/-- A sender and a receiver, the reference's two, the pieces that came out, and what lies beside them. -/
def Rp (w wr : World) (G : RpS) (m1 : OutM) (r1 : InM) (m2 : OutM) (r2 : InM) (K : Nat) (vo : Value) (out : List PieceM) (X : List (Cmp × List Nat)) : Prop :=
  ∃ Fs Fr Fa Fb Fo, Sep w wr ((ssC G.ps m1, Fs) :: (rrC G.pr r1, Fr) :: (saC G.pa m2, Fa) :: (rbC G.pb r2 K, Fb) :: (pcC vo out, Fo) :: X)
theorem Rp.below {w wr : World} {G : RpS} {m1 m2 : OutM} {r1 r2 : InM} {K : Nat} {vo : Value} {out : List PieceM} {X : List (Cmp × List Nat)} (h : Rp w wr G m1 r1 m2 r2 K vo out X) {w' : World} (hb : Below wr.heap.size wr w') : Rp w w' G m1 r1 m2 r2 K vo out X := by
  obtain ⟨Fs, Fr, Fa, Fb, Fo, h⟩ := h
  exact ⟨_, _, _, _, _, h.below hb⟩
theorem Rp.bel {w wr : World} {G : RpS} {m1 m2 : OutM} {r1 r2 : InM} {K : Nat} {vo : Value} {out : List PieceM} {X : List (Cmp × List Nat)} (h : Rp w wr G m1 r1 m2 r2 K vo out X) : Below w.heap.size w wr := by
  obtain ⟨Fs, Fr, Fa, Fb, Fo, h⟩ := h
  exact h.bel
theorem Rp.out {w wr : World} {G : RpS} {m1 m2 : OutM} {r1 r2 : InM} {K : Nat} {vo : Value} {out : List PieceM} {X : List (Cmp × List Nat)} (h : Rp w wr G m1 r1 m2 r2 K vo out X) : wr.ownsRow 0 64 4 vo out.length (cellsPc out) := by
  obtain ⟨Fs, Fr, Fa, Fb, Fo, h⟩ := h
  exact (h.each (pcC vo out, Fo) (by simp)).2
theorem Rp.less {w wr : World} {G : RpS} {m1 m2 : OutM} {r1 r2 : InM} {K : Nat} {vo : Value} {out : List PieceM} {X : List (Cmp × List Nat)} (h : Rp w wr G m1 r1 m2 r2 K vo out X) : Rp w wr G m1 r1 m2 r2 K vo out [] := by
  obtain ⟨Fs, Fr, Fa, Fb, Fo, h⟩ := h
  exact ⟨_, _, _, _, _, Sep.less (L := [_, _, _, _, _]) h⟩
theorem Rp.beside {w wr : World} {G : RpS} {m1 m2 : OutM} {r1 r2 : InM} {K : Nat} {vo : Value} {out : List PieceM} {X : List (Cmp × List Nat)} (h : Rp w wr G m1 r1 m2 r2 K vo out X) {c : Cmp} {F : List Nat} (hc : (c, F) ∈ X) : c.P wr F := by
  obtain ⟨Fs, Fr, Fa, Fb, Fo, h⟩ := h
  exact h.each (c, F) (by simp [hc])
theorem Rp.more {w wr : World} {G : RpS} {m1 m2 : OutM} {r1 r2 : InM} {K : Nat} {vo : Value} {out : List PieceM} {X : List (Cmp × List Nat)} (h : Rp w wr G m1 r1 m2 r2 K vo out X) {w' : World} (hb : Below wr.heap.size wr w') {c : Cmp} {F : List Nat} (hP : c.P w' F) (hF : ∀ x ∈ F, wr.heap.size ≤ x) : Rp w w' G m1 r1 m2 r2 K vo out (X ++ [(c, F)]) := by
  obtain ⟨Fs, Fr, Fa, Fb, Fo, h⟩ := h
  have h2 := (h.below hb).add (n := wr.heap.size) h.bel.size h.lts c F hP hF
  exact ⟨Fs, Fr, Fa, Fb, Fo, by simpa using h2⟩
/-- A list of gaps lies apart from the four. -/
def OffR (w : World) (a : Option Addr) (X : List (Cmp × List Nat)) : Prop := (∀ x, a = some x → x.block < w.heap.size) ∨ ∃ l, (gpC a l, adB a) ∈ X
theorem Rp.sub1 {w wr : World} {G : RpS} {m1 m2 : OutM} {r1 r2 : InM} {K : Nat} {vo : Value} {out : List PieceM} {X : List (Cmp × List Nat)} (h : Rp w wr G m1 r1 m2 r2 K vo out X) (s : ByteArray) (hn : m1.n < manyU) (hs : s.size ≤ manyB) : Calls Try.prog 14 #[.pointer (some G.ps), .string s] wr fun e w' => e = .returned (.int .i64 (m1.submit s).err) ∧ Rp w w' G (m1.submit s).m r1 m2 r2 K vo out X := by
  obtain ⟨Fs, Fr, Fa, Fb, Fo, h⟩ := h
  refine (rep_laws.submit s (h.each (ssC G.ps m1, Fs) (by simp)) hn hs).mono ?_
  rintro e w' ⟨rfl, hk, F2, h2, hg⟩
  exact ⟨rfl, _, _, _, _, _, Sep.step [] h hk (c' := ssC G.ps (m1.submit s).m) h2 hg⟩
theorem Rp.sub2 {w wr : World} {G : RpS} {m1 m2 : OutM} {r1 r2 : InM} {K : Nat} {vo : Value} {out : List PieceM} {X : List (Cmp × List Nat)} (h : Rp w wr G m1 r1 m2 r2 K vo out X) (s : ByteArray) (hn : m2.n ≤ manyO) (hs : s.size ≤ manyB) : Calls Try.prog 15 #[.pointer (some G.pa), .string s] wr fun e w' => e = .returned (.int .i64 (m2.submit s).err) ∧ Rp w w' G m1 r1 (m2.submit s).m r2 K vo out X := by
  obtain ⟨Fs, Fr, Fa, Fb, Fo, h⟩ := h
  have h9 : RSndO wr G.pa Fa m2 := h.each (saC G.pa m2, Fa) (by simp)
  refine (rsnd_submit s h9.1 hn hs).mono ?_
  rintro e w' ⟨rfl, hk, F2, h2, hg⟩
  exact ⟨rfl, _, _, _, _, _, Sep.step [(ssC G.ps m1, Fs), (rrC G.pr r1, Fr)] h hk (c' := saC G.pa (m2.submit s).m) ⟨h2, h9.2.submit s⟩ hg⟩
theorem Rp.nxt1 {w wr : World} {G : RpS} {m1 m2 : OutM} {r1 r2 : InM} {K : Nat} {vo : Value} {out : List PieceM} {X : List (Cmp × List Nat)} (h : Rp w wr G m1 r1 m2 r2 K vo out X) (z : Int) (hn : m1.n ≤ manyU) : Calls Try.prog 16 #[.pointer (some G.ps), .int .i64 z] wr fun e w' => e = .returned (.tuple #[(m1.next z).p.val, .int .i64 (m1.next z).err]) ∧ Rp w w' G (m1.next z).m r1 m2 r2 K vo out X := by
  obtain ⟨Fs, Fr, Fa, Fb, Fo, h⟩ := h
  refine (rep_laws.next z (h.each (ssC G.ps m1, Fs) (by simp)) hn).mono ?_
  rintro e w' ⟨rfl, hk, F2, h2, hg⟩
  exact ⟨rfl, _, _, _, _, _, Sep.step [] h hk (c' := ssC G.ps (m1.next z).m) h2 hg⟩
theorem Rp.nxt2 {w wr : World} {G : RpS} {m1 m2 : OutM} {r1 r2 : InM} {K : Nat} {vo : Value} {out : List PieceM} {X : List (Cmp × List Nat)} (h : Rp w wr G m1 r1 m2 r2 K vo out X) (z : Int) (hn : m2.n ≤ manyO) : Calls Try.prog 17 #[.pointer (some G.pa), .int .i64 z] wr fun e w' => e = .returned (.tuple #[(m2.next z).p.val, .int .i64 (m2.next z).err]) ∧ Rp w w' G m1 r1 (m2.next z).m r2 K vo out X := by
  obtain ⟨Fs, Fr, Fa, Fb, Fo, h⟩ := h
  have h9 : RSndO wr G.pa Fa m2 := h.each (saC G.pa m2, Fa) (by simp)
  have hp : ∀ u, u < m2.n → 0 < m2.sz u := fun u hu => by
    obtain ⟨b, ua, c, us, -, -, h1, h2⟩ := h9.1
    have hl := h2.len
    have hx := h2.un u (by rw [hl]; exact hu)
    rw [hx.sz]
    exact hx.lo
  refine (rsnd_next z h9.1 hn).mono ?_
  rintro e w' ⟨rfl, hk, F2, h2, hg⟩
  exact ⟨rfl, _, _, _, _, _, Sep.step [(ssC G.ps m1, Fs), (rrC G.pr r1, Fr)] h hk (c' := saC G.pa (m2.next z).m) ⟨h2, h9.2.next hp z⟩ hg⟩
theorem Rp.off {w wr : World} {G : RpS} {m1 m2 : OutM} {r1 r2 : InM} {K : Nat} {vo : Value} {out : List PieceM} {X : List (Cmp × List Nat)} (_h : Rp w wr G m1 r1 m2 r2 K vo out X) {a : Option Addr} (ho : OffR w a X) : ∀ Fs Fr Fa Fb Fo, Sep w wr ((ssC G.ps m1, Fs) :: (rrC G.pr r1, Fr) :: (saC G.pa m2, Fa) :: (rbC G.pb r2 K, Fb) :: (pcC vo out, Fo) :: X) → NotIn Fs a ∧ NotIn Fa a := by
  intro Fs Fr Fa Fb Fo hs
  rcases ho with ho | ⟨l, hl⟩
  · refine ⟨fun x hx hm => ?_, fun x hx hm => ?_⟩
    · have := ho x hx
      have := hs.nw (ssC G.ps m1, Fs) (by simp) _ hm
      omega
    · have := ho x hx
      have := hs.nw (saC G.pa m2, Fa) (by simp) _ hm
      omega
  · have h1 := List.pairwise_cons.1 hs.ap
    have h2 := List.pairwise_cons.1 h1.2
    have h3 := List.pairwise_cons.1 h2.2
    refine ⟨fun x hx hm => ?_, fun x hx hm => ?_⟩
    · exact h1.1 (gpC a l, adB a) (by simp [hl]) _ hm (adB_at hx)
    · exact h3.1 (gpC a l, adB a) (by simp [hl]) _ hm (adB_at hx)
theorem Rp.tk1 {w wr : World} {G : RpS} {m1 m2 : OutM} {r1 r2 : InM} {K : Nat} {vo : Value} {out : List PieceM} {X : List (Cmp × List Nat)} (h : Rp w wr G m1 r1 m2 r2 K vo out X) (r : ReportM) (a : Option Addr) (n c : Nat) (hn : m1.n ≤ manyU) (hg : Gps wr a r.miss) (ho : r.miss ≠ [] → OffR w a X) (hl : r.miss.length = n) (hm : n ≤ maxLen) : Calls Try.prog 22 #[.pointer (some G.ps), .agg #[.int .i64 r.next, .slice a n c]] wr fun e w' => e = .returned (.int .i64 (m1.take r).err) ∧ Gps w' a r.miss ∧ Rp w w' G (m1.take r).m r1 m2 r2 K vo out X := by
  have h0 := h
  obtain ⟨Fs, Fr, Fa, Fb, Fo, h⟩ := h
  have hoff : r.miss ≠ [] → _ := fun hne => h0.off (ho hne) _ _ _ _ _ h
  refine (snd_take r a n c (h.each (ssC G.ps m1, Fs) (by simp)) hg (fun hne => (hoff hne).1) hl hm).mono ?_
  rintro e w' ⟨rfl, hk, F2, h2, hg2⟩
  exact ⟨rfl, fun hne => hg.kept hk (hoff hne).1 hne, _, _, _, _, _, Sep.step [] h hk (c' := ssC G.ps (m1.take r).m) h2 hg2⟩
theorem Rp.tk2 {w wr : World} {G : RpS} {m1 m2 : OutM} {r1 r2 : InM} {K : Nat} {vo : Value} {out : List PieceM} {X : List (Cmp × List Nat)} (h : Rp w wr G m1 r1 m2 r2 K vo out X) (r : ReportM) (a : Option Addr) (n c : Nat) (hn : m2.n ≤ manyO) (hg : Gps wr a r.miss) (ho : r.miss ≠ [] → OffR w a X) (hl : r.miss.length = n) (hm : n ≤ maxLen) : Calls Try.prog 23 #[.pointer (some G.pa), .agg #[.int .i64 r.next, .slice a n c]] wr fun e w' => e = .returned (.int .i64 (m2.take r).err) ∧ Rp w w' G m1 r1 (m2.take r).m r2 K vo out X := by
  have h0 := h
  obtain ⟨Fs, Fr, Fa, Fb, Fo, h⟩ := h
  have hoff : r.miss ≠ [] → _ := fun hne => h0.off (ho hne) _ _ _ _ _ h
  refine (rsnd_take r a n c (h.each (saC G.pa m2, Fa) (by simp)) hn hg (fun hne => (hoff hne).2) hl hm).mono ?_
  rintro e w' ⟨rfl, hk, F2, h2, hg2⟩
  exact ⟨rfl, _, _, _, _, _, Sep.step [(ssC G.ps m1, Fs), (rrC G.pr r1, Fr)] h hk (c' := saC G.pa (m2.take r).m) h2 hg2⟩
theorem Rp.wt1 {w wr : World} {G : RpS} {m1 m2 : OutM} {r1 r2 : InM} {K : Nat} {vo : Value} {out : List PieceM} {X : List (Cmp × List Nat)} (h : Rp w wr G m1 r1 m2 r2 K vo out X) (hn : m1.n ≤ manyU) : Calls Try.prog 24 #[.pointer (some G.ps)] wr fun e w' => e = .returned (.int .i64 (m1.wait : Nat)) ∧ Rp w w' G m1 r1 m2 r2 K vo out X := by
  obtain ⟨Fs, Fr, Fa, Fb, Fo, h⟩ := h
  refine (rep_laws.wait (h.each (ssC G.ps m1, Fs) (by simp)) hn).mono ?_
  rintro e w' ⟨rfl, hk, F2, h2, hg⟩
  exact ⟨rfl, _, _, _, _, _, Sep.step [] h hk (c' := ssC G.ps m1) h2 hg⟩
theorem Rp.wt2 {w wr : World} {G : RpS} {m1 m2 : OutM} {r1 r2 : InM} {K : Nat} {vo : Value} {out : List PieceM} {X : List (Cmp × List Nat)} (h : Rp w wr G m1 r1 m2 r2 K vo out X) (hn : m2.n ≤ manyO) : Calls Try.prog 25 #[.pointer (some G.pa)] wr fun e w' => e = .returned (.int .i64 (m2.wait : Nat)) ∧ w' = wr := by
  obtain ⟨Fs, Fr, Fa, Fb, Fo, h⟩ := h
  have h9 : RSndO wr G.pa Fa m2 := h.each (saC G.pa m2, Fa) (by simp)
  exact rsnd_wait h9.1 hn
theorem Rp.rt1 {w wr : World} {G : RpS} {m1 m2 : OutM} {r1 r2 : InM} {K : Nat} {vo : Value} {out : List PieceM} {X : List (Cmp × List Nat)} (h : Rp w wr G m1 r1 m2 r2 K vo out X) (x : PieceM) (hf : r1.fst ≤ manyU) (hd : x.data.size ≤ manyB) : Calls Try.prog 18 #[.pointer (some G.pr), x.val] wr fun e w' => ∃ a n c, e = .returned (.tuple #[.slice a n c, .int .i64 (r1.take x).err]) ∧ (r1.take x).out.length = n ∧ n ≤ 32 ∧ Rp w w' G m1 (r1.take x).m m2 r2 K vo out (X ++ [(txC a (r1.take x).out, adB a)]) := by
  obtain ⟨Fs, Fr, Fa, Fb, Fo, h⟩ := h
  refine (rcv_takeO x (h.each (rrC G.pr r1, Fr) (by simp)) hd).mono ?_
  rintro e w' ⟨a, n, c, rfl, h32, ho, a', n', c', e', ht, hl, hn, hk, F2, h2, hg, hni⟩
  simp at e'
  obtain ⟨rfl, rfl, rfl⟩ := e'
  refine ⟨a, n, c, rfl, hl, h32, Fs, F2, Fa, Fb, Fo, ?_⟩
  have hlt : ∀ y ∈ adB a, y < w'.heap.size := fun y hy => by
    obtain ⟨z, e, rfl⟩ := adB_mem hy
    obtain ⟨a', c', e', -, -, hx'⟩ := row_shape ho
    simp only [Value.slice.injEq] at e'
    obtain ⟨rfl, -, rfl⟩ := e'
    obtain ⟨g', rfl, h5⟩ := hx' z e
    exact (World.ownsRow.lt ho g' h5).2
  have h9 := Sep.step2 [(ssC G.ps m1, Fs)] h hk (c' := rrC G.pr (r1.take x).m) h2 hg (d := txC a (r1.take x).out) (D := adB a) ⟨rfl, ht, hlt⟩ (fun y hy => by obtain ⟨z, e, rfl⟩ := adB_mem hy; exact hn z e) (fun y hy => by obtain ⟨z, e, rfl⟩ := adB_mem hy; exact hni z e)
  simpa using h9
theorem Rp.rt2 {w wr : World} {G : RpS} {m1 m2 : OutM} {r1 r2 : InM} {K : Nat} {vo : Value} {out : List PieceM} {X : List (Cmp × List Nat)} (h : Rp w wr G m1 r1 m2 r2 K vo out X) (x : PieceM) (hf : r2.fst ≤ manyU) (hK : K ≤ manyO) (hx : -9223372036854775808 ≤ x.frm ∧ x.frm ≤ 9223372036854775807) (hd : x.data.size ≤ manyB) : Calls Try.prog 19 #[.pointer (some G.pb), x.val] wr fun e w' => ∃ a n c, e = .returned (.tuple #[.slice a n c, .int .i64 (r2.take x).err]) ∧ Txs w' a (r2.take x).out ∧ (r2.take x).out.length = n ∧ n ≤ 32 ∧ Rp w w' G m1 r1 m2 (r2.take x).m (K + 1) vo out X := by
  obtain ⟨Fs, Fr, Fa, Fb, Fo, h⟩ := h
  refine (rrcv_take x (h.each (rbC G.pb r2 K, Fb) (by simp)) hf hK hx hd).mono ?_
  rintro e w' ⟨a, n, c, rfl, ht, hl, h32, hn, hk, F2, h2, hg⟩
  exact ⟨a, n, c, rfl, ht, hl, h32, Fs, Fr, Fa, F2, Fo, Sep.step [(ssC G.ps m1, Fs), (rrC G.pr r1, Fr), (saC G.pa m2, Fa)] h hk (c' := rbC G.pb (r2.take x).m (K + 1)) h2 hg⟩
theorem Rp.rp1 {w wr : World} {G : RpS} {m1 m2 : OutM} {r1 r2 : InM} {K : Nat} {vo : Value} {out : List PieceM} {X : List (Cmp × List Nat)} (h : Rp w wr G m1 r1 m2 r2 K vo out X) (hf : r1.fst ≤ manyU) : Calls Try.prog 27 #[.pointer (some G.pr)] wr fun e w' => ∃ a n c, e = .returned (.agg #[.int .i64 r1.report.next, .slice a n c]) ∧ Gps w' a r1.report.miss ∧ r1.report.miss.length = n ∧ n ≤ maxLen ∧ Rp w w' G m1 r1 m2 r2 K vo out X := by
  obtain ⟨Fs, Fr, Fa, Fb, Fo, h⟩ := h
  refine (rep_laws.report (h.each (rrC G.pr r1, Fr) (by simp)) hf).mono ?_
  rintro e w' ⟨a, n, c, rfl, ht, hl, hm, hn, hk, F2, h2, hg, hni⟩
  exact ⟨a, n, c, rfl, ht, hl, hm, Fs, F2, Fa, Fb, Fo, Sep.step [(ssC G.ps m1, Fs)] h hk (c' := rrC G.pr r1) h2 hg⟩
theorem Rp.rp2 {w wr : World} {G : RpS} {m1 m2 : OutM} {r1 r2 : InM} {K : Nat} {vo : Value} {out : List PieceM} {X : List (Cmp × List Nat)} (h : Rp w wr G m1 r1 m2 r2 K vo out X) (hf : r2.fst ≤ manyU) (hK : K ≤ manyO) : Calls Try.prog 21 #[.pointer (some G.pb)] wr fun e w' => ∃ a n c, e = .returned (.agg #[.int .i64 r2.report.next, .slice a n c]) ∧ Gps w' a r2.report.miss ∧ r2.report.miss.length = n ∧ n ≤ 100000 ∧ NewAt wr.heap.size a ∧ Below wr.heap.size wr w' := by
  obtain ⟨Fs, Fr, Fa, Fb, Fo, h⟩ := h
  exact rrcv_report (h.each (rbC G.pb r2 K, Fb) (by simp)) hf hK
theorem Rp.push {w wr : World} {G : RpS} {m1 m2 : OutM} {r1 r2 : InM} {K : Nat} {ao : Option Addr} {no co : Nat} {out : List PieceM} {X : List (Cmp × List Nat)} (h : Rp w wr G m1 r1 m2 r2 K (.slice ao no co) out X) (p : PieceM) (hm : out.length < 3000000000000) {gx : Nat} (hx : At wr gx 64 [.int .i64 p.num, .int .i64 p.frm, .bool p.last, .string p.data]) :
    ∃ ao' co' w', (Builtin.append_ #[58, 58] 58 #[.slice ao no co, .slice (some ⟨gx, 0, none⟩) 1 1]).run Try.prog wr = .ok (.slice ao' (out.length + 1) co') w' ∧ Rp w w' G m1 r1 m2 r2 K (.slice ao' (out.length + 1) co') (out ++ [p]) X := by
  obtain ⟨i0, hi, hz0, hz1, hz2⟩ := info_parts Try.infoPc
  have hout := h.out
  obtain ⟨Fs, Fr, Fa, Fb, Fo, h⟩ := h
  obtain ⟨rfl, -⟩ := h.each (pcC (.slice ao no co) out, Fo) (by simp)
  obtain ⟨v', w', hr, ho, hg, _, hb⟩ := run_append_own_at (P := Try.prog) _ 0 58 58 64 i0 _ 4 40 Try.underlying58 hi hz0 hz1 hz2 rfl (by omega) (.slice ao no co) out.length (cellsPc out) hout ⟨gx, 0, none⟩ 1 1 p.cells rfl (fun j u hj => by
    rw [Addr.add_lit, Nat.zero_add, hx.cell]
    exact hj) (fun u hu => by simp [PieceM.cells] at hu; rcases hu with rfl | rfl | rfl | rfl <;> rfl) (by unfold maxLen; omega) (by omega) (Nat.zero_le _)
  obtain ⟨ao', co', rfl, -, -, -⟩ := row_shape ho
  refine ⟨ao', co', w', hr, _, _, _, _, _, Sep.step [(ssC G.ps m1, Fs), (rrC G.pr r1, Fr), (saC G.pa m2, Fa), (rbC G.pb r2 K, Fb)] h (Kept.grownR hg) (c' := pcC (.slice ao' (out.length + 1) co') (out ++ [p])) (F' := (Value.slice ao' (out.length + 1) co').ownBlock.toList) ⟨rfl, by rw [List.length_append, List.length_singleton, cellsPc_snoc]; exact ho⟩ (fun x hx => ?_)⟩
  have hy' : (Value.slice ao' (out.length + 1) co').ownBlock = some x := by simpa using hx
  rcases hb with hb | hb
  · exact .inl (by simpa [← hb] using hy')
  · rw [hb] at hy'
    exact .inr (by have := Option.some.inj hy'; omega)
end Go.Proofs.Ytbjgfoiikhbonaf
