import Derived.Laws.StructEq
import Derived.Test.YtbjgfoiikhbonafK52
import Derived.Deep.DeepCutAuto
set_option linter.unusedVariables false
set_option linter.unusedSimpArgs false
namespace Go.Proofs.Ytbjgfoiikhbonaf
open Go.ChangeShapes Go.WideShapes Go.ChangeAt Go.RowKit
set_option maxHeartbeats 1000000 in
theorem same_any {w : World} {a b : Option Addr} {l : List ByteArray} {n ca cb : Nat} (ha : Txs w a l) (hb : Txs w b l) (hn : l.length = n) (hm : n ≤ 1000000000000) :
    Calls Try.prog 20 #[.slice a n ca, .slice b n cb] w fun e w' => e = .returned (.bool true) ∧ Below w.heap.size w w' := by
  have HA := hid ha
  have HB := hid hb
  have HN := hid hn
  clear ha hb hn
  go_enter Try.func20, Try.ntmps20
  go_wp2_with fail
  go_loopw [5] (fun i wr => ∃ j : Nat, j ≤ n ∧ i = .int .i64 j ∧ Below w.heap.size w wr) (fun i _ => n - (intOf i).toNat)
  case atStart => exact ⟨0, Nat.zero_le _, rfl, Below.refl _ _⟩
  case round =>
    obtain ⟨j, hj, rfl, hbw⟩ := hrel
    by_cases hlt : j < n
    · obtain ⟨ba, oa, rfl, hca⟩ := (HA.out.kept (S := []) (Kept.of_below hbw) (fun x _ => by simp)).at (show j < l.length by rw [HN.out]; exact hlt)
      obtain ⟨bb, ob, rfl, hcb⟩ := (HB.out.kept (S := []) (Kept.of_below hbw) (fun x _ => by simp)).at (show j < l.length by rw [HN.out]; exact hlt)
      have x1 := hca j (by rw [HN.out]; exact hlt)
      have x2 := hcb j (by rw [HN.out]; exact hlt)
      obtain ⟨X, eX⟩ : ∃ X, X = l.getD j ByteArray.empty := ⟨_, rfl⟩
      rw [← eX] at x1 x2
      clear hca hcb eX
      go_upto_region 6 with fail
      go_region
      go_wp2_with fail
      exact ⟨⟨j + 1, by omega, by go_num, hbw.drew⟩, by simp [intOf]; omega⟩
    · obtain rfl : j = n := by omega
      go_wp2_with fail
      go_ret
      exact ⟨rfl, hbw⟩
set_option maxHeartbeats 1000000 in
theorem samerep_any {w : World} {a b : Option Addr} {l : List GapM} {nx : Int} {n ca cb : Nat} (ha : Gps w a l) (hb : Gps w b l) (hn : l.length = n) (hm : n ≤ maxLen) :
    Calls Try.prog 26 #[.agg #[.int .i64 nx, .slice a n ca], .agg #[.int .i64 nx, .slice b n cb]] w fun e w' => e = .returned (.bool true) ∧ Below w.heap.size w w' := by
  have hm2 : n ≤ 9223372036854775807 := hm
  obtain ⟨o1, e1⟩ : ∃ o : Obj, o = .cells #[.int .i64 nx, .slice a n ca] 73 := ⟨_, rfl⟩
  obtain ⟨o2, e2⟩ : ∃ o : Obj, o = .cells #[.int .i64 nx, .slice b n cb] 73 := ⟨_, rfl⟩
  have hb1 : Below w.heap.size w (w.alloc o1) := (Below.refl _ w).alloc (Nat.le_refl _) _
  have hb2 : Below (w.alloc o1).heap.size (w.alloc o1) ((w.alloc o1).alloc o2) := (Below.refl _ _).alloc (Nat.le_refl _) _
  have hA1 : At (w.alloc o1) w.heap.size 73 [.int .i64 nx, .slice a n ca] := by rw [e1]; exact at_alloc w _ _
  have hA1' := hA1.kept (Kept.of_below (S := []) hb2) (by simp)
  have hA2 : At ((w.alloc o1).alloc o2) (w.alloc o1).heap.size 73 [.int .i64 nx, .slice b n cb] := by rw [e2]; exact at_alloc _ _ _
  have HA := hid (ha.kept (Kept.of_below (S := []) (bthen hb1 hb2)) (fun x _ => by simp))
  have HB := hid (hb.kept (Kept.of_below (S := []) (bthen hb1 hb2)) (fun x _ => by simp))
  have HN := hid hn
  have HBW := hid (bthen hb1 hb2)
  have x0 := hA1'.cell 0
  have x1 := hA1'.cell 1
  have y0 := hA2.cell 0
  have y1 := hA2.cell 1
  rw [World.size_alloc] at y0 y1
  have hz : (nx != nx) = false := by simp
  have hz2 : ((n : Int) != (n : Int)) = false := by simp
  have HW2 : Hid (∃ w2, w2 = (w.alloc o1).alloc o2) := ⟨_, rfl⟩
  clear ha hb hn hA1 hA1' hA2 hb1 hb2
  subst e1 e2
  go_enter Try.func26, Try.ntmps26
  go_upto_region 1 with fail
  generalize ((w.alloc (.cells #[.int .i64 nx, .slice a n ca] 73)).alloc (.cells #[.int .i64 nx, .slice b n cb] 73)) = w2 at *
  have x0 : w2.cell? ⟨w.heap.size, 0, none⟩ = some (.int .i64 nx) := x0
  have x1 : w2.cell? ⟨w.heap.size, 1, none⟩ = some (.slice a n ca) := x1
  have y0 : w2.cell? ⟨w.heap.size + 1, 0, none⟩ = some (.int .i64 nx) := y0
  have y1 : w2.cell? ⟨w.heap.size + 1, 1, none⟩ = some (.slice b n cb) := y1
  go_wp2_with fail
  go_loopw [5] (fun i wr => ∃ j q : Nat, j ≤ n ∧ i = .int .i64 (j : Int) ∧ wr = w2.drewN q) (fun i _ => n - (intOf i).toNat)
  case atStart => exact ⟨0, 0, Nat.zero_le _, rfl, rfl⟩
  case round =>
    obtain ⟨j, q, hj, rfl, rfl⟩ := hrel
    by_cases hlt : j < n
    · obtain ⟨ba, oa, rfl, hca⟩ := HA.out (by intro e; have h3 := HN.out; rw [e] at h3; have h3 : 0 = n := h3; omega)
      obtain ⟨bb, ob, rfl, hcb⟩ := HB.out (by intro e; have h3 := HN.out; rw [e] at h3; have h3 : 0 = n := h3; omega)
      obtain ⟨a0, a1, a2⟩ := hca j (by rw [HN.out]; exact hlt)
      obtain ⟨b0, b1, b2⟩ := hcb j (by rw [HN.out]; exact hlt)
      obtain ⟨g, eg⟩ : ∃ g, g = l.getD j .zero := ⟨_, rfl⟩
      rw [← eg] at a0 a1 a2 b0 b1 b2
      obtain ⟨num, frm, til⟩ := g
      dsimp only at a0 a1 a2 b0 b1 b2
      clear hca hcb eg
      go_upto_region 6 with fail
      go_quiet (fail)
      go_wp2_with fail
      exact ⟨⟨j + 1, _, by omega, by go_num, rfl⟩, by simp [intOf]; omega⟩
    · go_wp2_with fail
      go_ret
      exact ⟨rfl, belowN HBW.out _⟩
end Go.Proofs.Ytbjgfoiikhbonaf
namespace Go.Proofs.Ytbjgfoiikhbonaf
open Go.ChangeShapes Go.WideShapes Go.ChangeAt Go.RowKit
def atC (g : Nat) (T : TypeId) (cs : List Value) : Cmp := ⟨fun w F => F = [g] ∧ At w g T cs, fun w F ⟨e, h⟩ => by subst e; exact fun x hx => by rw [List.mem_singleton] at hx; subst hx; exact h.lt, fun w w' F S ⟨e, h⟩ hk hn => by subst e; exact ⟨rfl, h.kept hk (hn g (by simp))⟩⟩
theorem Rp.lay {w wr : World} {G : RpS} {m1 m2 : OutM} {r1 r2 : InM} {K : Nat} {vo : Value} {out : List PieceM} {X : List (Cmp × List Nat)} (h : Rp w wr G m1 r1 m2 r2 K vo out X) (T : TypeId) (cs : List Value) : Rp w (wr.alloc (.cells cs.toArray T)) G m1 r1 m2 r2 K vo out (X ++ [(atC wr.heap.size T cs, [wr.heap.size])]) :=
  h.more ((Below.refl _ wr).alloc (Nat.le_refl _) (.cells cs.toArray T)) ⟨rfl, at_alloc wr T cs⟩ (fun x hx => by rw [List.mem_singleton] at hx; omega)
theorem Rp.at {w wr : World} {G : RpS} {m1 m2 : OutM} {r1 r2 : InM} {K : Nat} {vo : Value} {out : List PieceM} {X : List (Cmp × List Nat)} (h : Rp w wr G m1 r1 m2 r2 K vo out X) {g : Nat} {T : TypeId} {cs : List Value} (hc : (atC g T cs, [g]) ∈ X) : At wr g T cs := (h.beside hc).2
/-- A move as it comes in. -/
structure MvM where
  kind : Int
  n : Int
  size : Int
  text : ByteArray
  np : Nat
  p : PieceM
  nr : Nat
  r : ReportM
def MvM.zero : MvM := ⟨0, 0, 0, ByteArray.empty, 0, .zero, 0, ⟨0, []⟩⟩
structure MvOk (x : MvM) : Prop where
  tx : x.text.size ≤ manyB
  pd : x.p.data.size ≤ manyB
  pf : -9223372036854775808 ≤ x.p.frm ∧ x.p.frm ≤ 9223372036854775807
  rl : x.r.miss.length ≤ maxLen
def MvAt (w : World) (b o : Nat) (x : MvM) : Prop :=
  w.cell? ⟨b, o, none⟩ = some (.int .i64 x.kind) ∧ w.cell? ⟨b, o + 1, none⟩ = some (.int .i64 x.n) ∧ w.cell? ⟨b, o + 2, none⟩ = some (.int .i64 x.size) ∧ w.cell? ⟨b, o + 3, none⟩ = some (.string x.text) ∧
  (∃ ap cp, w.cell? ⟨b, o + 4, none⟩ = some (.slice ap x.np cp) ∧ (0 < x.np → ∃ pb po, ap = some ⟨pb, po, none⟩ ∧ w.cell? ⟨pb, po, none⟩ = some (.int .i64 x.p.num) ∧ w.cell? ⟨pb, po + 1, none⟩ = some (.int .i64 x.p.frm) ∧ w.cell? ⟨pb, po + 2, none⟩ = some (.bool x.p.last) ∧ w.cell? ⟨pb, po + 3, none⟩ = some (.string x.p.data))) ∧
  (∃ ar cr, w.cell? ⟨b, o + 5, none⟩ = some (.slice ar x.nr cr) ∧ (0 < x.nr → ∃ rb ro, ar = some ⟨rb, ro, none⟩ ∧ w.cell? ⟨rb, ro, none⟩ = some (.int .i64 x.r.next) ∧ ∃ ag cg, w.cell? ⟨rb, ro + 1, none⟩ = some (.slice ag x.r.miss.length cg) ∧ Gps w ag x.r.miss ∧ (x.r.miss ≠ [] → ∀ y, ag = some y → y.block < w.heap.size)))
def Mvs (w : World) (a : Option Addr) (l : List MvM) : Prop := ∀ j, j < l.length → ∃ b o, a = some ⟨b, o, none⟩ ∧ MvAt w b (o + j * 6) (l.getD j .zero) ∧ MvOk (l.getD j .zero)
theorem cellBl {w w' : World} (hb : Below w.heap.size w w') {a : Addr} {v : Value} (h : w.cell? a = some v) : w'.cell? a = some v := (hb.cell (World.block_lt_of_cell? w _ h)).trans h
theorem MvAt.below {w w' : World} {b o : Nat} {x : MvM} (h : MvAt w b o x) (hb : Below w.heap.size w w') : MvAt w' b o x := by
  obtain ⟨h0, h1, h2, h3, ⟨ap, cp, h4, h5⟩, ar, cr, h6, h7⟩ := h
  refine ⟨cellBl hb h0, cellBl hb h1, cellBl hb h2, cellBl hb h3, ⟨ap, cp, cellBl hb h4, fun hp => ?_⟩, ar, cr, cellBl hb h6, fun hp => ?_⟩
  · obtain ⟨pb, po, e, a, b, c, d⟩ := h5 hp
    exact ⟨pb, po, e, cellBl hb a, cellBl hb b, cellBl hb c, cellBl hb d⟩
  · obtain ⟨rb, ro, e, a, ag, cg, b, c, d⟩ := h7 hp
    exact ⟨rb, ro, e, cellBl hb a, ag, cg, cellBl hb b, c.kept (S := []) (Kept.of_below hb) (fun x _ => by simp), fun hne y hy => Nat.lt_of_lt_of_le (d hne y hy) hb.size⟩
/-- What stands between two rounds. -/
def RpAt2 (w : World) (G : RpS) (j : Nat) (vo : Value) (wr : World) : Prop := ∃ (m : OutM) (r : InM) (out : List PieceM) (K : Nat), Rp w wr G m r m r K vo out [] ∧ K ≤ j ∧ m.n ≤ j ∧ out.length ≤ j ∧ r.fst ≤ 32 * j ∧ ∀ p ∈ out, p.data.size ≤ manyB ∧ -9223372036854775808 ≤ p.frm ∧ p.frm ≤ 9223372036854775807
theorem submit_n (m : OutM) (s : ByteArray) : (m.submit s).m.n ≤ m.n + 1 := by
  unfold OutM.submit
  split
  · show m.n ≤ m.n + 1; omega
  · split
    · show m.n ≤ m.n + 1; omega
    · split
      · show m.n ≤ m.n + 1; omega
      · show (m.text ++ [s]).length ≤ m.text.length + 1
        simp
theorem next_n (m : OutM) (z : Int) : (m.next z).m.n = m.n := by
  unfold OutM.next
  split
  · rfl
  · split
    · rfl
    · split <;> rfl
theorem take_n (m : OutM) (r : ReportM) : (m.take r).m.n = m.n := by
  unfold OutM.take
  split
  · rfl
  · split
    · rfl
    · split <;> rfl
theorem take_fst (r : InM) (x : PieceM) : (r.take x).m.fst ≤ r.fst + (r.take x).out.length := by
  unfold InM.take
  split
  · show r.fst ≤ _; omega
  · split
    · show r.fst ≤ _; omega
    · split
      · show r.fst ≤ _; omega
      · have hq : (r.put (r.fst + aheadN x.num r.fst) x).fst = r.fst := rfl
        generalize r.put (r.fst + aheadN x.num r.fst) x = q at hq
        show q.upto ≤ r.fst + ((List.range (q.upto - q.fst)).map _).length
        rw [List.length_map, List.length_range]
        omega
theorem RpAt2.first {w w1 w2 : World} {k0 : Nat} {ps pr : Addr} {Fs Fr : List Nat} (h1 : 1 ≤ k0) (h2 : k0 ≤ 32) (hP1 : Snd w1 ps Fs (OutM.new (k0 : Int).toNat)) (hF1 : ∀ x ∈ Fs, w.heap.size ≤ x) (hb1 : Below w.heap.size w w1) (hP2 : Rcv w2 pr Fr (InM.new (k0 : Int).toNat)) (hF2 : ∀ x ∈ Fr, w1.heap.size ≤ x) (hb2 : Below w1.heap.size w1 w2) :
    RpAt2 w ⟨ps, pr, ⟨w2.heap.size, 0, none⟩, ⟨w2.heap.size + 1, 0, none⟩⟩ 0 (.slice none 0 0) ((w2.alloc (.cells #[.int .i64 (k0 : Int), .int .i64 0, .slice none 0 0] 53)).alloc (.cells #[.int .i64 (k0 : Int), .int .i64 0, .slice none 0 0] 57)) := by
  rw [Int.toNat_natCast] at hP1 hP2
  have s1 : Sep w w1 [(ssC ps (OutM.new k0), Fs)] := Sep.add (L := []) ⟨hb1, fun c hc => absurd hc (by simp), fun c hc => absurd hc (by simp), List.Pairwise.nil⟩ (n := w.heap.size) (Nat.le_refl _) (fun d hd => absurd hd (by simp)) _ _ hP1 hF1
  have s2 := (s1.below hb2).add (n := w1.heap.size) hb1.size s1.lts (rrC pr (InM.new k0)) Fr hP2 hF2
  obtain ⟨oA, eA⟩ : ∃ o : Obj, o = .cells #[.int .i64 (k0 : Int), .int .i64 0, .slice none 0 0] 53 := ⟨_, rfl⟩
  have hRA := rsnd_new w2 k0 h1 h2
  rw [← eA] at hRA
  rw [← eA]
  have hz3 : (w2.alloc oA).heap.size = w2.heap.size + 1 := World.size_alloc _ _
  have hRB := rrcv_new (w2.alloc oA) k0 h1 h2
  rw [hz3] at hRB
  have hs2 : w.heap.size ≤ w2.heap.size := s2.bel.size
  have s3 := (s2.below ((Below.refl _ w2).alloc (Nat.le_refl _) oA)).add (n := w2.heap.size) hs2 s2.lts (saC ⟨w2.heap.size, 0, none⟩ (OutM.new k0)) (outF w2.heap.size none []) ⟨hRA, OrdM.new k0⟩ (fun x hx => by
    have : x = w2.heap.size := by simpa [outF] using hx
    omega)
  have s4 := (s3.below ((Below.refl _ (w2.alloc oA)).alloc (Nat.le_refl _) (.cells #[.int .i64 (k0 : Int), .int .i64 0, .slice none 0 0] 57))).add (n := w2.heap.size + 1) (by omega) (fun d hd x hx => by have := s3.lts d hd x hx; rw [hz3] at this; exact this) (rbC ⟨w2.heap.size + 1, 0, none⟩ (InM.new k0) 0) [w2.heap.size + 1] hRB (fun x hx => by rw [List.mem_singleton] at hx; omega)
  have s5 := s4.add (n := w2.heap.size + 2) (by omega) (fun d hd x hx => by
    have := s4.lts d hd x hx
    rw [World.size_alloc, hz3] at this
    exact this) (pcC (.slice none 0 0) []) [] ⟨rfl, World.ownsRow_nil _ _ _ _⟩ (fun x hx => absurd hx (by simp))
  exact ⟨OutM.new k0, InM.new k0, [], 0, ⟨_, _, _, _, _, s5⟩, Nat.le_refl _, Nat.le_refl _, Nat.le_refl _, Nat.zero_le _, fun p hp => absurd hp (by simp)⟩
theorem Rp.set4 {w wr : World} {G : RpS} {m1 m2 : OutM} {r1 r2 : InM} {K : Nat} {vo : Value} {out : List PieceM} {A : Cmp × List Nat} {g : Nat} {T : TypeId} {c0 c1 c2 c3 : Value} (h : Rp w wr G m1 r1 m2 r2 K vo out [A, (atC g T [c0, c1, c2, c3], [g])]) (v0 v1 v2 v3 : Value) :
    Rp w ((((wr.setCell ⟨g, 0, none⟩ v0).setCell ⟨g, 1, none⟩ v1).setCell ⟨g, 2, none⟩ v2).setCell ⟨g, 3, none⟩ v3) G m1 r1 m2 r2 K vo out [A, (atC g T [v0, v1, v2, v3], [g])] := by
  have hA : At wr g T [c0, c1, c2, c3] := h.at (by simp)
  obtain ⟨Fs, Fr, Fa, Fb, Fo, h⟩ := h
  have hk : Kept [g] wr ((((wr.setCell ⟨g, 0, none⟩ v0).setCell ⟨g, 1, none⟩ v1).setCell ⟨g, 2, none⟩ v2).setCell ⟨g, 3, none⟩ v3) := ((((Kept.refl _ wr).setCell (by simp) _).setCell (by simp) _).setCell (by simp) _).setCell (by simp) _
  have h9 := Sep.step [(ssC G.ps m1, Fs), (rrC G.pr r1, Fr), (saC G.pa m2, Fa), (rbC G.pb r2 K, Fb), (pcC vo out, Fo), A] (B := []) h hk (c' := atC g T [v0, v1, v2, v3]) (F' := [g]) ⟨rfl, (((hA.setCell (o := 0) v0).setCell (o := 1) v1).setCell (o := 2) v2).setCell (o := 3) v3⟩ (fun x hx => .inl hx)
  exact ⟨_, _, _, _, _, h9⟩
theorem Rp.set2 {w wr : World} {G : RpS} {m1 m2 : OutM} {r1 r2 : InM} {K : Nat} {vo : Value} {out : List PieceM} {A B : Cmp × List Nat} {g : Nat} {T : TypeId} {c0 c1 : Value} (h : Rp w wr G m1 r1 m2 r2 K vo out [A, B, (atC g T [c0, c1], [g])]) (v0 v1 : Value) :
    Rp w ((wr.setCell ⟨g, 0, none⟩ v0).setCell ⟨g, 1, none⟩ v1) G m1 r1 m2 r2 K vo out [A, B, (atC g T [v0, v1], [g])] := by
  have hA : At wr g T [c0, c1] := h.at (by simp)
  obtain ⟨Fs, Fr, Fa, Fb, Fo, h⟩ := h
  have hk : Kept [g] wr ((wr.setCell ⟨g, 0, none⟩ v0).setCell ⟨g, 1, none⟩ v1) := ((Kept.refl _ wr).setCell (by simp) _).setCell (by simp) _
  have h9 := Sep.step [(ssC G.ps m1, Fs), (rrC G.pr r1, Fr), (saC G.pa m2, Fa), (rbC G.pb r2 K, Fb), (pcC vo out, Fo), A, B] (B := []) h hk (c' := atC g T [v0, v1]) (F' := [g]) ⟨rfl, (hA.setCell (o := 0) v0).setCell (o := 1) v1⟩ (fun x hx => .inl hx)
  exact ⟨_, _, _, _, _, h9⟩
theorem Rp.push2 {w w5 : World} {G : RpS} {m1 m2 : OutM} {r1 r2 : InM} {K : Nat} {ao : Option Addr} {no co : Nat} {out : List PieceM} {X : List (Cmp × List Nat)} {o : Obj} (h : Rp w (w5.alloc o) G m1 r1 m2 r2 K (.slice ao no co) out X) (p : PieceM) (hm : out.length < 3000000000000) :
    ∃ ao' co' w', (Builtin.append_ #[58, 58] 58 #[.slice ao no co, .slice (some ⟨w5.heap.size + 1, 0, none⟩) 1 1]).run Try.prog ((w5.alloc o).alloc (.cells #[.int .i64 p.num, .int .i64 p.frm, .bool p.last, .string p.data] 64)) = .ok (.slice ao' (out.length + 1) co') w' ∧ Rp w w' G m1 r1 m2 r2 K (.slice ao' (out.length + 1) co') (out ++ [p]) X := by
  have hs : (w5.alloc o).heap.size = w5.heap.size + 1 := World.size_alloc _ _
  have hA := at_alloc (w5.alloc o) 64 [.int .i64 p.num, .int .i64 p.frm, .bool p.last, .string p.data]
  rw [hs] at hA
  exact (h.below ((Below.refl _ (w5.alloc o)).alloc (Nat.le_refl _) (.cells #[.int .i64 p.num, .int .i64 p.frm, .bool p.last, .string p.data] 64))).push p hm hA
theorem Rp.small {w wr : World} {G : RpS} {m1 m2 : OutM} {r1 r2 : InM} {K : Nat} {vo : Value} {out : List PieceM} {X : List (Cmp × List Nat)} (h : Rp w wr G m1 r1 m2 r2 K vo out X) : ∀ u, m2.sz u ≤ 1500 := fun u => by
  obtain ⟨Fs, Fr, Fa, Fb, Fo, h⟩ := h
  obtain ⟨⟨b, ua, c, us, -, -, -, h2⟩, -⟩ : RSndO wr G.pa Fa m2 := h.each (saC G.pa m2, Fa) (by simp)
  by_cases hu : u < m2.n
  · have hx := h2.un u (by rw [h2.len]; exact hu)
    rw [hx.sz]
    exact hx.hi
  · unfold OutM.sz OutM.t
    rw [List.getD_eq_getElem?_getD, List.getElem?_eq_none (by unfold OutM.n at hu; omega)]
    show ByteArray.empty.size ≤ 1500
    decide
theorem next_small {m : OutM} (h : ∀ u, m.sz u ≤ 1500) (z : Int) : (m.next z).p.data.size ≤ 1500 ∧ 0 ≤ (m.next z).p.frm ∧ (m.next z).p.frm ≤ 1500 := by
  have hz : PieceM.zero.data.size ≤ 1500 ∧ 0 ≤ PieceM.zero.frm ∧ PieceM.zero.frm ≤ 1500 := by decide
  have hp : ∀ k u size, (m.send k u size).p.data.size ≤ 1500 ∧ 0 ≤ (m.send k u size).p.frm ∧ (m.send k u size).p.frm ≤ 1500 := fun k u size => by
    have h1 := h u
    have h2 : m.hit k u ≤ m.sz u := firstIn_le _ (Nat.zero_le _)
    refine ⟨?_, ?_, ?_⟩
    · show ((m.t u).extract (m.hit k u) (m.cut k u size)).size ≤ 1500
      rw [ByteArray.size_extract]
      unfold OutM.sz at h1
      omega
    · show (0 : Int) ≤ (m.hit k u : Int); omega
    · show (m.hit k u : Int) ≤ 1500; omega
  unfold OutM.next
  split
  · exact hz
  · split
    · exact hp _ _ _
    · split
      · exact hp _ _ _
      · exact hz
theorem rrcv_reportO {K : Nat} {w : World} {p : Addr} {F : List Nat} {r : InM} (h : RRcv K w p F r) (hf : r.fst ≤ manyU) (hK : K ≤ manyO) : Calls Try.prog 21 #[.pointer (some p)] w fun e w' => ∃ a n c, e = .returned (.agg #[.int .i64 r.report.next, .slice a n c]) ∧ Gps w' a r.report.miss ∧ r.report.miss.length = n ∧ n ≤ 100000 ∧ NewAt w.heap.size a ∧ (∀ y, a = some y → y.block < w'.heap.size) ∧ Below w.heap.size w w' := by
  obtain ⟨g, vl, ts, rfl, rfl, h1, h2, h3, h4, h5, h6⟩ := h
  have hm : K ≤ 2000000000000 := hK
  have hh := inreport_any h1 (by unfold manyU; omega) hf h5
  rw [← h2] at hh
  refine hh.mono ?_
  rintro e w' ⟨a, n, c, rfl, g1, g2, g3, g4⟩
  have g3' := g3
  rw [g1] at g3'
  refine ⟨a, n, c, rfl, gps_row g3', g1.symm, g2, fun y hy => ?_, fun y hy => ?_, g4⟩
  · have := row_newAt g3 y hy
    omega
  · obtain ⟨a', c', e', -, -, hx'⟩ := row_shape g3
    simp only [Value.slice.injEq] at e'
    obtain ⟨rfl, -, rfl⟩ := e'
    obtain ⟨g', rfl, h5⟩ := hx' y hy
    exact (World.ownsRow.lt g3 g' h5).2
theorem Rp.rp2O {w wr : World} {G : RpS} {m1 m2 : OutM} {r1 r2 : InM} {K : Nat} {vo : Value} {out : List PieceM} {X : List (Cmp × List Nat)} (h : Rp w wr G m1 r1 m2 r2 K vo out X) (hf : r2.fst ≤ manyU) (hK : K ≤ manyO) : Calls Try.prog 21 #[.pointer (some G.pb)] wr fun e w' => ∃ a n c, e = .returned (.agg #[.int .i64 r2.report.next, .slice a n c]) ∧ r2.report.miss.length = n ∧ n ≤ 100000 ∧ Gps w' a r2.report.miss ∧ Rp w w' G m1 r1 m2 r2 K vo out (X ++ [(gpC a r2.report.miss, adB a)]) := by
  have h0 := h
  obtain ⟨Fs, Fr, Fa, Fb, Fo, h⟩ := h
  refine (rrcv_reportO (h.each (rbC G.pb r2 K, Fb) (by simp)) hf hK).mono ?_
  rintro e w' ⟨a, n, c, rfl, g1, g2, g3, g4, g5, g6⟩
  refine ⟨a, n, c, rfl, g2, g3, g1, h0.more g6 ⟨rfl, g1, fun x hx => ?_⟩ fun x hx => ?_⟩
  · obtain ⟨y, e, rfl⟩ := adB_mem hx
    exact g5 y e
  · obtain ⟨y, e, rfl⟩ := adB_mem hx
    exact g4 y e
/-- A report that is to be taken, in a box of its own. -/
def RepAt (w wx : World) (G : RpS) (m : OutM) (r : InM) (K : Nat) (vo : Value) (out : List PieceM) (gx : Nat) : Prop :=
  ∃ (R : ReportM) (a : Option Addr) (n c : Nat) (Y : List (Cmp × List Nat)), Rp w wx G m r m r K vo out (Y ++ [(atC gx 73 [.int .i64 R.next, .slice a n c], [gx])]) ∧ Gps wx a R.miss ∧ (R.miss ≠ [] → OffR w a Y) ∧ R.miss.length = n ∧ n ≤ maxLen
theorem OffR.more {w : World} {a : Option Addr} {Y Z : List (Cmp × List Nat)} (h : OffR w a Y) : OffR w a (Y ++ Z) := by
  rcases h with h | ⟨l, h⟩
  · exact .inl h
  · exact .inr ⟨l, List.mem_append_left _ h⟩
end Go.Proofs.Ytbjgfoiikhbonaf
