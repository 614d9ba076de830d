import Derived.Test.YtbjgfoiikhbonafK54
import Derived.Test.YtbjgfoiikhbonafK04
import Derived.SizedLaws
import Derived.Test.YtbjgfoiikhbonafK53
import Derived.Deep.SlicePairs
import Derived.Lib.SmallJoins
set_option linter.unusedVariables false
set_option linter.unusedSimpArgs false
namespace Go.Proofs.Ytbjgfoiikhbonaf
open Go.ChangeShapes Go.WideShapes Go.ChangeAt Go.RowKit
set_option maxRecDepth 100000 in
theorem rplays_bad (win : Int) (v1 : Value) (w : World) (hw : win < 1 ∨ 32 < win) : Calls Try.prog 5 #[.int .i64 win, v1] w fun e w' => e = .returned (.bool true) ∧ Below w.heap.size w w' := by
  have hsn := fun wz => rep_laws.snewBad win wz hw
  have hrn := fun wz => rep_laws.rnewBad win wz hw
  rcases (show win < 1 ∨ (¬ win < 1 ∧ 32 < win) by omega) with h | ⟨h, h'⟩
  · clear hw
    go_enter Try.func5, Try.ntmps5
    go_wp2_with (first
      | (go_at_call 12; refine (hsn _).mono ?_; rintro e w1 ⟨rfl, hb1⟩)
      | (go_at_call 13; refine (hrn _).mono ?_; rintro e w2 ⟨rfl, hb2⟩))
    go_ret
    exact ⟨rfl, hb1.trans (hb2.mono hb1.size)⟩
  · clear hw
    go_enter Try.func5, Try.ntmps5
    go_wp2_with (first
      | (go_at_call 12; refine (hsn _).mono ?_; rintro e w1 ⟨rfl, hb1⟩)
      | (go_at_call 13; refine (hrn _).mono ?_; rintro e w2 ⟨rfl, hb2⟩))
    go_ret
    exact ⟨rfl, hb1.trans (hb2.mono hb1.size)⟩
end Go.Proofs.Ytbjgfoiikhbonaf
namespace Go.Proofs.Ytbjgfoiikhbonaf
open Go.ChangeShapes Go.WideShapes Go.ChangeAt Go.RowKit
open Go.ChangeMaps (open_string shut_string)
theorem Try.own : ownKnob Try.prog.godebug = none := by kernel_rfl
theorem Try.laidOut : laidOutB Try.prog = true := by kernel_rfl
end Go.Proofs.Ytbjgfoiikhbonaf
namespace Go.Proofs.Ytbjgfoiikhbonaf
open Go.ChangeShapes Go.WideShapes Go.ChangeAt Go.RowKit Go.Deep
theorem addrAddM (b off j : Nat) : (⟨b, off, none⟩ : Addr).add j = ⟨b, off + j, none⟩ := by unfold Addr.add; split <;> simp_all
/-- All that lies in it is of a size that can come in. -/
def SmallW {H : Type} (P : Program) (t : TypeId) (d : DataW H) : Prop := ∀ n ∈ d.weights P t, n ≤ reachBytes
theorem weightsAll_mem {H : Type} {P : Program} {e : TypeId} : ∀ {l : List (DataW H)} {d : DataW H}, d ∈ l → ∀ n ∈ d.weights P e, n ∈ DataW.weightsAll P e l
  | d' :: l, d, h, n, hn => by
    simp only [DataW.weightsAll, List.mem_append]
    rcases List.mem_cons.1 h with rfl | h
    · exact .inl hn
    · exact .inr (weightsAll_mem h n hn)
theorem SmallW.elem {H : Type} {P : Program} {t e : TypeId} {elems spare : List (DataW H)} (h : SmallW P t (.slice elems spare)) (ht : P.underlying t = some (.slice e)) {d : DataW H} (hd : d ∈ elems) : SmallW P e d := fun n hn => h n (by
  simp only [DataW.weights, ht, List.mem_cons, List.mem_append]
  exact .inr (.inl (weightsAll_mem hd n hn)))
theorem SmallW.len {H : Type} {P : Program} {t e : TypeId} {elems spare : List (DataW H)} (h : SmallW P t (.slice elems spare)) (ht : P.underlying t = some (.slice e)) : (elems.length + spare.length) * P.bytesOf e ≤ reachBytes := h _ (by simp [DataW.weights, ht])
theorem SmallW.part {H : Type} {P : Program} {t : TypeId} {fs : Array Field} {parts : List (DataW H)} (h : SmallW P t (.agg parts)) (ht : P.underlying t = some (.struct fs)) {j : Nat} {f : Field} {d : DataW H} (hf : fs[j]? = some f) (hd : parts[j]? = some d) : SmallW P f.type d := fun n hn => h n (by
  simp only [DataW.weights, ht]
  exact DataW.weights_mem_each (j := j) (t := f.type) (by rw [List.getElem?_map]; simp [hf]) hd n hn)
theorem SmallW.text {H : Type} {P : Program} {t : TypeId} {s : ByteArray} (h : SmallW P t (.lit (.string s.data.toList) : DataW H)) : s.size ≤ reachBytes := by
  have := h s.data.toList.length (by simp [DataW.weights])
  simpa using this
/-- A list of elements, each read by one law. -/
theorem open_rowsM {H : Type} {enc : TypeId × Value → H} {P : Program} {W : World} {α : Type} (z : α) {u s : TypeId} {k : Nat} (good : List Value → α → Prop) {v : Value} {x : DataW H × List MemPlace} {fuel : Nat} (hu : P.underlying u = some (.slice s)) (cs : P.cellsOf s = k) (hk : 0 < k)
    (step : ∀ n cs' d pl, cs'.length = k → DataW.trod enc P W 0 (fun _ => true) true n s cs' = some (d, pl) → SmallW P s d → ∃ y, good cs' y)
    (hf : DataW.trod enc P W 0 (fun _ => true) true fuel u [v] = some x) (hs : SmallW P u x.1) :
    ∃ a c, ∃ l : List α, v = .slice a l.length c ∧ l.length ≤ c ∧ c ≤ maxLen ∧ l.length * P.bytesOf s ≤ reachBytes ∧ ∀ i, i < l.length → ∃ b o cs', a = some ⟨b, o, none⟩ ∧ cs'.length = k ∧ (∀ j, j < k → W.cell? ⟨b, o + i * k + j, none⟩ = cs'[j]?) ∧ good cs' (l.getD i z) := by
  rcases Deep.open_slice hu hf with ⟨hcs, hx⟩ | ⟨y, len, c, m, n, D, Pl, hcs, _, hl, hm, hmm, hd, hx⟩
  · simp at hcs
    subst hcs
    exact ⟨none, 0, [], rfl, by simp, by unfold maxLen; omega, by simp, fun i hi => by simp at hi⟩
  · simp at hcs
    subst hcs
    simp at hmm
    subst hmm
    rw [hd] at hs
    have : Inhabited α := ⟨z⟩
    obtain ⟨f, hfx⟩ := Deep.choose_lt (α := α) (n := len) (p := fun i yy => ∃ cs', cs'.length = k ∧ (∀ j, j < k → W.cell? (y.add (i * k + j)) = cs'[j]?) ∧ good cs' yy) (fun i hi => by
      obtain ⟨cs', q1, q2⟩ := hx i (by omega)
      rw [cs] at q1
      obtain ⟨_, hlen, hcell⟩ := World.cells?_some q1
      obtain ⟨yy, hy⟩ := step _ _ _ _ hlen q2 (hs.elem hu (List.mem_map.2 ⟨i, List.mem_range.2 hi, rfl⟩))
      refine ⟨yy, cs', hlen, fun j hj => ?_, hy⟩
      have := hcell j hj
      rw [add_add] at this
      exact this)
    have hlen : ((List.range len).map f).length = len := by simp
    have hat : ∀ i, i < len → ((List.range len).map f).getD i z = f i := fun i hi => by simp [List.getD, hi]
    refine ⟨some y, m, (List.range len).map f, by rw [hlen], by omega, hm, ?_, fun i hi => ?_⟩
    · have h3 := hs.len hu
      rw [List.length_map, List.length_range] at h3
      rw [hlen]
      exact Nat.le_trans (Nat.mul_le_mul_right _ (by omega)) h3
    · rw [hlen] at hi
      obtain ⟨cs', h1, h2, h3⟩ := hfx i hi
      obtain ⟨b, off, spot⟩ := y
      have hspot : spot = none := by
        obtain ⟨cs0, g1, g2, -⟩ := hfx 0 (by omega)
        have hc0 := g2 0 hk
        obtain ⟨v0, hv⟩ : ∃ v0, cs0[0]? = some v0 := ⟨cs0[0], List.getElem?_eq_getElem (by omega)⟩
        rw [hv] at hc0
        simpa [Addr.add] using World.cell?_spot hc0
      subst hspot
      refine ⟨b, off, cs', rfl, h1, fun j hj => ?_, by rw [hat i hi]; exact h3⟩
      have := h2 j hj
      rw [addrAddM] at this
      rw [Nat.add_assoc]
      exact this
/-- What a struct of ints is made of. -/
theorem open_gapsM {H : Type} {enc : TypeId × Value → H} {P : Program} {W : World} {u s : TypeId} {g0 g1 g2 : Field} {v : Value} {x : DataW H × List MemPlace} {fuel : Nat} (hu : P.underlying u = some (.slice s)) (hs : P.underlying s = some (.struct #[g0, g1, g2])) (cs : P.cellsOf s = 3)
    (p0 : g0.offset = 0) (p1 : g1.offset = 1) (p2 : g2.offset = 2) (k0 : P.cellsOf g0.type = 1) (k1 : P.cellsOf g1.type = 1) (k2 : P.cellsOf g2.type = 1)
    (h0 : P.underlying g0.type = some (.int .i64)) (h1 : P.underlying g1.type = some (.int .i64)) (h2 : P.underlying g2.type = some (.int .i64)) (hf : DataW.trod enc P W 0 (fun _ => true) true fuel u [v] = some x) (hsm : SmallW P u x.1) :
    ∃ a c, ∃ l : List GapM, v = .slice a l.length c ∧ Gps W a l ∧ l.length ≤ maxLen ∧ (l ≠ [] → ∀ y, a = some y → y.block < W.heap.size) := by
  obtain ⟨a, c, l, e, hl, hm, -, hi⟩ := open_rowsM (GapM.zero) (fun cs' (y : GapM) => cs' = [.int .i64 y.num, .int .i64 y.frm, .int .i64 y.til]) hu cs (by omega) (fun n cs' d pl hlen q2 _ => by
    obtain ⟨xs, k, hk, hxy, _, hxl, hff⟩ := DataW.trod_struct hs q2
    match xs, hxl, cs', hlen with
    | [y0, y1, y2], _, [v0, v1, v2], _ =>
      have z0 := hff 0 g0 rfl
      have z1 := hff 1 g1 rfl
      have z2 := hff 2 g2 rfl
      simp [p0, p1, p2, k0, k1, k2] at z0 z1 z2
      obtain ⟨a0, e0, _, _⟩ := DataW.trod_int h0 z0
      obtain ⟨a1, e1, _, _⟩ := DataW.trod_int h1 z1
      obtain ⟨a2, e2, _, _⟩ := DataW.trod_int h2 z2
      simp at e0 e1 e2
      subst e0 e1 e2
      exact ⟨⟨a0, a1, a2⟩, rfl⟩) hf hsm
  refine ⟨a, c, l, e, fun hne => ?_, by omega, fun hne y hy => ?_⟩
  · have hp : 0 < l.length := List.length_pos_iff.2 hne
    obtain ⟨b, o, -, ha, -, -, -⟩ := hi 0 hp
    refine ⟨b, o, ha, fun i hli => ?_⟩
    obtain ⟨b', o', cs', ha', -, h3, h4⟩ := hi i hli
    rw [ha] at ha'
    cases ha'
    rw [h4] at h3
    exact ⟨h3 0 (by omega), h3 1 (by omega), h3 2 (by omega)⟩
  · have hp : 0 < l.length := List.length_pos_iff.2 hne
    obtain ⟨b, o, cs', ha, -, h3, h4⟩ := hi 0 hp
    rw [h4] at h3
    have h5 := World.block_lt_of_cell? W _ (h3 0 (by omega))
    rw [ha] at hy
    cases hy
    exact h5
theorem open_piecesM {H : Type} {enc : TypeId × Value → H} {P : Program} {W : World} {u s : TypeId} {g0 g1 g2 g3 : Field} {v : Value} {x : DataW H × List MemPlace} {fuel : Nat} (hu : P.underlying u = some (.slice s)) (hs : P.underlying s = some (.struct #[g0, g1, g2, g3])) (cs : P.cellsOf s = 4)
    (p0 : g0.offset = 0) (p1 : g1.offset = 1) (p2 : g2.offset = 2) (p3 : g3.offset = 3) (k0 : P.cellsOf g0.type = 1) (k1 : P.cellsOf g1.type = 1) (k2 : P.cellsOf g2.type = 1) (k3 : P.cellsOf g3.type = 1)
    (h0 : P.underlying g0.type = some (.int .i64)) (h1 : P.underlying g1.type = some (.int .i64)) (h2 : P.underlying g2.type = some .bool) (h3 : P.underlying g3.type = some .string) (hf : DataW.trod enc P W 0 (fun _ => true) true fuel u [v] = some x) (hsm : SmallW P u x.1) :
    ∃ a c n, ∃ p : PieceM, v = .slice a n c ∧ p.data.size ≤ manyB ∧ (-9223372036854775808 ≤ p.frm ∧ p.frm ≤ 9223372036854775807) ∧ (0 < n → ∃ pb po, a = some ⟨pb, po, none⟩ ∧ W.cell? ⟨pb, po, none⟩ = some (.int .i64 p.num) ∧ W.cell? ⟨pb, po + 1, none⟩ = some (.int .i64 p.frm) ∧ W.cell? ⟨pb, po + 2, none⟩ = some (.bool p.last) ∧ W.cell? ⟨pb, po + 3, none⟩ = some (.string p.data)) := by
  obtain ⟨a, c, l, e, hl, hm, -, hi⟩ := open_rowsM (PieceM.zero) (fun cs' (y : PieceM) => cs' = [.int .i64 y.num, .int .i64 y.frm, .bool y.last, .string y.data] ∧ y.data.size ≤ manyB ∧ (-9223372036854775808 ≤ y.frm ∧ y.frm ≤ 9223372036854775807)) hu cs (by omega) (fun n cs' d pl hlen q2 hsd => by
    obtain ⟨xs, k, hk, hxy, _, hxl, hff⟩ := DataW.trod_struct hs q2
    match xs, hxl, cs', hlen with
    | [y0, y1, y2, y3], _, [v0, v1, v2, v3], _ =>
      have z0 := hff 0 g0 rfl
      have z1 := hff 1 g1 rfl
      have z2 := hff 2 g2 rfl
      have z3 := hff 3 g3 rfl
      simp [p0, p1, p2, p3, k0, k1, k2, k3] at z0 z1 z2 z3
      obtain ⟨a0, e0, _, _⟩ := DataW.trod_int h0 z0
      obtain ⟨a1, e1, _, w1⟩ := DataW.trod_int h1 z1
      obtain ⟨a2, e2, _⟩ := DataW.trod_bool h2 z2
      obtain ⟨a3, e3, ed, _⟩ := DataW.trod_string h3 z3
      simp at e0 e1 e2 e3
      subst e0 e1 e2 e3
      subst ed
      have hdx : d = _ := congrArg Prod.fst hxy
      rw [hdx] at hsd
      have h9 : a3.size ≤ reachBytes := (hsd.part hs (j := 3) (f := g3) rfl rfl).text
      exact ⟨⟨a0, a1, a2, a3⟩, rfl, Nat.le_trans h9 (by decide), bounds_i64 w1⟩) hf hsm
  by_cases hp : 0 < l.length
  · obtain ⟨b, o, cs', ha, -, h3', h4, h5, h6⟩ := hi 0 hp
    rw [h4] at h3'
    refine ⟨a, c, l.length, l.getD 0 .zero, e, h5, h6, fun _ => ⟨b, o, ha, ?_, ?_, ?_, ?_⟩⟩
    · simpa using h3' 0 (by omega)
    · simpa using h3' 1 (by omega)
    · simpa using h3' 2 (by omega)
    · simpa using h3' 3 (by omega)
  · exact ⟨a, c, l.length, .zero, e, by decide, by decide, fun h => absurd h hp⟩
theorem open_repsM {H : Type} {enc : TypeId × Value → H} {P : Program} {W : World} {u s r t : TypeId} {f0 f1 g0 g1 g2 : Field} {v : Value} {x : DataW H × List MemPlace} {fuel : Nat} (hu' : P.underlying r = some (.slice t)) (ht : P.underlying t = some (.struct #[f0, f1])) (ct : P.cellsOf t = 2) (q0 : f0.offset = 0) (q1 : f1.offset = 1) (j0 : P.cellsOf f0.type = 1) (j1 : P.cellsOf f1.type = 1) (i0 : P.underlying f0.type = some (.int .i64)) (et : f1.type = u)
    (hu : P.underlying u = some (.slice s)) (hs : P.underlying s = some (.struct #[g0, g1, g2])) (cs : P.cellsOf s = 3)
    (p0 : g0.offset = 0) (p1 : g1.offset = 1) (p2 : g2.offset = 2) (k0 : P.cellsOf g0.type = 1) (k1 : P.cellsOf g1.type = 1) (k2 : P.cellsOf g2.type = 1)
    (h0 : P.underlying g0.type = some (.int .i64)) (h1 : P.underlying g1.type = some (.int .i64)) (h2 : P.underlying g2.type = some (.int .i64)) (hf : DataW.trod enc P W 0 (fun _ => true) true fuel r [v] = some x) (hsm : SmallW P r x.1) :
    ∃ a c n, ∃ R : ReportM, v = .slice a n c ∧ R.miss.length ≤ maxLen ∧ (0 < n → ∃ rb ro, a = some ⟨rb, ro, none⟩ ∧ W.cell? ⟨rb, ro, none⟩ = some (.int .i64 R.next) ∧ ∃ ag cg, W.cell? ⟨rb, ro + 1, none⟩ = some (.slice ag R.miss.length cg) ∧ Gps W ag R.miss ∧ (R.miss ≠ [] → ∀ y, ag = some y → y.block < W.heap.size)) := by
  obtain ⟨a, c, l, e, hl, hm, -, hi⟩ := open_rowsM (⟨0, []⟩ : ReportM) (fun cs' (y : ReportM) => y.miss.length ≤ maxLen ∧ ∃ ag cg, cs' = [.int .i64 y.next, .slice ag y.miss.length cg] ∧ Gps W ag y.miss ∧ (y.miss ≠ [] → ∀ y', ag = some y' → y'.block < W.heap.size)) hu' ct (by omega) (fun n cs' d pl hlen q2' hsd => by
    obtain ⟨xs, k, hk, hxy, _, hxl, hff⟩ := DataW.trod_struct ht q2'
    match xs, hxl, cs', hlen with
    | [y0, y1], _, [v0, v1], _ =>
      have z0 := hff 0 f0 rfl
      have z1 := hff 1 f1 rfl
      simp [q0, q1, j0, j1] at z0 z1
      obtain ⟨a0, e0, _, _⟩ := DataW.trod_int i0 z0
      simp at e0
      subst e0
      have hdx : d = _ := congrArg Prod.fst hxy
      rw [hdx] at hsd
      have hs1 := hsd.part ht (j := 1) (f := f1) rfl rfl
      rw [et] at z1 hs1
      obtain ⟨ag, cg, l, e1, hg, hl, hb⟩ := open_gapsM hu hs cs p0 p1 p2 k0 k1 k2 h0 h1 h2 z1 hs1
      exact ⟨⟨a0, l⟩, hl, ag, cg, by rw [e1], hg, hb⟩) hf hsm
  by_cases hp : 0 < l.length
  · obtain ⟨b, o, cs', ha, -, h3', h4, ag, cg, h5, h6, h7⟩ := hi 0 hp
    rw [h5] at h3'
    refine ⟨a, c, l.length, l.getD 0 ⟨0, []⟩, e, h4, fun _ => ⟨b, o, ha, ?_, ag, cg, ?_, h6, h7⟩⟩
    · simpa using h3' 0 (by omega)
    · simpa using h3' 1 (by omega)
  · exact ⟨a, c, l.length, ⟨0, []⟩, e, by simp, fun h => absurd h hp⟩
theorem open_mvsM {H : Type} {enc : TypeId × Value → H} {P : Program} {W : World} {V S A B u s r t : TypeId} {m0 m1 m2 m3 m4 m5 n0 n1 n2 n3 f0 f1 g0 g1 g2 : Field} {v : Value} {x : DataW H × List MemPlace} {fuel : Nat}
    (hV : P.underlying V = some (.slice S)) (hS : P.underlying S = some (.struct #[m0, m1, m2, m3, m4, m5])) (cS : P.cellsOf S = 6) (o0 : m0.offset = 0) (o1 : m1.offset = 1) (o2 : m2.offset = 2) (o3 : m3.offset = 3) (o4 : m4.offset = 4) (o5 : m5.offset = 5)
    (c0 : P.cellsOf m0.type = 1) (c1 : P.cellsOf m1.type = 1) (c2 : P.cellsOf m2.type = 1) (c3 : P.cellsOf m3.type = 1) (c4 : P.cellsOf m4.type = 1) (c5 : P.cellsOf m5.type = 1)
    (y0 : P.underlying m0.type = some (.int .i64)) (y1 : P.underlying m1.type = some (.int .i64)) (y2 : P.underlying m2.type = some (.int .i64)) (y3 : P.underlying m3.type = some .string) (eA : m4.type = A) (eB : m5.type = r)
    (hA : P.underlying A = some (.slice B)) (hB : P.underlying B = some (.struct #[n0, n1, n2, n3])) (cB : P.cellsOf B = 4) (w0 : n0.offset = 0) (w1 : n1.offset = 1) (w2 : n2.offset = 2) (w3 : n3.offset = 3) (d0 : P.cellsOf n0.type = 1) (d1 : P.cellsOf n1.type = 1) (d2 : P.cellsOf n2.type = 1) (d3 : P.cellsOf n3.type = 1)
    (b0 : P.underlying n0.type = some (.int .i64)) (b1 : P.underlying n1.type = some (.int .i64)) (b2 : P.underlying n2.type = some .bool) (b3 : P.underlying n3.type = some .string)
    (hu' : P.underlying r = some (.slice t)) (ht : P.underlying t = some (.struct #[f0, f1])) (ct : P.cellsOf t = 2) (q0 : f0.offset = 0) (q1 : f1.offset = 1) (j0 : P.cellsOf f0.type = 1) (j1 : P.cellsOf f1.type = 1) (i0 : P.underlying f0.type = some (.int .i64)) (et : f1.type = u)
    (hu : P.underlying u = some (.slice s)) (hs : P.underlying s = some (.struct #[g0, g1, g2])) (cs : P.cellsOf s = 3)
    (p0 : g0.offset = 0) (p1 : g1.offset = 1) (p2 : g2.offset = 2) (k0 : P.cellsOf g0.type = 1) (k1 : P.cellsOf g1.type = 1) (k2 : P.cellsOf g2.type = 1)
    (h0 : P.underlying g0.type = some (.int .i64)) (h1 : P.underlying g1.type = some (.int .i64)) (h2 : P.underlying g2.type = some (.int .i64)) (hf : DataW.trod enc P W 0 (fun _ => true) true fuel V [v] = some x) (hsm : SmallW P V x.1) :
    ∃ a c, ∃ l : List MvM, v = .slice a l.length c ∧ Mvs W a l ∧ l.length * P.bytesOf S ≤ reachBytes := by
  obtain ⟨a, c, l, e, hl, hm, hby, hi⟩ := open_rowsM (MvM.zero) (fun cs' (y : MvM) => MvOk y ∧ ∃ ap cp ar cr, cs' = [.int .i64 y.kind, .int .i64 y.n, .int .i64 y.size, .string y.text, .slice ap y.np cp, .slice ar y.nr cr] ∧
      (0 < y.np → ∃ pb po, ap = some ⟨pb, po, none⟩ ∧ W.cell? ⟨pb, po, none⟩ = some (.int .i64 y.p.num) ∧ W.cell? ⟨pb, po + 1, none⟩ = some (.int .i64 y.p.frm) ∧ W.cell? ⟨pb, po + 2, none⟩ = some (.bool y.p.last) ∧ W.cell? ⟨pb, po + 3, none⟩ = some (.string y.p.data)) ∧
      (0 < y.nr → ∃ rb ro, ar = some ⟨rb, ro, none⟩ ∧ W.cell? ⟨rb, ro, none⟩ = some (.int .i64 y.r.next) ∧ ∃ ag cg, W.cell? ⟨rb, ro + 1, none⟩ = some (.slice ag y.r.miss.length cg) ∧ Gps W ag y.r.miss ∧ (y.r.miss ≠ [] → ∀ y', ag = some y' → y'.block < W.heap.size))) hV cS (by omega) (fun n cs' d pl hlen q2' hsd => by
    obtain ⟨xs, k, hk, hxy, _, hxl, hff⟩ := DataW.trod_struct hS q2'
    match xs, hxl, cs', hlen with
    | [x0, x1, x2, x3, x4, x5], _, [v0, v1, v2, v3, v4, v5], _ =>
      have z0 := hff 0 m0 rfl
      have z1 := hff 1 m1 rfl
      have z2 := hff 2 m2 rfl
      have z3 := hff 3 m3 rfl
      have z4 := hff 4 m4 rfl
      have z5 := hff 5 m5 rfl
      simp [o0, o1, o2, o3, o4, o5, c0, c1, c2, c3, c4, c5] at z0 z1 z2 z3 z4 z5
      obtain ⟨a0, e0, _, _⟩ := DataW.trod_int y0 z0
      obtain ⟨a1, e1, _, _⟩ := DataW.trod_int y1 z1
      obtain ⟨a2, e2, _, _⟩ := DataW.trod_int y2 z2
      obtain ⟨a3, e3, ed, _⟩ := DataW.trod_string y3 z3
      simp at e0 e1 e2 e3
      subst e0 e1 e2 e3
      subst ed
      have hdx : d = _ := congrArg Prod.fst hxy
      rw [hdx] at hsd
      have h9 : a3.size ≤ reachBytes := (hsd.part hS (j := 3) (f := m3) rfl rfl).text
      have hs4 := hsd.part hS (j := 4) (f := m4) rfl rfl
      have hs5 := hsd.part hS (j := 5) (f := m5) rfl rfl
      rw [eA] at z4 hs4
      rw [eB] at z5 hs5
      obtain ⟨ap, cp, np, pp, ep, u1, u2, u3⟩ := open_piecesM hA hB cB w0 w1 w2 w3 d0 d1 d2 d3 b0 b1 b2 b3 z4 hs4
      obtain ⟨ar, cr, nr, rr, er, s1, s2⟩ := open_repsM hu' ht ct q0 q1 j0 j1 i0 et hu hs cs p0 p1 p2 k0 k1 k2 h0 h1 h2 z5 hs5
      exact ⟨⟨a0, a1, a2, a3, np, pp, nr, rr⟩, ⟨Nat.le_trans h9 (by decide), u1, u2, s1⟩, ap, cp, ar, cr, by rw [ep, er], u3, s2⟩) hf hsm
  refine ⟨a, c, l, e, fun j hj => ?_, hby⟩
  obtain ⟨b, o, cs', ha, -, h3, h4, ap, cp, ar, cr, h5, h6, h7⟩ := hi j hj
  rw [h5] at h3
  exact ⟨b, o, ha, ⟨by simpa using h3 0 (by omega), by simpa using h3 1 (by omega), by simpa using h3 2 (by omega), by simpa using h3 3 (by omega), ⟨ap, cp, by simpa using h3 4 (by omega), h6⟩, ar, cr, by simpa using h3 5 (by omega), h7⟩, h4⟩
end Go.Proofs.Ytbjgfoiikhbonaf
