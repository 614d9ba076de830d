import Derived.Test.YtcnkcbipkchoiagU37
import Derived.Test.YtcnkcbipkchoiagU04
namespace Go.Proofs.Ytcnkcbipkchoiag
open Go.ChangeShapes Go.WideShapes Go.ChangeAt Go.RowKit
theorem Try.infoDGp : (Try.prog.info? 107).map (fun i => (i.zero, i.size, i.bytes)) = some (some (.agg #[.int .i64 0, .int .i64 0, .int .i64 0]), 3, 24) := by kernel_rfl
def cellsDGp (l : List GapM) : List Value := l.flatMap fun s => [.int .i64 s.num, .int .i64 s.frm, .int .i64 s.til]
theorem cellsDGp_cons (s : GapM) (l : List GapM) : cellsDGp (s :: l) = .int .i64 s.num :: .int .i64 s.frm :: .int .i64 s.til :: cellsDGp l := rfl
theorem cellsDGp_length (l : List GapM) : (cellsDGp l).length = 3 * l.length := by
  induction l with
  | nil => rfl
  | cons p l ih => rw [cellsDGp_cons]; simp [ih]; omega
theorem cellsDGp_at (l : List GapM) : ∀ i, i < l.length → (cellsDGp l)[i * 3]? = some (.int .i64 (l.getD i .zero).num) ∧ (cellsDGp l)[i * 3 + 1]? = some (.int .i64 (l.getD i .zero).frm) ∧ (cellsDGp l)[i * 3 + 2]? = some (.int .i64 (l.getD i .zero).til) := by
  induction l with
  | nil => intro i hi; simp at hi
  | cons p l ih =>
    intro i hi
    rw [cellsDGp_cons]
    cases i with
    | zero => simp [List.getD]
    | succ i =>
      have h := ih i (by simpa using hi)
      have e : (p :: l).getD (i + 1) .zero = l.getD i .zero := by simp [List.getD]
      rw [e, show (i + 1) * 3 = i * 3 + 1 + 1 + 1 by omega, show i * 3 + 1 + 1 + 1 + 1 = (i * 3 + 1) + 1 + 1 + 1 by omega, show i * 3 + 1 + 1 + 1 + 2 = (i * 3 + 2) + 1 + 1 + 1 by omega]
      simp only [List.getElem?_cons_succ]
      exact h
theorem cellsDGp_one (l : List GapM) : ∀ u ∈ cellsDGp l, u.oneCell' = true := by
  intro u hu
  unfold cellsDGp at hu
  rw [List.mem_flatMap] at hu
  obtain ⟨p, _, hp⟩ := hu
  simp at hp
  rcases hp with rfl | rfl | rfl <;> rfl
theorem cellsDGp_append (ps qs : List GapM) : cellsDGp (ps ++ qs) = cellsDGp ps ++ cellsDGp qs := by unfold cellsDGp; rw [List.flatMap_append]
/-- They fill a block. -/
def ArrDGp (w : World) (g : Nat) (l : List GapM) : Prop := w.heap[g]? = some (.cells (cellsDGp l).toArray 107 (0, 0))
theorem ArrDGp.lt {w : World} {g : Nat} {l : List GapM} (h : ArrDGp w g l) : g < w.heap.size := (Array.getElem?_eq_some_iff.1 h).1
theorem ArrDGp.below {w w' : World} {g B : Nat} {l : List GapM} (h : ArrDGp w g l) (hb : Below B w w') (hg : g < B) : ArrDGp w' g l := (hb.block g hg).trans h
theorem ArrDGp.kept {w w' : World} {g : Nat} {S : List Nat} {l : List GapM} (h : ArrDGp w g l) (hk : Kept S w w') (hg : g ∉ S) : ArrDGp w' g l := (hk.block g h.lt hg).trans h
/-- One of them lies there. -/
def AtDGp (w : World) (b o : Nat) (s : GapM) : Prop := w.cell? ⟨b, o, none⟩ = some (.int .i64 s.num) ∧ w.cell? ⟨b, o + 1, none⟩ = some (.int .i64 s.frm) ∧ w.cell? ⟨b, o + 2, none⟩ = some (.int .i64 s.til)
theorem AtDGp.below {w w' : World} {b o : Nat} {s : GapM} (h : AtDGp w b o s) (hb : Below w.heap.size w w') : AtDGp w' b o s := by
  have h' : ∀ q v, w.cell? q = some v → w'.cell? q = some v := fun q v hc => (hb.cell (World.block_lt_of_cell? w _ hc)).trans hc
  exact ⟨h' _ _ h.1, h' _ _ h.2.1, h' _ _ h.2.2⟩
theorem ArrDGp.cells {w : World} {g : Nat} {l : List GapM} (h : ArrDGp w g l) {i : Nat} (hi : i < l.length) : AtDGp w g (i * 3) (l.getD i .zero) := by
  have hc := cellsDGp_at l i hi
  unfold AtDGp
  rw [cell_of_row w g _ _ _ (0, 0) h, cell_of_row w g _ _ _ (0, 0) h, cell_of_row w g _ _ _ (0, 0) h]
  simpa using hc
/-- The first ones of them, as a reader sees them. -/
theorem ArrDGp.rd {w : World} {g : Nat} {l xs : List GapM} (h : ArrDGp w g (l ++ xs)) : Gps w (some ⟨g, 0, none⟩) l := by
  intro _
  refine ⟨g, 0, rfl, fun i hi => ?_⟩
  have e : (l ++ xs).getD i .zero = l.getD i .zero := by simp only [List.getD, List.getElem?_append_left hi]
  have := h.cells (i := i) (by simp; omega)
  rw [e] at this
  rw [Nat.zero_add]
  exact this
theorem rdDGp_below {w w' : World} {a : Option Addr} {l : List GapM} (h : Gps w a l) (hb : Below w.heap.size w w') : Gps w' a l := by
  intro hne
  obtain ⟨b, o, e, hc⟩ := h hne
  exact ⟨b, o, e, fun i hi => (show AtDGp w' b (o + i * 3) (l.getD i .zero) from AtDGp.below (hc i hi) hb)⟩
theorem rdDGp_belowB {B : Nat} {w w' : World} {a : Option Addr} {l : List GapM} (h : Gps w a l) (hb : Below B w w') (hB : B = w.heap.size) : Gps w' a l := by subst hB; exact rdDGp_below h hb
theorem rdDGp_cells {w : World} {a : Option Addr} {l : List GapM} (h : Gps w a l) : ∀ ad, a = some ad → ∀ j u, (cellsDGp l)[j]? = some u → w.cell? (ad.add j) = some u := by
  intro ad had j u hu
  have hj : j < 3 * l.length := by
    have := (List.getElem?_eq_some_iff.1 hu).1
    rwa [cellsDGp_length] at this
  obtain ⟨b, off, e, hc⟩ := h (by rintro rfl; simp at hj)
  rw [e] at had
  obtain rfl := Option.some.inj had
  obtain ⟨c0, c1, c2⟩ := hc (j / 3) (by omega)
  obtain ⟨d0, d1, d2⟩ := cellsDGp_at l (j / 3) (by omega)
  rw [Addr.add_lit]
  have h3 : j = j / 3 * 3 ∨ j = j / 3 * 3 + 1 ∨ j = j / 3 * 3 + 2 := by omega
  rcases h3 with h3 | h3 | h3
  · rw [h3] at hu ⊢
    rw [d0] at hu
    rw [c0]
    exact hu
  · rw [h3] at hu ⊢
    rw [d1] at hu
    rw [← Nat.add_assoc, c1]
    exact hu
  · rw [h3] at hu ⊢
    rw [d2] at hu
    rw [← Nat.add_assoc, c2]
    exact hu
set_option maxRecDepth 100000 in
set_option maxHeartbeats 1000000 in
theorem roomyDGp (l : List GapM) (m : GapM) (a : Option Addr) (c n : Nat) (w : World) (ha : Gps w a l) (hn : a = none → n = 0 ∧ c = 0) (hl : l.length = n) (hz : n ≤ 5864062014634) :
    Calls Try.prog 42 #[.slice a n c, .agg #[.int .i64 m.num, .int .i64 m.frm, .int .i64 m.til]] w fun e w' => ∃ g, e = .returned (.slice (some ⟨g, 0, none⟩) n (n + 3)) ∧ ArrDGp w' g (l ++ [m, m, m]) ∧ w.heap.size ≤ g ∧ Below w.heap.size w w' := by
  obtain ⟨i0, hi, hz0, hz1, hz2⟩ := info_parts Try.infoDGp
  obtain ⟨N, eN⟩ : ∃ N, N = n + 3 := ⟨_, rfl⟩
  have HN := hid eN
  have HL := hid hl
  have hN1 : n + 3 ≤ N := by omega
  have hN2 : N ≤ 5864062014637 := by omega
  rw [← eN]
  have hNI : (n : Int) + 3 = (N : Int) := by rw [eN]; rfl
  have hb0 : Below w.heap.size w (w.alloc (.cells #[.int .i64 m.num, .int .i64 m.frm, .int .i64 m.til] 107)) := (Below.refl _ w).alloc (Nat.le_refl _) _
  have q0 : (w.alloc (.cells #[.int .i64 m.num, .int .i64 m.frm, .int .i64 m.til] 107)).cell? ⟨w.heap.size, 0, none⟩ = some (.int .i64 m.num) := by rw [cell_of_row _ _ _ _ _ _ (heap_alloc_new w _)]; rfl
  have q1 : (w.alloc (.cells #[.int .i64 m.num, .int .i64 m.frm, .int .i64 m.til] 107)).cell? ⟨w.heap.size, 1, none⟩ = some (.int .i64 m.frm) := by rw [cell_of_row _ _ _ _ _ _ (heap_alloc_new w _)]; rfl
  have q2 : (w.alloc (.cells #[.int .i64 m.num, .int .i64 m.frm, .int .i64 m.til] 107)).cell? ⟨w.heap.size, 2, none⟩ = some (.int .i64 m.til) := by rw [cell_of_row _ _ _ _ _ _ (heap_alloc_new w _)]; rfl
  have hsb : w.heap.size < (w.alloc (.cells #[.int .i64 m.num, .int .i64 m.frm, .int .i64 m.til] 107)).heap.size := by simp
  clear eN hl
  go_enter Try.func42, Try.ntmps42
  go_wp2_with (first
    | (at_make; refine wpList_make_own _ rfl _ _ 89 rfl w.heap.size 107 i0 (.agg #[.int .i64 0, .int .i64 0, .int .i64 0]) 3 Try.underlying89 hi hz0 hz1 _ _ _ N rfl rfl (by first | rfl | exact hNI) (by rw [hz2]; omega) (by unfold maxLen; omega) (by simp) ?_))
  generalize w.alloc (.cells #[.int .i64 m.num, .int .i64 m.frm, .int .i64 m.til] 107) = wb at *
  intro w1 hown1 hg1
  have hb1 := hb0.grown hg1 hb0.size (fun g e => by cases e)
  have ha1 := rdDGp_below ha hb1
  have p0 := ((Below.refl wb.heap.size wb).grown hg1 (Nat.le_refl _) (fun g e => by cases e)).cell (p := ⟨w.heap.size, 0, none⟩) hsb |>.trans q0
  have p1 := ((Below.refl wb.heap.size wb).grown hg1 (Nat.le_refl _) (fun g e => by cases e)).cell (p := ⟨w.heap.size, 1, none⟩) hsb |>.trans q1
  have p2 := ((Below.refl wb.heap.size wb).grown hg1 (Nat.le_refl _) (fun g e => by cases e)).cell (p := ⟨w.heap.size, 2, none⟩) hsb |>.trans q2
  obtain ⟨G, eG⟩ : ∃ G, G = w.heap.size + 1 := ⟨_, rfl⟩
  rw [← eG] at hown1
  rw [← eG]
  have hsG : w.heap.size < G := by omega
  clear eG q0 q1 q2 hsb
  go_wp2_with (first
    | (at_builtin; refine wpList_append_fits_any _ rfl _ _ 89 rfl w.heap.size 107 i0 3 Try.underlying89 hi hz1 G 0 N [] rfl hown1 a n c (cellsDGp l) rfl (by rw [cellsDGp_length, HL.out, Nat.mul_comm]) hn (rdDGp_cells ha1) (cellsDGp_one l) (by omega) ?_))
  intro w2 hown2 hg2
  have hb2 := hb1.grown hg2 hb1.size (fun g e => by simp only [Option.some.injEq] at e; omega)
  have hGs : G < w2.heap.size := (hown2.lt G rfl).2
  have r0 := cell_grownD p0 hg2 (fun g e => by simp only [Option.some.injEq] at e; show w.heap.size ≠ g; omega)
  have r1 := cell_grownD p1 hg2 (fun g e => by simp only [Option.some.injEq] at e; show w.heap.size ≠ g; omega)
  have r2 := cell_grownD p2 hg2 (fun g e => by simp only [Option.some.injEq] at e; show w.heap.size ≠ g; omega)
  have hown2' := World.ownsRow.alloc hown2 (.cells #[.int .i64 m.num, .int .i64 m.frm, .int .i64 m.til, .int .i64 m.num, .int .i64 m.frm, .int .i64 m.til, .int .i64 m.num, .int .i64 m.frm, .int .i64 m.til] 107)
  have hb2' := hb2.alloc hb2.size (.cells #[.int .i64 m.num, .int .i64 m.frm, .int .i64 m.til, .int .i64 m.num, .int .i64 m.frm, .int .i64 m.til, .int .i64 m.num, .int .i64 m.frm, .int .i64 m.til] 107)
  have HC3 := hid (marks_newD [.int .i64 m.num, .int .i64 m.frm, .int .i64 m.til, .int .i64 m.num, .int .i64 m.frm, .int .i64 m.til, .int .i64 m.num, .int .i64 m.frm, .int .i64 m.til] 107 w2)
  clear p0 p1 p2 hown1 hg2
  go_wp2_with (first
    | (at_builtin; refine wpList_append_fits _ rfl _ _ 89 rfl w.heap.size 107 i0 3 Try.underlying89 hi hz1 G n N (cellsDGp l) rfl hown2' ⟨w2.heap.size, 0, none⟩ 3 3 [.int .i64 m.num, .int .i64 m.frm, .int .i64 m.til, .int .i64 m.num, .int .i64 m.frm, .int .i64 m.til, .int .i64 m.num, .int .i64 m.frm, .int .i64 m.til] rfl rfl HC3.out (cellsDGp_one [m, m, m]) (by omega) ?_))
  intro w3 hown3 hg3
  have hb3 := hb2'.grown hg3 (by have := hb2'.size; omega) (fun g e => by simp only [Option.some.injEq] at e; omega)
  have harr : ArrDGp w3 G (l ++ [m, m, m]) := by
    rcases hown3.2 with ⟨h', _⟩ | ⟨g', cap, cur, h', hB, hg, _, hm, hcs, ht⟩
    · simp at h'
    · simp only [Value.slice.injEq, Option.some.injEq, Addr.mk.injEq, and_true] at h'
      obtain ⟨rfl, -, rfl⟩ := h'
      unfold ArrDGp
      rw [hg, cellsDGp_append]
      have e2 : cellsDGp [m, m, m] = [.int .i64 m.num, .int .i64 m.frm, .int .i64 m.til, .int .i64 m.num, .int .i64 m.frm, .int .i64 m.til, .int .i64 m.num, .int .i64 m.frm, .int .i64 m.til] := rfl
      rw [e2, ← ht, List.take_of_length_le (by have := HN.out; simp; omega)]
  clear hown2 hown2' hown3 HC3 hg3 r0 r1 r2
  go_wp2
  go_ret
  exact ⟨G, rfl, harr, by omega, hb3⟩
theorem run_idxDGp {ρ : Operand → Value} (w : World) {o : Oper} {x y : Operand} {g s j n c : Nat} (ho : o.op = .indexAddr 89 x y) (h : ρ x = .slice (some ⟨g, s, none⟩) n c) (h' : ρ y = .int .i64 j) (hj : j < n) : (execOp ρ o).run Try.prog w = .ok (.value (.pointer (some ⟨g, s + j * 3, none⟩))) w := by
  unfold execOp
  simp only [ho, h, h']
  simp [go_sem, Try.underlying89, hj]
theorem run_loadDGp {ρ : Operand → Value} (w : World) {o : Oper} {x : Operand} {g s : Nat} {p : GapM} (ho : o.op = .load 107 x) (h : ρ x = .pointer (some ⟨g, s, none⟩)) (hc : AtDGp w g s p) : (execOp ρ o).run Try.prog w = .ok (.value (.agg #[.int .i64 p.num, .int .i64 p.frm, .int .i64 p.til])) w := by
  unfold execOp
  have hr := run_loadVar_mid w g s 107 [.int .i64 p.num, .int .i64 p.frm, .int .i64 p.til] _ (fun j v hj => by
    obtain ⟨c0, c1, c2⟩ := hc
    match j, hj with
    | 0, hj => simp at hj; subst hj; simpa using c0
    | 1, hj => simp at hj; subst hj; simpa using c1
    | 2, hj => simp at hj; subst hj; simpa using c2) Try.underlying107 rfl (by kernel_rfl)
  simp only [ho, h, Instr.loadAt, Instr.sureAddr, Sem.run_bind, Sem.run_pure, Result.andThen_ok, hr]
theorem run_eqDGp (w : World) (p : GapM) : (Op.equalIn 10000 107 (.agg #[.int .i64 p.num, .int .i64 p.frm, .int .i64 p.til]) (.agg #[.int .i64 p.num, .int .i64 p.frm, .int .i64 p.til])).run Try.prog w = .ok true w := by
  have hf : Try.prog.underlying 107 = some (.struct (Try.prog.fieldsOf 107)) := by kernel_rfl
  rw [run_equalIn_struct w 9999 107 _ _ hf (by kernel_rfl)]
  simp only [Program.fieldsOf, Try.underlying107]
  simp [Op.eqFields, go_sem]
theorem run_eqlDGp {ρ : Operand → Value} (w : World) {o : Oper} {x y : Operand} {p : GapM} (ho : o.op = .binOp .eql 107 x y 107) (h : ρ x = .agg #[.int .i64 p.num, .int .i64 p.frm, .int .i64 p.til]) (h' : ρ y = .agg #[.int .i64 p.num, .int .i64 p.frm, .int .i64 p.til]) : (execOp ρ o).run Try.prog w = .ok (.value (.bool true)) w := by
  have hm : Try.prog.eqGuardType Try.prog.depth 107 = false := by kernel_rfl
  unfold execOp
  simp only [ho, h, h']
  simp [go_sem, hm, run_eqDGp]
theorem run_neqDGp {ρ : Operand → Value} (w : World) {o : Oper} {x y : Operand} {p : GapM} (ho : o.op = .binOp .neq 107 x y 107) (h : ρ x = .agg #[.int .i64 p.num, .int .i64 p.frm, .int .i64 p.til]) (h' : ρ y = .agg #[.int .i64 p.num, .int .i64 p.frm, .int .i64 p.til]) : (execOp ρ o).run Try.prog w = .ok (.value (.bool false)) w := by
  have hm : Try.prog.eqGuardType Try.prog.depth 107 = false := by kernel_rfl
  unfold execOp
  simp only [ho, h, h']
  simp [go_sem, hm, run_eqDGp]
set_option maxRecDepth 100000 in
set_option maxHeartbeats 2000000 in
theorem keptDGp (l : List GapM) (m : GapM) (g n : Nat) (a : Option Addr) (c : Nat) (w : World) (hl : l.length = n) (hz : n ≤ 5864062014634) (har : ArrDGp w g (l ++ [m, m, m])) (ha : Gps w a l) :
    Calls Try.prog 44 #[.slice (some ⟨g, 0, none⟩) n (n + 3), .slice a n c, .agg #[.int .i64 m.num, .int .i64 m.frm, .int .i64 m.til]] w fun e w' => e = .returned (.bool true) ∧ Below w.heap.size w w' := by
  have HL := hid hl
  obtain ⟨N, eN⟩ : ∃ N, N = n + 3 := ⟨_, rfl⟩
  have hNI : (n : Int) + 3 = (N : Int) := by rw [eN]; rfl
  have hN1 : n + 3 = N := eN.symm
  have hN2 : N ≤ 5864062014637 := by omega
  have hlt3 : ∀ i, i < 3 → (l ++ [m, m, m]).getD (n + i) .zero = m := fun i hi => by
    have h3 : i = 0 ∨ i = 1 ∨ i = 2 := by omega
    rcases h3 with rfl | rfl | rfl <;> simp [List.getD, ← hl]
  have HM := hid hlt3
  have hb0 : Below w.heap.size w (w.alloc (.cells #[.int .i64 m.num, .int .i64 m.frm, .int .i64 m.til] 107)) := (Below.refl _ w).alloc (Nat.le_refl _) _
  have q0 : AtDGp (w.alloc (.cells #[.int .i64 m.num, .int .i64 m.frm, .int .i64 m.til] 107)) w.heap.size 0 m := by
    unfold AtDGp
    rw [cell_of_row _ _ _ _ _ _ (heap_alloc_new w _), cell_of_row _ _ _ _ _ _ (heap_alloc_new w _), cell_of_row _ _ _ _ _ _ (heap_alloc_new w _)]
    exact ⟨rfl, rfl, rfl⟩
  have hmix : Try.prog.follows .mixedOrders = true := by kernel_rfl
  rw [← eN]
  clear eN hl hlt3
  go_enter Try.func44, Try.ntmps44
  go_wp2
  generalize w.alloc (.cells #[.int .i64 m.num, .int .i64 m.frm, .int .i64 m.til] 107) = wb at *
  obtain ⟨gP, eP⟩ : ∃ gP, gP = w.heap.size := ⟨_, rfl⟩
  rw [← eP] at q0
  rw [← eP]
  clear eP
  go_loopw [16] (fun i wr => ∃ k : Nat, k ≤ n ∧ i = .int .i64 k ∧ Below wb.heap.size wb wr) (fun i _ => n - (intOf i).toNat)
  case atStart => exact ⟨0, Nat.zero_le _, rfl, Below.refl _ _⟩
  case round =>
    obtain ⟨k, hk, rfl, hbel⟩ := hrel
    have hbw : Below w.heap.size w wr := hb0.trans (hbel.mono hb0.size)
    have har' := har.below hbw har.lt
    by_cases hlt : k < n
    · obtain ⟨b2, o2, rfl, hc2⟩ := (rdDGp_below ha hbw) (by rintro rfl; have := HL.out; simp at this; omega)
      have g2 : AtDGp wr b2 (o2 + k * 3) (l.getD k .zero) := hc2 k (by rw [HL.out]; exact hlt)
      have g1 := har'.cells (i := k) (by simp [HL.out]; omega)
      rw [show (l ++ [m, m, m]).getD k .zero = l.getD k .zero by simp only [List.getD, List.getElem?_append_left (show k < l.length by rw [HL.out]; exact hlt)]] at g1
      generalize l.getD k .zero = p at *
      clear hc2 har'
      go_upto_region 6 with fail
      refine wp_mono (region_known3 9 [(19, .slice (some ⟨g, 0, none⟩) n N), (20, .int .i64 k), (21, .pointer (some ⟨g, 0 + k * 3, none⟩)), (22, .agg #[.int .i64 p.num, .int .i64 p.frm, .int .i64 p.til]), (23, .slice (some ⟨b2, o2, none⟩) n c), (24, .int .i64 k), (25, .pointer (some ⟨b2, o2 + k * 3, none⟩)), (26, .agg #[.int .i64 p.num, .int .i64 p.frm, .int .i64 p.til]), (27, .bool false)]
          [[0], [7], [19, 20], [21], [1], [7], [23, 24], [25], [22, 26]] wr hmix rfl rfl (show ([19, 20, 21, 22, 23, 24, 25, 26, 27] : List Nat).Nodup by decide) (by kernel_rfl) (by kernel_rfl) (by kernel_rfl) (by kernel_rfl) (fun i' hi' ac wc hbc hr Q K hK => by
          have h9 : i' = 0 ∨ i' = 1 ∨ i' = 2 ∨ i' = 3 ∨ i' = 4 ∨ i' = 5 ∨ i' = 6 ∨ i' = 7 ∨ i' = 8 := by omega
          have c1 : AtDGp wc g (0 + k * 3) p := by rw [Nat.zero_add]; exact g1.below hbc
          have c2 : AtDGp wc b2 (o2 + k * 3) p := g2.below hbc
          rcases h9 with rfl | rfl | rfl | rfl | rfl | rfl | rfl | rfl | rfl
          · exact op_value rfl rfl (run_moveQ wc rfl (hr 0 (by decide))) (hK wc hbc)
          · exact op_value rfl rfl (run_moveQ wc rfl (hr 7 (by decide))) (hK wc hbc)
          · exact op_value rfl rfl (run_idxDGp wc rfl (hr 19 (by decide)) (hr 20 (by decide)) hlt) (hK wc hbc)
          · exact op_value rfl rfl (run_loadDGp wc rfl (hr 21 (by decide)) c1) (hK wc hbc)
          · exact op_value rfl rfl (run_moveQ wc rfl (hr 1 (by decide))) (hK wc hbc)
          · exact op_value rfl rfl (run_moveQ wc rfl (hr 7 (by decide))) (hK wc hbc)
          · exact op_value rfl rfl (run_idxDGp wc rfl (hr 23 (by decide)) (hr 24 (by decide)) hlt) (hK wc hbc)
          · exact op_value rfl rfl (run_loadDGp wc rfl (hr 25 (by decide)) c2) (hK wc hbc)
          · exact op_value rfl rfl (run_neqDGp wc rfl (hr 22 (by decide)) (hr 26 (by decide))) (hK wc hbc))) ?_
      rintro e a' w' ⟨rfl, rfl, hbw'⟩
      have hbel' : Below wb.heap.size wb w' := hbel.trans (hbw'.mono hbel.size)
      dsimp only [setAll, List.set]
      clear hbw' hbel g1 g2
      go_wp2
      go_roundw
      case rel => exact ⟨k + 1, by omega, by go_num, hbel'⟩
      case measure => simp [intOf]; omega
    · have d0 := har'.cells (i := n + 0) (by simp [HL.out])
      have d1 := har'.cells (i := n + 1) (by simp [HL.out])
      have d2 := har'.cells (i := n + 2) (by simp [HL.out])
      rw [HM.out 0 (by omega)] at d0
      rw [HM.out 1 (by omega)] at d1
      rw [HM.out 2 (by omega)] at d2
      have r0 := q0.below hbel
      clear har'
      go_upto_region 10 with fail
      refine wp_mono (region_known3 20 [(36, .slice (some ⟨g, n * 3, none⟩) (N - n) (N - n)), (37, .pointer (some ⟨g, n * 3 + 0 * 3, none⟩)), (38, .agg #[.int .i64 m.num, .int .i64 m.frm, .int .i64 m.til]), (39, .agg #[.int .i64 m.num, .int .i64 m.frm, .int .i64 m.til]), (40, .bool true), (41, .bool true), (42, .slice (some ⟨g, n * 3, none⟩) (N - n) (N - n)), (43, .pointer (some ⟨g, n * 3 + 1 * 3, none⟩)), (44, .agg #[.int .i64 m.num, .int .i64 m.frm, .int .i64 m.til]), (45, .agg #[.int .i64 m.num, .int .i64 m.frm, .int .i64 m.til]), (46, .bool true), (47, .bool true), (48, .bool true), (49, .slice (some ⟨g, n * 3, none⟩) (N - n) (N - n)), (50, .pointer (some ⟨g, n * 3 + 2 * 3, none⟩)), (51, .agg #[.int .i64 m.num, .int .i64 m.frm, .int .i64 m.til]), (52, .agg #[.int .i64 m.num, .int .i64 m.frm, .int .i64 m.til]), (53, .bool true), (54, .bool true), (6, .bool true)]
          [[8], [36], [37], [5], [38, 39], [40], [8, 41], [42, 41], [43, 41], [5, 41], [44, 45, 41], [41, 46], [47], [8, 48], [49, 48], [50, 48], [5, 48], [51, 52, 48], [48, 53], [54]] wr hmix rfl rfl (show ([36, 37, 38, 39, 40, 41, 42, 43, 44, 45, 46, 47, 48, 49, 50, 51, 52, 53, 54, 6] : List Nat).Nodup by decide) (by kernel_rfl) (by kernel_rfl) (by kernel_rfl) (by kernel_rfl) (fun i' hi' ac wc hbc hr Q K hK => by
          have h20 : i' = 0 ∨ i' = 1 ∨ i' = 2 ∨ i' = 3 ∨ i' = 4 ∨ i' = 5 ∨ i' = 6 ∨ i' = 7 ∨ i' = 8 ∨ i' = 9 ∨ i' = 10 ∨ i' = 11 ∨ i' = 12 ∨ i' = 13 ∨ i' = 14 ∨ i' = 15 ∨ i' = 16 ∨ i' = 17 ∨ i' = 18 ∨ i' = 19 := by omega
          have eb : AtDGp wc gP 0 m := r0.below hbc
          have e0 : AtDGp wc g (n * 3 + 0 * 3) m := by rw [← Nat.add_mul]; exact d0.below hbc
          have e1 : AtDGp wc g (n * 3 + 1 * 3) m := by rw [← Nat.add_mul]; exact d1.below hbc
          have e2 : AtDGp wc g (n * 3 + 2 * 3) m := by rw [← Nat.add_mul]; exact d2.below hbc
          rcases h20 with rfl | rfl | rfl | rfl | rfl | rfl | rfl | rfl | rfl | rfl | rfl | rfl | rfl | rfl | rfl | rfl | rfl | rfl | rfl | rfl
          · exact op_value rfl rfl (run_moveQ wc rfl (hr 8 (by decide))) (hK wc hbc)
          · exact op_value rfl rfl (run_idxDGp (j := 0) wc rfl (hr 36 (by decide)) rfl (by omega)) (hK wc hbc)
          · exact op_value rfl rfl (run_loadDGp (p := m) wc rfl (hr 37 (by decide)) e0) (hK wc hbc)
          · exact op_value rfl rfl (run_loadDGp (p := m) wc rfl (hr 5 (by decide)) eb) (hK wc hbc)
          · exact op_value rfl rfl (run_eqlDGp (p := m) wc rfl (hr 38 (by decide)) (hr 39 (by decide))) (hK wc hbc)
          · exact op_value rfl rfl (run_moveQ wc rfl (hr 40 (by decide))) (hK wc hbc)
          · exact op_valueG rfl rfl rfl rfl (hr 41 (by decide)) (run_moveQ wc rfl (hr 8 (by decide))) (hK wc hbc)
          · exact op_valueG rfl rfl rfl rfl (hr 41 (by decide)) (run_idxDGp (j := 1) wc rfl (hr 42 (by decide)) rfl (by omega)) (hK wc hbc)
          · exact op_valueG rfl rfl rfl rfl (hr 41 (by decide)) (run_loadDGp (p := m) wc rfl (hr 43 (by decide)) e1) (hK wc hbc)
          · exact op_valueG rfl rfl rfl rfl (hr 41 (by decide)) (run_loadDGp (p := m) wc rfl (hr 5 (by decide)) eb) (hK wc hbc)
          · exact op_valueG rfl rfl rfl rfl (hr 41 (by decide)) (run_eqlDGp (p := m) wc rfl (hr 44 (by decide)) (hr 45 (by decide))) (hK wc hbc)
          · exact op_value rfl rfl (run_pickQ wc rfl (hr 41 (by decide)) (hr 46 (by decide))) (hK wc hbc)
          · exact op_value rfl rfl (run_moveQ wc rfl (hr 47 (by decide))) (hK wc hbc)
          · exact op_valueG rfl rfl rfl rfl (hr 48 (by decide)) (run_moveQ wc rfl (hr 8 (by decide))) (hK wc hbc)
          · exact op_valueG rfl rfl rfl rfl (hr 48 (by decide)) (run_idxDGp (j := 2) wc rfl (hr 49 (by decide)) rfl (by omega)) (hK wc hbc)
          · exact op_valueG rfl rfl rfl rfl (hr 48 (by decide)) (run_loadDGp (p := m) wc rfl (hr 50 (by decide)) e2) (hK wc hbc)
          · exact op_valueG rfl rfl rfl rfl (hr 48 (by decide)) (run_loadDGp (p := m) wc rfl (hr 5 (by decide)) eb) (hK wc hbc)
          · exact op_valueG rfl rfl rfl rfl (hr 48 (by decide)) (run_eqlDGp (p := m) wc rfl (hr 51 (by decide)) (hr 52 (by decide))) (hK wc hbc)
          · exact op_value rfl rfl (run_pickQ wc rfl (hr 48 (by decide)) (hr 53 (by decide))) (hK wc hbc)
          · exact op_value rfl rfl (run_assignL wc rfl (hr 54 (by decide))) (hK wc hbc))) ?_
      rintro e a' w' ⟨rfl, rfl, hbw'⟩
      have hfin : Below w.heap.size w w' := hbw.trans (hbw'.mono hbw.size)
      dsimp only [setAll, List.set]
      clear hbw' hbel d0 d1 d2 r0
      go_wp2
      go_ret
      exact ⟨rfl, hfin⟩
set_option maxRecDepth 100000 in
set_option maxHeartbeats 1000000 in
theorem spoiltDGp (m : GapM) (v : Value) (n : Nat) (ys : List Value) (B : Nat) (S : List Nat) (w : World) (hown : w.ownsRow B 107 3 v n ys) (hB : B ≤ w.heap.size) (hS : ∀ k, v.ownBlock = some k → k ∈ S) (hz : n ≤ 5864062014634) :
    Calls Try.prog 45 #[v, .agg #[.int .i64 m.num, .int .i64 m.frm, .int .i64 m.til]] w fun e w' => e = .returned (.tuple #[]) ∧ Kept S w w' := by
  obtain ⟨i0, hi, hz0, hz1, hz2⟩ := info_parts Try.infoDGp
  have hb0 : Kept S w (w.alloc (.cells #[.int .i64 m.num, .int .i64 m.frm, .int .i64 m.til] 107)) := (Kept.refl _ w).alloc _
  have q0 : (w.alloc (.cells #[.int .i64 m.num, .int .i64 m.frm, .int .i64 m.til] 107)).cell? ⟨w.heap.size, 0, none⟩ = some (.int .i64 m.num) := by rw [cell_of_row _ _ _ _ _ _ (heap_alloc_new w _)]; rfl
  have q1 : (w.alloc (.cells #[.int .i64 m.num, .int .i64 m.frm, .int .i64 m.til] 107)).cell? ⟨w.heap.size, 1, none⟩ = some (.int .i64 m.frm) := by rw [cell_of_row _ _ _ _ _ _ (heap_alloc_new w _)]; rfl
  have q2 : (w.alloc (.cells #[.int .i64 m.num, .int .i64 m.frm, .int .i64 m.til] 107)).cell? ⟨w.heap.size, 2, none⟩ = some (.int .i64 m.til) := by rw [cell_of_row _ _ _ _ _ _ (heap_alloc_new w _)]; rfl
  rcases own_blockD hown with rfl | ⟨g, cap, cur, rfl, hg, hblk, hnc, hcm, hcs⟩
  · clear hown
    go_enter Try.func45, Try.ntmps45
    go_wp2
    generalize w.alloc (.cells #[.int .i64 m.num, .int .i64 m.frm, .int .i64 m.til] 107) = wb at *
    go_loopw [12] (fun q wr => q = .int .i64 0 ∧ wr = wb) (fun _ _ => 0)
    case atStart => exact ⟨rfl, rfl⟩
    case round =>
      obtain ⟨rfl, rfl⟩ := hrel
      have hown' := World.ownsRow.alloc (World.ownsRow_nil wr B 107 3) (.cells #[.int .i64 m.num, .int .i64 m.frm, .int .i64 m.til, .int .i64 m.num, .int .i64 m.frm, .int .i64 m.til, .int .i64 m.num, .int .i64 m.frm, .int .i64 m.til] 107)
      have HC3 := hid (marks_newD [.int .i64 m.num, .int .i64 m.frm, .int .i64 m.til, .int .i64 m.num, .int .i64 m.frm, .int .i64 m.til, .int .i64 m.num, .int .i64 m.frm, .int .i64 m.til] 107 wr)
      have hBr : B ≤ wr.heap.size := Nat.le_trans hB hb0.size
      have hb1 := hb0.alloc (.cells #[.int .i64 m.num, .int .i64 m.frm, .int .i64 m.til, .int .i64 m.num, .int .i64 m.frm, .int .i64 m.til, .int .i64 m.num, .int .i64 m.frm, .int .i64 m.til] 107)
      go_wp2_with (first
        | (at_builtin; refine wpList_append_own _ rfl _ _ 89 rfl B 107 i0 (.agg #[.int .i64 0, .int .i64 0, .int .i64 0]) 3 24 Try.underlying89 hi hz0 hz1 hz2 rfl (by decide) (.slice none 0 0) 0 [] rfl hown' ⟨wr.heap.size, 0, none⟩ 3 3 [.int .i64 m.num, .int .i64 m.frm, .int .i64 m.til, .int .i64 m.num, .int .i64 m.frm, .int .i64 m.til, .int .i64 m.num, .int .i64 m.frm, .int .i64 m.til] rfl rfl HC3.out (cellsDGp_one [m, m, m]) (by unfold maxLen; omega) (by omega) (by simp; omega) ?_))
      intro v' w' _ hg' _
      have hb2 := hb1.trans (keptNoneD hg')
      go_wp2
      go_end0
      exact ⟨rfl, hb2⟩
  · have hcm' : cap ≤ 9223372036854775807 := by unfold maxLen at hcm; omega
    have hgS : g ∈ S := hS g rfl
    have hgw : g < w.heap.size := (Array.getElem?_eq_some_iff.1 hblk).1
    have hblkb : (w.alloc (.cells #[.int .i64 m.num, .int .i64 m.frm, .int .i64 m.til] 107)).heap[g]? = some (.cells cur 107 (0, 0)) := (Below.heap_alloc _ _ _ hgw).trans hblk
    clear hown hblk
    go_enter Try.func45, Try.ntmps45
    go_wp2
    generalize w.alloc (.cells #[.int .i64 m.num, .int .i64 m.frm, .int .i64 m.til] 107) = wb at *
    obtain ⟨gP, eP⟩ : ∃ gP, gP = w.heap.size := ⟨_, rfl⟩
    rw [← eP] at q0 q1 q2 hgw
    rw [← eP]
    clear eP
    go_loopw [12] (fun q wr => ∃ (i : Nat) (cur' : Array Value), i ≤ cap ∧ q = .int .i64 i ∧ wr.heap[g]? = some (.cells cur' 107 (0, 0)) ∧ Hid (cur'.size = cap * 3) ∧ Kept [g] wb wr) (fun q _ => cap - (intOf q).toNat)
    case atStart => exact ⟨0, cur, Nat.zero_le _, rfl, hblkb, hcs, Kept.refl _ _⟩
    case round =>
      obtain ⟨i, cur', hi', rfl, hb', HCS, hkept⟩ := hrel
      have r0 := hkept.cellD q0 (by simp; omega)
      have r1 := hkept.cellD q1 (by simp; omega)
      have r2 := hkept.cellD q2 (by simp; omega)
      by_cases hlt : i < cap
      · have ht := hid (there_blockD hb' HCS.out hlt)
        obtain ⟨cur2, hset, hsz2⟩ := set_cellsD [.int .i64 m.num, .int .i64 m.frm, .int .i64 m.til] (i * 3) wr cur' hb'
        have hkept' : Kept [g] wb (wr.setCells g (i * 3) [.int .i64 m.num, .int .i64 m.frm, .int .i64 m.til]) := Kept.setCellsD (by simp) _ _ hkept
        have HS2 : Hid (cur2.size = cap * 3) := hsz2.trans HCS.out
        obtain ⟨⟨x0, hx0⟩, hf0⟩ : (∃ x, wr.cell? ⟨g, i * 3, none⟩ = some x) ∧ wr.frozen? ⟨g, i * 3, none⟩ = false := ⟨Option.isSome_iff_exists.1 (ht.out 0 (by omega)).1, (ht.out 0 (by omega)).2⟩
        obtain ⟨⟨x1, hx1⟩, hf1⟩ : (∃ x, wr.cell? ⟨g, i * 3 + 1, none⟩ = some x) ∧ wr.frozen? ⟨g, i * 3 + 1, none⟩ = false := ⟨Option.isSome_iff_exists.1 (ht.out 1 (by omega)).1, (ht.out 1 (by omega)).2⟩
        obtain ⟨⟨x2, hx2⟩, hf2⟩ : (∃ x, wr.cell? ⟨g, i * 3 + 2, none⟩ = some x) ∧ wr.frozen? ⟨g, i * 3 + 2, none⟩ = false := ⟨Option.isSome_iff_exists.1 (ht.out 2 (by omega)).1, (ht.out 2 (by omega)).2⟩
        have HSET := hid hset
        have HKP := hid hkept'
        clear hb' hkept hsz2 hset hkept'
        go_wp2
        go_roundw
        case rel => exact ⟨i + 1, _, by omega, by go_num, HSET.out, HS2, HKP.out⟩
        case measure => simp [intOf]; omega
      · have hown := own_of_blockD (n := n) hg hb' hnc hcm HCS.out
        have hown' := World.ownsRow.alloc hown (.cells #[.int .i64 m.num, .int .i64 m.frm, .int .i64 m.til, .int .i64 m.num, .int .i64 m.frm, .int .i64 m.til, .int .i64 m.num, .int .i64 m.frm, .int .i64 m.til] 107)
        have hbr : Kept S w wr := hb0.trans (hkept.wider (by simpa using hgS))
        have hBr : B ≤ wr.heap.size := Nat.le_trans hB hbr.size
        have hb1 := hbr.alloc (.cells #[.int .i64 m.num, .int .i64 m.frm, .int .i64 m.til, .int .i64 m.num, .int .i64 m.frm, .int .i64 m.til, .int .i64 m.num, .int .i64 m.frm, .int .i64 m.til] 107)
        have HC3 := hid (marks_newD [.int .i64 m.num, .int .i64 m.frm, .int .i64 m.til, .int .i64 m.num, .int .i64 m.frm, .int .i64 m.til, .int .i64 m.num, .int .i64 m.frm, .int .i64 m.til] 107 wr)
        obtain ⟨xs, exs⟩ : ∃ xs, xs = cur'.toList.take (n * 3) := ⟨_, rfl⟩
        rw [← exs] at hown'
        clear exs hown hb' hkept hi'
        go_wp2_with (first
          | (at_builtin; refine wpList_append_own _ rfl _ _ 89 rfl B 107 i0 (.agg #[.int .i64 0, .int .i64 0, .int .i64 0]) 3 24 Try.underlying89 hi hz0 hz1 hz2 rfl (by decide) (.slice (some ⟨g, 0, none⟩) n cap) n xs rfl hown' ⟨wr.heap.size, 0, none⟩ 3 3 [.int .i64 m.num, .int .i64 m.frm, .int .i64 m.til, .int .i64 m.num, .int .i64 m.frm, .int .i64 m.til, .int .i64 m.num, .int .i64 m.frm, .int .i64 m.til] rfl rfl HC3.out (cellsDGp_one [m, m, m]) (by unfold maxLen; omega) (by omega) (by simp; omega) ?_))
        intro v' w' _ hg' _
        have hb2 := hb1.trans ((kept_grownD hg').wider (by simpa using hgS))
        go_wp2
        go_end0
        exact ⟨rfl, hb2⟩
end Go.Proofs.Ytcnkcbipkchoiag
