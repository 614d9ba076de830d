import Derived.Test.YtmdfjhnibhmdkafDoorSt29
import Derived.Test.YtmdfjhnibhmdkafDoorSt03
namespace Go.Proofs.YtmdfjhnibhmdkafDoor
open Go.ChangeShapes Go.WideShapes Go.ChangeAt Go.RowKit
theorem Tryd.infoDUs : (Tryd.prog.info? 47).map (fun i => (i.zero, i.size, i.bytes)) = some (some (.agg #[.int .i64 0, .int .i64 0, .int .i64 0]), 3, 24) := by kernel_rfl
def cellsDUs (l : List UsM) : List Value := l.flatMap fun s => [.int .i64 s.who, .int .i64 s.byt, .int .i64 s.fit]
theorem cellsDUs_cons (s : UsM) (l : List UsM) : cellsDUs (s :: l) = .int .i64 s.who :: .int .i64 s.byt :: .int .i64 s.fit :: cellsDUs l := rfl
theorem cellsDUs_length (l : List UsM) : (cellsDUs l).length = 3 * l.length := by
  induction l with
  | nil => rfl
  | cons p l ih => rw [cellsDUs_cons]; simp [ih]; omega
theorem cellsDUs_at (l : List UsM) : ∀ i, i < l.length → (cellsDUs l)[i * 3]? = some (.int .i64 (l.getD i .zero).who) ∧ (cellsDUs l)[i * 3 + 1]? = some (.int .i64 (l.getD i .zero).byt) ∧ (cellsDUs l)[i * 3 + 2]? = some (.int .i64 (l.getD i .zero).fit) := by
  induction l with
  | nil => intro i hi; simp at hi
  | cons p l ih =>
    intro i hi
    rw [cellsDUs_cons]
    cases i with
    | zero => simp [List.getD]
    | succ i =>
      have h := ih i (by simpa using hi)
      have e : (p :: l).getD (i + 1) .zero = l.getD i .zero := by simp [List.getD]
      rw [e, show (i + 1) * 3 = i * 3 + 1 + 1 + 1 by omega, show i * 3 + 1 + 1 + 1 + 1 = (i * 3 + 1) + 1 + 1 + 1 by omega, show i * 3 + 1 + 1 + 1 + 2 = (i * 3 + 2) + 1 + 1 + 1 by omega]
      simp only [List.getElem?_cons_succ]
      exact h
theorem cellsDUs_one (l : List UsM) : ∀ u ∈ cellsDUs l, u.oneCell' = true := by
  intro u hu
  unfold cellsDUs at hu
  rw [List.mem_flatMap] at hu
  obtain ⟨p, _, hp⟩ := hu
  simp at hp
  rcases hp with rfl | rfl | rfl <;> rfl
theorem cellsDUs_append (ps qs : List UsM) : cellsDUs (ps ++ qs) = cellsDUs ps ++ cellsDUs qs := by unfold cellsDUs; rw [List.flatMap_append]
/-- They fill a block. -/
def ArrDUs (w : World) (g : Nat) (l : List UsM) : Prop := w.heap[g]? = some (.cells (cellsDUs l).toArray 47 (0, 0))
theorem ArrDUs.lt {w : World} {g : Nat} {l : List UsM} (h : ArrDUs w g l) : g < w.heap.size := (Array.getElem?_eq_some_iff.1 h).1
theorem ArrDUs.below {w w' : World} {g B : Nat} {l : List UsM} (h : ArrDUs w g l) (hb : Below B w w') (hg : g < B) : ArrDUs w' g l := (hb.block g hg).trans h
theorem ArrDUs.kept {w w' : World} {g : Nat} {S : List Nat} {l : List UsM} (h : ArrDUs w g l) (hk : Kept S w w') (hg : g ∉ S) : ArrDUs w' g l := (hk.block g h.lt hg).trans h
/-- One of them lies there. -/
def AtDUs (w : World) (b o : Nat) (s : UsM) : Prop := w.cell? ⟨b, o, none⟩ = some (.int .i64 s.who) ∧ w.cell? ⟨b, o + 1, none⟩ = some (.int .i64 s.byt) ∧ w.cell? ⟨b, o + 2, none⟩ = some (.int .i64 s.fit)
theorem AtDUs.below {w w' : World} {b o : Nat} {s : UsM} (h : AtDUs w b o s) (hb : Below w.heap.size w w') : AtDUs w' b o s := by
  have h' : ∀ q v, w.cell? q = some v → w'.cell? q = some v := fun q v hc => (hb.cell (World.block_lt_of_cell? w _ hc)).trans hc
  exact ⟨h' _ _ h.1, h' _ _ h.2.1, h' _ _ h.2.2⟩
theorem ArrDUs.cells {w : World} {g : Nat} {l : List UsM} (h : ArrDUs w g l) {i : Nat} (hi : i < l.length) : AtDUs w g (i * 3) (l.getD i .zero) := by
  have hc := cellsDUs_at l i hi
  unfold AtDUs
  rw [cell_of_row w g _ _ _ (0, 0) h, cell_of_row w g _ _ _ (0, 0) h, cell_of_row w g _ _ _ (0, 0) h]
  simpa using hc
/-- The first ones of them, as a reader sees them. -/
theorem ArrDUs.rd {w : World} {g : Nat} {l xs : List UsM} (h : ArrDUs w g (l ++ xs)) : Usr w (some ⟨g, 0, none⟩) l := by
  intro _
  refine ⟨g, 0, rfl, fun i hi => ?_⟩
  have e : (l ++ xs).getD i .zero = l.getD i .zero := by simp only [List.getD, List.getElem?_append_left hi]
  have := h.cells (i := i) (by simp; omega)
  rw [e] at this
  rw [Nat.zero_add]
  exact this
theorem rdDUs_below {w w' : World} {a : Option Addr} {l : List UsM} (h : Usr w a l) (hb : Below w.heap.size w w') : Usr w' a l := by
  intro hne
  obtain ⟨b, o, e, hc⟩ := h hne
  exact ⟨b, o, e, fun i hi => (show AtDUs w' b (o + i * 3) (l.getD i .zero) from AtDUs.below (hc i hi) hb)⟩
theorem rdDUs_belowB {B : Nat} {w w' : World} {a : Option Addr} {l : List UsM} (h : Usr w a l) (hb : Below B w w') (hB : B = w.heap.size) : Usr w' a l := by subst hB; exact rdDUs_below h hb
theorem rdDUs_cells {w : World} {a : Option Addr} {l : List UsM} (h : Usr w a l) : ∀ ad, a = some ad → ∀ j u, (cellsDUs l)[j]? = some u → w.cell? (ad.add j) = some u := by
  intro ad had j u hu
  have hj : j < 3 * l.length := by
    have := (List.getElem?_eq_some_iff.1 hu).1
    rwa [cellsDUs_length] at this
  obtain ⟨b, off, e, hc⟩ := h (by rintro rfl; simp at hj)
  rw [e] at had
  obtain rfl := Option.some.inj had
  obtain ⟨c0, c1, c2⟩ := hc (j / 3) (by omega)
  obtain ⟨d0, d1, d2⟩ := cellsDUs_at l (j / 3) (by omega)
  rw [Addr.add_lit]
  have h3 : j = j / 3 * 3 ∨ j = j / 3 * 3 + 1 ∨ j = j / 3 * 3 + 2 := by omega
  rcases h3 with h3 | h3 | h3
  · rw [h3] at hu ⊢
    rw [d0] at hu
    rw [c0]
    exact hu
  · rw [h3] at hu ⊢
    rw [d1] at hu
    rw [← Nat.add_assoc, c1]
    exact hu
  · rw [h3] at hu ⊢
    rw [d2] at hu
    rw [← Nat.add_assoc, c2]
    exact hu
set_option maxRecDepth 100000 in
set_option maxHeartbeats 1000000 in
theorem roomyDUs (l : List UsM) (m : UsM) (a : Option Addr) (c n : Nat) (w : World) (ha : Usr w a l) (hn : a = none → n = 0 ∧ c = 0) (hl : l.length = n) (hz : n ≤ 5864062014634) :
    Calls Tryd.prog 13 #[.slice a n c, .agg #[.int .i64 m.who, .int .i64 m.byt, .int .i64 m.fit]] w fun e w' => ∃ g, e = .returned (.slice (some ⟨g, 0, none⟩) n (n + 3)) ∧ ArrDUs w' g (l ++ [m, m, m]) ∧ w.heap.size ≤ g ∧ Below w.heap.size w w' := by
  obtain ⟨i0, hi, hz0, hz1, hz2⟩ := info_parts Tryd.infoDUs
  obtain ⟨N, eN⟩ : ∃ N, N = n + 3 := ⟨_, rfl⟩
  have HN := hid eN
  have HL := hid hl
  have hN1 : n + 3 ≤ N := by omega
  have hN2 : N ≤ 5864062014637 := by omega
  rw [← eN]
  have hNI : (n : Int) + 3 = (N : Int) := by rw [eN]; rfl
  have hb0 : Below w.heap.size w (w.alloc (.cells #[.int .i64 m.who, .int .i64 m.byt, .int .i64 m.fit] 47)) := (Below.refl _ w).alloc (Nat.le_refl _) _
  have q0 : (w.alloc (.cells #[.int .i64 m.who, .int .i64 m.byt, .int .i64 m.fit] 47)).cell? ⟨w.heap.size, 0, none⟩ = some (.int .i64 m.who) := by rw [cell_of_row _ _ _ _ _ _ (heap_alloc_new w _)]; rfl
  have q1 : (w.alloc (.cells #[.int .i64 m.who, .int .i64 m.byt, .int .i64 m.fit] 47)).cell? ⟨w.heap.size, 1, none⟩ = some (.int .i64 m.byt) := by rw [cell_of_row _ _ _ _ _ _ (heap_alloc_new w _)]; rfl
  have q2 : (w.alloc (.cells #[.int .i64 m.who, .int .i64 m.byt, .int .i64 m.fit] 47)).cell? ⟨w.heap.size, 2, none⟩ = some (.int .i64 m.fit) := by rw [cell_of_row _ _ _ _ _ _ (heap_alloc_new w _)]; rfl
  have hsb : w.heap.size < (w.alloc (.cells #[.int .i64 m.who, .int .i64 m.byt, .int .i64 m.fit] 47)).heap.size := by simp
  clear eN hl
  go_enter Tryd.func13, Tryd.ntmps13
  go_wp2_with (first
    | (at_make; refine wpList_make_own _ rfl _ _ 42 rfl w.heap.size 47 i0 (.agg #[.int .i64 0, .int .i64 0, .int .i64 0]) 3 Tryd.underlying42 hi hz0 hz1 _ _ _ N rfl rfl (by first | rfl | exact hNI) (by rw [hz2]; omega) (by unfold maxLen; omega) (by simp) ?_))
  generalize w.alloc (.cells #[.int .i64 m.who, .int .i64 m.byt, .int .i64 m.fit] 47) = wb at *
  intro w1 hown1 hg1
  have hb1 := hb0.grown hg1 hb0.size (fun g e => by cases e)
  have ha1 := rdDUs_below ha hb1
  have p0 := ((Below.refl wb.heap.size wb).grown hg1 (Nat.le_refl _) (fun g e => by cases e)).cell (p := ⟨w.heap.size, 0, none⟩) hsb |>.trans q0
  have p1 := ((Below.refl wb.heap.size wb).grown hg1 (Nat.le_refl _) (fun g e => by cases e)).cell (p := ⟨w.heap.size, 1, none⟩) hsb |>.trans q1
  have p2 := ((Below.refl wb.heap.size wb).grown hg1 (Nat.le_refl _) (fun g e => by cases e)).cell (p := ⟨w.heap.size, 2, none⟩) hsb |>.trans q2
  obtain ⟨G, eG⟩ : ∃ G, G = w.heap.size + 1 := ⟨_, rfl⟩
  rw [← eG] at hown1
  rw [← eG]
  have hsG : w.heap.size < G := by omega
  clear eG q0 q1 q2 hsb
  go_wp2_with (first
    | (at_builtin; refine wpList_append_fits_any _ rfl _ _ 42 rfl w.heap.size 47 i0 3 Tryd.underlying42 hi hz1 G 0 N [] rfl hown1 a n c (cellsDUs l) rfl (by rw [cellsDUs_length, HL.out, Nat.mul_comm]) hn (rdDUs_cells ha1) (cellsDUs_one l) (by omega) ?_))
  intro w2 hown2 hg2
  have hb2 := hb1.grown hg2 hb1.size (fun g e => by simp only [Option.some.injEq] at e; omega)
  have hGs : G < w2.heap.size := (hown2.lt G rfl).2
  have r0 := cell_grownD p0 hg2 (fun g e => by simp only [Option.some.injEq] at e; show w.heap.size ≠ g; omega)
  have r1 := cell_grownD p1 hg2 (fun g e => by simp only [Option.some.injEq] at e; show w.heap.size ≠ g; omega)
  have r2 := cell_grownD p2 hg2 (fun g e => by simp only [Option.some.injEq] at e; show w.heap.size ≠ g; omega)
  have hown2' := World.ownsRow.alloc hown2 (.cells #[.int .i64 m.who, .int .i64 m.byt, .int .i64 m.fit, .int .i64 m.who, .int .i64 m.byt, .int .i64 m.fit, .int .i64 m.who, .int .i64 m.byt, .int .i64 m.fit] 47)
  have hb2' := hb2.alloc hb2.size (.cells #[.int .i64 m.who, .int .i64 m.byt, .int .i64 m.fit, .int .i64 m.who, .int .i64 m.byt, .int .i64 m.fit, .int .i64 m.who, .int .i64 m.byt, .int .i64 m.fit] 47)
  have HC3 := hid (marks_newD [.int .i64 m.who, .int .i64 m.byt, .int .i64 m.fit, .int .i64 m.who, .int .i64 m.byt, .int .i64 m.fit, .int .i64 m.who, .int .i64 m.byt, .int .i64 m.fit] 47 w2)
  clear p0 p1 p2 hown1 hg2
  go_wp2_with (first
    | (at_builtin; refine wpList_append_fits _ rfl _ _ 42 rfl w.heap.size 47 i0 3 Tryd.underlying42 hi hz1 G n N (cellsDUs l) rfl hown2' ⟨w2.heap.size, 0, none⟩ 3 3 [.int .i64 m.who, .int .i64 m.byt, .int .i64 m.fit, .int .i64 m.who, .int .i64 m.byt, .int .i64 m.fit, .int .i64 m.who, .int .i64 m.byt, .int .i64 m.fit] rfl rfl HC3.out (cellsDUs_one [m, m, m]) (by omega) ?_))
  intro w3 hown3 hg3
  have hb3 := hb2'.grown hg3 (by have := hb2'.size; omega) (fun g e => by simp only [Option.some.injEq] at e; omega)
  have harr : ArrDUs w3 G (l ++ [m, m, m]) := by
    rcases hown3.2 with ⟨h', _⟩ | ⟨g', cap, cur, h', hB, hg, _, hm, hcs, ht⟩
    · simp at h'
    · simp only [Value.slice.injEq, Option.some.injEq, Addr.mk.injEq, and_true] at h'
      obtain ⟨rfl, -, rfl⟩ := h'
      unfold ArrDUs
      rw [hg, cellsDUs_append]
      have e2 : cellsDUs [m, m, m] = [.int .i64 m.who, .int .i64 m.byt, .int .i64 m.fit, .int .i64 m.who, .int .i64 m.byt, .int .i64 m.fit, .int .i64 m.who, .int .i64 m.byt, .int .i64 m.fit] := rfl
      rw [e2, ← ht, List.take_of_length_le (by have := HN.out; simp; omega)]
  clear hown2 hown2' hown3 HC3 hg3 r0 r1 r2
  go_wp2
  go_ret
  exact ⟨G, rfl, harr, by omega, hb3⟩
theorem run_idxDUs {ρ : Operand → Value} (w : World) {o : Oper} {x y : Operand} {g s j n c : Nat} (ho : o.op = .indexAddr 42 x y) (h : ρ x = .slice (some ⟨g, s, none⟩) n c) (h' : ρ y = .int .i64 j) (hj : j < n) : (execOp ρ o).run Tryd.prog w = .ok (.value (.pointer (some ⟨g, s + j * 3, none⟩))) w := by
  unfold execOp
  simp only [ho, h, h']
  simp [go_sem, Tryd.underlying42, hj]
theorem run_loadDUs {ρ : Operand → Value} (w : World) {o : Oper} {x : Operand} {g s : Nat} {p : UsM} (ho : o.op = .load 47 x) (h : ρ x = .pointer (some ⟨g, s, none⟩)) (hc : AtDUs w g s p) : (execOp ρ o).run Tryd.prog w = .ok (.value (.agg #[.int .i64 p.who, .int .i64 p.byt, .int .i64 p.fit])) w := by
  unfold execOp
  have hr := run_loadVar_mid w g s 47 [.int .i64 p.who, .int .i64 p.byt, .int .i64 p.fit] _ (fun j v hj => by
    obtain ⟨c0, c1, c2⟩ := hc
    match j, hj with
    | 0, hj => simp at hj; subst hj; simpa using c0
    | 1, hj => simp at hj; subst hj; simpa using c1
    | 2, hj => simp at hj; subst hj; simpa using c2) Tryd.underlying47 rfl (by kernel_rfl)
  simp only [ho, h, Instr.loadAt, Instr.sureAddr, Sem.run_bind, Sem.run_pure, Result.andThen_ok, hr]
theorem run_eqDUs (w : World) (p : UsM) : (Op.equalIn 10000 47 (.agg #[.int .i64 p.who, .int .i64 p.byt, .int .i64 p.fit]) (.agg #[.int .i64 p.who, .int .i64 p.byt, .int .i64 p.fit])).run Tryd.prog w = .ok true w := by
  have hf : Tryd.prog.underlying 47 = some (.struct (Tryd.prog.fieldsOf 47)) := by kernel_rfl
  rw [run_equalIn_struct w 9999 47 _ _ hf (by kernel_rfl)]
  simp only [Program.fieldsOf, Tryd.underlying47]
  simp [Op.eqFields, go_sem]
theorem run_eqlDUs {ρ : Operand → Value} (w : World) {o : Oper} {x y : Operand} {p : UsM} (ho : o.op = .binOp .eql 47 x y 47) (h : ρ x = .agg #[.int .i64 p.who, .int .i64 p.byt, .int .i64 p.fit]) (h' : ρ y = .agg #[.int .i64 p.who, .int .i64 p.byt, .int .i64 p.fit]) : (execOp ρ o).run Tryd.prog w = .ok (.value (.bool true)) w := by
  have hm : Tryd.prog.eqGuardType Tryd.prog.depth 47 = false := by kernel_rfl
  unfold execOp
  simp only [ho, h, h']
  simp [go_sem, hm, run_eqDUs]
theorem run_neqDUs {ρ : Operand → Value} (w : World) {o : Oper} {x y : Operand} {p : UsM} (ho : o.op = .binOp .neq 47 x y 47) (h : ρ x = .agg #[.int .i64 p.who, .int .i64 p.byt, .int .i64 p.fit]) (h' : ρ y = .agg #[.int .i64 p.who, .int .i64 p.byt, .int .i64 p.fit]) : (execOp ρ o).run Tryd.prog w = .ok (.value (.bool false)) w := by
  have hm : Tryd.prog.eqGuardType Tryd.prog.depth 47 = false := by kernel_rfl
  unfold execOp
  simp only [ho, h, h']
  simp [go_sem, hm, run_eqDUs]
set_option maxRecDepth 100000 in
set_option maxHeartbeats 2000000 in
theorem keptDUs (l : List UsM) (m : UsM) (g n : Nat) (a : Option Addr) (c : Nat) (w : World) (hl : l.length = n) (hz : n ≤ 5864062014634) (har : ArrDUs w g (l ++ [m, m, m])) (ha : Usr w a l) :
    Calls Tryd.prog 26 #[.slice (some ⟨g, 0, none⟩) n (n + 3), .slice a n c, .agg #[.int .i64 m.who, .int .i64 m.byt, .int .i64 m.fit]] w fun e w' => e = .returned (.bool true) ∧ Below w.heap.size w w' := by
  have HL := hid hl
  obtain ⟨N, eN⟩ : ∃ N, N = n + 3 := ⟨_, rfl⟩
  have hNI : (n : Int) + 3 = (N : Int) := by rw [eN]; rfl
  have hN1 : n + 3 = N := eN.symm
  have hN2 : N ≤ 5864062014637 := by omega
  have hlt3 : ∀ i, i < 3 → (l ++ [m, m, m]).getD (n + i) .zero = m := fun i hi => by
    have h3 : i = 0 ∨ i = 1 ∨ i = 2 := by omega
    rcases h3 with rfl | rfl | rfl <;> simp [List.getD, ← hl]
  have HM := hid hlt3
  have hb0 : Below w.heap.size w (w.alloc (.cells #[.int .i64 m.who, .int .i64 m.byt, .int .i64 m.fit] 47)) := (Below.refl _ w).alloc (Nat.le_refl _) _
  have q0 : AtDUs (w.alloc (.cells #[.int .i64 m.who, .int .i64 m.byt, .int .i64 m.fit] 47)) w.heap.size 0 m := by
    unfold AtDUs
    rw [cell_of_row _ _ _ _ _ _ (heap_alloc_new w _), cell_of_row _ _ _ _ _ _ (heap_alloc_new w _), cell_of_row _ _ _ _ _ _ (heap_alloc_new w _)]
    exact ⟨rfl, rfl, rfl⟩
  have hmix : Tryd.prog.follows .mixedOrders = true := by kernel_rfl
  rw [← eN]
  clear eN hl hlt3
  go_enter Tryd.func26, Tryd.ntmps26
  go_wp2
  generalize w.alloc (.cells #[.int .i64 m.who, .int .i64 m.byt, .int .i64 m.fit] 47) = wb at *
  obtain ⟨gP, eP⟩ : ∃ gP, gP = w.heap.size := ⟨_, rfl⟩
  rw [← eP] at q0
  rw [← eP]
  clear eP
  go_loopw [16] (fun i wr => ∃ k : Nat, k ≤ n ∧ i = .int .i64 k ∧ Below wb.heap.size wb wr) (fun i _ => n - (intOf i).toNat)
  case atStart => exact ⟨0, Nat.zero_le _, rfl, Below.refl _ _⟩
  case round =>
    obtain ⟨k, hk, rfl, hbel⟩ := hrel
    have hbw : Below w.heap.size w wr := hb0.trans (hbel.mono hb0.size)
    have har' := har.below hbw har.lt
    by_cases hlt : k < n
    · obtain ⟨b2, o2, rfl, hc2⟩ := (rdDUs_below ha hbw) (by rintro rfl; have := HL.out; simp at this; omega)
      have g2 : AtDUs wr b2 (o2 + k * 3) (l.getD k .zero) := hc2 k (by rw [HL.out]; exact hlt)
      have g1 := har'.cells (i := k) (by simp [HL.out]; omega)
      rw [show (l ++ [m, m, m]).getD k .zero = l.getD k .zero by simp only [List.getD, List.getElem?_append_left (show k < l.length by rw [HL.out]; exact hlt)]] at g1
      generalize l.getD k .zero = p at *
      clear hc2 har'
      go_upto_region 6 with fail
      refine wp_mono (region_known3 9 [(19, .slice (some ⟨g, 0, none⟩) n N), (20, .int .i64 k), (21, .pointer (some ⟨g, 0 + k * 3, none⟩)), (22, .agg #[.int .i64 p.who, .int .i64 p.byt, .int .i64 p.fit]), (23, .slice (some ⟨b2, o2, none⟩) n c), (24, .int .i64 k), (25, .pointer (some ⟨b2, o2 + k * 3, none⟩)), (26, .agg #[.int .i64 p.who, .int .i64 p.byt, .int .i64 p.fit]), (27, .bool false)]
          [[0], [7], [19, 20], [21], [1], [7], [23, 24], [25], [22, 26]] wr hmix rfl rfl (show ([19, 20, 21, 22, 23, 24, 25, 26, 27] : List Nat).Nodup by decide) (by kernel_rfl) (by kernel_rfl) (by kernel_rfl) (by kernel_rfl) (fun i' hi' ac wc hbc hr Q K hK => by
          have h9 : i' = 0 ∨ i' = 1 ∨ i' = 2 ∨ i' = 3 ∨ i' = 4 ∨ i' = 5 ∨ i' = 6 ∨ i' = 7 ∨ i' = 8 := by omega
          have c1 : AtDUs wc g (0 + k * 3) p := by rw [Nat.zero_add]; exact g1.below hbc
          have c2 : AtDUs wc b2 (o2 + k * 3) p := g2.below hbc
          rcases h9 with rfl | rfl | rfl | rfl | rfl | rfl | rfl | rfl | rfl
          · exact op_value rfl rfl (run_moveQ wc rfl (hr 0 (by decide))) (hK wc hbc)
          · exact op_value rfl rfl (run_moveQ wc rfl (hr 7 (by decide))) (hK wc hbc)
          · exact op_value rfl rfl (run_idxDUs wc rfl (hr 19 (by decide)) (hr 20 (by decide)) hlt) (hK wc hbc)
          · exact op_value rfl rfl (run_loadDUs wc rfl (hr 21 (by decide)) c1) (hK wc hbc)
          · exact op_value rfl rfl (run_moveQ wc rfl (hr 1 (by decide))) (hK wc hbc)
          · exact op_value rfl rfl (run_moveQ wc rfl (hr 7 (by decide))) (hK wc hbc)
          · exact op_value rfl rfl (run_idxDUs wc rfl (hr 23 (by decide)) (hr 24 (by decide)) hlt) (hK wc hbc)
          · exact op_value rfl rfl (run_loadDUs wc rfl (hr 25 (by decide)) c2) (hK wc hbc)
          · exact op_value rfl rfl (run_neqDUs wc rfl (hr 22 (by decide)) (hr 26 (by decide))) (hK wc hbc))) ?_
      rintro e a' w' ⟨rfl, rfl, hbw'⟩
      have hbel' : Below wb.heap.size wb w' := hbel.trans (hbw'.mono hbel.size)
      dsimp only [setAll, List.set]
      clear hbw' hbel g1 g2
      go_wp2
      go_roundw
      case rel => exact ⟨k + 1, by omega, by go_num, hbel'⟩
      case measure => simp [intOf]; omega
    · have d0 := har'.cells (i := n + 0) (by simp [HL.out])
      have d1 := har'.cells (i := n + 1) (by simp [HL.out])
      have d2 := har'.cells (i := n + 2) (by simp [HL.out])
      rw [HM.out 0 (by omega)] at d0
      rw [HM.out 1 (by omega)] at d1
      rw [HM.out 2 (by omega)] at d2
      have r0 := q0.below hbel
      clear har'
      go_upto_region 10 with fail
      refine wp_mono (region_known3 20 [(36, .slice (some ⟨g, n * 3, none⟩) (N - n) (N - n)), (37, .pointer (some ⟨g, n * 3 + 0 * 3, none⟩)), (38, .agg #[.int .i64 m.who, .int .i64 m.byt, .int .i64 m.fit]), (39, .agg #[.int .i64 m.who, .int .i64 m.byt, .int .i64 m.fit]), (40, .bool true), (41, .bool true), (42, .slice (some ⟨g, n * 3, none⟩) (N - n) (N - n)), (43, .pointer (some ⟨g, n * 3 + 1 * 3, none⟩)), (44, .agg #[.int .i64 m.who, .int .i64 m.byt, .int .i64 m.fit]), (45, .agg #[.int .i64 m.who, .int .i64 m.byt, .int .i64 m.fit]), (46, .bool true), (47, .bool true), (48, .bool true), (49, .slice (some ⟨g, n * 3, none⟩) (N - n) (N - n)), (50, .pointer (some ⟨g, n * 3 + 2 * 3, none⟩)), (51, .agg #[.int .i64 m.who, .int .i64 m.byt, .int .i64 m.fit]), (52, .agg #[.int .i64 m.who, .int .i64 m.byt, .int .i64 m.fit]), (53, .bool true), (54, .bool true), (6, .bool true)]
          [[8], [36], [37], [5], [38, 39], [40], [8, 41], [42, 41], [43, 41], [5, 41], [44, 45, 41], [41, 46], [47], [8, 48], [49, 48], [50, 48], [5, 48], [51, 52, 48], [48, 53], [54]] wr hmix rfl rfl (show ([36, 37, 38, 39, 40, 41, 42, 43, 44, 45, 46, 47, 48, 49, 50, 51, 52, 53, 54, 6] : List Nat).Nodup by decide) (by kernel_rfl) (by kernel_rfl) (by kernel_rfl) (by kernel_rfl) (fun i' hi' ac wc hbc hr Q K hK => by
          have h20 : i' = 0 ∨ i' = 1 ∨ i' = 2 ∨ i' = 3 ∨ i' = 4 ∨ i' = 5 ∨ i' = 6 ∨ i' = 7 ∨ i' = 8 ∨ i' = 9 ∨ i' = 10 ∨ i' = 11 ∨ i' = 12 ∨ i' = 13 ∨ i' = 14 ∨ i' = 15 ∨ i' = 16 ∨ i' = 17 ∨ i' = 18 ∨ i' = 19 := by omega
          have eb : AtDUs wc gP 0 m := r0.below hbc
          have e0 : AtDUs wc g (n * 3 + 0 * 3) m := by rw [← Nat.add_mul]; exact d0.below hbc
          have e1 : AtDUs wc g (n * 3 + 1 * 3) m := by rw [← Nat.add_mul]; exact d1.below hbc
          have e2 : AtDUs wc g (n * 3 + 2 * 3) m := by rw [← Nat.add_mul]; exact d2.below hbc
          rcases h20 with rfl | rfl | rfl | rfl | rfl | rfl | rfl | rfl | rfl | rfl | rfl | rfl | rfl | rfl | rfl | rfl | rfl | rfl | rfl | rfl
          · exact op_value rfl rfl (run_moveQ wc rfl (hr 8 (by decide))) (hK wc hbc)
          · exact op_value rfl rfl (run_idxDUs (j := 0) wc rfl (hr 36 (by decide)) rfl (by omega)) (hK wc hbc)
          · exact op_value rfl rfl (run_loadDUs (p := m) wc rfl (hr 37 (by decide)) e0) (hK wc hbc)
          · exact op_value rfl rfl (run_loadDUs (p := m) wc rfl (hr 5 (by decide)) eb) (hK wc hbc)
          · exact op_value rfl rfl (run_eqlDUs (p := m) wc rfl (hr 38 (by decide)) (hr 39 (by decide))) (hK wc hbc)
          · exact op_value rfl rfl (run_moveQ wc rfl (hr 40 (by decide))) (hK wc hbc)
          · exact op_valueG rfl rfl rfl rfl (hr 41 (by decide)) (run_moveQ wc rfl (hr 8 (by decide))) (hK wc hbc)
          · exact op_valueG rfl rfl rfl rfl (hr 41 (by decide)) (run_idxDUs (j := 1) wc rfl (hr 42 (by decide)) rfl (by omega)) (hK wc hbc)
          · exact op_valueG rfl rfl rfl rfl (hr 41 (by decide)) (run_loadDUs (p := m) wc rfl (hr 43 (by decide)) e1) (hK wc hbc)
          · exact op_valueG rfl rfl rfl rfl (hr 41 (by decide)) (run_loadDUs (p := m) wc rfl (hr 5 (by decide)) eb) (hK wc hbc)
          · exact op_valueG rfl rfl rfl rfl (hr 41 (by decide)) (run_eqlDUs (p := m) wc rfl (hr 44 (by decide)) (hr 45 (by decide))) (hK wc hbc)
          · exact op_value rfl rfl (run_pickQ wc rfl (hr 41 (by decide)) (hr 46 (by decide))) (hK wc hbc)
          · exact op_value rfl rfl (run_moveQ wc rfl (hr 47 (by decide))) (hK wc hbc)
          · exact op_valueG rfl rfl rfl rfl (hr 48 (by decide)) (run_moveQ wc rfl (hr 8 (by decide))) (hK wc hbc)
          · exact op_valueG rfl rfl rfl rfl (hr 48 (by decide)) (run_idxDUs (j := 2) wc rfl (hr 49 (by decide)) rfl (by omega)) (hK wc hbc)
          · exact op_valueG rfl rfl rfl rfl (hr 48 (by decide)) (run_loadDUs (p := m) wc rfl (hr 50 (by decide)) e2) (hK wc hbc)
          · exact op_valueG rfl rfl rfl rfl (hr 48 (by decide)) (run_loadDUs (p := m) wc rfl (hr 5 (by decide)) eb) (hK wc hbc)
          · exact op_valueG rfl rfl rfl rfl (hr 48 (by decide)) (run_eqlDUs (p := m) wc rfl (hr 51 (by decide)) (hr 52 (by decide))) (hK wc hbc)
          · exact op_value rfl rfl (run_pickQ wc rfl (hr 48 (by decide)) (hr 53 (by decide))) (hK wc hbc)
          · exact op_value rfl rfl (run_assignL wc rfl (hr 54 (by decide))) (hK wc hbc))) ?_
      rintro e a' w' ⟨rfl, rfl, hbw'⟩
      have hfin : Below w.heap.size w w' := hbw.trans (hbw'.mono hbw.size)
      dsimp only [setAll, List.set]
      clear hbw' hbel d0 d1 d2 r0
      go_wp2
      go_ret
      exact ⟨rfl, hfin⟩
end Go.Proofs.YtmdfjhnibhmdkafDoor
