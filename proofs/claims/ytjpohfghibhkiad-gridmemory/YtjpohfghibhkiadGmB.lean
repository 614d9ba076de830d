import Derived.Test.YtjpohfghibhkiadGmA
namespace Go.Proofs.Ytjpohfghibhkiad
open Go.ChangeShapes Go.WideShapes Go.ChangeAt Go.RowKit

/-! LISTS OF SHARES WITH SPARE ROOM: roomy. -/

theorem Try.infoS : (Try.prog.info? 52).map (fun i => (i.zero, i.size, i.bytes)) = some (some (.agg #[.int .i64 0, .int .i64 0, .int .i64 0, .int .i64 0, .int .i64 0]), 5, 40) := by kernel_rfl
def cellsS (ss : List Sh) : List Value := ss.flatMap fun s => [.int .i64 s.who, .int .i64 s.fr, .int .i64 s.cnt, .int .i64 s.bg, .int .i64 s.en]
theorem cellsS_cons (s : Sh) (ss : List Sh) : cellsS (s :: ss) = .int .i64 s.who :: .int .i64 s.fr :: .int .i64 s.cnt :: .int .i64 s.bg :: .int .i64 s.en :: cellsS ss := rfl
theorem cellsS_length (ss : List Sh) : (cellsS ss).length = 5 * ss.length := by
  induction ss with
  | nil => rfl
  | cons p ss ih => rw [cellsS_cons]; simp [ih]; omega
theorem cellsS_at (ss : List Sh) : ∀ i, i < ss.length → (cellsS ss)[i * 5]? = some (.int .i64 (shAt ss i).who) ∧ (cellsS ss)[i * 5 + 1]? = some (.int .i64 (shAt ss i).fr) ∧ (cellsS ss)[i * 5 + 2]? = some (.int .i64 (shAt ss i).cnt) ∧ (cellsS ss)[i * 5 + 3]? = some (.int .i64 (shAt ss i).bg) ∧ (cellsS ss)[i * 5 + 4]? = some (.int .i64 (shAt ss i).en) := by
  induction ss with
  | nil => intro i hi; simp at hi
  | cons p ss ih =>
    intro i hi
    rw [cellsS_cons]
    cases i with
    | zero => simp [shAt, List.getD]
    | succ i =>
      have h := ih i (by simpa using hi)
      have e : shAt (p :: ss) (i + 1) = shAt ss i := by simp [shAt, List.getD]
      rw [e, show (i + 1) * 5 = i * 5 + 1 + 1 + 1 + 1 + 1 by omega, show i * 5 + 1 + 1 + 1 + 1 + 1 + 1 = (i * 5 + 1) + 1 + 1 + 1 + 1 + 1 by omega, show i * 5 + 1 + 1 + 1 + 1 + 1 + 2 = (i * 5 + 2) + 1 + 1 + 1 + 1 + 1 by omega, show i * 5 + 1 + 1 + 1 + 1 + 1 + 3 = (i * 5 + 3) + 1 + 1 + 1 + 1 + 1 by omega, show i * 5 + 1 + 1 + 1 + 1 + 1 + 4 = (i * 5 + 4) + 1 + 1 + 1 + 1 + 1 by omega]
      simp only [List.getElem?_cons_succ]
      exact h
theorem cellsS_one (ss : List Sh) : ∀ u ∈ cellsS ss, u.oneCell' = true := by
  intro u hu
  unfold cellsS at hu
  rw [List.mem_flatMap] at hu
  obtain ⟨p, _, hp⟩ := hu
  simp at hp
  rcases hp with rfl | rfl | rfl | rfl | rfl <;> rfl
theorem cellsS_append (ps qs : List Sh) : cellsS (ps ++ qs) = cellsS ps ++ cellsS qs := by unfold cellsS; rw [List.flatMap_append]
/-- Shares that fill a block. -/
def SArr (w : World) (g : Nat) (ss : List Sh) : Prop := w.heap[g]? = some (.cells (cellsS ss).toArray 52 (0, 0))
theorem SArr.lt {w : World} {g : Nat} {ss : List Sh} (h : SArr w g ss) : g < w.heap.size := (Array.getElem?_eq_some_iff.1 h).1
theorem SArr.below {w w' : World} {g B : Nat} {ss : List Sh} (h : SArr w g ss) (hb : Below B w w') (hg : g < B) : SArr w' g ss := (hb.block g hg).trans h
theorem SArr.cells {w : World} {g : Nat} {ss : List Sh} (h : SArr w g ss) {i : Nat} (hi : i < ss.length) : ShCells w g (i * 5) (shAt ss i) := by
  have hc := cellsS_at ss i hi
  unfold ShCells
  rw [cell_of_row w g _ _ _ (0, 0) h, cell_of_row w g _ _ _ (0, 0) h, cell_of_row w g _ _ _ (0, 0) h, cell_of_row w g _ _ _ (0, 0) h, cell_of_row w g _ _ _ (0, 0) h]
  simpa using hc
/-- The first ones of them, as a reader sees them. -/
theorem SArr.shs {w : World} {g : Nat} {ss xs : List Sh} (h : SArr w g (ss ++ xs)) : Shs w (some ⟨g, 0, none⟩) ss := by
  intro _
  refine ⟨g, 0, rfl, fun i hi => ?_⟩
  have e : shAt (ss ++ xs) i = shAt ss i := by simp only [shAt, List.getD, List.getElem?_append_left hi]
  have := h.cells (i := i) (by simp; omega)
  rw [e] at this
  rw [Nat.zero_add]
  exact this
theorem shs_cells {w : World} {a : Option Addr} {ss : List Sh} (h : Shs w a ss) : ∀ ad, a = some ad → ∀ j u, (cellsS ss)[j]? = some u → w.cell? (ad.add j) = some u := by
  intro ad had j u hu
  have hj : j < 5 * ss.length := by
    have := (List.getElem?_eq_some_iff.1 hu).1
    rwa [cellsS_length] at this
  obtain ⟨b, off, e, hc⟩ := h.at (i := j / 5) (by omega)
  rw [e] at had
  obtain rfl := Option.some.inj had
  obtain ⟨c0, c1, c2, c3, c4⟩ := hc (j / 5) (by omega)
  obtain ⟨d0, d1, d2, d3, d4⟩ := cellsS_at ss (j / 5) (by omega)
  rw [Addr.add_lit]
  have h3 : j = j / 5 * 5 ∨ j = j / 5 * 5 + 1 ∨ j = j / 5 * 5 + 2 ∨ j = j / 5 * 5 + 3 ∨ j = j / 5 * 5 + 4 := by omega
  rcases h3 with h3 | h3 | h3 | h3 | h3
  · rw [h3] at hu ⊢
    rw [d0] at hu
    rw [c0]
    exact hu
  · rw [h3] at hu ⊢
    rw [d1] at hu
    rw [← Nat.add_assoc, c1]
    exact hu
  · rw [h3] at hu ⊢
    rw [d2] at hu
    rw [← Nat.add_assoc, c2]
    exact hu
  · rw [h3] at hu ⊢
    rw [d3] at hu
    rw [← Nat.add_assoc, c3]
    exact hu
  · rw [h3] at hu ⊢
    rw [d4] at hu
    rw [← Nat.add_assoc, c4]
    exact hu
theorem fif_new (m : Sh) (T : TypeId) (w : World) : ∀ j u, ([.int .i64 m.who, .int .i64 m.fr, .int .i64 m.cnt, .int .i64 m.bg, .int .i64 m.en, .int .i64 m.who, .int .i64 m.fr, .int .i64 m.cnt, .int .i64 m.bg, .int .i64 m.en, .int .i64 m.who, .int .i64 m.fr, .int .i64 m.cnt, .int .i64 m.bg, .int .i64 m.en] : List Value)[j]? = some u → (w.alloc (.cells #[.int .i64 m.who, .int .i64 m.fr, .int .i64 m.cnt, .int .i64 m.bg, .int .i64 m.en, .int .i64 m.who, .int .i64 m.fr, .int .i64 m.cnt, .int .i64 m.bg, .int .i64 m.en, .int .i64 m.who, .int .i64 m.fr, .int .i64 m.cnt, .int .i64 m.bg, .int .i64 m.en] T)).cell? ((⟨w.heap.size, 0, none⟩ : Addr).add j) = some u := fun j u hu => by
  rw [Addr.add_lit, cell_of_row _ _ _ _ _ _ (heap_alloc_new w _), Nat.zero_add]
  simpa using hu

set_option maxRecDepth 100000 in
set_option maxHeartbeats 1000000 in
theorem roomyS (ss : List Sh) (m : Sh) (a : Option Addr) (c n : Nat) (w : World) (ha : Shs w a ss) (hn : a = none → n = 0 ∧ c = 0) (hl : ss.length = n) (hz : n ≤ 3518437208880) :
    Calls Try.prog 15 #[.slice a n c, .agg #[.int .i64 m.who, .int .i64 m.fr, .int .i64 m.cnt, .int .i64 m.bg, .int .i64 m.en]] w fun e w' => ∃ g, e = .returned (.slice (some ⟨g, 0, none⟩) n (n + 3)) ∧ SArr w' g (ss ++ [m, m, m]) ∧ w.heap.size ≤ g ∧ Below w.heap.size w w' := by
  obtain ⟨i0, hi, hz0, hz1, hz2⟩ := info_parts Try.infoS
  obtain ⟨N, eN⟩ : ∃ N, N = n + 3 := ⟨_, rfl⟩
  have HN := hid eN
  have HL := hid hl
  have hN1 : n + 3 ≤ N := by omega
  have hN2 : N ≤ 3518437208883 := by omega
  rw [← eN]
  have hNI : (n : Int) + 3 = (N : Int) := by rw [eN]; rfl
  have hb0 : Below w.heap.size w (w.alloc (.cells #[.int .i64 m.who, .int .i64 m.fr, .int .i64 m.cnt, .int .i64 m.bg, .int .i64 m.en] 52)) := (Below.refl _ w).alloc (Nat.le_refl _) _
  have q0 : (w.alloc (.cells #[.int .i64 m.who, .int .i64 m.fr, .int .i64 m.cnt, .int .i64 m.bg, .int .i64 m.en] 52)).cell? ⟨w.heap.size, 0, none⟩ = some (.int .i64 m.who) := by rw [cell_of_row _ _ _ _ _ _ (heap_alloc_new w _)]; rfl
  have q1 : (w.alloc (.cells #[.int .i64 m.who, .int .i64 m.fr, .int .i64 m.cnt, .int .i64 m.bg, .int .i64 m.en] 52)).cell? ⟨w.heap.size, 1, none⟩ = some (.int .i64 m.fr) := by rw [cell_of_row _ _ _ _ _ _ (heap_alloc_new w _)]; rfl
  have q2 : (w.alloc (.cells #[.int .i64 m.who, .int .i64 m.fr, .int .i64 m.cnt, .int .i64 m.bg, .int .i64 m.en] 52)).cell? ⟨w.heap.size, 2, none⟩ = some (.int .i64 m.cnt) := by rw [cell_of_row _ _ _ _ _ _ (heap_alloc_new w _)]; rfl
  have q3 : (w.alloc (.cells #[.int .i64 m.who, .int .i64 m.fr, .int .i64 m.cnt, .int .i64 m.bg, .int .i64 m.en] 52)).cell? ⟨w.heap.size, 3, none⟩ = some (.int .i64 m.bg) := by rw [cell_of_row _ _ _ _ _ _ (heap_alloc_new w _)]; rfl
  have q4 : (w.alloc (.cells #[.int .i64 m.who, .int .i64 m.fr, .int .i64 m.cnt, .int .i64 m.bg, .int .i64 m.en] 52)).cell? ⟨w.heap.size, 4, none⟩ = some (.int .i64 m.en) := by rw [cell_of_row _ _ _ _ _ _ (heap_alloc_new w _)]; rfl
  have hsb : w.heap.size < (w.alloc (.cells #[.int .i64 m.who, .int .i64 m.fr, .int .i64 m.cnt, .int .i64 m.bg, .int .i64 m.en] 52)).heap.size := by simp
  clear eN hl
  go_enter Try.func15, Try.ntmps15
  go_wp2_with (first
    | (at_make; refine wpList_make_own _ rfl _ _ 22 rfl w.heap.size 52 i0 (.agg #[.int .i64 0, .int .i64 0, .int .i64 0, .int .i64 0, .int .i64 0]) 5 Try.underlying22 hi hz0 hz1 _ _ _ N rfl rfl (by first | rfl | exact hNI) (by rw [hz2]; omega) (by unfold maxLen; omega) (by simp) ?_))
  generalize w.alloc (.cells #[.int .i64 m.who, .int .i64 m.fr, .int .i64 m.cnt, .int .i64 m.bg, .int .i64 m.en] 52) = wb at *
  intro w1 hown1 hg1
  have hb1 := hb0.grown hg1 hb0.size (fun g e => by cases e)
  have ha1 := ha.below hb1
  have p0 := ((Below.refl wb.heap.size wb).grown hg1 (Nat.le_refl _) (fun g e => by cases e)).cell (p := ⟨w.heap.size, 0, none⟩) hsb |>.trans q0
  have p1 := ((Below.refl wb.heap.size wb).grown hg1 (Nat.le_refl _) (fun g e => by cases e)).cell (p := ⟨w.heap.size, 1, none⟩) hsb |>.trans q1
  have p2 := ((Below.refl wb.heap.size wb).grown hg1 (Nat.le_refl _) (fun g e => by cases e)).cell (p := ⟨w.heap.size, 2, none⟩) hsb |>.trans q2
  have p3 := ((Below.refl wb.heap.size wb).grown hg1 (Nat.le_refl _) (fun g e => by cases e)).cell (p := ⟨w.heap.size, 3, none⟩) hsb |>.trans q3
  have p4 := ((Below.refl wb.heap.size wb).grown hg1 (Nat.le_refl _) (fun g e => by cases e)).cell (p := ⟨w.heap.size, 4, none⟩) hsb |>.trans q4
  obtain ⟨G, eG⟩ : ∃ G, G = w.heap.size + 1 := ⟨_, rfl⟩
  rw [← eG] at hown1
  rw [← eG]
  have hsG : w.heap.size < G := by omega
  clear eG q0 q1 q2 q3 q4 hsb
  go_wp2_with (first
    | (at_builtin; refine wpList_append_fits_any _ rfl _ _ 22 rfl w.heap.size 52 i0 5 Try.underlying22 hi hz1 G 0 N [] rfl hown1 a n c (cellsS ss) rfl (by rw [cellsS_length, HL.out, Nat.mul_comm]) hn (shs_cells ha1) (cellsS_one ss) (by omega) ?_))
  intro w2 hown2 hg2
  have hb2 := hb1.grown hg2 hb1.size (fun g e => by simp only [Option.some.injEq] at e; omega)
  have hGs : G < w2.heap.size := (hown2.lt G rfl).2
  have r0 := cell_grownM p0 hg2 (fun g e => by simp only [Option.some.injEq] at e; show w.heap.size ≠ g; omega)
  have r1 := cell_grownM p1 hg2 (fun g e => by simp only [Option.some.injEq] at e; show w.heap.size ≠ g; omega)
  have r2 := cell_grownM p2 hg2 (fun g e => by simp only [Option.some.injEq] at e; show w.heap.size ≠ g; omega)
  have r3 := cell_grownM p3 hg2 (fun g e => by simp only [Option.some.injEq] at e; show w.heap.size ≠ g; omega)
  have r4 := cell_grownM p4 hg2 (fun g e => by simp only [Option.some.injEq] at e; show w.heap.size ≠ g; omega)
  have hown2' := World.ownsRow.alloc hown2 (.cells #[.int .i64 m.who, .int .i64 m.fr, .int .i64 m.cnt, .int .i64 m.bg, .int .i64 m.en, .int .i64 m.who, .int .i64 m.fr, .int .i64 m.cnt, .int .i64 m.bg, .int .i64 m.en, .int .i64 m.who, .int .i64 m.fr, .int .i64 m.cnt, .int .i64 m.bg, .int .i64 m.en] 52)
  have hb2' := hb2.alloc hb2.size (.cells #[.int .i64 m.who, .int .i64 m.fr, .int .i64 m.cnt, .int .i64 m.bg, .int .i64 m.en, .int .i64 m.who, .int .i64 m.fr, .int .i64 m.cnt, .int .i64 m.bg, .int .i64 m.en, .int .i64 m.who, .int .i64 m.fr, .int .i64 m.cnt, .int .i64 m.bg, .int .i64 m.en] 52)
  have HC3 := hid (fif_new m 52 w2)
  clear p0 p1 p2 p3 p4 hown1 hg2
  go_wp2_with (first
    | (at_builtin; refine wpList_append_fits _ rfl _ _ 22 rfl w.heap.size 52 i0 5 Try.underlying22 hi hz1 G n N (cellsS ss) rfl hown2' ⟨w2.heap.size, 0, none⟩ 3 3 [.int .i64 m.who, .int .i64 m.fr, .int .i64 m.cnt, .int .i64 m.bg, .int .i64 m.en, .int .i64 m.who, .int .i64 m.fr, .int .i64 m.cnt, .int .i64 m.bg, .int .i64 m.en, .int .i64 m.who, .int .i64 m.fr, .int .i64 m.cnt, .int .i64 m.bg, .int .i64 m.en] rfl rfl HC3.out (cellsS_one [m, m, m]) (by omega) ?_))
  intro w3 hown3 hg3
  have hb3 := hb2'.grown hg3 (by have := hb2'.size; omega) (fun g e => by simp only [Option.some.injEq] at e; omega)
  have harr : SArr w3 G (ss ++ [m, m, m]) := by
    rcases hown3.2 with ⟨h', _⟩ | ⟨g', cap, cur, h', hB, hg, _, hm, hcs, ht⟩
    · simp at h'
    · simp only [Value.slice.injEq, Option.some.injEq, Addr.mk.injEq, and_true] at h'
      obtain ⟨rfl, -, rfl⟩ := h'
      unfold SArr
      rw [hg, cellsS_append]
      have e2 : cellsS [m, m, m] = [.int .i64 m.who, .int .i64 m.fr, .int .i64 m.cnt, .int .i64 m.bg, .int .i64 m.en, .int .i64 m.who, .int .i64 m.fr, .int .i64 m.cnt, .int .i64 m.bg, .int .i64 m.en, .int .i64 m.who, .int .i64 m.fr, .int .i64 m.cnt, .int .i64 m.bg, .int .i64 m.en] := rfl
      rw [e2, ← ht, List.take_of_length_le (by have := HN.out; simp; omega)]
  clear hown2 hown2' hown3 HC3 hg3 r0 r1 r2 r3 r4
  go_wp2
  go_ret
  exact ⟨G, rfl, harr, by omega, hb3⟩

end Go.Proofs.Ytjpohfghibhkiad
