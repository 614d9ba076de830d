import Derived.Test.YtjpohfghibhkiadGmA
namespace Go.Proofs.Ytjpohfghibhkiad
open Go.ChangeShapes Go.WideShapes Go.ChangeAt Go.RowKit

/-! A LIST OF ONE PART, WITH SPARE ROOM: roomy. -/

theorem Try.infoPa : (Try.prog.info? 45).map (fun i => (i.zero, i.size, i.bytes)) = some (some (.agg #[.int .i64 0, .slice none 0 0]), 2, 32) := by kernel_rfl
def partCells : Array Value := #[.int .i64 1, .slice none 0 0, .int .i64 (-7), .slice none 0 0, .int .i64 (-7), .slice none 0 0, .int .i64 (-7), .slice none 0 0]
theorem two_cellsG {w : World} {ga oa : Nat} {u v : Value} (h0 : w.cell? ⟨ga, oa, none⟩ = some u) (h1 : w.cell? ⟨ga, oa + 1, none⟩ = some v) : ∀ ad, some (⟨ga, oa, none⟩ : Addr) = some ad → ∀ j x, ([u, v] : List Value)[j]? = some x → w.cell? (ad.add j) = some x := by
  intro ad had j x hx
  obtain rfl := Option.some.inj had
  rw [Addr.add_lit]
  match j, hx with
  | 0, hx => simp at hx; subst hx; exact h0
  | 1, hx => simp at hx; subst hx; exact h1
theorem six_part (T : TypeId) (w : World) : ∀ j u, ([.int .i64 (-7), .slice none 0 0, .int .i64 (-7), .slice none 0 0, .int .i64 (-7), .slice none 0 0] : List Value)[j]? = some u → (w.alloc (.cells #[.int .i64 (-7), .slice none 0 0, .int .i64 (-7), .slice none 0 0, .int .i64 (-7), .slice none 0 0] T)).cell? ((⟨w.heap.size, 0, none⟩ : Addr).add j) = some u := fun j u hu => by
  rw [Addr.add_lit, cell_of_row _ _ _ _ _ _ (heap_alloc_new w _), Nat.zero_add]
  simpa using hu

theorem six_one : ∀ u ∈ ([.int .i64 (-7), .slice none 0 0, .int .i64 (-7), .slice none 0 0, .int .i64 (-7), .slice none 0 0] : List Value), u.oneCell' = true := by
  intro u hu
  simp only [List.mem_cons, List.not_mem_nil, or_false] at hu
  rcases hu with rfl | rfl | rfl | rfl | rfl | rfl <;> rfl

set_option maxRecDepth 100000 in
set_option maxHeartbeats 1000000 in
theorem roomyT (ga oa c : Nat) (w : World) (h0 : w.cell? ⟨ga, oa, none⟩ = some (.int .i64 1)) (h1 : w.cell? ⟨ga, oa + 1, none⟩ = some (.slice none 0 0)) :
    Calls Try.prog 16 #[.slice (some ⟨ga, oa, none⟩) 1 c, .agg #[.int .i64 (-7), .slice none 0 0]] w fun e w' => ∃ g, e = .returned (.slice (some ⟨g, 0, none⟩) 1 4) ∧ w'.heap[g]? = some (.cells partCells 45 (0, 0)) ∧ w.heap.size ≤ g ∧ Below w.heap.size w w' := by
  obtain ⟨i0, hi, hz0, hz1, hz2⟩ := info_parts Try.infoPa
  have hb0 : Below w.heap.size w (w.alloc (.cells #[.int .i64 (-7), .slice none 0 0] 45)) := (Below.refl _ w).alloc (Nat.le_refl _) _
  have q0 : (w.alloc (.cells #[.int .i64 (-7), .slice none 0 0] 45)).cell? ⟨w.heap.size, 0, none⟩ = some (.int .i64 (-7)) := by rw [cell_of_row _ _ _ _ _ _ (heap_alloc_new w _)]; rfl
  have q1 : (w.alloc (.cells #[.int .i64 (-7), .slice none 0 0] 45)).cell? ⟨w.heap.size, 1, none⟩ = some (.slice none 0 0) := by rw [cell_of_row _ _ _ _ _ _ (heap_alloc_new w _)]; rfl
  have hsb : w.heap.size < (w.alloc (.cells #[.int .i64 (-7), .slice none 0 0] 45)).heap.size := by simp
  go_enter Try.func16, Try.ntmps16
  go_wp2_with (first
    | (at_make; refine wpList_make_own _ rfl _ _ 25 rfl w.heap.size 45 i0 (.agg #[.int .i64 0, .slice none 0 0]) 2 Try.underlying25 hi hz0 hz1 _ _ _ 4 rfl rfl rfl (by rw [hz2]; omega) (by unfold maxLen; omega) (by simp) ?_))
  generalize w.alloc (.cells #[.int .i64 (-7), .slice none 0 0] 45) = wb at *
  intro w1 hown1 hg1
  have hb1 := hb0.grown hg1 hb0.size (fun g e => by cases e)
  have ha0 := (hb1.cell (World.block_lt_of_cell? _ _ h0)).trans h0
  have ha1 := (hb1.cell (World.block_lt_of_cell? _ _ h1)).trans h1
  have p0 := ((Below.refl wb.heap.size wb).grown hg1 (Nat.le_refl _) (fun g e => by cases e)).cell (p := ⟨w.heap.size, 0, none⟩) hsb |>.trans q0
  have p1 := ((Below.refl wb.heap.size wb).grown hg1 (Nat.le_refl _) (fun g e => by cases e)).cell (p := ⟨w.heap.size, 1, none⟩) hsb |>.trans q1
  obtain ⟨G, eG⟩ : ∃ G, G = w.heap.size + 1 := ⟨_, rfl⟩
  rw [← eG] at hown1
  rw [← eG]
  have hsG : w.heap.size < G := by omega
  clear eG q0 q1 hsb
  go_wp2_with (first
    | (at_builtin; refine wpList_append_fits_any _ rfl _ _ 25 rfl w.heap.size 45 i0 2 Try.underlying25 hi hz1 G 0 4 [] rfl hown1 (some ⟨ga, oa, none⟩) 1 c [.int .i64 1, .slice none 0 0] rfl rfl (by intro h; cases h) (two_cellsG ha0 ha1) (by intro u hu; simp at hu; rcases hu with rfl | rfl <;> rfl) (by omega) ?_))
  intro w2 hown2 hg2
  have hb2 := hb1.grown hg2 hb1.size (fun g e => by simp only [Option.some.injEq] at e; omega)
  have hGs : G < w2.heap.size := (hown2.lt G rfl).2
  have r0 := cell_grownM p0 hg2 (fun g e => by simp only [Option.some.injEq] at e; show w.heap.size ≠ g; omega)
  have r1 := cell_grownM p1 hg2 (fun g e => by simp only [Option.some.injEq] at e; show w.heap.size ≠ g; omega)
  have hown2' := World.ownsRow.alloc hown2 (.cells #[.int .i64 (-7), .slice none 0 0, .int .i64 (-7), .slice none 0 0, .int .i64 (-7), .slice none 0 0] 45)
  have hb2' := hb2.alloc hb2.size (.cells #[.int .i64 (-7), .slice none 0 0, .int .i64 (-7), .slice none 0 0, .int .i64 (-7), .slice none 0 0] 45)
  have HC3 := hid (six_part 45 w2)
  clear p0 p1 hown1 hg2
  go_wp2_with (first
    | (at_builtin; refine wpList_append_fits _ rfl _ _ 25 rfl w.heap.size 45 i0 2 Try.underlying25 hi hz1 G 1 4 _ rfl hown2' ⟨w2.heap.size, 0, none⟩ 3 3 [.int .i64 (-7), .slice none 0 0, .int .i64 (-7), .slice none 0 0, .int .i64 (-7), .slice none 0 0] rfl rfl HC3.out six_one (by omega) ?_))
  intro w3 hown3 hg3
  have hb3 := hb2'.grown hg3 (by have := hb2'.size; omega) (fun g e => by simp only [Option.some.injEq] at e; omega)
  have harr : w3.heap[G]? = some (.cells partCells 45 (0, 0)) := by
    rcases hown3.2 with ⟨h', _⟩ | ⟨g', cap, cur, h', hB, hg, _, hm, hcs, ht⟩
    · simp at h'
    · simp only [Value.slice.injEq, Option.some.injEq, Addr.mk.injEq, and_true] at h'
      obtain ⟨rfl, -, rfl⟩ := h'
      rw [List.take_of_length_le (by simp; omega)] at ht
      rw [hg]
      congr 2
      apply Array.ext'
      rw [ht]
      rfl
  clear hown2 hown2' hown3 HC3 hg3 r0 r1
  go_wp2
  go_ret
  exact ⟨G, rfl, harr, by omega, hb3⟩
end Go.Proofs.Ytjpohfghibhkiad
