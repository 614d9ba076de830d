import Derived.Test.YtdndeegpbjlibacWaveR
namespace Go.Proofs.Ytdndeegpbjlibac
open Go.ChangeShapes Go.WideShapes Go.ChangeAt Go.RowKit

/-! TWO LISTS MADE SIDE BY SIDE, in whatever order. -/

theorem own_growW {w w' : World} {B : Nat} {e : TypeId} {v : Value} {n : Nat} {xs : List Value} {row : Option Nat} (h : w.ownsRow B e 1 v n xs) (hg : w.grownBy w' row) (hr : ∀ k, row = some k → v.ownBlock ≠ some k) : w'.ownsRow B e 1 v n xs := by
  refine ⟨h.1, ?_⟩
  rcases h.2 with h' | ⟨g, cap, cur, h1, h2, h3, h4⟩
  · exact .inl h'
  · have hlt : g < w.heap.size := by
      rcases Nat.lt_or_ge g w.heap.size with hl | hl
      · exact hl
      · rw [Array.getElem?_eq_none hl] at h3; cases h3
    refine .inr ⟨g, cap, cur, h1, h2, (hg.block g hlt (fun e => hr g e.symm ?_)).trans h3, h4⟩
    rw [h1]; rfl
theorem own_monoW {w : World} {B B' : Nat} {e : TypeId} {v : Value} {n : Nat} {xs : List Value} (h : w.ownsRow B e 1 v n xs) (hB : B' ≤ B) : w.ownsRow B' e 1 v n xs := by
  refine ⟨h.1, ?_⟩
  rcases h.2 with h' | ⟨g, cap, cur, h1, h2, h3⟩
  · exact .inl h'
  · exact .inr ⟨g, cap, cur, h1, by omega, h3⟩
theorem cell_grown {w w' : World} {row : Option Nat} {p : Addr} {v : Value} (h : w.cell? p = some v) (hg : w.grownBy w' row) (hr : ∀ g, row = some g → g ≠ p.block) : w'.cell? p = some v := by
  have := hg.block p.block (World.block_lt_of_cell? w _ h) (fun e => hr _ e.symm rfl)
  rw [← h]
  simp only [World.cell?, this]

/-- One of the two: a copy of l (v5, once b5), the one more number (v6, once b6), both (v7, once b7); its blocks S. -/
structure Ch (w : World) (B0 : Nat) (l : List Int) (x : Int) (v5 v6 v7 : Value) (b5 b6 b7 : Bool) (S : List Nat) : Prop where
  lt : ∀ g ∈ S, B0 ≤ g ∧ g < w.heap.size
  five : b5 = true → b7 = false → Own w B0 v5 l ∧ ∀ g, v5.ownBlock = some g → g ∈ S
  six : b6 = true → b7 = false → ∃ g ∈ S, v6 = .slice (some ⟨g, 0, none⟩) 1 1 ∧ w.cell? ⟨g, 0, none⟩ = some (.int .u8 x)
  seven : b7 = true → Own w B0 v7 (l ++ [x]) ∧ ∀ g, v7.ownBlock = some g → g ∈ S

theorem Ch.start (w : World) (B0 : Nat) (l : List Int) (x : Int) (v5 v6 v7 : Value) : Ch w B0 l x v5 v6 v7 false false false [] :=
  ⟨fun g h => (by cases h), fun h => (by cases h), fun h => (by cases h), fun h => (by cases h)⟩
theorem Ch.keep {w w' : World} {B0 : Nat} {l : List Int} {x : Int} {v5 v6 v7 : Value} {b5 b6 b7 : Bool} {S : List Nat} {row : Option Nat} (h : Ch w B0 l x v5 v6 v7 b5 b6 b7 S) (hg : w.grownBy w' row) (hr : ∀ g, row = some g → g ∉ S) : Ch w' B0 l x v5 v6 v7 b5 b6 b7 S := by
  refine ⟨fun g hS => ⟨(h.lt g hS).1, Nat.lt_of_lt_of_le (h.lt g hS).2 hg.size⟩, fun h5 h7 => ?_, fun h6 h7 => ?_, fun h7 => ?_⟩
  · obtain ⟨h1, h2⟩ := h.five h5 h7
    exact ⟨own_growW h1 hg (fun k hk e => hr k hk (h2 k e)), h2⟩
  · obtain ⟨g, h1, h2, h3⟩ := h.six h6 h7
    exact ⟨g, h1, h2, cell_grown h3 hg (fun k hk e => hr k hk (by rw [e]; exact h1))⟩
  · obtain ⟨h1, h2⟩ := h.seven h7
    exact ⟨own_growW h1 hg (fun k hk e => hr k hk (h2 k e)), h2⟩
def blocksOf (v : Value) : List Nat := match v.ownBlock with
  | some g => [g]
  | none => []
theorem mem_blocks {v : Value} {g : Nat} : g ∈ blocksOf v ↔ v.ownBlock = some g := by
  unfold blocksOf
  cases h : v.ownBlock with
  | none => simp
  | some k => simp [eq_comm]
theorem Ch.op5 {w w' : World} {B0 : Nat} {l : List Int} {x : Int} {v5 v6 v7 v : Value} {b6 : Bool} {S : List Nat} (h : Ch w B0 l x v5 v6 v7 false b6 false S) (hg : w.grownBy w' none) (hB : B0 ≤ w.heap.size) (hv : Own w' w.heap.size v l) : Ch w' B0 l x v v6 v7 true b6 false (blocksOf v ++ S) := by
  have hk := h.keep hg (fun g e => by cases e)
  refine ⟨fun g hS => ?_, fun _ _ => ⟨own_monoW hv hB, fun g e => List.mem_append_left _ (mem_blocks.2 e)⟩, fun h6 h7 => ?_, fun h7 => (by cases h7)⟩
  · rw [List.mem_append] at hS
    rcases hS with hS | hS
    · have := World.ownsRow.lt hv g (mem_blocks.1 hS)
      omega
    · exact hk.lt g hS
  · obtain ⟨g, h1, h2⟩ := hk.six h6 h7
    exact ⟨g, List.mem_append_right _ h1, h2⟩
theorem Ch.op6 {w : World} {B0 : Nat} {l : List Int} {x : Int} {v5 v6 v7 : Value} {b5 : Bool} {S : List Nat} (h : Ch w B0 l x v5 v6 v7 b5 false false S) (hB : B0 ≤ w.heap.size) : Ch (w.alloc (.cells #[.int .u8 x] 5)) B0 l x v5 (.slice (some ⟨w.heap.size, 0, none⟩) 1 1) v7 b5 true false (w.heap.size :: S) := by
  have hk := h.keep (World.grownBy_alloc w (.cells #[.int .u8 x] 5) none) (fun g e => by cases e)
  refine ⟨fun g hS => ?_, fun h5 h7 => ?_, fun _ _ => ⟨w.heap.size, by simp, rfl, ?_⟩, fun h7 => (by cases h7)⟩
  · rw [List.mem_cons] at hS
    rcases hS with rfl | hS
    · exact ⟨hB, by simp⟩
    · exact hk.lt g hS
  · obtain ⟨h1, h2⟩ := hk.five h5 h7
    exact ⟨h1, fun g e => List.mem_cons_of_mem _ (h2 g e)⟩
  · simp
theorem Ch.op7 {w w' : World} {B0 : Nat} {l : List Int} {x : Int} {v5 v6 v7 v : Value} {S : List Nat} (h : Ch w B0 l x v5 v6 v7 true true false S) (hg : w.grownBy w' v5.ownBlock) (hv : Own w' B0 v (l ++ [x])) : Ch w' B0 l x v5 v6 v true true true (blocksOf v ++ S) := by
  refine ⟨fun g hS => ?_, fun _ h7 => (by cases h7), fun _ h7 => (by cases h7), fun _ => ⟨hv, fun g e => List.mem_append_left _ (mem_blocks.2 e)⟩⟩
  rw [List.mem_append] at hS
  rcases hS with hS | hS
  · exact World.ownsRow.lt hv g (mem_blocks.1 hS)
  · exact ⟨(h.lt g hS).1, Nat.lt_of_lt_of_le (h.lt g hS).2 hg.size⟩
end Go.Proofs.Ytdndeegpbjlibac
