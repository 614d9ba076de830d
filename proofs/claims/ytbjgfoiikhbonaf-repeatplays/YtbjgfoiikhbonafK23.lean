import Derived.Test.YtbjgfoiikhbonafK21
import Derived.Test.YtbjgfoiikhbonafK22
import Derived.Deep.RegionHeld3
set_option linter.unusedVariables false
set_option linter.unusedSimpArgs false
namespace Go.Proofs.Ytbjgfoiikhbonaf
open Go.ChangeShapes Go.WideShapes Go.ChangeAt Go.RowKit
theorem Try.infoGa : (Try.prog.info? 130).map (fun i => (i.zero, i.size, i.bytes)) = some (some (.agg #[.int .i64 0, .int .i64 0, .int .i64 0]), 3, 24) := by kernel_rfl
def cellsGp (l : List GapM) : List Value := l.flatMap GapM.cells
theorem cellsGp_app (l r : List GapM) : cellsGp (l ++ r) = cellsGp l ++ cellsGp r := by simp [cellsGp]
theorem cellsGp_at (l : List GapM) : ∀ i k, i < l.length → k < 3 → (cellsGp l)[i * 3 + k]? = (l.getD i .zero).cells[k]? := by
  induction l with
  | nil => intro i k hi; simp at hi
  | cons x l ih =>
    intro i k hi hk
    have e : cellsGp (x :: l) = x.cells ++ cellsGp l := rfl
    cases i with
    | zero => rw [e, List.getElem?_append_left (by show 0 * 3 + k < 3; omega), Nat.zero_mul, Nat.zero_add]; rfl
    | succ i =>
      rw [List.length_cons] at hi
      rw [e, List.getElem?_append_right (by show 3 ≤ _; omega), show (i + 1) * 3 + k - x.cells.length = i * 3 + k by show _ - 3 = _; omega, ih i k (by omega) hk]
      rfl
theorem gps_row {w : World} {B n c : Nat} {a : Option Addr} {l : List GapM} (h : w.ownsRow B 130 3 (.slice a n c) l.length (cellsGp l)) : Gps w a l := by
  intro hne
  have h0 : 0 < l.length := List.length_pos_iff.2 hne
  have hn := row_len h
  subst hn
  obtain ⟨a', c', e, -, -, hx⟩ := row_shape h
  simp only [Value.slice.injEq] at e
  obtain ⟨rfl, -, rfl⟩ := e
  rcases h.2 with ⟨h', h''⟩ | ⟨g, cap, cur, h', -, -⟩
  · omega
  · simp only [Value.slice.injEq] at h'
    obtain ⟨rfl, -, -⟩ := h'
    obtain ⟨cur, hA, -, -, -, -, hct, -⟩ := row_at h
    refine ⟨g, 0, rfl, fun i hi => ?_⟩
    have hat : ∀ k, k < 3 → w.cell? ⟨g, 0 + i * 3 + k, none⟩ = (l.getD i .zero).cells[k]? := fun k hk => by
      rw [Nat.zero_add, hA.cell, ← cellsGp_at l i k hi hk, ← hct, List.getElem?_take_of_lt (by omega)]
    exact ⟨hat 0 (by omega), hat 1 (by omega), hat 2 (by omega)⟩
def gapsOf (fs i : Nat) (x : TkP) : List GapM := x.gaps.map fun q => ⟨(((fs + i) % 64 : Nat) : Int), q.1, q.2⟩
def gapsTo (fs : Nat) (us : List TkP) (i : Nat) : List GapM := (List.range i).flatMap fun i => gapsOf fs i (us.getD i .zero)
theorem gapsTo_succ (fs : Nat) (us : List TkP) (i : Nat) : gapsTo fs us (i + 1) = gapsTo fs us i ++ gapsOf fs i (us.getD i .zero) := by
  unfold gapsTo
  rw [List.range_succ, List.flatMap_append]
  simp
theorem TkP.gaps_len {x : TkP} {n : Nat} (h : x.th.length ≤ n) : x.gaps.length ≤ n + 2 := by
  unfold TkP.gaps
  split
  · rw [List.length_append, intsS_len]
    have := gapsM_len (hi := endS x.th) (l := x.th) (lo := 0)
    simp
    omega
  · rw [intsS_len]
    have := gapsM_len (hi := x.len) (l := x.th) (lo := 0)
    omega
theorem gapsTo_len {fs : Nat} {us : List TkP} {n : Nat} (h : ∀ i, (us.getD i .zero).th.length ≤ n) : ∀ i, (gapsTo fs us i).length ≤ i * (n + 2)
  | 0 => by simp [gapsTo]
  | i + 1 => by
    rw [gapsTo_succ, List.length_append]
    have h1 := gapsTo_len h i (fs := fs)
    have h2 : (gapsOf fs i (us.getD i .zero)).length ≤ n + 2 := by unfold gapsOf; rw [List.length_map]; exact TkP.gaps_len (h i)
    rw [Nat.add_mul]
    omega
/-- The report under way. -/
structure RpAt (w wr : World) (nx : Int) (L : List GapM) (a : Option Addr) (c : Nat) : Prop where
  row : At wr (w.heap.size + 1) 73 [.int .i64 nx, .slice a L.length c]
  res : At wr w.heap.size 73 [.int .i64 0, .slice none 0 0]
  own : wr.ownsRow (w.heap.size + 2) 130 3 (.slice a L.length c) L.length (cellsGp L)
  bel : Below w.heap.size w wr
theorem RpAt.later {w wr w' : World} {nx : Int} {L : List GapM} {a : Option Addr} {c : Nat} (h : RpAt w wr nx L a c) (hb : Below wr.heap.size wr w') : RpAt w w' nx L a c := by
  have hk : Kept [] wr w' := Kept.of_below hb
  refine ⟨h.row.kept hk (by simp), h.res.kept hk (by simp), ?_, h.bel.trans (hb.mono h.bel.size)⟩
  have h1 := World.ownsRow.lt h.own
  have h2 := keptRow (B := w.heap.size + 2) h.own hk (by simp)
  exact h2
/-- One gap more. -/
theorem RpAt.push {w wr w4 : World} {nx : Int} {L : List GapM} {a a' : Option Addr} {c c' : Nat} {q : GapM} {WA : World} (h : RpAt w wr nx L a c) (hWA : Below wr.heap.size wr WA) (hg : WA.grownBy w4 (Value.slice a L.length c).ownBlock) (ho : w4.ownsRow (w.heap.size + 2) 130 3 (.slice a' (L.length + 1) c') (L.length + 1) (cellsGp L ++ q.cells)) : RpAt w (w4.setCell ⟨w.heap.size + 1, 1, none⟩ (.slice a' (L.length + 1) c')) nx (L ++ [q]) a' c' := by
  have hA := h.later hWA
  have hblk : ∀ x, x ∈ (Value.slice a L.length c).ownBlock.toList → w.heap.size + 2 ≤ x := fun x hx => (World.ownsRow.lt h.own x (by simpa using hx)).1
  have hk : Kept (Value.slice a L.length c).ownBlock.toList WA w4 := Kept.grownR hg
  have hl : (L ++ [q]).length = L.length + 1 := by simp
  have hb4 : Below w.heap.size w w4 := hA.bel.grown hg hA.bel.size (fun x hx => by have := hblk x (by rw [hx]; simp); omega)
  refine ⟨?_, ?_, ?_, ?_⟩
  · rw [hl]
    exact (hA.row.kept hk (fun hm => by have := hblk _ hm; omega)).setCell _
  · exact (hA.res.kept hk (fun hm => by have := hblk _ hm; omega)).setOther _ _ (by show w.heap.size ≠ w.heap.size + 1; omega)
  · rw [hl, cellsGp_app]
    have e : cellsGp [q] = q.cells := by simp [cellsGp]
    rw [e]
    refine keptRow ho (kept_setCell w4 (w.heap.size + 1) 1 _) (fun x hx => ?_)
    have := (World.ownsRow.lt ho x hx).1
    simp
    omega
  · exact hb4.setCell (by show w.heap.size ≤ w.heap.size + 1; omega) _
end Go.Proofs.Ytbjgfoiikhbonaf
