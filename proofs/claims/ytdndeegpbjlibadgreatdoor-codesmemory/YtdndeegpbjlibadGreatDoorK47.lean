import Derived.Test.YtdndeegpbjlibadGreatDoorK46
import Derived.Test.YtdndeegpbjlibadGreatDoorK41
import Derived.Test.YtdndeegpbjlibadGreatDoorK34
import Derived.Test.YtdndeegpbjlibadGreatDoorK36
namespace Go.Proofs.YtdndeegpbjlibadGreatDoor
open Go.ChangeShapes Go.WideShapes Go.ChangeAt Go.RowKit

/-! LISTS OF POINTS WITH SPARE ROOM: roomy, spoilt, kept. -/

theorem pts_cells {w : World} {a : Option Addr} {ps : List (Int × Int)} (h : Pts w a ps) : ∀ ad, a = some ad → ∀ j u, (cellsQ ps)[j]? = some u → w.cell? (ad.add j) = some u := by
  intro ad had j u hu
  have hj : j < 2 * ps.length := by
    have := (List.getElem?_eq_some_iff.1 hu).1
    rwa [cellsQ_length] at this
  obtain ⟨b, off, e, hc⟩ := h.at (i := j / 2) (by omega)
  rw [e] at had
  obtain rfl := Option.some.inj had
  have h1 := hc (j / 2) (by omega)
  have h2 := cellsQ_at ps (j / 2) (by omega)
  rw [Addr.add_lit]
  have h3 : j = j / 2 * 2 ∨ j = j / 2 * 2 + 1 := by omega
  rcases h3 with h3 | h3
  · rw [h3] at hu ⊢
    rw [h2.1] at hu
    rw [h1.1]
    exact hu
  · rw [h3] at hu ⊢
    rw [h2.2] at hu
    rw [← Nat.add_assoc, h1.2]
    exact hu
theorem cellsQ_one (ps : List (Int × Int)) : ∀ u ∈ cellsQ ps, u.oneCell' = true := by
  intro u hu
  unfold cellsQ at hu
  rw [List.mem_flatMap] at hu
  obtain ⟨p, _, hp⟩ := hu
  simp at hp
  rcases hp with rfl | rfl <;> rfl
theorem cellsQ_append (ps qs : List (Int × Int)) : cellsQ (ps ++ qs) = cellsQ ps ++ cellsQ qs := by unfold cellsQ; rw [List.flatMap_append]
theorem six_new (x y : Int) (T : TypeId) (w : World) : ∀ j u, ([.int .i64 x, .int .i64 y, .int .i64 x, .int .i64 y, .int .i64 x, .int .i64 y] : List Value)[j]? = some u → (w.alloc (.cells #[.int .i64 x, .int .i64 y, .int .i64 x, .int .i64 y, .int .i64 x, .int .i64 y] T)).cell? ((⟨w.heap.size, 0, none⟩ : Addr).add j) = some u := fun j u hu => by
  rw [Addr.add_lit, cell_of_row _ _ _ _ _ _ (heap_alloc_new w _), Nat.zero_add]
  simpa using hu

theorem cell_grownM {w w' : World} {row : Option Nat} {p : Addr} {v : Value} (h : w.cell? p = some v) (hg : w.grownBy w' row) (hr : ∀ g, row = some g → p.block ≠ g) : w'.cell? p = some v := by
  have hb := hg.block p.block (World.block_lt_of_cell? w _ h) (fun e => hr _ e.symm rfl)
  rw [← h]
  exact World.cell?_of_block (w := w) hb

set_option maxRecDepth 100000 in
set_option maxHeartbeats 1000000 in
theorem roomyP (ps : List (Int × Int)) (x y : Int) (a : Option Addr) (c n : Nat) (w : World) (ha : Pts w a ps) (hn : a = none → n = 0 ∧ c = 0) (hl : ps.length = n) (hz : n ≤ 8796093022208) :
    Calls Tryz.prog 6 #[.slice a n c, .agg #[.int .i64 x, .int .i64 y]] w fun e w' => ∃ g, e = .returned (.slice (some ⟨g, 0, none⟩) n (n + 3)) ∧ PArr w' g (ps ++ [(x, y), (x, y), (x, y)]) ∧ w.heap.size ≤ g ∧ Below w.heap.size w w' := by
  obtain ⟨i0, hi, hz0, hz1, hz2⟩ := info_parts Tryz.infoQ
  obtain ⟨N, eN⟩ : ∃ N, N = n + 3 := ⟨_, rfl⟩
  have HN := hid eN
  have HL := hid hl
  have hN1 : n + 3 ≤ N := by omega
  have hN2 : N ≤ 8796093022211 := by omega
  rw [← eN]
  have hNI : (n : Int) + 3 = (N : Int) := by rw [eN]; rfl
  have hb0 : Below w.heap.size w (w.alloc (.cells #[.int .i64 x, .int .i64 y] 29)) := (Below.refl _ w).alloc (Nat.le_refl _) _
  have q0 : (w.alloc (.cells #[.int .i64 x, .int .i64 y] 29)).cell? ⟨w.heap.size, 0, none⟩ = some (.int .i64 x) := by rw [cell_of_row _ _ _ _ _ _ (heap_alloc_new w _)]; rfl
  have q1 : (w.alloc (.cells #[.int .i64 x, .int .i64 y] 29)).cell? ⟨w.heap.size, 1, none⟩ = some (.int .i64 y) := by rw [cell_of_row _ _ _ _ _ _ (heap_alloc_new w _)]; rfl
  have hsb : w.heap.size < (w.alloc (.cells #[.int .i64 x, .int .i64 y] 29)).heap.size := by simp
  clear eN hl
  go_enter Tryz.func6, Tryz.ntmps6
  go_wp2_with (first
    | (at_make; refine wpList_make_own _ rfl _ _ 24 rfl w.heap.size 29 i0 (.agg #[.int .i64 0, .int .i64 0]) 2 Tryz.underlying24 hi hz0 hz1 _ _ _ N rfl rfl (by first | rfl | exact hNI) (by rw [hz2]; omega) (by unfold maxLen; omega) (by simp) ?_))
  generalize w.alloc (.cells #[.int .i64 x, .int .i64 y] 29) = wb at *
  intro w1 hown1 hg1
  have hb1 := hb0.grown hg1 hb0.size (fun g e => by cases e)
  have ha1 := ha.below hb1
  have p0 := ((Below.refl wb.heap.size wb).grown hg1 (Nat.le_refl _) (fun g e => by cases e)).cell (p := ⟨w.heap.size, 0, none⟩) hsb |>.trans q0
  have p1 := ((Below.refl wb.heap.size wb).grown hg1 (Nat.le_refl _) (fun g e => by cases e)).cell (p := ⟨w.heap.size, 1, none⟩) hsb |>.trans q1
  obtain ⟨G, eG⟩ : ∃ G, G = w.heap.size + 1 := ⟨_, rfl⟩
  rw [← eG] at hown1
  rw [← eG]
  have hsG : w.heap.size < G := by omega
  clear eG q0 q1 hsb
  go_wp2_with (first
    | (at_builtin; refine wpList_append_fits_any _ rfl _ _ 24 rfl w.heap.size 29 i0 2 Tryz.underlying24 hi hz1 G 0 N [] rfl hown1 a n c (cellsQ ps) rfl (by rw [cellsQ_length, HL.out, Nat.mul_comm]) hn (pts_cells ha1) (cellsQ_one ps) (by omega) ?_))
  intro w2 hown2 hg2
  have hb2 := hb1.grown hg2 hb1.size (fun g e => by simp only [Option.some.injEq] at e; omega)
  have hGs : G < w2.heap.size := (hown2.lt G rfl).2
  have r0 := cell_grownM p0 hg2 (fun g e => by simp only [Option.some.injEq] at e; show w.heap.size ≠ g; omega)
  have r1 := cell_grownM p1 hg2 (fun g e => by simp only [Option.some.injEq] at e; show w.heap.size ≠ g; omega)
  have hown2' := World.ownsRow.alloc hown2 (.cells #[.int .i64 x, .int .i64 y, .int .i64 x, .int .i64 y, .int .i64 x, .int .i64 y] 29)
  have hb2' := hb2.alloc hb2.size (.cells #[.int .i64 x, .int .i64 y, .int .i64 x, .int .i64 y, .int .i64 x, .int .i64 y] 29)
  have HC3 := hid (six_new x y 29 w2)
  clear p0 p1 hown1 hg2
  go_wp2_with (first
    | (at_builtin; refine wpList_append_fits _ rfl _ _ 24 rfl w.heap.size 29 i0 2 Tryz.underlying24 hi hz1 G n N (cellsQ ps) rfl hown2' ⟨w2.heap.size, 0, none⟩ 3 3 [.int .i64 x, .int .i64 y, .int .i64 x, .int .i64 y, .int .i64 x, .int .i64 y] rfl rfl HC3.out (cellsQ_one [(x, y), (x, y), (x, y)]) (by omega) ?_))
  intro w3 hown3 hg3
  have hb3 := hb2'.grown hg3 (by have := hb2'.size; omega) (fun g e => by simp only [Option.some.injEq] at e; omega)
  have harr : PArr w3 G (ps ++ [(x, y), (x, y), (x, y)]) := by
    rcases hown3.2 with ⟨h', _⟩ | ⟨g', cap, cur, h', hB, hg, _, hm, hcs, ht⟩
    · simp at h'
    · simp only [Value.slice.injEq, Option.some.injEq, Addr.mk.injEq, and_true] at h'
      obtain ⟨rfl, -, rfl⟩ := h'
      unfold PArr
      rw [hg, cellsQ_append]
      have e2 : cellsQ [(x, y), (x, y), (x, y)] = [.int .i64 x, .int .i64 y, .int .i64 x, .int .i64 y, .int .i64 x, .int .i64 y] := rfl
      rw [e2, ← ht, List.take_of_length_le (by have := HN.out; simp; omega)]
  clear hown2 hown2' hown3 HC3 hg3 r0 r1
  go_wp2
  go_ret
  exact ⟨G, rfl, harr, by omega, hb3⟩

theorem own_block2 {w : World} {B : Nat} {e : TypeId} {v : Value} {n : Nat} {xs : List Value} (h : w.ownsRow B e 2 v n xs) : v = .slice none 0 0 ∨ ∃ g cap cur, v = .slice (some ⟨g, 0, none⟩) n cap ∧ B ≤ g ∧ w.heap[g]? = some (.cells cur e (0, 0)) ∧ n ≤ cap ∧ cap ≤ maxLen ∧ cur.size = cap * 2 := by
  rcases h.2 with ⟨e1, _⟩ | ⟨g, cap, cur, h1, h2, h3, h4, h5, h6, _⟩
  · exact .inl e1
  · exact .inr ⟨g, cap, cur, h1, h2, h3, h4, h5, h6⟩
theorem own_of_block2 {w : World} {B : Nat} {e : TypeId} {g n cap : Nat} {cur : Array Value} (hB : B ≤ g) (h : w.heap[g]? = some (.cells cur e (0, 0))) (hn : n ≤ cap) (hm : cap ≤ maxLen) (hs : cur.size = cap * 2) : w.ownsRow B e 2 (.slice (some ⟨g, 0, none⟩) n cap) n (cur.toList.take (n * 2)) :=
  ⟨by simp; omega, .inr ⟨g, cap, cur, rfl, hB, h, hn, hm, hs, rfl⟩⟩
theorem there_block2 {w : World} {e : TypeId} {g i cap : Nat} {cur : Array Value} (h : w.heap[g]? = some (.cells cur e (0, 0))) (hs : cur.size = cap * 2) (hi : i < cap) : w.there g (i * 2) 2 := fun j hj => by
  refine ⟨?_, frozen_of_row w g _ _ _ h⟩
  rw [cell_of_row _ _ _ _ _ _ h]
  simp
  omega
theorem set_block2 {w : World} {e : TypeId} {g i cap : Nat} {cur : Array Value} (u v : Value) (h : w.heap[g]? = some (.cells cur e (0, 0))) (hs : cur.size = cap * 2) : ∃ cur', (w.setCells g (i * 2) [u, v]).heap[g]? = some (.cells cur' e (0, 0)) ∧ cur'.size = cap * 2 := by
  have h1 := heap_setCell_same w g (i * 2) _ _ u h
  have h2 := heap_setCell_same _ g (i * 2 + 1) _ _ v h1
  exact ⟨_, h2, by simp [hs]⟩

set_option maxRecDepth 100000 in
set_option maxHeartbeats 1000000 in
theorem spoiltP (x y : Int) (v : Value) (n : Nat) (ys : List Value) (B : Nat) (w : World) (hown : w.ownsRow B 29 2 v n ys) (hB : B ≤ w.heap.size) (hz : n ≤ 1000000) :
    Calls Tryz.prog 17 #[v, .agg #[.int .i64 x, .int .i64 y]] w fun e w' => e = .returned (.tuple #[]) ∧ Below B w w' := by
  obtain ⟨i0, hi, hz0, hz1, hz2⟩ := info_parts Tryz.infoQ
  have hb0 : Below B w (w.alloc (.cells #[.int .i64 x, .int .i64 y] 29)) := (Below.refl _ w).alloc hB _
  have q0 : (w.alloc (.cells #[.int .i64 x, .int .i64 y] 29)).cell? ⟨w.heap.size, 0, none⟩ = some (.int .i64 x) := by rw [cell_of_row _ _ _ _ _ _ (heap_alloc_new w _)]; rfl
  have q1 : (w.alloc (.cells #[.int .i64 x, .int .i64 y] 29)).cell? ⟨w.heap.size, 1, none⟩ = some (.int .i64 y) := by rw [cell_of_row _ _ _ _ _ _ (heap_alloc_new w _)]; rfl
  rcases own_block2 hown with rfl | ⟨g, cap, cur, rfl, hg, hblk, hnc, hcm, hcs⟩
  · clear hown
    go_enter Tryz.func17, Tryz.ntmps17
    go_wp2
    generalize w.alloc (.cells #[.int .i64 x, .int .i64 y] 29) = wb at *
    go_loopw [12] (fun q wr => q = .int .i64 0 ∧ wr = wb) (fun _ _ => 0)
    case atStart => exact ⟨rfl, rfl⟩
    case round =>
      obtain ⟨rfl, rfl⟩ := hrel
      have hown' := World.ownsRow.alloc (World.ownsRow_nil wr B 29 2) (.cells #[.int .i64 x, .int .i64 y, .int .i64 x, .int .i64 y, .int .i64 x, .int .i64 y] 29)
      have HC3 := hid (six_new x y 29 wr)
      have hBr : B ≤ wr.heap.size := Nat.le_trans hB hb0.size
      have hb1 := hb0.alloc hBr (.cells #[.int .i64 x, .int .i64 y, .int .i64 x, .int .i64 y, .int .i64 x, .int .i64 y] 29)
      go_wp2_with (first
        | (at_builtin; refine wpList_append_own _ rfl _ _ 24 rfl B 29 i0 (.agg #[.int .i64 0, .int .i64 0]) 2 16 Tryz.underlying24 hi hz0 hz1 hz2 rfl (by decide) (.slice none 0 0) 0 [] rfl hown' ⟨wr.heap.size, 0, none⟩ 3 3 [.int .i64 x, .int .i64 y, .int .i64 x, .int .i64 y, .int .i64 x, .int .i64 y] rfl rfl HC3.out (cellsQ_one [(x, y), (x, y), (x, y)]) (by unfold maxLen; omega) (by omega) (by simp; omega) ?_))
      intro v' w' _ hg' _
      have hb2 := hb1.grown hg' (by simp; omega) (fun g e => by cases e)
      go_wp2
      go_end0
      exact ⟨rfl, hb2⟩
  · have hcm' : cap ≤ 9223372036854775807 := by unfold maxLen at hcm; omega
    have hgw : g < w.heap.size := (Array.getElem?_eq_some_iff.1 hblk).1
    have hblkb : (w.alloc (.cells #[.int .i64 x, .int .i64 y] 29)).heap[g]? = some (.cells cur 29 (0, 0)) := (Below.heap_alloc _ _ _ hgw).trans hblk
    clear hown hblk
    go_enter Tryz.func17, Tryz.ntmps17
    go_wp2
    generalize w.alloc (.cells #[.int .i64 x, .int .i64 y] 29) = wb at *
    obtain ⟨gP, eP⟩ : ∃ gP, gP = w.heap.size := ⟨_, rfl⟩
    rw [← eP] at q0 q1 hgw
    rw [← eP]
    clear eP
    go_loopw [12] (fun q wr => ∃ (i : Nat) (cur' : Array Value), i ≤ cap ∧ q = .int .i64 i ∧ wr.heap[g]? = some (.cells cur' 29 (0, 0)) ∧ Hid (cur'.size = cap * 2) ∧ Kept [g] wb wr) (fun q _ => cap - (intOf q).toNat)
    case atStart => exact ⟨0, cur, Nat.zero_le _, rfl, hblkb, hcs, Kept.refl _ _⟩
    case round =>
      obtain ⟨i, cur', hi', rfl, hb', HCS, hkept⟩ := hrel
      have r0 := hkept.cellQ q0 (by simp; omega)
      have r1 := hkept.cellQ q1 (by simp; omega)
      by_cases hlt : i < cap
      · have ht := hid (there_block2 hb' HCS.out hlt)
        obtain ⟨cur2, hset, hsz2⟩ := set_block2 (i := i) (.int .i64 x) (.int .i64 y) hb' HCS.out
        have hkept' : Kept [g] wb (wr.setCells g (i * 2) [.int .i64 x, .int .i64 y]) := (hkept.setCell (p := ⟨g, i * 2, none⟩) (by simp) _).setCell (p := ⟨g, i * 2 + 1, none⟩) (by simp) _
        have HS2 := hid hsz2
        clear hb' hkept hsz2
        go_wp2_with (refine wpList_store_mid rfl 29 _ _ rfl g (i * 2) #[.int .i64 x, .int .i64 y] rfl rfl ht.out Tryz.sizeQ (by simp; exact ⟨rfl, rfl⟩) ?_)
        generalize wr.setCells g (i * 2) [.int .i64 x, .int .i64 y] = w2 at *
        go_wp2
        go_roundw
        case rel => exact ⟨i + 1, _, by omega, by go_num, hset, HS2, hkept'⟩
        case measure => simp [intOf]; omega
      · have hown := own_of_block2 (n := n) hg hb' hnc hcm HCS.out
        have hown' := World.ownsRow.alloc hown (.cells #[.int .i64 x, .int .i64 y, .int .i64 x, .int .i64 y, .int .i64 x, .int .i64 y] 29)
        have hbr : Below B w wr := hb0.trans (hkept.below (Nat.le_trans hB hb0.size) (by simpa using hg))
        have hBr : B ≤ wr.heap.size := by have := hbr.size; omega
        have hb1 := hbr.alloc hBr (.cells #[.int .i64 x, .int .i64 y, .int .i64 x, .int .i64 y, .int .i64 x, .int .i64 y] 29)
        have HC3 := hid (six_new x y 29 wr)
        obtain ⟨xs, exs⟩ : ∃ xs, xs = cur'.toList.take (n * 2) := ⟨_, rfl⟩
        rw [← exs] at hown'
        clear exs hown hb' hkept hi'
        go_wp2_with (first
          | (at_builtin; refine wpList_append_own _ rfl _ _ 24 rfl B 29 i0 (.agg #[.int .i64 0, .int .i64 0]) 2 16 Tryz.underlying24 hi hz0 hz1 hz2 rfl (by decide) (.slice (some ⟨g, 0, none⟩) n cap) n xs rfl hown' ⟨wr.heap.size, 0, none⟩ 3 3 [.int .i64 x, .int .i64 y, .int .i64 x, .int .i64 y, .int .i64 x, .int .i64 y] rfl rfl HC3.out (cellsQ_one [(x, y), (x, y), (x, y)]) (by unfold maxLen; omega) (by omega) (by simp; omega) ?_))
        intro v' w' _ hg' _
        have hb2 := hb1.grown hg' (by simp; omega) (fun k e => by
          have e' : some g = some k := e
          simp only [Option.some.injEq] at e'
          omega)
        go_wp2
        go_end0
        exact ⟨rfl, hb2⟩

theorem run_idxM {ρ : Operand → Value} (w : World) {o : Oper} {x y : Operand} {g s j n c : Nat} (ho : o.op = .indexAddr 24 x y) (h : ρ x = .slice (some ⟨g, s, none⟩) n c) (h' : ρ y = .int .i64 j) (hj : j < n) : (execOp ρ o).run Tryz.prog w = .ok (.value (.pointer (some ⟨g, s + j * 2, none⟩))) w := by
  unfold execOp
  simp only [ho, h, h']
  simp [go_sem, Tryz.underlying24, hj]
theorem run_loadM {ρ : Operand → Value} (w : World) {o : Oper} {x : Operand} {g s : Nat} {p : Int × Int} (ho : o.op = .load 29 x) (h : ρ x = .pointer (some ⟨g, s, none⟩)) (hc : w.cell? ⟨g, s, none⟩ = some (.int .i64 p.1) ∧ w.cell? ⟨g, s + 1, none⟩ = some (.int .i64 p.2)) : (execOp ρ o).run Tryz.prog w = .ok (.value (.agg #[.int .i64 p.1, .int .i64 p.2])) w := by
  unfold execOp
  have hr := run_loadVar_mid w g s 29 [.int .i64 p.1, .int .i64 p.2] _ (pts_range hc) Tryz.underlying29 rfl (by kernel_rfl)
  simp only [ho, h, Instr.loadAt, Instr.sureAddr, Sem.run_bind, Sem.run_pure, Result.andThen_ok, hr]
theorem run_neqP {ρ : Operand → Value} (w : World) {o : Oper} {x y : Operand} {p q : Int × Int} (ho : o.op = .binOp .neq 29 x y 29) (h : ρ x = .agg #[.int .i64 p.1, .int .i64 p.2]) (h' : ρ y = .agg #[.int .i64 q.1, .int .i64 q.2]) : (execOp ρ o).run Tryz.prog w = .ok (.value (.bool (!(p.1 == q.1 && p.2 == q.2)))) w := by
  have hm : Tryz.prog.eqGuardType Tryz.prog.depth 29 = false := by kernel_rfl
  unfold execOp
  simp only [ho, h, h']
  simp [go_sem, hm, run_eqP]
theorem run_eqlP {ρ : Operand → Value} (w : World) {o : Oper} {x y : Operand} {p q : Int × Int} (ho : o.op = .binOp .eql 29 x y 29) (h : ρ x = .agg #[.int .i64 p.1, .int .i64 p.2]) (h' : ρ y = .agg #[.int .i64 q.1, .int .i64 q.2]) : (execOp ρ o).run Tryz.prog w = .ok (.value (.bool (p.1 == q.1 && p.2 == q.2))) w := by
  have hm : Tryz.prog.eqGuardType Tryz.prog.depth 29 = false := by kernel_rfl
  unfold execOp
  simp only [ho, h, h']
  simp [go_sem, hm, run_eqP]
end Go.Proofs.YtdndeegpbjlibadGreatDoor

namespace Go.Proofs.YtdndeegpbjlibadGreatDoor
open Go.ChangeShapes Go.WideShapes Go.ChangeAt Go.RowKit

/-! kept, of points. -/

theorem run_eqlT {ρ : Operand → Value} (w : World) {o : Oper} {x y : Operand} {p : Int × Int} (ho : o.op = .binOp .eql 29 x y 29) (h : ρ x = .agg #[.int .i64 p.1, .int .i64 p.2]) (h' : ρ y = .agg #[.int .i64 p.1, .int .i64 p.2]) : (execOp ρ o).run Tryz.prog w = .ok (.value (.bool true)) w := by
  have := run_eqlP w ho h h'
  simpa using this
theorem run_neqF {ρ : Operand → Value} (w : World) {o : Oper} {x y : Operand} {p : Int × Int} (ho : o.op = .binOp .neq 29 x y 29) (h : ρ x = .agg #[.int .i64 p.1, .int .i64 p.2]) (h' : ρ y = .agg #[.int .i64 p.1, .int .i64 p.2]) : (execOp ρ o).run Tryz.prog w = .ok (.value (.bool false)) w := by
  have := run_neqP w ho h h'
  simpa using this

set_option maxRecDepth 100000 in
set_option maxHeartbeats 2000000 in
theorem keptP (ps : List (Int × Int)) (x y : Int) (g n : Nat) (a : Option Addr) (c : Nat) (w : World) (hl : ps.length = n) (hz : n ≤ 8796093022208) (har : PArr w g (ps ++ [(x, y), (x, y), (x, y)])) (ha : Pts w a ps) :
    Calls Tryz.prog 24 #[.slice (some ⟨g, 0, none⟩) n (n + 3), .slice a n c, .agg #[.int .i64 x, .int .i64 y]] w fun e w' => e = .returned (.bool true) ∧ Below w.heap.size w w' := by
  have HL := hid hl
  obtain ⟨N, eN⟩ : ∃ N, N = n + 3 := ⟨_, rfl⟩
  have hNI : (n : Int) + 3 = (N : Int) := by rw [eN]; rfl
  have hN1 : n + 3 = N := eN.symm
  have hN2 : N ≤ 8796093022211 := by omega
  have hlt3 : ∀ i, i < 3 → (ps ++ [(x, y), (x, y), (x, y)]).getD (n + i) (0, 0) = (x, y) := fun i hi => by
    have h3 : i = 0 ∨ i = 1 ∨ i = 2 := by omega
    rcases h3 with rfl | rfl | rfl <;> simp [List.getD, ← hl]
  have HM := hid hlt3
  have hb0 : Below w.heap.size w (w.alloc (.cells #[.int .i64 x, .int .i64 y] 29)) := (Below.refl _ w).alloc (Nat.le_refl _) _
  have q0 : (w.alloc (.cells #[.int .i64 x, .int .i64 y] 29)).cell? ⟨w.heap.size, 0, none⟩ = some (.int .i64 x) := by rw [cell_of_row _ _ _ _ _ _ (heap_alloc_new w _)]; rfl
  have q1 : (w.alloc (.cells #[.int .i64 x, .int .i64 y] 29)).cell? ⟨w.heap.size, 1, none⟩ = some (.int .i64 y) := by rw [cell_of_row _ _ _ _ _ _ (heap_alloc_new w _)]; rfl
  have hmix : Tryz.prog.follows .mixedOrders = true := by kernel_rfl
  rw [← eN]
  clear eN hl hlt3
  go_enter Tryz.func24, Tryz.ntmps24
  go_wp2
  generalize w.alloc (.cells #[.int .i64 x, .int .i64 y] 29) = wb at *
  obtain ⟨gP, eP⟩ : ∃ gP, gP = w.heap.size := ⟨_, rfl⟩
  rw [← eP] at q0 q1
  rw [← eP]
  clear eP
  go_loopw [16] (fun i wr => ∃ k : Nat, k ≤ n ∧ i = .int .i64 k ∧ Below wb.heap.size wb wr) (fun i _ => n - (intOf i).toNat)
  case atStart => exact ⟨0, Nat.zero_le _, rfl, Below.refl _ _⟩
  case round =>
    obtain ⟨k, hk, rfl, hbel⟩ := hrel
    have hbw : Below w.heap.size w wr := hb0.trans (hbel.mono hb0.size)
    have har' := har.below hbw har.lt
    by_cases hlt : k < n
    · obtain ⟨b2, o2, rfl, hc2⟩ := (ha.below hbw).at (i := k) (by rw [HL.out]; exact hlt)
      have g2 := hc2 k (by rw [HL.out]; exact hlt)
      have g1 := har'.cells (i := k) (by simp [HL.out]; omega)
      rw [show (ps ++ [(x, y), (x, y), (x, y)]).getD k (0, 0) = ps.getD k (0, 0) by simp only [List.getD, List.getElem?_append_left (show k < ps.length by rw [HL.out]; exact hlt)]] at g1
      generalize ps.getD k (0, 0) = p at *
      clear hc2 har'
      go_upto_region 6 with fail
      refine wp_mono (region_known3 9 [(19, .slice (some ⟨g, 0, none⟩) n N), (20, .int .i64 k), (21, .pointer (some ⟨g, 0 + k * 2, none⟩)), (22, .agg #[.int .i64 p.1, .int .i64 p.2]), (23, .slice (some ⟨b2, o2, none⟩) n c), (24, .int .i64 k), (25, .pointer (some ⟨b2, o2 + k * 2, none⟩)), (26, .agg #[.int .i64 p.1, .int .i64 p.2]), (27, .bool false)]
          [[0], [7], [19, 20], [21], [1], [7], [23, 24], [25], [22, 26]] wr hmix rfl rfl (show ([19, 20, 21, 22, 23, 24, 25, 26, 27] : List Nat).Nodup by decide) (by kernel_rfl) (by kernel_rfl) (by kernel_rfl) (by kernel_rfl) (fun i' hi' ac wc hbc hr Q K hK => by
          have h9 : i' = 0 ∨ i' = 1 ∨ i' = 2 ∨ i' = 3 ∨ i' = 4 ∨ i' = 5 ∨ i' = 6 ∨ i' = 7 ∨ i' = 8 := by omega
          have c1 : wc.cell? ⟨g, 0 + k * 2, none⟩ = some (.int .i64 p.1) ∧ wc.cell? ⟨g, 0 + k * 2 + 1, none⟩ = some (.int .i64 p.2) := by rw [Nat.zero_add]; exact ⟨(hbc.cell (World.block_lt_of_cell? wr _ g1.1)).trans g1.1, (hbc.cell (World.block_lt_of_cell? wr _ g1.2)).trans g1.2⟩
          have c2 : wc.cell? ⟨b2, o2 + k * 2, none⟩ = some (.int .i64 p.1) ∧ wc.cell? ⟨b2, o2 + k * 2 + 1, none⟩ = some (.int .i64 p.2) := ⟨(hbc.cell (World.block_lt_of_cell? wr _ g2.1)).trans g2.1, (hbc.cell (World.block_lt_of_cell? wr _ g2.2)).trans g2.2⟩
          rcases h9 with rfl | rfl | rfl | rfl | rfl | rfl | rfl | rfl | rfl
          · exact op_value rfl rfl (run_moveQ wc rfl (hr 0 (by decide))) (hK wc hbc)
          · exact op_value rfl rfl (run_moveQ wc rfl (hr 7 (by decide))) (hK wc hbc)
          · exact op_value rfl rfl (run_idxM wc rfl (hr 19 (by decide)) (hr 20 (by decide)) hlt) (hK wc hbc)
          · exact op_value rfl rfl (run_loadM wc rfl (hr 21 (by decide)) c1) (hK wc hbc)
          · exact op_value rfl rfl (run_moveQ wc rfl (hr 1 (by decide))) (hK wc hbc)
          · exact op_value rfl rfl (run_moveQ wc rfl (hr 7 (by decide))) (hK wc hbc)
          · exact op_value rfl rfl (run_idxM wc rfl (hr 23 (by decide)) (hr 24 (by decide)) hlt) (hK wc hbc)
          · exact op_value rfl rfl (run_loadM wc rfl (hr 25 (by decide)) c2) (hK wc hbc)
          · exact op_value rfl rfl (run_neqF wc rfl (hr 22 (by decide)) (hr 26 (by decide))) (hK wc hbc))) ?_
      rintro e a' w' ⟨rfl, rfl, hbw'⟩
      have hbel' : Below wb.heap.size wb w' := hbel.trans (hbw'.mono hbel.size)
      dsimp only [setAll, List.set]
      clear hbw' hbel g1 g2
      go_wp2
      go_roundw
      case rel => exact ⟨k + 1, by omega, by go_num, hbel'⟩
      case measure => simp [intOf]; omega
    · have d0 := har'.cells (i := n + 0) (by simp [HL.out])
      have d1 := har'.cells (i := n + 1) (by simp [HL.out])
      have d2 := har'.cells (i := n + 2) (by simp [HL.out])
      rw [HM.out 0 (by omega)] at d0
      rw [HM.out 1 (by omega)] at d1
      rw [HM.out 2 (by omega)] at d2
      have r0 := (hbel.cell (World.block_lt_of_cell? wb _ q0)).trans q0
      have r1 := (hbel.cell (World.block_lt_of_cell? wb _ q1)).trans q1
      clear har'
      go_upto_region 10 with fail
      have hc : ∀ (wc : World), Below wr.heap.size wr wc → ∀ q v, wr.cell? q = some v → wc.cell? q = some v := fun wc hbc q v h => (hbc.cell (World.block_lt_of_cell? wr _ h)).trans h
      refine wp_mono (region_known3 20 [(36, .slice (some ⟨g, n * 2, none⟩) (N - n) (N - n)), (37, .pointer (some ⟨g, n * 2 + 0 * 2, none⟩)), (38, .agg #[.int .i64 x, .int .i64 y]), (39, .agg #[.int .i64 x, .int .i64 y]), (40, .bool true), (41, .bool true), (42, .slice (some ⟨g, n * 2, none⟩) (N - n) (N - n)), (43, .pointer (some ⟨g, n * 2 + 1 * 2, none⟩)), (44, .agg #[.int .i64 x, .int .i64 y]), (45, .agg #[.int .i64 x, .int .i64 y]), (46, .bool true), (47, .bool true), (48, .bool true), (49, .slice (some ⟨g, n * 2, none⟩) (N - n) (N - n)), (50, .pointer (some ⟨g, n * 2 + 2 * 2, none⟩)), (51, .agg #[.int .i64 x, .int .i64 y]), (52, .agg #[.int .i64 x, .int .i64 y]), (53, .bool true), (54, .bool true), (6, .bool true)]
          [[8], [36], [37], [5], [38, 39], [40], [8, 41], [42, 41], [43, 41], [5, 41], [44, 45, 41], [41, 46], [47], [8, 48], [49, 48], [50, 48], [5, 48], [51, 52, 48], [48, 53], [54]] wr hmix rfl rfl (show ([36, 37, 38, 39, 40, 41, 42, 43, 44, 45, 46, 47, 48, 49, 50, 51, 52, 53, 54, 6] : List Nat).Nodup by decide) (by kernel_rfl) (by kernel_rfl) (by kernel_rfl) (by kernel_rfl) (fun i' hi' ac wc hbc hr Q K hK => by
          have h20 : i' = 0 ∨ i' = 1 ∨ i' = 2 ∨ i' = 3 ∨ i' = 4 ∨ i' = 5 ∨ i' = 6 ∨ i' = 7 ∨ i' = 8 ∨ i' = 9 ∨ i' = 10 ∨ i' = 11 ∨ i' = 12 ∨ i' = 13 ∨ i' = 14 ∨ i' = 15 ∨ i' = 16 ∨ i' = 17 ∨ i' = 18 ∨ i' = 19 := by omega
          have eb : wc.cell? ⟨gP, 0, none⟩ = some (.int .i64 x) ∧ wc.cell? ⟨gP, 0 + 1, none⟩ = some (.int .i64 y) := ⟨hc wc hbc _ _ r0, hc wc hbc _ _ r1⟩
          have e0 : wc.cell? ⟨g, n * 2 + 0 * 2, none⟩ = some (.int .i64 x) ∧ wc.cell? ⟨g, n * 2 + 0 * 2 + 1, none⟩ = some (.int .i64 y) := by rw [← Nat.add_mul]; exact ⟨hc wc hbc _ _ d0.1, hc wc hbc _ _ d0.2⟩
          have e1 : wc.cell? ⟨g, n * 2 + 1 * 2, none⟩ = some (.int .i64 x) ∧ wc.cell? ⟨g, n * 2 + 1 * 2 + 1, none⟩ = some (.int .i64 y) := by rw [← Nat.add_mul]; exact ⟨hc wc hbc _ _ d1.1, hc wc hbc _ _ d1.2⟩
          have e2 : wc.cell? ⟨g, n * 2 + 2 * 2, none⟩ = some (.int .i64 x) ∧ wc.cell? ⟨g, n * 2 + 2 * 2 + 1, none⟩ = some (.int .i64 y) := by rw [← Nat.add_mul]; exact ⟨hc wc hbc _ _ d2.1, hc wc hbc _ _ d2.2⟩
          rcases h20 with rfl | rfl | rfl | rfl | rfl | rfl | rfl | rfl | rfl | rfl | rfl | rfl | rfl | rfl | rfl | rfl | rfl | rfl | rfl | rfl
          · exact op_value rfl rfl (run_moveQ wc rfl (hr 8 (by decide))) (hK wc hbc)
          · exact op_value rfl rfl (run_idxM (j := 0) wc rfl (hr 36 (by decide)) rfl (by omega)) (hK wc hbc)
          · exact op_value rfl rfl (run_loadM (p := (x, y)) wc rfl (hr 37 (by decide)) e0) (hK wc hbc)
          · exact op_value rfl rfl (run_loadM (p := (x, y)) wc rfl (hr 5 (by decide)) eb) (hK wc hbc)
          · exact op_value rfl rfl (run_eqlT (p := (x, y)) wc rfl (hr 38 (by decide)) (hr 39 (by decide))) (hK wc hbc)
          · exact op_value rfl rfl (run_moveQ wc rfl (hr 40 (by decide))) (hK wc hbc)
          · exact op_valueG rfl rfl rfl rfl (hr 41 (by decide)) (run_moveQ wc rfl (hr 8 (by decide))) (hK wc hbc)
          · exact op_valueG rfl rfl rfl rfl (hr 41 (by decide)) (run_idxM (j := 1) wc rfl (hr 42 (by decide)) rfl (by omega)) (hK wc hbc)
          · exact op_valueG rfl rfl rfl rfl (hr 41 (by decide)) (run_loadM (p := (x, y)) wc rfl (hr 43 (by decide)) e1) (hK wc hbc)
          · exact op_valueG rfl rfl rfl rfl (hr 41 (by decide)) (run_loadM (p := (x, y)) wc rfl (hr 5 (by decide)) eb) (hK wc hbc)
          · exact op_valueG rfl rfl rfl rfl (hr 41 (by decide)) (run_eqlT (p := (x, y)) wc rfl (hr 44 (by decide)) (hr 45 (by decide))) (hK wc hbc)
          · exact op_value rfl rfl (run_pickQ wc rfl (hr 41 (by decide)) (hr 46 (by decide))) (hK wc hbc)
          · exact op_value rfl rfl (run_moveQ wc rfl (hr 47 (by decide))) (hK wc hbc)
          · exact op_valueG rfl rfl rfl rfl (hr 48 (by decide)) (run_moveQ wc rfl (hr 8 (by decide))) (hK wc hbc)
          · exact op_valueG rfl rfl rfl rfl (hr 48 (by decide)) (run_idxM (j := 2) wc rfl (hr 49 (by decide)) rfl (by omega)) (hK wc hbc)
          · exact op_valueG rfl rfl rfl rfl (hr 48 (by decide)) (run_loadM (p := (x, y)) wc rfl (hr 50 (by decide)) e2) (hK wc hbc)
          · exact op_valueG rfl rfl rfl rfl (hr 48 (by decide)) (run_loadM (p := (x, y)) wc rfl (hr 5 (by decide)) eb) (hK wc hbc)
          · exact op_valueG rfl rfl rfl rfl (hr 48 (by decide)) (run_eqlT (p := (x, y)) wc rfl (hr 51 (by decide)) (hr 52 (by decide))) (hK wc hbc)
          · exact op_value rfl rfl (run_pickQ wc rfl (hr 48 (by decide)) (hr 53 (by decide))) (hK wc hbc)
          · exact op_value rfl rfl (run_assignR wc rfl (hr 54 (by decide))) (hK wc hbc))) ?_
      rintro e a' w' ⟨rfl, rfl, hbw'⟩
      have hfin : Below w.heap.size w w' := hbw.trans (hbw'.mono hbw.size)
      dsimp only [setAll, List.set]
      clear hbw' hbel d0 d1 d2 r0 r1 hc
      go_wp2
      go_ret
      exact ⟨rfl, hfin⟩
end Go.Proofs.YtdndeegpbjlibadGreatDoor
