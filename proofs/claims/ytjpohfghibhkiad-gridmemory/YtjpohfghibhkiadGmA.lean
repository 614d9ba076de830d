import Derived.Test.YtjpohfghibhkiadGwL
import Derived.OwnWalk
import Derived.Deep.CutRange
namespace Go.Proofs.Ytjpohfghibhkiad
open Go.ChangeShapes Go.WideShapes Go.ChangeAt Go.RowKit

/-! spoilt, OF PLACES AND OF POINTS. -/

theorem Try.sizePl : (Try.prog.info? 39).map (·.size) = some 2 := by kernel_rfl
theorem keptNone {S : List Nat} {w w' : World} (h : w.grownBy w' none) : Kept S w w' := ⟨h.os, h.tape, h.output, h.size, fun k hk _ => h.block k hk (by simp)⟩
theorem six_new (x y : Int) (T : TypeId) (w : World) : ∀ j u, ([.int .i64 x, .int .i64 y, .int .i64 x, .int .i64 y, .int .i64 x, .int .i64 y] : List Value)[j]? = some u → (w.alloc (.cells #[.int .i64 x, .int .i64 y, .int .i64 x, .int .i64 y, .int .i64 x, .int .i64 y] T)).cell? ((⟨w.heap.size, 0, none⟩ : Addr).add j) = some u := fun j u hu => by
  rw [Addr.add_lit, cell_of_row _ _ _ _ _ _ (heap_alloc_new w _), Nat.zero_add]
  simpa using hu

theorem cell_grownM {w w' : World} {row : Option Nat} {p : Addr} {v : Value} (h : w.cell? p = some v) (hg : w.grownBy w' row) (hr : ∀ g, row = some g → p.block ≠ g) : w'.cell? p = some v := by
  have hb := hg.block p.block (World.block_lt_of_cell? w _ h) (fun e => hr _ e.symm rfl)
  rw [← h]
  exact World.cell?_of_block (w := w) hb

theorem own_block2 {w : World} {B : Nat} {e : TypeId} {v : Value} {n : Nat} {xs : List Value} (h : w.ownsRow B e 2 v n xs) : v = .slice none 0 0 ∨ ∃ g cap cur, v = .slice (some ⟨g, 0, none⟩) n cap ∧ B ≤ g ∧ w.heap[g]? = some (.cells cur e (0, 0)) ∧ n ≤ cap ∧ cap ≤ maxLen ∧ cur.size = cap * 2 := by
  rcases h.2 with ⟨e1, _⟩ | ⟨g, cap, cur, h1, h2, h3, h4, h5, h6, _⟩
  · exact .inl e1
  · exact .inr ⟨g, cap, cur, h1, h2, h3, h4, h5, h6⟩
theorem own_of_block2 {w : World} {B : Nat} {e : TypeId} {g n cap : Nat} {cur : Array Value} (hB : B ≤ g) (h : w.heap[g]? = some (.cells cur e (0, 0))) (hn : n ≤ cap) (hm : cap ≤ maxLen) (hs : cur.size = cap * 2) : w.ownsRow B e 2 (.slice (some ⟨g, 0, none⟩) n cap) n (cur.toList.take (n * 2)) :=
  ⟨by simp; omega, .inr ⟨g, cap, cur, rfl, hB, h, hn, hm, hs, rfl⟩⟩
theorem there_block2 {w : World} {e : TypeId} {g i cap : Nat} {cur : Array Value} (h : w.heap[g]? = some (.cells cur e (0, 0))) (hs : cur.size = cap * 2) (hi : i < cap) : w.there g (i * 2) 2 := fun j hj => by
  refine ⟨?_, frozen_of_row w g _ _ _ h⟩
  rw [cell_of_row _ _ _ _ _ _ h]
  simp
  omega
theorem set_block2 {w : World} {e : TypeId} {g i cap : Nat} {cur : Array Value} (u v : Value) (h : w.heap[g]? = some (.cells cur e (0, 0))) (hs : cur.size = cap * 2) : ∃ cur', (w.setCells g (i * 2) [u, v]).heap[g]? = some (.cells cur' e (0, 0)) ∧ cur'.size = cap * 2 := by
  have h1 := heap_setCell_same w g (i * 2) _ _ u h
  have h2 := heap_setCell_same _ g (i * 2 + 1) _ _ v h1
  exact ⟨_, h2, by simp [hs]⟩

set_option maxRecDepth 100000 in
set_option maxHeartbeats 1000000 in
theorem spoiltP (x y : Int) (v : Value) (n : Nat) (ys : List Value) (B : Nat) (S : List Nat) (w : World) (hown : w.ownsRow B 47 2 v n ys) (hB : B ≤ w.heap.size) (hS : ∀ k, v.ownBlock = some k → k ∈ S) (hz : n ≤ 1000000) :
    Calls Try.prog 18 #[v, .agg #[.int .i64 x, .int .i64 y]] w fun e w' => e = .returned (.tuple #[]) ∧ Kept S w w' := by
  obtain ⟨i0, hi, hz0, hz1, hz2⟩ := info_parts Try.infoQ
  have hb0 : Kept S w (w.alloc (.cells #[.int .i64 x, .int .i64 y] 47)) := (Kept.refl _ w).alloc _
  have q0 : (w.alloc (.cells #[.int .i64 x, .int .i64 y] 47)).cell? ⟨w.heap.size, 0, none⟩ = some (.int .i64 x) := by rw [cell_of_row _ _ _ _ _ _ (heap_alloc_new w _)]; rfl
  have q1 : (w.alloc (.cells #[.int .i64 x, .int .i64 y] 47)).cell? ⟨w.heap.size, 1, none⟩ = some (.int .i64 y) := by rw [cell_of_row _ _ _ _ _ _ (heap_alloc_new w _)]; rfl
  rcases own_block2 hown with rfl | ⟨g, cap, cur, rfl, hg, hblk, hnc, hcm, hcs⟩
  · clear hown
    go_enter Try.func18, Try.ntmps18
    go_wp2
    generalize w.alloc (.cells #[.int .i64 x, .int .i64 y] 47) = wb at *
    go_loopw [12] (fun q wr => q = .int .i64 0 ∧ wr = wb) (fun _ _ => 0)
    case atStart => exact ⟨rfl, rfl⟩
    case round =>
      obtain ⟨rfl, rfl⟩ := hrel
      have hown' := World.ownsRow.alloc (World.ownsRow_nil wr B 47 2) (.cells #[.int .i64 x, .int .i64 y, .int .i64 x, .int .i64 y, .int .i64 x, .int .i64 y] 47)
      have HC3 := hid (six_new x y 47 wr)
      have hBr : B ≤ wr.heap.size := Nat.le_trans hB hb0.size
      have hb1 := hb0.alloc (.cells #[.int .i64 x, .int .i64 y, .int .i64 x, .int .i64 y, .int .i64 x, .int .i64 y] 47)
      go_wp2_with (first
        | (at_builtin; refine wpList_append_own _ rfl _ _ 34 rfl B 47 i0 (.agg #[.int .i64 0, .int .i64 0]) 2 16 Try.underlying34 hi hz0 hz1 hz2 rfl (by decide) (.slice none 0 0) 0 [] rfl hown' ⟨wr.heap.size, 0, none⟩ 3 3 [.int .i64 x, .int .i64 y, .int .i64 x, .int .i64 y, .int .i64 x, .int .i64 y] rfl rfl HC3.out (cellsQ_one [(x, y), (x, y), (x, y)]) (by unfold maxLen; omega) (by omega) (by simp; omega) ?_))
      intro v' w' _ hg' _
      have hb2 := hb1.trans (keptNone hg')
      go_wp2
      go_end0
      exact ⟨rfl, hb2⟩
  · have hcm' : cap ≤ 9223372036854775807 := by unfold maxLen at hcm; omega
    have hgS : g ∈ S := hS g rfl
    have hgw : g < w.heap.size := (Array.getElem?_eq_some_iff.1 hblk).1
    have hblkb : (w.alloc (.cells #[.int .i64 x, .int .i64 y] 47)).heap[g]? = some (.cells cur 47 (0, 0)) := (Below.heap_alloc _ _ _ hgw).trans hblk
    clear hown hblk
    go_enter Try.func18, Try.ntmps18
    go_wp2
    generalize w.alloc (.cells #[.int .i64 x, .int .i64 y] 47) = wb at *
    obtain ⟨gP, eP⟩ : ∃ gP, gP = w.heap.size := ⟨_, rfl⟩
    rw [← eP] at q0 q1 hgw
    rw [← eP]
    clear eP
    go_loopw [12] (fun q wr => ∃ (i : Nat) (cur' : Array Value), i ≤ cap ∧ q = .int .i64 i ∧ wr.heap[g]? = some (.cells cur' 47 (0, 0)) ∧ Hid (cur'.size = cap * 2) ∧ Kept [g] wb wr) (fun q _ => cap - (intOf q).toNat)
    case atStart => exact ⟨0, cur, Nat.zero_le _, rfl, hblkb, hcs, Kept.refl _ _⟩
    case round =>
      obtain ⟨i, cur', hi', rfl, hb', HCS, hkept⟩ := hrel
      have r0 := hkept.cellG q0 (by simp; omega)
      have r1 := hkept.cellG q1 (by simp; omega)
      by_cases hlt : i < cap
      · have ht := hid (there_block2 hb' HCS.out hlt)
        obtain ⟨cur2, hset, hsz2⟩ := set_block2 (i := i) (.int .i64 x) (.int .i64 y) hb' HCS.out
        have hkept' : Kept [g] wb (wr.setCells g (i * 2) [.int .i64 x, .int .i64 y]) := (hkept.setCell (p := ⟨g, i * 2, none⟩) (by simp) _).setCell (p := ⟨g, i * 2 + 1, none⟩) (by simp) _
        have HS2 := hid hsz2
        clear hb' hkept hsz2
        go_wp2_with (refine wpList_store_mid rfl 47 _ _ rfl g (i * 2) #[.int .i64 x, .int .i64 y] rfl rfl ht.out Try.sizeQ (by simp; exact ⟨rfl, rfl⟩) ?_)
        generalize wr.setCells g (i * 2) [.int .i64 x, .int .i64 y] = w2 at *
        go_wp2
        go_roundw
        case rel => exact ⟨i + 1, _, by omega, by go_num, hset, HS2, hkept'⟩
        case measure => simp [intOf]; omega
      · have hown := own_of_block2 (n := n) hg hb' hnc hcm HCS.out
        have hown' := World.ownsRow.alloc hown (.cells #[.int .i64 x, .int .i64 y, .int .i64 x, .int .i64 y, .int .i64 x, .int .i64 y] 47)
        have hbr : Kept S w wr := hb0.trans (hkept.wider (by simpa using hgS))
        have hBr : B ≤ wr.heap.size := Nat.le_trans hB hbr.size
        have hb1 := hbr.alloc (.cells #[.int .i64 x, .int .i64 y, .int .i64 x, .int .i64 y, .int .i64 x, .int .i64 y] 47)
        have HC3 := hid (six_new x y 47 wr)
        obtain ⟨xs, exs⟩ : ∃ xs, xs = cur'.toList.take (n * 2) := ⟨_, rfl⟩
        rw [← exs] at hown'
        clear exs hown hb' hkept hi'
        go_wp2_with (first
          | (at_builtin; refine wpList_append_own _ rfl _ _ 34 rfl B 47 i0 (.agg #[.int .i64 0, .int .i64 0]) 2 16 Try.underlying34 hi hz0 hz1 hz2 rfl (by decide) (.slice (some ⟨g, 0, none⟩) n cap) n xs rfl hown' ⟨wr.heap.size, 0, none⟩ 3 3 [.int .i64 x, .int .i64 y, .int .i64 x, .int .i64 y, .int .i64 x, .int .i64 y] rfl rfl HC3.out (cellsQ_one [(x, y), (x, y), (x, y)]) (by unfold maxLen; omega) (by omega) (by simp; omega) ?_))
        intro v' w' _ hg' _
        have hb2 := hb1.trans ((kept_grownG hg').wider (by simpa using hgS))
        go_wp2
        go_end0
        exact ⟨rfl, hb2⟩

set_option maxRecDepth 100000 in
set_option maxHeartbeats 1000000 in
theorem spoiltL (x y : Int) (v : Value) (n : Nat) (ys : List Value) (B : Nat) (S : List Nat) (w : World) (hown : w.ownsRow B 39 2 v n ys) (hB : B ≤ w.heap.size) (hS : ∀ k, v.ownBlock = some k → k ∈ S) (hz : n ≤ 1000000) :
    Calls Try.prog 17 #[v, .agg #[.int .i64 x, .int .i64 y]] w fun e w' => e = .returned (.tuple #[]) ∧ Kept S w w' := by
  obtain ⟨i0, hi, hz0, hz1, hz2⟩ := info_parts Try.infoPl
  have hb0 : Kept S w (w.alloc (.cells #[.int .i64 x, .int .i64 y] 39)) := (Kept.refl _ w).alloc _
  have q0 : (w.alloc (.cells #[.int .i64 x, .int .i64 y] 39)).cell? ⟨w.heap.size, 0, none⟩ = some (.int .i64 x) := by rw [cell_of_row _ _ _ _ _ _ (heap_alloc_new w _)]; rfl
  have q1 : (w.alloc (.cells #[.int .i64 x, .int .i64 y] 39)).cell? ⟨w.heap.size, 1, none⟩ = some (.int .i64 y) := by rw [cell_of_row _ _ _ _ _ _ (heap_alloc_new w _)]; rfl
  rcases own_block2 hown with rfl | ⟨g, cap, cur, rfl, hg, hblk, hnc, hcm, hcs⟩
  · clear hown
    go_enter Try.func17, Try.ntmps17
    go_wp2
    generalize w.alloc (.cells #[.int .i64 x, .int .i64 y] 39) = wb at *
    go_loopw [12] (fun q wr => q = .int .i64 0 ∧ wr = wb) (fun _ _ => 0)
    case atStart => exact ⟨rfl, rfl⟩
    case round =>
      obtain ⟨rfl, rfl⟩ := hrel
      have hown' := World.ownsRow.alloc (World.ownsRow_nil wr B 39 2) (.cells #[.int .i64 x, .int .i64 y, .int .i64 x, .int .i64 y, .int .i64 x, .int .i64 y] 39)
      have HC3 := hid (six_new x y 39 wr)
      have hBr : B ≤ wr.heap.size := Nat.le_trans hB hb0.size
      have hb1 := hb0.alloc (.cells #[.int .i64 x, .int .i64 y, .int .i64 x, .int .i64 y, .int .i64 x, .int .i64 y] 39)
      go_wp2_with (first
        | (at_builtin; refine wpList_append_own _ rfl _ _ 29 rfl B 39 i0 (.agg #[.int .i64 0, .int .i64 0]) 2 16 Try.underlying29 hi hz0 hz1 hz2 rfl (by decide) (.slice none 0 0) 0 [] rfl hown' ⟨wr.heap.size, 0, none⟩ 3 3 [.int .i64 x, .int .i64 y, .int .i64 x, .int .i64 y, .int .i64 x, .int .i64 y] rfl rfl HC3.out (cellsQ_one [(x, y), (x, y), (x, y)]) (by unfold maxLen; omega) (by omega) (by simp; omega) ?_))
      intro v' w' _ hg' _
      have hb2 := hb1.trans (keptNone hg')
      go_wp2
      go_end0
      exact ⟨rfl, hb2⟩
  · have hcm' : cap ≤ 9223372036854775807 := by unfold maxLen at hcm; omega
    have hgS : g ∈ S := hS g rfl
    have hgw : g < w.heap.size := (Array.getElem?_eq_some_iff.1 hblk).1
    have hblkb : (w.alloc (.cells #[.int .i64 x, .int .i64 y] 39)).heap[g]? = some (.cells cur 39 (0, 0)) := (Below.heap_alloc _ _ _ hgw).trans hblk
    clear hown hblk
    go_enter Try.func17, Try.ntmps17
    go_wp2
    generalize w.alloc (.cells #[.int .i64 x, .int .i64 y] 39) = wb at *
    obtain ⟨gP, eP⟩ : ∃ gP, gP = w.heap.size := ⟨_, rfl⟩
    rw [← eP] at q0 q1 hgw
    rw [← eP]
    clear eP
    go_loopw [12] (fun q wr => ∃ (i : Nat) (cur' : Array Value), i ≤ cap ∧ q = .int .i64 i ∧ wr.heap[g]? = some (.cells cur' 39 (0, 0)) ∧ Hid (cur'.size = cap * 2) ∧ Kept [g] wb wr) (fun q _ => cap - (intOf q).toNat)
    case atStart => exact ⟨0, cur, Nat.zero_le _, rfl, hblkb, hcs, Kept.refl _ _⟩
    case round =>
      obtain ⟨i, cur', hi', rfl, hb', HCS, hkept⟩ := hrel
      have r0 := hkept.cellG q0 (by simp; omega)
      have r1 := hkept.cellG q1 (by simp; omega)
      by_cases hlt : i < cap
      · have ht := hid (there_block2 hb' HCS.out hlt)
        obtain ⟨cur2, hset, hsz2⟩ := set_block2 (i := i) (.int .i64 x) (.int .i64 y) hb' HCS.out
        have hkept' : Kept [g] wb (wr.setCells g (i * 2) [.int .i64 x, .int .i64 y]) := (hkept.setCell (p := ⟨g, i * 2, none⟩) (by simp) _).setCell (p := ⟨g, i * 2 + 1, none⟩) (by simp) _
        have HS2 := hid hsz2
        clear hb' hkept hsz2
        go_wp2_with (refine wpList_store_mid rfl 39 _ _ rfl g (i * 2) #[.int .i64 x, .int .i64 y] rfl rfl ht.out Try.sizePl (by simp; exact ⟨rfl, rfl⟩) ?_)
        generalize wr.setCells g (i * 2) [.int .i64 x, .int .i64 y] = w2 at *
        go_wp2
        go_roundw
        case rel => exact ⟨i + 1, _, by omega, by go_num, hset, HS2, hkept'⟩
        case measure => simp [intOf]; omega
      · have hown := own_of_block2 (n := n) hg hb' hnc hcm HCS.out
        have hown' := World.ownsRow.alloc hown (.cells #[.int .i64 x, .int .i64 y, .int .i64 x, .int .i64 y, .int .i64 x, .int .i64 y] 39)
        have hbr : Kept S w wr := hb0.trans (hkept.wider (by simpa using hgS))
        have hBr : B ≤ wr.heap.size := Nat.le_trans hB hbr.size
        have hb1 := hbr.alloc (.cells #[.int .i64 x, .int .i64 y, .int .i64 x, .int .i64 y, .int .i64 x, .int .i64 y] 39)
        have HC3 := hid (six_new x y 39 wr)
        obtain ⟨xs, exs⟩ : ∃ xs, xs = cur'.toList.take (n * 2) := ⟨_, rfl⟩
        rw [← exs] at hown'
        clear exs hown hb' hkept hi'
        go_wp2_with (first
          | (at_builtin; refine wpList_append_own _ rfl _ _ 29 rfl B 39 i0 (.agg #[.int .i64 0, .int .i64 0]) 2 16 Try.underlying29 hi hz0 hz1 hz2 rfl (by decide) (.slice (some ⟨g, 0, none⟩) n cap) n xs rfl hown' ⟨wr.heap.size, 0, none⟩ 3 3 [.int .i64 x, .int .i64 y, .int .i64 x, .int .i64 y, .int .i64 x, .int .i64 y] rfl rfl HC3.out (cellsQ_one [(x, y), (x, y), (x, y)]) (by unfold maxLen; omega) (by omega) (by simp; omega) ?_))
        intro v' w' _ hg' _
        have hb2 := hb1.trans ((kept_grownG hg').wider (by simpa using hgS))
        go_wp2
        go_end0
        exact ⟨rfl, hb2⟩

end Go.Proofs.Ytjpohfghibhkiad
