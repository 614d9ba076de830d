import Derived.Test.YtcnkcbipkchoiagU37
import Derived.Test.YtcnkcbipkchoiagU43
import Derived.Test.YtcnkcbipkchoiagU47
namespace Go.Proofs.Ytcnkcbipkchoiag
open Go.ChangeShapes Go.WideShapes Go.ChangeAt Go.RowKit
theorem Try.infoDPk : (Try.prog.info? 43).map (fun i => (i.zero, i.size, i.bytes)) = some (some (.agg #[.int .i64 0, .string { data := #[] }, .string { data := #[] }]), 3, 40) := by kernel_rfl
def cellsDPk (l : List PktM) : List Value := l.flatMap fun s => [.int .i64 s.short, .string s.data, .string s.sl]
theorem cellsDPk_cons (s : PktM) (l : List PktM) : cellsDPk (s :: l) = .int .i64 s.short :: .string s.data :: .string s.sl :: cellsDPk l := rfl
theorem cellsDPk_at (l : List PktM) : ∀ i, i < l.length → (cellsDPk l)[i * 3]? = some (.int .i64 (l.getD i .zero).short) ∧ (cellsDPk l)[i * 3 + 1]? = some (.string (l.getD i .zero).data) ∧ (cellsDPk l)[i * 3 + 2]? = some (.string (l.getD i .zero).sl) := by
  induction l with
  | nil => intro i hi; simp at hi
  | cons p l ih =>
    intro i hi
    rw [cellsDPk_cons]
    cases i with
    | zero => simp [List.getD]
    | succ i =>
      have h := ih i (by simpa using hi)
      have e : (p :: l).getD (i + 1) .zero = l.getD i .zero := by simp [List.getD]
      rw [e, show (i + 1) * 3 = i * 3 + 1 + 1 + 1 by omega, show i * 3 + 1 + 1 + 1 + 1 = (i * 3 + 1) + 1 + 1 + 1 by omega, show i * 3 + 1 + 1 + 1 + 2 = (i * 3 + 2) + 1 + 1 + 1 by omega]
      simp only [List.getElem?_cons_succ]
      exact h
theorem cellsDPk_one (l : List PktM) : ∀ u ∈ cellsDPk l, u.oneCell' = true := by
  intro u hu
  unfold cellsDPk at hu
  rw [List.mem_flatMap] at hu
  obtain ⟨p, _, hp⟩ := hu
  simp at hp
  rcases hp with rfl | rfl | rfl <;> rfl
/-- They fill a block. -/
def ArrDPk (w : World) (g : Nat) (l : List PktM) : Prop := w.heap[g]? = some (.cells (cellsDPk l).toArray 43 (0, 0))
theorem ArrDPk.lt {w : World} {g : Nat} {l : List PktM} (h : ArrDPk w g l) : g < w.heap.size := (Array.getElem?_eq_some_iff.1 h).1
theorem ArrDPk.below {w w' : World} {g B : Nat} {l : List PktM} (h : ArrDPk w g l) (hb : Below B w w') (hg : g < B) : ArrDPk w' g l := (hb.block g hg).trans h
theorem ArrDPk.kept {w w' : World} {g : Nat} {S : List Nat} {l : List PktM} (h : ArrDPk w g l) (hk : Kept S w w') (hg : g ∉ S) : ArrDPk w' g l := (hk.block g h.lt hg).trans h
/-- One of them lies there. -/
def AtDPk (w : World) (b o : Nat) (s : PktM) : Prop := w.cell? ⟨b, o, none⟩ = some (.int .i64 s.short) ∧ w.cell? ⟨b, o + 1, none⟩ = some (.string s.data) ∧ w.cell? ⟨b, o + 2, none⟩ = some (.string s.sl)
theorem AtDPk.below {w w' : World} {b o : Nat} {s : PktM} (h : AtDPk w b o s) (hb : Below w.heap.size w w') : AtDPk w' b o s := by
  have h' : ∀ q v, w.cell? q = some v → w'.cell? q = some v := fun q v hc => (hb.cell (World.block_lt_of_cell? w _ hc)).trans hc
  exact ⟨h' _ _ h.1, h' _ _ h.2.1, h' _ _ h.2.2⟩
theorem ArrDPk.cells {w : World} {g : Nat} {l : List PktM} (h : ArrDPk w g l) {i : Nat} (hi : i < l.length) : AtDPk w g (i * 3) (l.getD i .zero) := by
  have hc := cellsDPk_at l i hi
  unfold AtDPk
  rw [cell_of_row w g _ _ _ (0, 0) h, cell_of_row w g _ _ _ (0, 0) h, cell_of_row w g _ _ _ (0, 0) h]
  simpa using hc
/-- The first ones of them, as a reader sees them. -/
theorem ArrDPk.rd {w : World} {g : Nat} {l xs : List PktM} (h : ArrDPk w g (l ++ xs)) : Pks w (some ⟨g, 0, none⟩) l := by
  intro _
  refine ⟨g, 0, rfl, fun i hi => ?_⟩
  have e : (l ++ xs).getD i .zero = l.getD i .zero := by simp only [List.getD, List.getElem?_append_left hi]
  have := h.cells (i := i) (by simp; omega)
  rw [e] at this
  rw [Nat.zero_add]
  exact this
set_option maxRecDepth 100000 in
set_option maxHeartbeats 1000000 in
theorem spoiltDPk (m : PktM) (v : Value) (n : Nat) (ys : List Value) (B : Nat) (S : List Nat) (w : World) (hown : w.ownsRow B 43 3 v n ys) (hB : B ≤ w.heap.size) (hS : ∀ k, v.ownBlock = some k → k ∈ S) (hz : n ≤ 3518437208780) :
    Calls Try.prog 47 #[v, .agg #[.int .i64 m.short, .string m.data, .string m.sl]] w fun e w' => e = .returned (.tuple #[]) ∧ Kept S w w' := by
  obtain ⟨i0, hi, hz0, hz1, hz2⟩ := info_parts Try.infoDPk
  have hb0 : Kept S w (w.alloc (.cells #[.int .i64 m.short, .string m.data, .string m.sl] 43)) := (Kept.refl _ w).alloc _
  have q0 : (w.alloc (.cells #[.int .i64 m.short, .string m.data, .string m.sl] 43)).cell? ⟨w.heap.size, 0, none⟩ = some (.int .i64 m.short) := by rw [cell_of_row _ _ _ _ _ _ (heap_alloc_new w _)]; rfl
  have q1 : (w.alloc (.cells #[.int .i64 m.short, .string m.data, .string m.sl] 43)).cell? ⟨w.heap.size, 1, none⟩ = some (.string m.data) := by rw [cell_of_row _ _ _ _ _ _ (heap_alloc_new w _)]; rfl
  have q2 : (w.alloc (.cells #[.int .i64 m.short, .string m.data, .string m.sl] 43)).cell? ⟨w.heap.size, 2, none⟩ = some (.string m.sl) := by rw [cell_of_row _ _ _ _ _ _ (heap_alloc_new w _)]; rfl
  rcases own_blockD hown with rfl | ⟨g, cap, cur, rfl, hg, hblk, hnc, hcm, hcs⟩
  · clear hown
    go_enter Try.func47, Try.ntmps47
    go_wp2
    generalize w.alloc (.cells #[.int .i64 m.short, .string m.data, .string m.sl] 43) = wb at *
    go_loopw [12] (fun q wr => q = .int .i64 0 ∧ wr = wb) (fun _ _ => 0)
    case atStart => exact ⟨rfl, rfl⟩
    case round =>
      obtain ⟨rfl, rfl⟩ := hrel
      have hown' := World.ownsRow.alloc (World.ownsRow_nil wr B 43 3) (.cells #[.int .i64 m.short, .string m.data, .string m.sl, .int .i64 m.short, .string m.data, .string m.sl, .int .i64 m.short, .string m.data, .string m.sl] 43)
      have HC3 := hid (marks_newD [.int .i64 m.short, .string m.data, .string m.sl, .int .i64 m.short, .string m.data, .string m.sl, .int .i64 m.short, .string m.data, .string m.sl] 43 wr)
      have hBr : B ≤ wr.heap.size := Nat.le_trans hB hb0.size
      have hb1 := hb0.alloc (.cells #[.int .i64 m.short, .string m.data, .string m.sl, .int .i64 m.short, .string m.data, .string m.sl, .int .i64 m.short, .string m.data, .string m.sl] 43)
      go_wp2_with (first
        | (at_builtin; refine wpList_append_own _ rfl _ _ 39 rfl B 43 i0 (.agg #[.int .i64 0, .string { data := #[] }, .string { data := #[] }]) 3 40 Try.underlying39 hi hz0 hz1 hz2 rfl (by decide) (.slice none 0 0) 0 [] rfl hown' ⟨wr.heap.size, 0, none⟩ 3 3 [.int .i64 m.short, .string m.data, .string m.sl, .int .i64 m.short, .string m.data, .string m.sl, .int .i64 m.short, .string m.data, .string m.sl] rfl rfl HC3.out (cellsDPk_one [m, m, m]) (by unfold maxLen; omega) (by omega) (by simp; omega) ?_))
      intro v' w' _ hg' _
      have hb2 := hb1.trans (keptNoneD hg')
      go_wp2
      go_end0
      exact ⟨rfl, hb2⟩
  · have hcm' : cap ≤ 9223372036854775807 := by unfold maxLen at hcm; omega
    have hgS : g ∈ S := hS g rfl
    have hgw : g < w.heap.size := (Array.getElem?_eq_some_iff.1 hblk).1
    have hblkb : (w.alloc (.cells #[.int .i64 m.short, .string m.data, .string m.sl] 43)).heap[g]? = some (.cells cur 43 (0, 0)) := (Below.heap_alloc _ _ _ hgw).trans hblk
    clear hown hblk
    go_enter Try.func47, Try.ntmps47
    go_wp2
    generalize w.alloc (.cells #[.int .i64 m.short, .string m.data, .string m.sl] 43) = wb at *
    obtain ⟨gP, eP⟩ : ∃ gP, gP = w.heap.size := ⟨_, rfl⟩
    rw [← eP] at q0 q1 q2 hgw
    rw [← eP]
    clear eP
    go_loopw [12] (fun q wr => ∃ (i : Nat) (cur' : Array Value), i ≤ cap ∧ q = .int .i64 i ∧ wr.heap[g]? = some (.cells cur' 43 (0, 0)) ∧ Hid (cur'.size = cap * 3) ∧ Kept [g] wb wr) (fun q _ => cap - (intOf q).toNat)
    case atStart => exact ⟨0, cur, Nat.zero_le _, rfl, hblkb, hcs, Kept.refl _ _⟩
    case round =>
      obtain ⟨i, cur', hi', rfl, hb', HCS, hkept⟩ := hrel
      have r0 := hkept.cellD q0 (by simp; omega)
      have r1 := hkept.cellD q1 (by simp; omega)
      have r2 := hkept.cellD q2 (by simp; omega)
      by_cases hlt : i < cap
      · have ht := hid (there_blockD hb' HCS.out hlt)
        obtain ⟨cur2, hset, hsz2⟩ := set_cellsD [.int .i64 m.short, .string m.data, .string m.sl] (i * 3) wr cur' hb'
        have hkept' : Kept [g] wb (wr.setCells g (i * 3) [.int .i64 m.short, .string m.data, .string m.sl]) := Kept.setCellsD (by simp) _ _ hkept
        have HS2 : Hid (cur2.size = cap * 3) := hsz2.trans HCS.out
        obtain ⟨⟨x0, hx0⟩, hf0⟩ : (∃ x, wr.cell? ⟨g, i * 3, none⟩ = some x) ∧ wr.frozen? ⟨g, i * 3, none⟩ = false := ⟨Option.isSome_iff_exists.1 (ht.out 0 (by omega)).1, (ht.out 0 (by omega)).2⟩
        obtain ⟨⟨x1, hx1⟩, hf1⟩ : (∃ x, wr.cell? ⟨g, i * 3 + 1, none⟩ = some x) ∧ wr.frozen? ⟨g, i * 3 + 1, none⟩ = false := ⟨Option.isSome_iff_exists.1 (ht.out 1 (by omega)).1, (ht.out 1 (by omega)).2⟩
        obtain ⟨⟨x2, hx2⟩, hf2⟩ : (∃ x, wr.cell? ⟨g, i * 3 + 2, none⟩ = some x) ∧ wr.frozen? ⟨g, i * 3 + 2, none⟩ = false := ⟨Option.isSome_iff_exists.1 (ht.out 2 (by omega)).1, (ht.out 2 (by omega)).2⟩
        have HSET := hid hset
        have HKP := hid hkept'
        clear hb' hkept hsz2 hset hkept'
        go_wp2
        go_roundw
        case rel => exact ⟨i + 1, _, by omega, by go_num, HSET.out, HS2, HKP.out⟩
        case measure => simp [intOf]; omega
      · have hown := own_of_blockD (n := n) hg hb' hnc hcm HCS.out
        have hown' := World.ownsRow.alloc hown (.cells #[.int .i64 m.short, .string m.data, .string m.sl, .int .i64 m.short, .string m.data, .string m.sl, .int .i64 m.short, .string m.data, .string m.sl] 43)
        have hbr : Kept S w wr := hb0.trans (hkept.wider (by simpa using hgS))
        have hBr : B ≤ wr.heap.size := Nat.le_trans hB hbr.size
        have hb1 := hbr.alloc (.cells #[.int .i64 m.short, .string m.data, .string m.sl, .int .i64 m.short, .string m.data, .string m.sl, .int .i64 m.short, .string m.data, .string m.sl] 43)
        have HC3 := hid (marks_newD [.int .i64 m.short, .string m.data, .string m.sl, .int .i64 m.short, .string m.data, .string m.sl, .int .i64 m.short, .string m.data, .string m.sl] 43 wr)
        obtain ⟨xs, exs⟩ : ∃ xs, xs = cur'.toList.take (n * 3) := ⟨_, rfl⟩
        rw [← exs] at hown'
        clear exs hown hb' hkept hi'
        go_wp2_with (first
          | (at_builtin; refine wpList_append_own _ rfl _ _ 39 rfl B 43 i0 (.agg #[.int .i64 0, .string { data := #[] }, .string { data := #[] }]) 3 40 Try.underlying39 hi hz0 hz1 hz2 rfl (by decide) (.slice (some ⟨g, 0, none⟩) n cap) n xs rfl hown' ⟨wr.heap.size, 0, none⟩ 3 3 [.int .i64 m.short, .string m.data, .string m.sl, .int .i64 m.short, .string m.data, .string m.sl, .int .i64 m.short, .string m.data, .string m.sl] rfl rfl HC3.out (cellsDPk_one [m, m, m]) (by unfold maxLen; omega) (by omega) (by simp; omega) ?_))
        intro v' w' _ hg' _
        have hb2 := hb1.trans ((kept_grownD hg').wider (by simpa using hgS))
        go_wp2
        go_end0
        exact ⟨rfl, hb2⟩
end Go.Proofs.Ytcnkcbipkchoiag
namespace Go.Proofs.Ytcnkcbipkchoiag
open Go.ChangeShapes Go.WideShapes Go.ChangeAt Go.RowKit
set_option maxHeartbeats 1000000 in
theorem spoiltKI (m : Int) (v : Value) (L : List Int) (B : Nat) (S : List Nat) (w : World) (hown : OwnI w B v L) (hB : B ≤ w.heap.size) (hS : ∀ k, v.ownBlock = some k → k ∈ S) (hz : L.length ≤ 17592186043904) :
    Calls Try.prog 49 #[v, .int .i64 m] w fun e w' => e = .returned (.tuple #[]) ∧ Kept S w w' := by
  obtain ⟨i0, hi, hz0, hz1, hz2⟩ := info_parts Try.info3
  rcases own_block hown with rfl | ⟨g, cap, cur, rfl, hg, hblk, hnc, hcm, hcs⟩
  · have hown' := World.ownsRow.alloc (World.ownsRow_nil w B 3 1) (.cells #[.int .i64 m, .int .i64 m, .int .i64 m] 3)
    have hc3 : ∀ j u, ([.int .i64 m, .int .i64 m, .int .i64 m] : List Value)[j]? = some u → (w.alloc (.cells #[.int .i64 m, .int .i64 m, .int .i64 m] 3)).cell? ((⟨w.heap.size, 0, none⟩ : Addr).add j) = some u := fun j u hu => by
      rw [Addr.add_lit, cell_of_row _ _ _ _ _ _ (heap_alloc_new w _), Nat.zero_add]
      simpa using hu
    have hb1 := (Kept.refl S w).alloc (.cells #[.int .i64 m, .int .i64 m, .int .i64 m] 3)
    have HC3 := hid hc3
    clear hown hc3
    go_enter Try.func49, Try.ntmps49
    go_wp2
    go_loopw [12] (fun q wr => q = .int .i64 0 ∧ wr = w) (fun _ _ => 0)
    case atStart => exact ⟨rfl, rfl⟩
    case round =>
      obtain ⟨rfl, rfl⟩ := hrel
      go_wp2_with (first
        | (at_builtin; refine wpList_append_own _ rfl _ _ 36 rfl B 3 i0 (.int .i64 0) 1 8 Try.underlying36 hi hz0 hz1 hz2 rfl (by decide) (.slice none 0 0) 0 [] rfl hown' ⟨wr.heap.size, 0, none⟩ 3 3 [.int .i64 m, .int .i64 m, .int .i64 m] rfl rfl HC3.out (fun u hu => by simp at hu; subst hu; rfl) (by unfold maxLen; omega) (by omega) (by simp; omega) ?_))
      intro v' w' _ hg' _
      have hb2 := hb1.trans (keptNoneD hg')
      go_wp2
      go_end0
      exact ⟨rfl, hb2⟩
  · have hcm' : cap ≤ 9223372036854775807 := by unfold maxLen at hcm; omega
    have hgS : g ∈ S := hS g rfl
    obtain ⟨n, en⟩ : ∃ n, n = L.length := ⟨_, rfl⟩
    rw [← en] at hz hnc
    rw [← en]
    clear hown en
    go_enter Try.func49, Try.ntmps49
    go_wp2
    go_loopw [12] (fun q wr => ∃ (i : Nat) (cur' : Array Value), i ≤ cap ∧ q = .int .i64 i ∧ wr.heap[g]? = some (.cells cur' 3 (0, 0)) ∧ Hid (cur'.size = cap) ∧ Kept [g] w wr) (fun q _ => cap - (intOf q).toNat)
    case atStart => exact ⟨0, cur, Nat.zero_le _, rfl, hblk, hcs, Kept.refl _ _⟩
    case round =>
      obtain ⟨i, cur', hi', rfl, hb', HCS, hkept⟩ := hrel
      by_cases hlt : i < cap
      · have hc : wr.cell? ⟨g, i, none⟩ = some (cur'[i]'(by rw [HCS.out]; exact hlt)) := by
          rw [cell_of_row _ _ _ _ _ _ hb']
          simp [HCS.out, hlt]
        have hf := frozen_of_row wr g i _ _ hb'
        generalize cur'[i]'(by rw [HCS.out]; exact hlt) = x at hc
        have hset := heap_setCell_same wr g i _ _ (.int .i64 m) hb'
        have hkept' := hkept.setCell (p := ⟨g, i, none⟩) (by simp) (.int .i64 m)
        clear hb' hkept
        go_wp2
        go_roundw
        case rel => exact ⟨i + 1, _, by omega, by go_num, hset, by unfold Hid; simp [HCS.out], hkept'⟩
        case measure => simp [intOf]; omega
      · have hown := own_of_block (n := n) hg hb' hnc hcm HCS.out
        have hown' := World.ownsRow.alloc hown (.cells #[.int .i64 m, .int .i64 m, .int .i64 m] 3)
        have hbr : Kept S w wr := hkept.wider (by simpa using hgS)
        have hb1 := hbr.alloc (.cells #[.int .i64 m, .int .i64 m, .int .i64 m] 3)
        have HC3 := hid (three_new .i64 m 3 wr)
        have hBr : B ≤ wr.heap.size := Nat.le_trans hB hbr.size
        obtain ⟨xs, exs⟩ : ∃ xs, xs = cur'.toList.take n := ⟨_, rfl⟩
        rw [← exs] at hown'
        clear exs hown hb' hkept hi'
        go_wp2_with (first
          | (at_builtin; refine wpList_append_own _ rfl _ _ 36 rfl B 3 i0 (.int .i64 0) 1 8 Try.underlying36 hi hz0 hz1 hz2 rfl (by decide) (.slice (some ⟨g, 0, none⟩) n cap) n xs rfl hown' ⟨wr.heap.size, 0, none⟩ 3 3 [.int .i64 m, .int .i64 m, .int .i64 m] rfl rfl HC3.out (fun u hu => by simp at hu; subst hu; rfl) (by unfold maxLen; omega) (by omega) (by simp; omega) ?_))
        intro v' w' _ hg' _
        have hb2 := hb1.trans ((kept_grownD hg').wider (by simpa using hgS))
        go_wp2
        go_end0
        exact ⟨rfl, hb2⟩
end Go.Proofs.Ytcnkcbipkchoiag
