import Derived.Test.YtmdfjhnibhmdkafDoorSt01
import Derived.Deep.MidRow
import Derived.Test.YtmdfjhnibhmdkafDoorSt03
import Derived.OwnWalk
import Derived.Deep.CutRange
import Derived.Test.YtmdfjhnibhmdkafDoorSt29
namespace Go.Proofs.YtmdfjhnibhmdkafDoor
open Go.ChangeShapes Go.WideShapes Go.ChangeAt Go.RowKit
theorem rd_cells {k : IntKind} {w : World} {a : Option Addr} {zs : List Int} (h : Rd k w a zs) : ∀ ad, a = some ad → ∀ j u, (zs.map (Value.int k))[j]? = some u → w.cell? (ad.add j) = some u := by
  intro ad had j u hu
  have hj : j < zs.length := by
    have := (List.getElem?_eq_some_iff.1 hu).1
    simpa using this
  obtain ⟨b, off, e, hc⟩ := h.at hj
  rw [e] at had
  obtain rfl := Option.some.inj had
  rw [Addr.add_lit, hc j hj]
  have e : (zs.map (Value.int k))[j]? = some (.int k (zs.getD j 0)) := by simp [List.getD, hj]
  rw [e] at hu
  exact hu
/-- A list of one's own in its block, whatever the spare room holds. -/
theorem own_block {w : World} {B : Nat} {e : TypeId} {v : Value} {n : Nat} {xs : List Value} (h : w.ownsRow B e 1 v n xs) : v = .slice none 0 0 ∨ ∃ g cap cur, v = .slice (some ⟨g, 0, none⟩) n cap ∧ B ≤ g ∧ w.heap[g]? = some (.cells cur e (0, 0)) ∧ n ≤ cap ∧ cap ≤ maxLen ∧ cur.size = cap := by
  rcases h.2 with ⟨e1, _⟩ | ⟨g, cap, cur, h1, h2, h3, h4, h5, h6, _⟩
  · exact .inl e1
  · exact .inr ⟨g, cap, cur, h1, h2, h3, h4, h5, by omega⟩
theorem own_of_block {w : World} {B : Nat} {e : TypeId} {g n cap : Nat} {cur : Array Value} (hB : B ≤ g) (h : w.heap[g]? = some (.cells cur e (0, 0))) (hn : n ≤ cap) (hm : cap ≤ maxLen) (hs : cur.size = cap) : w.ownsRow B e 1 (.slice (some ⟨g, 0, none⟩) n cap) n (cur.toList.take n) :=
  ⟨by simp; omega, .inr ⟨g, cap, cur, rfl, hB, h, hn, hm, by omega, by rw [Nat.mul_one]⟩⟩
theorem three_new (k : IntKind) (m : Int) (T : TypeId) (w : World) : ∀ j u, ([.int k m, .int k m, .int k m] : List Value)[j]? = some u → (w.alloc (.cells #[.int k m, .int k m, .int k m] T)).cell? ((⟨w.heap.size, 0, none⟩ : Addr).add j) = some u := fun j u hu => by
  rw [Addr.add_lit, cell_of_row _ _ _ _ _ _ (heap_alloc_new w _), Nat.zero_add]
  simpa using hu
end Go.Proofs.YtmdfjhnibhmdkafDoor
namespace Go.Proofs.YtmdfjhnibhmdkafDoor
open Go.ChangeShapes Go.WideShapes Go.ChangeAt Go.RowKit
set_option maxHeartbeats 1000000 in
theorem roomyI (zs : List Int) (m : Int) (a : Option Addr) (c n : Nat) (w : World) (ha : Rd .i64 w a zs) (hn : a = none → n = 0 ∧ c = 0) (hl : zs.length = n) (hz : n ≤ 17592186044416) :
    Calls Tryd.prog 12 #[.slice a n c, .int .i64 m] w fun e w' => ∃ g, e = .returned (.slice (some ⟨g, 0, none⟩) n (n + 3)) ∧ ArrAt .i64 3 w' g (zs ++ [m, m, m]) ∧ w.heap.size ≤ g ∧ Below w.heap.size w w' := by
  obtain ⟨i0, hi, hz0, hz1, hz2⟩ := info_parts Tryd.info3
  obtain ⟨N, eN⟩ : ∃ N, N = n + 3 := ⟨_, rfl⟩
  have HN := hid eN
  have HL := hid hl
  have hN1 : n + 3 ≤ N := by omega
  have hN2 : N ≤ 17592186044419 := by omega
  rw [← eN]
  have hNI : (n : Int) + 3 = (N : Int) := by rw [eN]; rfl
  clear eN hl
  go_enter Tryd.func12, Tryd.ntmps12
  go_wp2_with (first
    | (at_make; refine wpList_make_own _ rfl _ _ 23 rfl w.heap.size 3 i0 (.int .i64 0) 1 Tryd.underlying23 hi hz0 hz1 _ _ _ N rfl rfl (by first | rfl | exact hNI) (by rw [hz2]; omega) (by unfold maxLen; omega) (Nat.le_refl _) ?_))
  intro w1 hown1 hg1
  have hb1 := (Below.refl w.heap.size w).grown hg1 (Nat.le_refl _) (fun g e => by cases e)
  have ha1 := ha.below hb1
  obtain ⟨G, eG⟩ : ∃ G, G = w.heap.size := ⟨_, rfl⟩
  rw [← eG] at hown1
  rw [← eG]
  have HG := hid eG
  have hGw : w.heap.size ≤ G := by omega
  clear eG
  go_wp2_with (first
    | (at_builtin; refine wpList_append_fits_any _ rfl _ _ 23 rfl G 3 i0 1 Tryd.underlying23 hi hz1 G 0 N [] rfl hown1 a n c (zs.map (Value.int .i64)) rfl (by rw [List.length_map, HL.out, Nat.mul_one]) hn (rd_cells ha1) (ints_oneCell .i64 zs) (by omega) ?_))
  intro w2 hown2 hg2
  have hb2 := hb1.grown hg2 (by have := hb1.size; omega) (fun g e => by simp only [Option.some.injEq] at e; omega)
  have hGs : G < w2.heap.size := (hown2.lt G rfl).2
  have hown2' := World.ownsRow.alloc hown2 (.cells #[.int .i64 m, .int .i64 m, .int .i64 m] 3)
  have hb2' := hb2.alloc hb2.size (.cells #[.int .i64 m, .int .i64 m, .int .i64 m] 3)
  have hc3 : ∀ j u, ([.int .i64 m, .int .i64 m, .int .i64 m] : List Value)[j]? = some u → (w2.alloc (.cells #[.int .i64 m, .int .i64 m, .int .i64 m] 3)).cell? ((⟨w2.heap.size, 0, none⟩ : Addr).add j) = some u := fun j u hu => by
    rw [Addr.add_lit, cell_of_row _ _ _ _ _ _ (heap_alloc_new w2 _), Nat.zero_add]
    simpa using hu
  have HC3 := hid hc3
  clear hc3
  go_wp2_with (first
    | (at_builtin; refine wpList_append_fits _ rfl _ _ 23 rfl G 3 i0 1 Tryd.underlying23 hi hz1 G n N (zs.map (Value.int .i64)) rfl hown2' ⟨w2.heap.size, 0, none⟩ 3 3 [.int .i64 m, .int .i64 m, .int .i64 m] rfl rfl HC3.out (fun u hu => by simp at hu; subst hu; rfl) (by omega) ?_))
  intro w3 hown3 hg3
  have hb3 := hb2'.grown hg3 (by have := hb2'.size; omega) (fun g e => by simp only [Option.some.injEq] at e; omega)
  have harr : ArrAt .i64 3 w3 G (zs ++ [m, m, m]) := by
    have hO : OwnI w3 G (.slice (some ⟨G, 0, none⟩) N N) (zs ++ [m, m, m]) := by
      unfold OwnI
      rw [List.length_append, List.map_append, HL.out]
      rw [← HN.out] at hown3
      show w3.ownsRow G 3 1 (.slice (some ⟨G, 0, none⟩) N N) (n + 3) _
      rw [← HN.out]
      exact hown3
    exact hO.arr.1
  clear hown1 hown2 hown2' hown3 HC3 hg3
  go_wp2
  go_ret
  exact ⟨G, rfl, harr, hGw, hb3⟩
set_option maxHeartbeats 1000000 in
theorem keptI (zs : List Int) (m : Int) (g n : Nat) (a : Option Addr) (c : Nat) (w : World) (hl : zs.length = n) (hz : n ≤ 17592186044416) (har : ArrAt .i64 3 w g (zs ++ [m, m, m])) (ha : Rd .i64 w a zs) :
    Calls Tryd.prog 19 #[.slice (some ⟨g, 0, none⟩) n (n + 3), .slice a n c, .int .i64 m] w fun e w' => e = .returned (.bool true) ∧ Below w.heap.size w w' := by
  have HL := hid hl
  obtain ⟨N, eN⟩ : ∃ N, N = n + 3 := ⟨_, rfl⟩
  have hNI : (n : Int) + 3 = (N : Int) := by rw [eN]; rfl
  have hN1 : n + 3 = N := eN.symm
  have hN2 : N ≤ 17592186044419 := by omega
  have hlt3 : ∀ i, i < 3 → (zs ++ [m, m, m]).getD (n + i) 0 = m := fun i hi => by
    have h3 : i = 0 ∨ i = 1 ∨ i = 2 := by omega
    rcases h3 with rfl | rfl | rfl <;> simp [List.getD, ← hl]
  have HM := hid hlt3
  rw [← eN]
  clear eN hl hlt3
  go_enter Tryd.func19, Tryd.ntmps19
  go_wp2
  go_loopw [16] (fun i wr => ∃ k : Nat, k ≤ n ∧ i = .int .i64 k ∧ Below w.heap.size w wr) (fun i _ => n - (intOf i).toNat)
  case atStart => exact ⟨0, Nat.zero_le _, rfl, Below.refl _ _⟩
  case round =>
    obtain ⟨k, hk, rfl, hbel⟩ := hrel
    have har' := har.below hbel har.lt
    by_cases hlt : k < n
    · obtain ⟨b2, o2, rfl, hc2⟩ := (ha.below hbel).at (i := k) (by rw [HL.out]; exact hlt)
      have g2 := hc2 k (by rw [HL.out]; exact hlt)
      have g1 := har'.cell (j := k) (by simp [HL.out]; omega)
      rw [show (zs ++ [m, m, m]).getD k 0 = zs.getD k 0 by simp only [List.getD, List.getElem?_append_left (show k < zs.length by rw [HL.out]; exact hlt)]] at g1
      generalize zs.getD k 0 = x at *
      clear hc2 har'
      go_wp2_with fail
      go_quiet (fail)
      go_wp2
      go_roundw
      case rel => exact ⟨k + 1, by omega, by go_num, below_drewN hbel _⟩
      case measure => simp [intOf]; omega
    · have d0 := har'.cell (j := n + 0) (by simp [HL.out])
      have d1 := har'.cell (j := n + 1) (by simp [HL.out])
      have d2 := har'.cell (j := n + 2) (by simp [HL.out])
      rw [HM.out 0 (by omega)] at d0
      rw [HM.out 1 (by omega)] at d1
      rw [HM.out 2 (by omega)] at d2
      rw [Nat.add_zero] at d0
      clear har'
      go_wp2
      go_ret
      exact ⟨rfl, hbel⟩
end Go.Proofs.YtmdfjhnibhmdkafDoor
namespace Go.Proofs.YtmdfjhnibhmdkafDoor
open Go.ChangeShapes Go.WideShapes Go.ChangeAt Go.RowKit
set_option maxHeartbeats 1000000 in
theorem spoiltKI (m : Int) (v : Value) (L : List Int) (B : Nat) (S : List Nat) (w : World) (hown : OwnI w B v L) (hB : B ≤ w.heap.size) (hS : ∀ k, v.ownBlock = some k → k ∈ S) (hz : L.length ≤ 17592186043904) :
    Calls Tryd.prog 17 #[v, .int .i64 m] w fun e w' => e = .returned (.tuple #[]) ∧ Kept S w w' := by
  obtain ⟨i0, hi, hz0, hz1, hz2⟩ := info_parts Tryd.info3
  rcases own_block hown with rfl | ⟨g, cap, cur, rfl, hg, hblk, hnc, hcm, hcs⟩
  · have hown' := World.ownsRow.alloc (World.ownsRow_nil w B 3 1) (.cells #[.int .i64 m, .int .i64 m, .int .i64 m] 3)
    have hc3 : ∀ j u, ([.int .i64 m, .int .i64 m, .int .i64 m] : List Value)[j]? = some u → (w.alloc (.cells #[.int .i64 m, .int .i64 m, .int .i64 m] 3)).cell? ((⟨w.heap.size, 0, none⟩ : Addr).add j) = some u := fun j u hu => by
      rw [Addr.add_lit, cell_of_row _ _ _ _ _ _ (heap_alloc_new w _), Nat.zero_add]
      simpa using hu
    have hb1 := (Kept.refl S w).alloc (.cells #[.int .i64 m, .int .i64 m, .int .i64 m] 3)
    have HC3 := hid hc3
    clear hown hc3
    go_enter Tryd.func17, Tryd.ntmps17
    go_wp2
    go_loopw [12] (fun q wr => q = .int .i64 0 ∧ wr = w) (fun _ _ => 0)
    case atStart => exact ⟨rfl, rfl⟩
    case round =>
      obtain ⟨rfl, rfl⟩ := hrel
      go_wp2_with (first
        | (at_builtin; refine wpList_append_own _ rfl _ _ 23 rfl B 3 i0 (.int .i64 0) 1 8 Tryd.underlying23 hi hz0 hz1 hz2 rfl (by decide) (.slice none 0 0) 0 [] rfl hown' ⟨wr.heap.size, 0, none⟩ 3 3 [.int .i64 m, .int .i64 m, .int .i64 m] rfl rfl HC3.out (fun u hu => by simp at hu; subst hu; rfl) (by unfold maxLen; omega) (by omega) (by simp; omega) ?_))
      intro v' w' _ hg' _
      have hb2 := hb1.trans (keptNoneD hg')
      go_wp2
      go_end0
      exact ⟨rfl, hb2⟩
  · have hcm' : cap ≤ 9223372036854775807 := by unfold maxLen at hcm; omega
    have hgS : g ∈ S := hS g rfl
    obtain ⟨n, en⟩ : ∃ n, n = L.length := ⟨_, rfl⟩
    rw [← en] at hz hnc
    rw [← en]
    clear hown en
    go_enter Tryd.func17, Tryd.ntmps17
    go_wp2
    go_loopw [12] (fun q wr => ∃ (i : Nat) (cur' : Array Value), i ≤ cap ∧ q = .int .i64 i ∧ wr.heap[g]? = some (.cells cur' 3 (0, 0)) ∧ Hid (cur'.size = cap) ∧ Kept [g] w wr) (fun q _ => cap - (intOf q).toNat)
    case atStart => exact ⟨0, cur, Nat.zero_le _, rfl, hblk, hcs, Kept.refl _ _⟩
    case round =>
      obtain ⟨i, cur', hi', rfl, hb', HCS, hkept⟩ := hrel
      by_cases hlt : i < cap
      · have hc : wr.cell? ⟨g, i, none⟩ = some (cur'[i]'(by rw [HCS.out]; exact hlt)) := by
          rw [cell_of_row _ _ _ _ _ _ hb']
          simp [HCS.out, hlt]
        have hf := frozen_of_row wr g i _ _ hb'
        generalize cur'[i]'(by rw [HCS.out]; exact hlt) = x at hc
        have hset := heap_setCell_same wr g i _ _ (.int .i64 m) hb'
        have hkept' := hkept.setCell (p := ⟨g, i, none⟩) (by simp) (.int .i64 m)
        clear hb' hkept
        go_wp2
        go_roundw
        case rel => exact ⟨i + 1, _, by omega, by go_num, hset, by unfold Hid; simp [HCS.out], hkept'⟩
        case measure => simp [intOf]; omega
      · have hown := own_of_block (n := n) hg hb' hnc hcm HCS.out
        have hown' := World.ownsRow.alloc hown (.cells #[.int .i64 m, .int .i64 m, .int .i64 m] 3)
        have hbr : Kept S w wr := hkept.wider (by simpa using hgS)
        have hb1 := hbr.alloc (.cells #[.int .i64 m, .int .i64 m, .int .i64 m] 3)
        have HC3 := hid (three_new .i64 m 3 wr)
        have hBr : B ≤ wr.heap.size := Nat.le_trans hB hbr.size
        obtain ⟨xs, exs⟩ : ∃ xs, xs = cur'.toList.take n := ⟨_, rfl⟩
        rw [← exs] at hown'
        clear exs hown hb' hkept hi'
        go_wp2_with (first
          | (at_builtin; refine wpList_append_own _ rfl _ _ 23 rfl B 3 i0 (.int .i64 0) 1 8 Tryd.underlying23 hi hz0 hz1 hz2 rfl (by decide) (.slice (some ⟨g, 0, none⟩) n cap) n xs rfl hown' ⟨wr.heap.size, 0, none⟩ 3 3 [.int .i64 m, .int .i64 m, .int .i64 m] rfl rfl HC3.out (fun u hu => by simp at hu; subst hu; rfl) (by unfold maxLen; omega) (by omega) (by simp; omega) ?_))
        intro v' w' _ hg' _
        have hb2 := hb1.trans ((kept_grownD hg').wider (by simpa using hgS))
        go_wp2
        go_end0
        exact ⟨rfl, hb2⟩
end Go.Proofs.YtmdfjhnibhmdkafDoor
namespace Go.Proofs.YtmdfjhnibhmdkafDoor
open Go.ChangeShapes Go.WideShapes Go.ChangeAt Go.RowKit
theorem take_ext {xs ys : List Int} {k : Nat} (hl : ys.length = xs.length) (hk : k < xs.length) (h : xs.take k = ys.take k) (e : xs[k]?.getD 0 = ys[k]?.getD 0) : xs.take (k + 1) = ys.take (k + 1) := by
  rw [List.take_add_one, List.take_add_one, h]
  have h1 : xs[k]? = some xs[k] := List.getElem?_eq_getElem hk
  have h2 : ys[k]? = some (ys[k]'(by omega)) := List.getElem?_eq_getElem (by omega)
  rw [h1, h2] at e
  simp at e
  rw [h1, h2, e]
theorem take_ext' {xs ys : List Int} {k : Nat} (hl : ys.length = xs.length) (hk : k < xs.length) (h : xs.take k = ys.take k) (e : (xs[k] != ys[k]?.getD 0) = false) : xs.take (k + 1) = ys.take (k + 1) := by
  refine take_ext hl hk h ?_
  rw [List.getElem?_eq_getElem hk]
  simpa using e
theorem dec_ne {xs ys : List Int} {k : Nat} (hk : k < xs.length) (e : (xs[k] != ys[k]?.getD 0) = true) : Ending.returned (.bool false) = .returned (.bool (decide (xs = ys))) := by
  have : ¬ xs = ys := by
    intro h
    subst h
    simp [List.getElem?_eq_getElem hk] at e
  simp [this]
theorem dec_eq {xs ys : List Int} {k : Nat} (hl : ys.length = xs.length) (hk : xs.length ≤ k) (h : xs.take k = ys.take k) : Ending.returned (.bool true) = .returned (.bool (decide (xs = ys))) := by
  rw [List.take_of_length_le hk, List.take_of_length_le (by omega)] at h
  simp [h]
end Go.Proofs.YtmdfjhnibhmdkafDoor
namespace Go.Proofs.YtmdfjhnibhmdkafDoor
open Go.ChangeShapes Go.WideShapes Go.ChangeAt Go.RowKit
set_option maxHeartbeats 400000 in
theorem same_ints (xs ys : List Int) (a b : Option Addr) (ca cb : Nat) (w : World) (ha : Rd .i64 w a xs) (hb : Rd .i64 w b ys) (hx : xs.length ≤ maxLen) (hy : ys.length ≤ maxLen) :
    Calls Tryd.prog 18 #[.slice a xs.length ca, .slice b ys.length cb] w fun e w' => e = .returned (.bool (decide (xs = ys))) ∧ Below w.heap.size w w' := by
  unfold maxLen at hx hy
  by_cases hl : ys.length = xs.length
  · have hne : (((xs.length : Nat) : Int) != ((ys.length : Nat) : Int)) = false := by rw [hl]; simp
    rw [hl] at hne ⊢
    clear hy
    have HL : Hid (ys.length = xs.length) := hl
    clear hl
    go_enter Tryd.func18, Tryd.ntmps18
    go_wp2
    go_loopw [5] (fun i wr => ∃ k : Nat, k ≤ xs.length ∧ i = .int .i64 k ∧ Hid (xs.take k = ys.take k) ∧ Below w.heap.size w wr) (fun i _ => xs.length - (intOf i).toNat)
    case atStart => exact ⟨0, Nat.zero_le _, rfl, rfl, Below.refl _ _⟩
    case round =>
      obtain ⟨k, hk, rfl, htk, hbel⟩ := hrel
      by_cases hlt : k < xs.length
      · obtain ⟨b1, o1, rfl, hc1⟩ := (ha.below hbel).at hlt
        obtain ⟨b2, o2, rfl, hc2⟩ := (hb.below hbel).at (i := k) (by rw [HL.out]; exact hlt)
        have g1 := hc1 k hlt
        have g2 := hc2 k (by rw [HL.out]; exact hlt)
        clear hc1 hc2
        go_wp2_with fail
        go_quiet (fail)
        go_wp2
        · go_ret
          exact ⟨dec_ne hlt ‹_›, below_drewN hbel _⟩
        · go_roundw
          case rel => exact ⟨k + 1, by omega, by go_num, take_ext' HL.out hlt htk.out ‹_›, below_drewN hbel _⟩
          case measure => simp [intOf]; omega
      · go_wp2
        go_ret
        exact ⟨dec_eq HL.out (by omega) htk.out, hbel⟩
  · have hne : (((xs.length : Nat) : Int) != ((ys.length : Nat) : Int)) = true := by simp; omega
    have hd : decide (xs = ys) = false := by simp; intro h; subst h; exact hl rfl
    rw [hd]
    clear hl
    go_enter Tryd.func18, Tryd.ntmps18
    go_wp2
    go_ret
    exact ⟨rfl, Below.refl _ _⟩
end Go.Proofs.YtmdfjhnibhmdkafDoor
