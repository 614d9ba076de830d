import Derived.Test.YtplkmkbambbemadGreatDoorB16
import Derived.Test.YtplkmkbambbemadGreatDoorB08
import Derived.Test.YtplkmkbambbemadGreatDoorB10
import Derived.Test.YtplkmkbambbemadGreatDoorB02
import Derived.Deep.MidRow
import Derived.Deep.CutRange
import Derived.Deep.RegionWith
import Derived.Deep.RegionHeld3
import Derived.BigRegion
import Derived.Test.YtplkmkbambbemadGreatDoorB06
import Derived.Test.YtplkmkbambbemadGreatDoorB05
import Derived.Deep.Cut
import Derived.Test.YtplkmkbambbemadGreatDoorB03
import Derived.Test.YtplkmkbambbemadGreatDoorB12
import Derived.Test.YtplkmkbambbemadGreatDoorB13
import Derived.Test.YtplkmkbambbemadGreatDoorB14
namespace Go.Proofs.YtplkmkbambbemadGreatDoor
open Go.ChangeShapes Go.WideShapes Go.ChangeAt Go.RowKit
/-- The cells of 64 ways. -/
def rowC (vv : Nat → Value) (qq : Nat → Int) (tt : Nat → Bool) : List Value := (List.range 64).flatMap fun s => [vv s, .int .i64 (qq s), .bool (tt s)]
def Row (w : World) (g : Nat) (vv : Nat → Value) (qq : Nat → Int) (tt : Nat → Bool) : Prop := w.heap[g]? = some (.cells (rowC vv qq tt).toArray 166 (0, 0))
theorem flat_len (f : Nat → List Value) (hf : ∀ s, (f s).length = 3) (N : Nat) : ((List.range N).flatMap f).length = 3 * N := by
  rw [List.length_flatMap]
  have : (List.map (fun a => (f a).length) (List.range N)) = List.replicate N 3 := by
    rw [List.eq_replicate_iff]
    refine ⟨by simp, fun x hx => ?_⟩
    obtain ⟨y, _, rfl⟩ := List.mem_map.1 hx
    exact hf y
  rw [this]
  simp
  omega
theorem rowC_length (vv : Nat → Value) (qq : Nat → Int) (tt : Nat → Bool) : (rowC vv qq tt).length = 192 := flat_len _ (fun _ => rfl) 64
theorem flat_get (f : Nat → List Value) (hf : ∀ s, (f s).length = 3) : ∀ (N s r : Nat), s < N → r < 3 → ((List.range N).flatMap f)[3 * s + r]? = (f s)[r]?
  | 0, s, r, h, _ => by omega
  | N + 1, s, r, h, hr => by
    rw [List.range_succ, List.flatMap_append]
    have hl := flat_len f hf N
    by_cases hs : s < N
    · rw [List.getElem?_append_left (by omega)]
      exact flat_get f hf N s r hs hr
    · obtain rfl : s = N := by omega
      rw [List.getElem?_append_right (by omega), hl, show 3 * s + r - 3 * s = r from by omega]
      simp
theorem Row.cell {w : World} {g : Nat} {vv : Nat → Value} {qq : Nat → Int} {tt : Nat → Bool} (h : Row w g vv qq tt) {s : Nat} (hs : s < 64) :
    w.cell? ⟨g, 3 * s, none⟩ = some (vv s) ∧ w.cell? ⟨g, 3 * s + 1, none⟩ = some (.int .i64 (qq s)) ∧ w.cell? ⟨g, 3 * s + 2, none⟩ = some (.bool (tt s)) := by
  have e : ∀ r, r < 3 → (rowC vv qq tt)[3 * s + r]? = ([vv s, .int .i64 (qq s), .bool (tt s)] : List Value)[r]? := fun r hr => flat_get _ (fun _ => rfl) 64 s r hs hr
  refine ⟨?_, ?_, ?_⟩
  · rw [cell_of_row w g _ _ 166 (0, 0) h]
    have := e 0 (by omega)
    simpa using this
  · rw [cell_of_row w g _ _ 166 (0, 0) h]
    have := e 1 (by omega)
    simpa using this
  · rw [cell_of_row w g _ _ 166 (0, 0) h]
    have := e 2 (by omega)
    simpa using this
end Go.Proofs.YtplkmkbambbemadGreatDoor
namespace Go.Proofs.YtplkmkbambbemadGreatDoor
open Go.ChangeShapes Go.WideShapes Go.ChangeAt Go.RowKit
/-- One entry anew. -/
def updT {α : Type} (f : Nat → α) (s : Nat) (x : α) : Nat → α := fun j => if j = s then x else f j
theorem upd_sameT {α : Type} (f : Nat → α) (s : Nat) (x : α) : updT f s x s = x := by simp [updT]
theorem upd_otherT {α : Type} (f : Nat → α) {s j : Nat} (x : α) (h : j ≠ s) : updT f s x j = f j := by simp [updT, h]
theorem flat_ext (A : List Value) (f : Nat → List Value) (hf : ∀ s, (f s).length = 3) (N : Nat) (hA : A.length = 3 * N) (h : ∀ s r, s < N → r < 3 → A[3 * s + r]? = (f s)[r]?) : A = (List.range N).flatMap f := by
  refine List.ext_getElem? fun k => ?_
  by_cases hk : k < 3 * N
  · have e : k = 3 * (k / 3) + k % 3 := by omega
    rw [e, h _ _ (by omega) (by omega), flat_get f hf N _ _ (by omega) (by omega)]
  · rw [List.getElem?_eq_none (by omega), List.getElem?_eq_none (by rw [flat_len f hf]; omega)]
theorem rowC_get (vv : Nat → Value) (qq : Nat → Int) (tt : Nat → Bool) {s r : Nat} (hs : s < 64) (hr : r < 3) : (rowC vv qq tt)[3 * s + r]? = ([vv s, .int .i64 (qq s), .bool (tt s)] : List Value)[r]? := flat_get _ (fun _ => rfl) 64 s r hs hr
theorem rowC_set1 (vv : Nat → Value) (qq : Nat → Int) (tt : Nat → Bool) {s : Nat} (hs : s < 64) (x : Int) : (rowC vv qq tt).set (3 * s + 1) (.int .i64 x) = rowC vv (updT qq s x) tt := by
  refine flat_ext _ _ (fun _ => rfl) 64 (by rw [List.length_set, rowC_length]) fun j r hj hr => ?_
  rw [List.getElem?_set, rowC_length]
  by_cases h : 3 * s + 1 = 3 * j + r
  · obtain rfl : r = 1 := by omega
    obtain rfl : j = s := by omega
    rw [if_pos h, if_pos (by omega), upd_sameT]; rfl
  · rw [if_neg h, rowC_get _ _ _ hj hr]
    by_cases e : j = s
    · subst e
      match r, hr, h with
      | 1, _, h => omega
      | 0, _, _ | 2, _, _ => rfl
    · rw [upd_otherT _ _ e]
theorem rowC_set2 (vv : Nat → Value) (qq : Nat → Int) (tt : Nat → Bool) {s : Nat} (hs : s < 64) (x : Bool) : (rowC vv qq tt).set (3 * s + 2) (.bool x) = rowC vv qq (updT tt s x) := by
  refine flat_ext _ _ (fun _ => rfl) 64 (by rw [List.length_set, rowC_length]) fun j r hj hr => ?_
  rw [List.getElem?_set, rowC_length]
  by_cases h : 3 * s + 2 = 3 * j + r
  · obtain rfl : r = 2 := by omega
    obtain rfl : j = s := by omega
    rw [if_pos h, if_pos (by omega), upd_sameT]; rfl
  · rw [if_neg h, rowC_get _ _ _ hj hr]
    by_cases e : j = s
    · subst e
      match r, hr, h with
      | 2, _, h => omega
      | 0, _, _ | 1, _, _ => rfl
    · rw [upd_otherT _ _ e]
theorem Row.free {w : World} {g : Nat} {vv : Nat → Value} {qq : Nat → Int} {tt : Nat → Bool} (h : Row w g vv qq tt) (i : Nat) : w.frozen? ⟨g, i, none⟩ = false := frozen_of_row w g i _ 166 h
theorem Row.lt {w : World} {g : Nat} {vv : Nat → Value} {qq : Nat → Int} {tt : Nat → Bool} (h : Row w g vv qq tt) : g < w.heap.size := by
  rcases Nat.lt_or_ge g w.heap.size with hl | hl
  · exact hl
  · unfold Row at h; rw [Array.getElem?_eq_none hl] at h; cases h
theorem Row.below {w w' : World} {g : Nat} {vv : Nat → Value} {qq : Nat → Int} {tt : Nat → Bool} (h : Row w g vv qq tt) (hb : Below w.heap.size w w') : Row w' g vv qq tt := (hb.block g h.lt).trans h
theorem Row.set1 {w : World} {g : Nat} {vv : Nat → Value} {qq : Nat → Int} {tt : Nat → Bool} (h : Row w g vv qq tt) {s : Nat} (hs : s < 64) (x : Int) : Row (w.setCell ⟨g, 3 * s + 1, none⟩ (.int .i64 x)) g vv (updT qq s x) tt := by
  unfold Row
  rw [heap_setCell_same w g _ _ 166 _ h, ← rowC_set1 vv qq tt hs x]
  simp
theorem Row.set2 {w : World} {g : Nat} {vv : Nat → Value} {qq : Nat → Int} {tt : Nat → Bool} (h : Row w g vv qq tt) {s : Nat} (hs : s < 64) (x : Bool) : Row (w.setCell ⟨g, 3 * s + 2, none⟩ (.bool x)) g vv qq (updT tt s x) := by
  unfold Row
  rw [heap_setCell_same w g _ _ 166 _ h, ← rowC_set2 vv qq tt hs x]
  simp
theorem Row.apart {w : World} {g g' : Nat} {vv : Nat → Value} {qq : Nat → Int} {tt : Nat → Bool} (h : Row w g vv qq tt) (hne : g ≠ g') (i : Nat) (x : Value) : Row (w.setCell ⟨g', i, none⟩ x) g vv qq tt := (heap_setCell_other w ⟨g', i, none⟩ g x hne).trans h
/-- What is written into a row of ways is no way's list of bits. -/
theorem Own.apart {w : World} {B g : Nat} {v : Value} {L : List Int} {vv : Nat → Value} {qq : Nat → Int} {tt : Nat → Bool} (h : Own w B v L) (hr : Row w g vv qq tt) (i : Nat) (x : Value) : Own (w.setCell ⟨g, i, none⟩ x) B v L := by
  refine ⟨h.1, ?_⟩
  rcases h.2 with h' | ⟨g', cap, cur, h1, h2, h3, h4⟩
  · exact .inl h'
  · have hne : g' ≠ g := by
      rintro rfl
      unfold Row at hr
      rw [hr] at h3
      simp at h3
    exact .inr ⟨g', cap, cur, h1, h2, (heap_setCell_other w ⟨g, i, none⟩ g' x hne).trans h3, h4⟩
end Go.Proofs.YtplkmkbambbemadGreatDoor
namespace Go.Proofs.YtplkmkbambbemadGreatDoor
open Go.ChangeShapes Go.WideShapes Go.ChangeAt Go.RowKit
/-- A table of ways: the best of those that meet S s, for each state s. -/
structure Table (w : World) (B g n : Nat) (soft : List Int) (S : Nat → List Int → Prop) (vv : Nat → Value) (qq : Nat → Int) (tt : Nat → Bool) (bb : Nat → List Int) : Prop where
  row : Row w g vv qq tt
  low : B ≤ g
  own : ∀ s, s < 64 → Own w B (vv s) (bb s)
  ent : ∀ s, s < 64 → Ent (sc soft 0 0) n (S s) (tt s) (bb s) (qq s)
theorem Table.below {w w' : World} {B g n : Nat} {soft : List Int} {S : Nat → List Int → Prop} {vv : Nat → Value} {qq : Nat → Int} {tt : Nat → Bool} {bb : Nat → List Int} (h : Table w B g n soft S vv qq tt bb) (hb : Below w.heap.size w w') : Table w' B g n soft S vv qq tt bb :=
  ⟨h.row.below hb, h.low, fun s hs => (h.own s hs).below hb, h.ent⟩
theorem Table.congr {w : World} {B g n : Nat} {soft : List Int} {S S' : Nat → List Int → Prop} {vv : Nat → Value} {qq : Nat → Int} {tt : Nat → Bool} {bb : Nat → List Int} (h : Table w B g n soft S vv qq tt bb) (hS : ∀ s, s < 64 → ∀ p, S s p ↔ S' s p) : Table w B g n soft S' vv qq tt bb :=
  ⟨h.row, h.low, h.own, fun s hs => ent_congr (hS s hs) (h.ent s hs)⟩
/-- The other table is written. -/
theorem Table.apart {w : World} {B g g' n : Nat} {soft : List Int} {S : Nat → List Int → Prop} {vv : Nat → Value} {qq : Nat → Int} {tt : Nat → Bool} {bb : Nat → List Int} {vv' : Nat → Value} {qq' : Nat → Int} {tt' : Nat → Bool} (h : Table w B g n soft S vv qq tt bb) (hr : Row w g' vv' qq' tt') (hne : g ≠ g') (i : Nat) (x : Value) :
    Table (w.setCell ⟨g', i, none⟩ x) B g n soft S vv qq tt bb :=
  ⟨h.row.apart hne i x, h.low, fun s hs => (h.own s hs).apart hr i x, h.ent⟩
end Go.Proofs.YtplkmkbambbemadGreatDoor
namespace Go.Proofs.YtplkmkbambbemadGreatDoor
open Go.ChangeShapes Go.WideShapes Go.ChangeAt Go.RowKit
/-- The bodies of the loops that lie open in a code, in their order. -/
def loopsIn : Code → List Code
  | .loop b => [b]
  | .seq p q => loopsIn p ++ loopsIn q
  | .cond _ p q => loopsIn p ++ loopsIn q
  | .block _ b => loopsIn b
  | .scope b => loopsIn b
  | _ => []
def inside (c : Code) : Code := (loopsIn c).headD .skip
theorem Own.off {w : World} {B : Nat} {v : Value} {L : List Int} (h : Own w B v L) {p : Addr} (hp : p.block < B) (x : Value) : Own (w.setCell p x) B v L := by
  refine ⟨h.1, ?_⟩
  rcases h.2 with h' | ⟨g, cap, cur, h1, h2, h3, h4⟩
  · exact .inl h'
  · exact .inr ⟨g, cap, cur, h1, h2, (heap_setCell_other w p g x (by omega)).trans h3, h4⟩
end Go.Proofs.YtplkmkbambbemadGreatDoor
namespace Go.Proofs.YtplkmkbambbemadGreatDoor
open Go.ChangeShapes Go.WideShapes Go.ChangeAt Go.RowKit
theorem wrap64 {x : Int} (h1 : -9223372036854775808 ≤ x) (h2 : x ≤ 9223372036854775807) : IntKind.i64.wrap x = x := by simp [IntKind.wrap, IntKind.bits, IntKind.signed]; omega
theorem REar.below {w w' : World} {g : Nat} {S : Setg} {bytes : Int} {sums : List Int} (h : REar w g S bytes sums) (hb : Below w.heap.size w w') : REar w' g S bytes sums := by
  have hl := h.lt
  obtain ⟨gs, c, h1, h2, h3, h4⟩ := h
  exact ⟨gs, c, (hb.block g hl).trans h1, h2.below hb, Nat.lt_of_lt_of_le h3 hb.size, h4⟩
theorem hears_few {ps : List (Int × Int)} {order : Int} (h : hearsOk ps order = true) : (ps.length : Int) * order ≤ 4096 ∧ PtsIn 1000 ps := by
  unfold hearsOk at h
  rw [Bool.and_eq_true, Bool.and_eq_true, decide_eq_true_eq] at h
  refine ⟨h.1.2, fun i => ?_⟩
  by_cases hi : i < ps.length
  · have e : ps.getD i (0, 0) = ps[i] := by simp [List.getD, hi]
    have := List.all_eq_true.1 h.2 _ (List.getElem_mem hi)
    rw [e]
    exact of_decide_eq_true this
  · have e : ps.getD i (0, 0) = (0, 0) := by simp [List.getD, hi]
    rw [e]
    decide
theorem REar.kept {w w' : World} {g : Nat} {S : Setg} {bytes : Int} {sums : List Int} {T : List Nat} (h : REar w g S bytes sums) (hk : Kept T w w') (hT : ∀ x ∈ T, w.heap.size ≤ x) : REar w' g S bytes sums := by
  have hb : Below w.heap.size w w' := hk.below (Nat.le_refl _) hT
  exact h.below hb
theorem foundL_length {S : Setg} {n : Nat} {s : List Int} (h : S.code = 1 → n ≤ S.size.toNat) (hc : S.code = 0 ∨ S.code = 1) : (foundL S n s).length = n := by
  unfold foundL
  by_cases c0 : S.code = 0
  · rw [if_pos c0]; exact way_length _ _ _ _
  · rw [if_neg c0]
    unfold readM
    rw [List.length_map]
    exact places_length (h (by omega))
theorem foundL_bits (S : Setg) (n : Nat) (s : List Int) : AllBits (foundL S n s) := by
  unfold foundL
  split
  · exact (way_best _ _ _ _).bits
  · intro x hx
    obtain ⟨p, -, rfl⟩ := List.mem_map.1 hx
    exact (decP_bits _ _ _).at p
theorem clip_bd (x : Int) : -1000 ≤ clipM x ∧ clipM x ≤ 1000 := by
  unfold clipM
  split
  · omega
  · split <;> omega
theorem tell_bd (S : Setg) (ps : List (Int × Int)) (k : Nat) : -1000 ≤ (tellM S ps).getD k 0 ∧ (tellM S ps).getD k 0 ≤ 1000 := by
  by_cases hk : k < S.count.toNat
  · have e : (tellM S ps).getD k 0 = signM (clipM ((heardM (S.order.toNat / 2) S.order.toNat ps ps.length).getD k 0)) ((noiseTo S.seed.toNat S.count.toNat).getD k 0) := by simp [tellM, List.getD, hk]
    rw [e]
    have h := clip_bd ((heardM (S.order.toNat / 2) S.order.toNat ps ps.length).getD k 0)
    unfold signM
    split <;> omega
  · have e : (tellM S ps).getD k 0 = 0 := by simp [tellM, List.getD, hk]
    rw [e]
    omega
end Go.Proofs.YtplkmkbambbemadGreatDoor
namespace Go.Proofs.YtplkmkbambbemadGreatDoor
open Go.ChangeShapes Go.WideShapes Go.ChangeAt Go.RowKit
theorem set_cells {w w1 : World} {S : Setg} {T : TypeId} (hb : Below (w.alloc (.cells #[.int .i64 S.code, .int .i64 S.size, .int .i64 S.order, .int .i64 S.seed, .int .i64 S.count] T)).heap.size (w.alloc (.cells #[.int .i64 S.code, .int .i64 S.size, .int .i64 S.order, .int .i64 S.seed, .int .i64 S.count] T)) w1) :
    w1.cell? ⟨w.heap.size, 0, none⟩ = some (.int .i64 S.code) ∧ w1.cell? ⟨w.heap.size, 1, none⟩ = some (.int .i64 S.size) ∧ w1.cell? ⟨w.heap.size, 2, none⟩ = some (.int .i64 S.order) ∧ w1.cell? ⟨w.heap.size, 3, none⟩ = some (.int .i64 S.seed) ∧ w1.cell? ⟨w.heap.size, 4, none⟩ = some (.int .i64 S.count) := by
  have hr := (hb.block w.heap.size (by simp)).trans (heap_alloc_new w _)
  refine ⟨?_, ?_, ?_, ?_, ?_⟩ <;> (rw [cell_of_row _ _ _ _ _ _ hr]; rfl)
end Go.Proofs.YtplkmkbambbemadGreatDoor
namespace Go.Proofs.YtplkmkbambbemadGreatDoor
open Go.ChangeShapes Go.WideShapes Go.ChangeAt Go.RowKit
theorem unpack_all (s : ByteArray) (n : Nat) : AllBits (unpackTo s n) := fun x hx => by
  obtain ⟨i, -, rfl⟩ := List.mem_map.1 hx
  exact bitAt_bd s i
/-- What 'Build' goes through, where it may build. -/
theorem unpackL_ok (s : ByteArray) (h : s.size ≤ 40) (w : World) : Calls Tryz.prog 72 #[.string s, .int .i64 (8 * (s.size : Int))] w fun e w' => ∃ a c, e = .returned (.tuple #[.slice a (8 * s.size) c, .int .i64 0]) ∧ Rd .u8 w' a (unpackTo s (8 * s.size)) ∧ Below w.heap.size w w' := by
  have he : unpackErr s (8 * (s.size : Int)) = 0 := by unfold unpackErr; rw [if_neg (by omega), if_neg (by omega)]
  have hL : unpackL s (8 * (s.size : Int)) = unpackTo s (8 * s.size) := by unfold unpackL; rw [if_pos he, show (8 * (s.size : Int)).toNat = 8 * s.size by omega]
  refine (unpack_any s (8 * (s.size : Int)) w (by omega)).mono fun e w' h => ?_
  obtain ⟨v, rfl, ho, hb⟩ := h
  rw [hL] at ho
  rw [he]
  obtain ⟨a, c, rfl, -, -, hr, -⟩ := ho.slice (unpackTo_length s (8 * s.size))
  exact ⟨a, c, rfl, hr, hb⟩
theorem sealL_ok (z : List Int) (k : Nat) (a : Option Addr) (c : Nat) (w : World) (ha : Rd .u8 w a z) (hz : AllBits z) (hl : z.length = k) (hk : k ≤ 4000) :
    Calls Tryz.prog 9 #[.slice a k c, .int .i64 3] w fun e w' => ∃ a' c', e = .returned (.tuple #[.slice a' (k + 24) c', .int .i64 0]) ∧ Rd .u8 w' a' (sealM z) ∧ Below w.heap.size w w' := by
  subst hl
  refine (seal_ok z 3 a c w ha hz.bytes (by unfold errSum; rw [if_pos (errAll hz (by omega))]; rfl) (by show z.length + 24 ≤ 4096; omega)).mono fun e w' h => ?_
  obtain ⟨v, rfl, ho, hb⟩ := h
  obtain ⟨a', c', rfl, -, -, hr, -⟩ := ho.slice (k := z.length + 24) (sealM_length z)
  exact ⟨a', c', rfl, hr, hb⟩
theorem pickL_ok (cs : List Int) (n : Nat) (a : Option Addr) (c v k : Nat) (w : World) (hC : Col w) (ha : Rd .u8 w a cs) (hcs : AllBits cs) (hl : cs.length = n) (h1 : 1 ≤ n) (hn : n ≤ 4096) (hv : v ≤ 3) (hk : k ≤ 4096) :
    Calls Tryz.prog 17 #[.slice a n c, .int .i64 v, .int .i64 k] w fun e w' => ∃ a' c', e = .returned (.tuple #[.slice a' k c', .int .i64 0]) ∧ k ≤ c' ∧ c' ≤ maxLen ∧ Rd .u8 w' a' (takeM cs (pickTo n v k)) ∧ Below w.heap.size w w' := by
  subst hl
  have hE : pickErr cs (v : Int) (k : Int) = 0 := by
    unfold pickErr
    rw [if_pos (errAll hcs hn), show verOk (v : Int) = true from decide_eq_true (by omega), if_neg (by rintro (h | h | h | h) <;> first | omega | cases h)]
  refine (pick_own cs a c (v : Int) (k : Int) w hC ha (by unfold maxLen; omega)).mono fun e w' h => ?_
  obtain ⟨a', k', c', rfl, hb, h0, -⟩ := h
  obtain ⟨hk', ho⟩ := h0 hE
  rw [Int.toNat_natCast] at hk' ho
  rw [Int.toNat_natCast] at ho
  subst hk'
  rw [hE]
  have e1 : pickedM cs v k' = takeM cs (pickTo cs.length v k') := by unfold pickedM takeM pickTo; rw [List.map_map]; rfl
  obtain ⟨a2, c2, e2, k2, m2, r2, -⟩ := ho.slice (pickedM_length cs v k')
  cases e2
  rw [← e1]
  exact ⟨_, _, rfl, k2, m2, r2, hb⟩
theorem coverL_ok (zs : List Int) (k s : Nat) (a : Option Addr) (c : Nat) (w : World) (ha : Rd .u8 w a zs) (hz : AllBits zs) (hl : zs.length = k) (hk : k ≤ 4096) (hs : s < 2147483648) :
    Calls Tryz.prog 12 #[.slice a k c, .int .i64 s] w fun e w' => ∃ a' c', e = .returned (.tuple #[.slice a' k c', .int .i64 0]) ∧ k ≤ c' ∧ c' ≤ maxLen ∧ Rd .u8 w' a' (addTo zs (noiseTo s k) k) ∧ Below w.heap.size w w' := by
  subst hl
  refine (cover_ok zs s a c w ha hz.bits (errAll hz hk) hs).mono fun e w' h => ?_
  obtain ⟨v, rfl, ho, hb⟩ := h
  obtain ⟨a', c', rfl, hc1, hc2, hr, -⟩ := ho.slice (k := zs.length) (addTo_length _ _ _)
  exact ⟨a', c', rfl, hc1, hc2, hr, hb⟩
theorem sendL_ok (b : List Int) (k h o n : Nat) (a : Option Addr) (c : Nat) (w : World) (hr : Rd .u8 w a b) (hb : AllBits b) (hl : b.length = k) (hkc : k ≤ c) (hcm : c ≤ maxLen) (h1 : 1 ≤ h) (hh : h ≤ 3) (ho : o = 2 * h) (hkn : k = n * o) (hk : k ≤ 4096) :
    Calls Tryz.prog 18 #[.slice a k c, .int .i64 o] w fun e w' => ∃ g, e = .returned (.tuple #[.slice (some ⟨g, 0, none⟩) n n, .int .i64 0]) ∧ OwnP w' w.heap.size (.slice (some ⟨g, 0, none⟩) n n) (sentM h b o n) ∧ Below w.heap.size w w' := by
  subst hl
  have h01 : ∀ x ∈ b, x = 0 ∨ x = 1 := fun x hx => by have := hb x hx; omega
  have hn4 : n ≤ 4096 := by
    have : n * 1 ≤ n * o := Nat.mul_le_mul_left n (by omega)
    omega
  refine (send_good b h o n a c w hr hkc hcm (errAll hb hk) h1 hh ho hkn hn4 h01).mono fun e w' h' => ?_
  obtain ⟨g, rfl, hP, hg, hbl⟩ := h'
  refine ⟨g, rfl, ?_, hbl⟩
  subst ho
  have hal := sentA_all h1 hh hkn h01
  have hw := hP.owns hg (sentA_length (Nat.le_refl n)) (by unfold maxLen; omega)
  rw [hal] at hw
  have e2 : (sentM h b (2 * h) n).length = n := by simp [sentM]
  unfold OwnP
  rw [e2]
  exact hw
def ptsT (n : Nat) (M : List (Int × Int)) (B0 : Nat) : Value → World → Prop := fun x w => ∃ g, x = .tuple #[.slice (some ⟨g, 0, none⟩) n n, .int .i64 0] ∧ OwnP w B0 (.slice (some ⟨g, 0, none⟩) n n) M
def ptsO (n : Nat) (M : List (Int × Int)) (B0 : Nat) : Value → World → Prop := fun x w => ∃ g, x = .slice (some ⟨g, 0, none⟩) n n ∧ OwnP w B0 (.slice (some ⟨g, 0, none⟩) n n) M
theorem ownP_below {w w' : World} {B : Nat} {v : Value} {ps : List (Int × Int)} (h : OwnP w B v ps) (hb : Below w.heap.size w w') : OwnP w' B v ps := OwnT.below (T := 29) h hb
theorem ptsT_mono (n : Nat) (M : List (Int × Int)) (B0 : Nat) : MonoR (ptsT n M B0) := fun _ _ _ ⟨g, h1, h2⟩ hg => ⟨g, h1, ownP_below h2 (below_of_grown hg)⟩
theorem ptsO_mono (n : Nat) (M : List (Int × Int)) (B0 : Nat) : MonoR (ptsO n M B0) := fun _ _ _ ⟨g, h1, h2⟩ hg => ⟨g, h1, ownP_below h2 (below_of_grown hg)⟩
theorem sealM_bitsL {s : ByteArray} : AllBits (sealM (unpackTo s (8 * s.size))) := sealM_all (unpack_all s _)
set_option maxRecDepth 100000 in
set_option maxHeartbeats 2000000 in
theorem lbuild_ok (s : ByteArray) (S : Setg) (v : Nat) (w : World) (hR : ReadyL w) (hIn : S.In) (hE : setErr S s.size = 0) (hv : v ≤ 3) :
    Calls Tryz.prog 32 #[.string s, S.val, .int .i64 v] w fun e w' => ∃ g n, e = .returned (.tuple #[.slice (some ⟨g, 0, none⟩) n n, .int .i64 0]) ∧ Below w.heap.size w w' ∧ OwnP w' w.heap.size (.slice (some ⟨g, 0, none⟩) n n) (builtM S s v) := by
  have hS := setOk_of hE
  have hfew := hS.few
  have hs40 : s.size ≤ 40 := by omega
  have hcount := hS.count
  have horder := hS.order
  have hseed := hS.seed
  have hchk := fun wz => lcheck_any S (s.size : Int) wz hIn ⟨by omega, by omega⟩
  rw [hE] at hchk
  have hver := fun wz => lversion_any (v : Int) wz
  rw [show verErr (v : Int) = 0 by unfold verErr; rw [show verOk (v : Int) = true from decide_eq_true (by omega)]; rfl] at hver
  obtain ⟨z, ez⟩ : ∃ z, z = sealM (unpackTo s (8 * s.size)) := ⟨_, rfl⟩
  have hzl : z.length = 8 * s.size + 24 := by rw [ez, sealM_length, unpackTo_length]
  have hzb : AllBits z := by rw [ez]; exact sealM_bitsL
  have hcl : ((codeL S z).length : Int) = codedN S s.size := codeL_length hzl hS.code fun e => (hS.size1 e).1
  have hcb : AllBits (codeL S z) := codeL_all hzb
  have hcn : 1 ≤ (codeL S z).length ∧ (codeL S z).length ≤ 4096 := by
    unfold codedN at hcl
    rcases hS.code with h | h
    · rw [if_pos h] at hcl; omega
    · rw [if_neg (by omega)] at hcl
      have hp := (hS.size1 h).1
      unfold powI at hp
      have := of_decide_eq_true hp
      omega
  obtain ⟨O, eO⟩ : ∃ O : Nat, S.order = O := ⟨S.order.toNat, by omega⟩
  obtain ⟨C, eC⟩ : ∃ C : Nat, S.count = C := ⟨S.count.toNat, by omega⟩
  obtain ⟨U, eU⟩ : ∃ U : Nat, S.seed = U := ⟨S.seed.toNat, by omega⟩
  obtain ⟨h, hh⟩ : ∃ h : Nat, O = 2 * h ∧ 1 ≤ h ∧ h ≤ 3 := ⟨O / 2, by omega⟩
  obtain ⟨q, hq⟩ : ∃ q : Nat, C = q * O := by
    refine ⟨C / O, ?_⟩
    have h3 := hcount.2.2
    rw [eC, eO] at h3
    have h4 : C % O = 0 := by exact_mod_cast h3
    have := Nat.div_add_mod C O
    rw [h4, Nat.mul_comm] at this
    omega
  have hBM : builtM S s v = sentM h (addTo (takeM (codeL S z) (pickTo (codeL S z).length v C)) (noiseTo U C) C) O q := by
    unfold builtM coverM
    rw [← ez]
    have e1 : (pickedK S z v).length = C := by rw [pickedK_length, eC]; rfl
    rw [e1]
    unfold pickedK
    rw [eC, eO, eU, Int.toNat_natCast, Int.toNat_natCast, Int.toNat_natCast, hh.1, show 2 * h / 2 = h by omega, hq, hh.1, Nat.mul_div_cancel _ (by omega)]
  rw [hBM]
  obtain ⟨L, eL⟩ : ∃ L, L = codeL S z := ⟨_, rfl⟩
  have hun := fun wz => unpackL_ok s hs40 wz
  have hse := fun (wz : World) (a : Option Addr) (c : Nat) (h : Rd .u8 wz a (unpackTo s (8 * s.size))) => sealL_ok (unpackTo s (8 * s.size)) (8 * s.size) a c wz h (unpack_all s _) (unpackTo_length _ _) (by omega)
  rw [← ez] at hse
  have hen := fun (wz : World) (a : Option Addr) (c : Nat) (hr : ReadyL wz) (h : Rd .u8 wz a z) => lencode_any S s.size z a (8 * s.size + 24) c wz hS hr h hzb hzl rfl
  rw [← eL] at hen hcl hcb hcn ⊢
  obtain ⟨N, eN⟩ : ∃ N, N = L.length := ⟨_, rfl⟩
  have hpi := fun (wz : World) (a : Option Addr) (c : Nat) (hr : Col wz) (h : Rd .u8 wz a L) => pickL_ok L N a c v C wz hr h hcb eN.symm (by omega) (by omega) hv (by omega)
  rw [← eN]
  obtain ⟨Z, eZ⟩ : ∃ Z, Z = takeM L (pickTo N v C) := ⟨_, rfl⟩
  have hZl : Z.length = C := by rw [eZ, takeM_length, pickTo_len]
  have hZb : AllBits Z := by rw [eZ]; exact takeM_bits hcb _
  rw [← eZ] at hpi ⊢
  have hco := fun (wz : World) (a : Option Addr) (c : Nat) (h : Rd .u8 wz a Z) => coverL_ok Z C U a c wz h hZb hZl (by omega) (by omega)
  obtain ⟨D, eD⟩ : ∃ D, D = addTo Z (noiseTo U C) C := ⟨_, rfl⟩
  have hDl : D.length = C := by rw [eD, addTo_length]
  have hDb : AllBits D := by rw [eD]; exact addTo_all _ _ _
  rw [← eD] at hco ⊢
  have hsd := fun (wz : World) (a : Option Addr) (c : Nat) (h' : Rd .u8 wz a D) (h1 : C ≤ c) (h2 : c ≤ maxLen) => sendL_ok D C h O q a c wz h' hDb hDl h1 h2 hh.2.1 hh.2.2 hh.1 hq (by omega)
  obtain ⟨M, eM⟩ : ∃ M, M = sentM h D O q := ⟨_, rfl⟩
  rw [← eM] at hsd ⊢
  have HN : Hid (L.length = N) := eN.symm
  have HC := hid eC
  have HU := hid eU
  have HO := hid eO
  have hmix : Tryz.prog.follows .mixedOrders = true := by kernel_rfl
  have HCC : Hid (∀ wz, Below (w.alloc (.cells #[.int .i64 S.code, .int .i64 S.size, .int .i64 S.order, .int .i64 S.seed, .int .i64 S.count] 55)).heap.size (w.alloc (.cells #[.int .i64 S.code, .int .i64 S.size, .int .i64 S.order, .int .i64 S.seed, .int .i64 S.count] 55)) wz → wz.cell? ⟨w.heap.size, 0, none⟩ = some (.int .i64 S.code) ∧ wz.cell? ⟨w.heap.size, 1, none⟩ = some (.int .i64 S.size) ∧ wz.cell? ⟨w.heap.size, 2, none⟩ = some (.int .i64 S.order) ∧ wz.cell? ⟨w.heap.size, 3, none⟩ = some (.int .i64 S.seed) ∧ wz.cell? ⟨w.heap.size, 4, none⟩ = some (.int .i64 S.count)) := fun wz h => set_cells h
  have hb0 : Below w.heap.size w (w.alloc (.cells #[.int .i64 S.code, .int .i64 S.size, .int .i64 S.order, .int .i64 S.seed, .int .i64 S.count] 55)) := (Below.refl _ w).alloc (Nat.le_refl _) _
  have hl0 : w.heap.size < (w.alloc (.cells #[.int .i64 S.code, .int .i64 S.size, .int .i64 S.order, .int .i64 S.seed, .int .i64 S.count] 55)).heap.size := by simp
  have hR0 := hR.below hb0
  clear hBM eM eD eZ eN eL ez eC eU eO hDl hDb hZl hZb hcl hcb hcn hzl hzb hS hE hIn hcount horder hseed hq hh hv hfew
  unfold Setg.val
  go_enter Tryz.func32, Tryz.ntmps32
  go_wp2_with fail
  generalize w.alloc (.cells #[.int .i64 S.code, .int .i64 S.size, .int .i64 S.order, .int .i64 S.seed, .int .i64 S.count] 55) = w0 at *
  refine (hchk _).mono ?_
  rintro e w1 ⟨rfl, hb1⟩
  have hRd : ∀ wz, Below w0.heap.size w0 wz → ReadyL wz := fun wz h => hR0.below h
  go_wp2_with (first
    | (go_at_call 70; refine (hver _).mono ?_; rintro e w2 ⟨rfl, rfl⟩)
    | (go_at_call 72; refine (hun _).mono ?_; rintro e w3 ⟨a3, c3, rfl, hr3, hb3⟩)
    | (go_at_call 71; refine (mustB _ _).mono ?_; rintro e w9 ⟨rfl, rfl⟩)
    | (go_at_call 9; refine (hse _ _ _ hr3).mono ?_; rintro e w4 ⟨a4, c4, rfl, hr4, hb4⟩; have hB4 := hb1.trans ((hb3.trans (hb4.mono hb3.size)).mono hb1.size))
    | fail)
  refine wp_mono (region_each (Q := fun e a' w' => e = .normal ∧ ∃ σ : Nat → Value, a' = ({ tmps := ((setAll _ (tbS [36, 37, 38, 39, 40, 41, 42, 43, 44, 45] 10 σ)).set 11 (σ 9)).toArray, defers := [] } : Act) ∧ sliR .u8 C Z (σ 9) w' ∧ Below w4.heap.size w4 w') 11 10 [36, 37, 38, 39, 40, 41, 42, 43, 44, 45]
    [[10], [4], [36, 37], [2], [4], [40], [38, 39, 41], [42], [42], [43, 44]] [2, 2, 6, 6, 5, 6, 7, 9, 9, 10]
    [eqR (.slice a4 (8 * s.size + 24) c4), eqR S.val, sliR .u8 N L, eqR (.int .i64 (v : Int)), eqR (.pointer (some ⟨w.heap.size, 0 + 4, none⟩)), eqR (.int .i64 (C : Int)), tupR .u8 C Z, sliR .u8 C Z, eqR (.int .i64 0), sliR .u8 C Z] w4 hmix rfl (by decide) rfl (by decide) (by kernel_rfl) (by kernel_rfl) (by kernel_rfl) (by kernel_rfl) (by kernel_rfl) (by kernel_rfl)
    (by intro R hR; simp only [List.mem_cons, List.not_mem_nil, or_false] at hR; rcases hR with rfl | rfl | rfl | rfl | rfl | rfl | rfl | rfl | rfl | rfl <;> (first | (exact eqR_mono _) | (exact sliR_mono _ _ _) | (exact tupR_mono _ _ _)))
    (fun i' hi' σ ac wc hbc hp hr Q K hK => by
      have hor : i' = 0 ∨ i' = 1 ∨ i' = 2 ∨ i' = 3 ∨ i' = 4 ∨ i' = 5 ∨ i' = 6 ∨ i' = 7 ∨ i' = 8 ∨ i' = 9 := by omega
      rcases hor with rfl | rfl | rfl | rfl | rfl | rfl | rfl | rfl | rfl | rfl
      · have e10 := hr 10 (by decide)
        exact op_value rfl rfl (run_moveQ wc rfl e10) (hK _ wc (grownL wc) rfl)
      · have e4 := hr 4 (by decide)
        obtain ⟨c0, c1, c2, c3, c4⟩ := HCC.out wc (hB4.trans (hbc.mono hB4.size))
        exact op_value rfl rfl (run_loadSetL (S := S) wc rfl e4 c0 c1 c2 c3 c4) (hK _ wc (grownL wc) rfl)
      · have e36 : ac.eval (.tmp 36) = (.slice a4 (8 * s.size + 24) c4) := (hr 36 (by decide)).trans (hp 0 (by decide) (by kernel_rfl))
        have e37 : ac.eval (.tmp 37) = S.val := (hr 37 (by decide)).trans (hp 1 (by decide) (by kernel_rfl))
        refine op_callNL rfl rfl rfl (enters_of Tryz.func67 (by kernel_rfl) rfl) (map2L e36 e37) (hen wc _ _ (hRd wc (hB4.trans (hbc.mono hB4.size))) (hr4.below hbc)) fun e w' hr' => ?_
        obtain ⟨v38, rfl, ho38, hb'⟩ := hr'
        exact ⟨_, rfl, hK _ w' (grown_of_below hb') (by obtain ⟨a38, c38, rfl, k38, m38, r38, -⟩ := ho38.slice HN.out; exact sliR.mk k38 m38 r38)⟩
      · have e2 := hr 2 (by decide)
        exact op_value rfl rfl (run_moveQ wc rfl e2) (hK _ wc (grownL wc) rfl)
      · have e4 := hr 4 (by decide)
        exact op_value rfl rfl (run_fldSet4 wc rfl e4) (hK _ wc (grownL wc) rfl)
      · have e40 : ac.eval (.tmp 40) = (.pointer (some ⟨w.heap.size, 0 + 4, none⟩)) := (hr 40 (by decide)).trans (hp 4 (by decide) (by kernel_rfl))
        obtain ⟨c0, c1, c2, c3, c4⟩ := HCC.out wc (hB4.trans (hbc.mono hB4.size))
        exact op_value rfl rfl (run_loadI wc rfl e40 (HC.out ▸ c4)) (hK _ wc (grownL wc) rfl)
      · obtain ⟨a38, c38, q38, k38, m38, r38⟩ := hp 2 (by decide) (by kernel_rfl)
        have e38 := (hr 38 (by decide)).trans q38
        have e39 : ac.eval (.tmp 39) = (.int .i64 (v : Int)) := (hr 39 (by decide)).trans (hp 3 (by decide) (by kernel_rfl))
        have e41 : ac.eval (.tmp 41) = (.int .i64 (C : Int)) := (hr 41 (by decide)).trans (hp 5 (by decide) (by kernel_rfl))
        refine op_callNL rfl rfl rfl (enters_of Tryz.func17 (by kernel_rfl) rfl) (map3L e38 e39 e41) (hpi wc _ _ (hRd wc (hB4.trans (hbc.mono hB4.size))).col r38) fun e w' hr' => ?_
        obtain ⟨a42, c42, rfl, k42, m42, r42, hb'⟩ := hr'
        exact ⟨_, rfl, hK _ w' (grown_of_below hb') (tupR.mk k42 m42 r42)⟩
      · obtain ⟨a42, c42, q42, k42, m42, r42⟩ := hp 6 (by decide) (by kernel_rfl)
        have e42 := (hr 42 (by decide)).trans q42
        exact op_value rfl rfl (run_extractL wc rfl e42 rfl) (hK _ wc (grownL wc) (sliR.mk k42 m42 r42))
      · obtain ⟨a42, c42, q42, k42, m42, r42⟩ := hp 6 (by decide) (by kernel_rfl)
        have e42 := (hr 42 (by decide)).trans q42
        exact op_value rfl rfl (run_extractL wc rfl e42 rfl) (hK _ wc (grownL wc) rfl)
      · obtain ⟨a43, c43, q43, k43, m43, r43⟩ := hp 7 (by decide) (by kernel_rfl)
        have e43 := (hr 43 (by decide)).trans q43
        have e44 : ac.eval (.tmp 44) = (.int .i64 0) := (hr 44 (by decide)).trans (hp 8 (by decide) (by kernel_rfl))
        refine op_callNL rfl rfl rfl (enters_of Tryz.func71 (by kernel_rfl) rfl) (map2L e43 e44) (mustB _ wc) fun e w' hr' => ?_
        obtain ⟨rfl, rfl⟩ := hr'
        exact ⟨_, rfl, hK _ _ (grownL _) (sliR.mk k43 m43 r43)⟩)
    (fun σ wc hbc hp => by
      refine op_value rfl rfl (run_assignL wc rfl (eval_setAll (t := tbS [36, 37, 38, 39, 40, 41, 42, 43, 44, 45] 10 σ) 45 (show ([36, 37, 38, 39, 40, 41, 42, 43, 44, 45] : List Nat).Nodup by decide) (by kernel_rfl))) ⟨rfl, σ, put_list _ _ _, hp 9 (by decide), hbc⟩)) ?_
  rintro e a' w5 ⟨rfl, σ5, rfl, ⟨a5, c5, q5, k5, m5, hr5⟩, hb5⟩
  have hB5 := hB4.trans (hb5.mono hB4.size)
  rw [show tbS [36, 37, 38, 39, 40, 41, 42, 43, 44, 45] 10 σ5 = [(36, σ5 0), (37, σ5 1), (38, σ5 2), (39, σ5 3), (40, σ5 4), (41, σ5 5), (42, σ5 6), (43, σ5 7), (44, σ5 8), (45, σ5 9)] from rfl, q5]
  dsimp only [setAll, List.set, List.append_nil, List.cons_append, List.nil_append]
  go_wp2_with fail
  refine wp_mono (region_each (Q := fun e a' w' => e = .normal ∧ ∃ σ : Nat → Value, a' = ({ tmps := ((setAll _ (tbS [46, 47, 48, 49, 50, 51, 52, 53, 54, 55, 56, 57, 58, 6] 14 σ)).set 7 (.int .i64 0)).toArray, defers := [] } : Act) ∧ ptsO q M w.heap.size (σ 13) w' ∧ Below w5.heap.size w5 w') 15 14 [46, 47, 48, 49, 50, 51, 52, 53, 54, 55, 56, 57, 58, 6]
    [[11], [4], [47], [46, 48], [49], [49], [50, 51], [4], [53], [52, 54], [55], [55], [56, 57], [58]] [3, 2, 3, 4, 6, 6, 9, 8, 9, 10, 12, 12, 13, 14]
    [eqR (.slice a5 C c5), eqR (.pointer (some ⟨w.heap.size, 0 + 3, none⟩)), eqR (.int .i64 (U : Int)), tupR .u8 C D, sliR .u8 C D, eqR (.int .i64 0), sliR .u8 C D, eqR (.pointer (some ⟨w.heap.size, 0 + 2, none⟩)), eqR (.int .i64 (O : Int)), ptsT q M w.heap.size, ptsO q M w.heap.size, eqR (.int .i64 0), ptsO q M w.heap.size, ptsO q M w.heap.size] w5 hmix rfl (by decide) rfl (by decide) (by kernel_rfl) (by kernel_rfl) (by kernel_rfl) (by kernel_rfl) (by kernel_rfl) (by kernel_rfl)
    (by intro R hR; simp only [List.mem_cons, List.not_mem_nil, or_false] at hR; rcases hR with rfl | rfl | rfl | rfl | rfl | rfl | rfl | rfl | rfl | rfl | rfl | rfl | rfl | rfl <;> (first | (exact eqR_mono _) | (exact tupR_mono _ _ _) | (exact sliR_mono _ _ _) | (exact ptsT_mono _ _ _) | (exact ptsO_mono _ _ _)))
    (fun i' hi' σ ac wc hbc hp hr Q K hK => by
      have hor : i' = 0 ∨ i' = 1 ∨ i' = 2 ∨ i' = 3 ∨ i' = 4 ∨ i' = 5 ∨ i' = 6 ∨ i' = 7 ∨ i' = 8 ∨ i' = 9 ∨ i' = 10 ∨ i' = 11 ∨ i' = 12 ∨ i' = 13 := by omega
      rcases hor with rfl | rfl | rfl | rfl | rfl | rfl | rfl | rfl | rfl | rfl | rfl | rfl | rfl | rfl
      · have e11 := hr 11 (by decide)
        exact op_value rfl rfl (run_moveQ wc rfl e11) (hK _ wc (grownL wc) rfl)
      · have e4 := hr 4 (by decide)
        exact op_value rfl rfl (run_fldSet3 wc rfl e4) (hK _ wc (grownL wc) rfl)
      · have e47 : ac.eval (.tmp 47) = (.pointer (some ⟨w.heap.size, 0 + 3, none⟩)) := (hr 47 (by decide)).trans (hp 1 (by decide) (by kernel_rfl))
        obtain ⟨c0, c1, c2, c3, c4⟩ := HCC.out wc (hB5.trans (hbc.mono hB5.size))
        exact op_value rfl rfl (run_loadI wc rfl e47 (HU.out ▸ c3)) (hK _ wc (grownL wc) rfl)
      · have e46 : ac.eval (.tmp 46) = (.slice a5 C c5) := (hr 46 (by decide)).trans (hp 0 (by decide) (by kernel_rfl))
        have e48 : ac.eval (.tmp 48) = (.int .i64 (U : Int)) := (hr 48 (by decide)).trans (hp 2 (by decide) (by kernel_rfl))
        refine op_callNL rfl rfl rfl (enters_of Tryz.func12 (by kernel_rfl) rfl) (map2L e46 e48) (hco wc _ _ (hr5.below hbc)) fun e w' hr' => ?_
        obtain ⟨a49, c49, rfl, k49, m49, r49, hb'⟩ := hr'
        exact ⟨_, rfl, hK _ w' (grown_of_below hb') (tupR.mk k49 m49 r49)⟩
      · obtain ⟨a49, c49, q49, k49, m49, r49⟩ := hp 3 (by decide) (by kernel_rfl)
        have e49 := (hr 49 (by decide)).trans q49
        exact op_value rfl rfl (run_extractL wc rfl e49 rfl) (hK _ wc (grownL wc) (sliR.mk k49 m49 r49))
      · obtain ⟨a49, c49, q49, k49, m49, r49⟩ := hp 3 (by decide) (by kernel_rfl)
        have e49 := (hr 49 (by decide)).trans q49
        exact op_value rfl rfl (run_extractL wc rfl e49 rfl) (hK _ wc (grownL wc) rfl)
      · obtain ⟨a50, c50, q50, k50, m50, r50⟩ := hp 4 (by decide) (by kernel_rfl)
        have e50 := (hr 50 (by decide)).trans q50
        have e51 : ac.eval (.tmp 51) = (.int .i64 0) := (hr 51 (by decide)).trans (hp 5 (by decide) (by kernel_rfl))
        refine op_callNL rfl rfl rfl (enters_of Tryz.func71 (by kernel_rfl) rfl) (map2L e50 e51) (mustB _ wc) fun e w' hr' => ?_
        obtain ⟨rfl, rfl⟩ := hr'
        exact ⟨_, rfl, hK _ _ (grownL _) (sliR.mk k50 m50 r50)⟩
      · have e4 := hr 4 (by decide)
        exact op_value rfl rfl (run_fldSet2 wc rfl e4) (hK _ wc (grownL wc) rfl)
      · have e53 : ac.eval (.tmp 53) = (.pointer (some ⟨w.heap.size, 0 + 2, none⟩)) := (hr 53 (by decide)).trans (hp 7 (by decide) (by kernel_rfl))
        obtain ⟨c0, c1, c2, c3, c4⟩ := HCC.out wc (hB5.trans (hbc.mono hB5.size))
        exact op_value rfl rfl (run_loadI wc rfl e53 (HO.out ▸ c2)) (hK _ wc (grownL wc) rfl)
      · obtain ⟨a52, c52, q52, k52, m52, r52⟩ := hp 6 (by decide) (by kernel_rfl)
        have e52 := (hr 52 (by decide)).trans q52
        have e54 : ac.eval (.tmp 54) = (.int .i64 (O : Int)) := (hr 54 (by decide)).trans (hp 8 (by decide) (by kernel_rfl))
        refine op_callNL rfl rfl rfl (enters_of Tryz.func18 (by kernel_rfl) rfl) (map2L e52 e54) (hsd wc _ _ r52 k52 m52) fun e w' hr' => ?_
        obtain ⟨g55, rfl, ho55, hb'⟩ := hr'
        exact ⟨_, rfl, hK _ w' (grown_of_below hb') (show ptsT q M w.heap.size _ _ from ⟨g55, rfl, OwnP.monoL ho55 (Nat.le_trans (Nat.le_of_lt hl0) (Nat.le_trans hB5.size hbc.size))⟩)⟩
      · obtain ⟨g55, q55, h55⟩ := hp 9 (by decide) (by kernel_rfl)
        have e55 := (hr 55 (by decide)).trans q55
        exact op_value rfl rfl (run_extractL wc rfl e55 rfl) (hK _ wc (grownL wc) (show ptsO q M w.heap.size _ _ from ⟨g55, rfl, h55⟩))
      · obtain ⟨g55, q55, h55⟩ := hp 9 (by decide) (by kernel_rfl)
        have e55 := (hr 55 (by decide)).trans q55
        exact op_value rfl rfl (run_extractL wc rfl e55 rfl) (hK _ wc (grownL wc) rfl)
      · obtain ⟨g56, q56, h56⟩ := hp 10 (by decide) (by kernel_rfl)
        have e56 := (hr 56 (by decide)).trans q56
        have e57 : ac.eval (.tmp 57) = (.int .i64 0) := (hr 57 (by decide)).trans (hp 11 (by decide) (by kernel_rfl))
        refine op_callNL rfl rfl rfl (enters_of Tryz.func73 (by kernel_rfl) rfl) (map2L e56 e57) (mustP _ wc) fun e w' hr' => ?_
        obtain ⟨rfl, rfl⟩ := hr'
        exact ⟨_, rfl, hK _ _ (grownL _) (show ptsO q M w.heap.size _ _ from ⟨g56, rfl, h56⟩)⟩
      · obtain ⟨g58, q58, h58⟩ := hp 12 (by decide) (by kernel_rfl)
        have e58 := (hr 58 (by decide)).trans q58
        exact op_value rfl rfl (run_assignL wc rfl e58) (hK _ wc (grownL wc) (show ptsO q M w.heap.size _ _ from ⟨g58, rfl, h58⟩)))
    (fun σ wc hbc hp => by
      refine op_value rfl rfl (run_assignL wc rfl rfl) ⟨rfl, σ, put_list _ _ _, hp 13 (by decide), hbc⟩)) ?_
  rintro e a' w6 ⟨rfl, σ6, rfl, ⟨g6, q6, ho6⟩, hb6⟩
  rw [show tbS [46, 47, 48, 49, 50, 51, 52, 53, 54, 55, 56, 57, 58, 6] 14 σ6 = [(46, σ6 0), (47, σ6 1), (48, σ6 2), (49, σ6 3), (50, σ6 4), (51, σ6 5), (52, σ6 6), (53, σ6 7), (54, σ6 8), (55, σ6 9), (56, σ6 10), (57, σ6 11), (58, σ6 12), (6, σ6 13)] from rfl, q6]
  dsimp only [setAll, List.set, List.append_nil, List.cons_append, List.nil_append]
  have hBB := hb0.trans ((hB5.trans (hb6.mono hB5.size)).mono hb0.size)
  go_wp2_with fail
  go_ret2
  exact ⟨g6, q, rfl, hBB, ho6⟩
end Go.Proofs.YtplkmkbambbemadGreatDoor
