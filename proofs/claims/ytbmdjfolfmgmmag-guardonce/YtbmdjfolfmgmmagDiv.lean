import Derived.Test.YtbmdjfolfmgmmagSumG
import Derived.Test.YtbmdjfolfmgmmagCheck
namespace Go.Proofs.Ytbmdjfolfmgmmag
open Go.ChangeShapes Go.WideShapes Go.ChangeAt Go.RowKit

/-- The width and the divisor (without its highest place) of a kind. -/
def kW (k : Int) : Nat := if k = 0 then 6 else if k = 1 then 11 else if k = 2 then 16 else if k = 3 then 24 else 0
def kR (k : Int) : Nat := if k = 0 then 33 else if k = 1 then 1569 else if k = 2 then 4129 else if k = 3 then 8801531 else 0
def kP (k : Int) : Nat := 2 ^ kW k ||| kR k
def isKind (k : Int) : Bool := decide (0 ≤ k ∧ k ≤ 3)
/-- The places of the divisor, the width first. -/
def kD (k : Int) : List Int := if k = 0 then [6, 5, 0] else if k = 1 then [11, 10, 9, 5, 0] else if k = 2 then [16, 12, 5, 0] else if k = 3 then [24, 23, 18, 17, 14, 11, 10, 7, 6, 5, 4, 3, 1, 0] else []

theorem kind_cases {k : Int} (h : isKind k = true) : k = 0 ∨ k = 1 ∨ k = 2 ∨ k = 3 := by
  simp [isKind] at h; omega

theorem kind_div {k : Int} (h : isKind k = true) : Div (kW k) (kP k) ∧ 1 ≤ kW k ∧ kW k ≤ 24 ∧ kR k < 16777216 := by
  rcases kind_cases h with rfl | rfl | rfl | rfl
  · exact ⟨⟨by decide, by decide, by decide, by decide⟩, by decide, by decide, by decide⟩
  · exact ⟨⟨by decide, by decide, by decide, by decide⟩, by decide, by decide, by decide⟩
  · exact ⟨⟨by decide, by decide, by decide, by decide⟩, by decide, by decide, by decide⟩
  · exact ⟨⟨by decide, by decide, by decide, by decide⟩, by decide, by decide, by decide⟩

set_option maxHeartbeats 1000000 in
theorem divisor_yes (k : Int) (w : World) (h : isKind k = true) :
    Calls Try.prog 60 #[.int .i64 k] w fun e w' => e = .returned (.tuple #[.agg #[.int .i64 (kW k), .int .u32 (kR k)], .int .i64 0]) ∧ Below w.heap.size w w' := by
  rcases kind_cases h with rfl | rfl | rfl | rfl
  all_goals
    clear h
    go_enter Try.func60, Try.ntmps60
    go_wp2
  · exact bodyPost_ret (v := .tuple #[.agg #[.int .i64 6, .int .u32 33], .int .i64 0]) (by simp [results, Try.results60, go_sem]) rfl ⟨rfl, (Below.refl _ _).alloc (Nat.le_refl _) _⟩
  · exact bodyPost_ret (v := .tuple #[.agg #[.int .i64 11, .int .u32 1569], .int .i64 0]) (by simp [results, Try.results60, go_sem]) rfl ⟨rfl, (Below.refl _ _).alloc (Nat.le_refl _) _⟩
  · exact bodyPost_ret (v := .tuple #[.agg #[.int .i64 16, .int .u32 4129], .int .i64 0]) (by simp [results, Try.results60, go_sem]) rfl ⟨rfl, (Below.refl _ _).alloc (Nat.le_refl _) _⟩
  · exact bodyPost_ret (v := .tuple #[.agg #[.int .i64 24, .int .u32 8801531], .int .i64 0]) (by simp [results, Try.results60, go_sem]) rfl ⟨rfl, (Below.refl _ _).alloc (Nat.le_refl _) _⟩

set_option maxHeartbeats 1000000 in
theorem divisor_no (k : Int) (w : World) (h : isKind k = false) :
    Calls Try.prog 60 #[.int .i64 k] w fun e w' => e = .returned (.tuple #[.agg #[.int .i64 0, .int .u32 0], .int .i64 1]) ∧ Below w.heap.size w w' := by
  have h' : ¬ (0 ≤ k ∧ k ≤ 3) := by simpa [isKind] using h
  have h0 : (k == 0) = false := by simp; omega
  have h1 : (k == 1) = false := by simp; omega
  have h2 : (k == 2) = false := by simp; omega
  have h3 : (k == 3) = false := by simp; omega
  clear h h'
  go_enter Try.func60, Try.ntmps60
  go_wp2
  exact bodyPost_ret (v := .tuple #[.agg #[.int .i64 0, .int .u32 0], .int .i64 1]) (by simp [results, Try.results60, go_sem]) rfl ⟨rfl, (Below.refl _ _).alloc (Nat.le_refl _) _⟩

/-- The box of a divisor, behind a call. -/
theorem box2 {w w1 : World} {x y : Value} {T : TypeId} (hb : Below (w.alloc (.cells #[x, y] T)).heap.size (w.alloc (.cells #[x, y] T)) w1) :
    w1.cell? ⟨w.heap.size, 0, none⟩ = some x ∧ w1.cell? ⟨w.heap.size, 1, none⟩ = some y ∧ w1.frozen? ⟨w.heap.size, 0, none⟩ = false ∧ w1.frozen? ⟨w.heap.size, 1, none⟩ = false ∧ w.heap.size < w1.heap.size := by
  have hlt : w.heap.size < (w.alloc (.cells #[x, y] T)).heap.size := by simp
  refine ⟨(hb.cell (p := ⟨w.heap.size, 0, none⟩) hlt).trans ?_, (hb.cell (p := ⟨w.heap.size, 1, none⟩) hlt).trans ?_, (hb.frozen (p := ⟨w.heap.size, 0, none⟩) hlt).trans ?_, (hb.frozen (p := ⟨w.heap.size, 1, none⟩) hlt).trans ?_, Nat.lt_of_lt_of_le hlt hb.size⟩
  · rw [cell_of_row _ _ _ _ _ _ (heap_alloc_new w _)]; rfl
  · rw [cell_of_row _ _ _ _ _ _ (heap_alloc_new w _)]; rfl
  · exact frozen_of_row _ _ _ _ _ (heap_alloc_new w _)
  · exact frozen_of_row _ _ _ _ _ (heap_alloc_new w _)

/-- What is wrong with bits and a kind. -/
def errSum (zs : List Int) (k : Int) : Int := if errOf zs = 0 then (if isKind k then 0 else 1) else errOf zs

set_option maxHeartbeats 1000000 in
theorem checksum_ok (zs : List Int) (k : Int) (a : Option Addr) (c : Nat) (w : World) (ha : Rd .u8 w a zs) (hz : zs.length ≤ maxLen) (he : errOf zs = 0) (h : isKind k = true) :
    Calls Try.prog 52 #[.slice a zs.length c, .int .i64 k] w fun e w' => e = .returned (.tuple #[.agg #[.int .i64 (kW k), .int .u32 (kR k)], .int .i64 0]) ∧ Below w.heap.size w w' := by
  have HE : Hid (errOf zs = 0) := he
  clear he
  go_enter Try.func52, Try.ntmps52
  go_wp2_with fail
  refine (check_any zs a c _ (ha.below ((Below.refl _ _).alloc (Nat.le_refl _) _)) hz).mono ?_
  rintro e w1 ⟨rfl, rfl⟩
  rw [HE.out]
  go_wp2_with fail
  refine (divisor_yes k _ h).mono ?_
  rintro e w1 ⟨rfl, hb⟩
  obtain ⟨q0, q1, q2, q3, q4⟩ := box2 hb
  have hbw : Below w.heap.size w w1 := bthen ((Below.refl _ _).alloc (Nat.le_refl _) _) hb
  clear hb
  go_wp2
  exact bodyPost_ret (v := .tuple #[.agg #[.int .i64 (kW k), .int .u32 (kR k)], .int .i64 0]) (by simp [results, Try.results52, go_sem, q0, q1]) rfl ⟨rfl, (hbw.setCell (Nat.le_refl _) _).setCell (Nat.le_refl _) _⟩

set_option maxHeartbeats 1000000 in
theorem checksum_kind (zs : List Int) (k : Int) (a : Option Addr) (c : Nat) (w : World) (ha : Rd .u8 w a zs) (hz : zs.length ≤ maxLen) (he : errOf zs = 0) (h : isKind k = false) :
    Calls Try.prog 52 #[.slice a zs.length c, .int .i64 k] w fun e w' => e = .returned (.tuple #[.agg #[.int .i64 0, .int .u32 0], .int .i64 1]) ∧ Below w.heap.size w w' := by
  have HE : Hid (errOf zs = 0) := he
  clear he
  go_enter Try.func52, Try.ntmps52
  go_wp2_with fail
  refine (check_any zs a c _ (ha.below ((Below.refl _ _).alloc (Nat.le_refl _) _)) hz).mono ?_
  rintro e w1 ⟨rfl, rfl⟩
  rw [HE.out]
  go_wp2_with fail
  refine (divisor_no k _ h).mono ?_
  rintro e w1 ⟨rfl, hb⟩
  obtain ⟨q0, q1, q2, q3, q4⟩ := box2 hb
  have hbw : Below w.heap.size w w1 := bthen ((Below.refl _ _).alloc (Nat.le_refl _) _) hb
  clear hb
  go_wp2
  exact bodyPost_ret (v := .tuple #[.agg #[.int .i64 0, .int .u32 0], .int .i64 1]) (by simp [results, Try.results52, go_sem, q0, q1]) rfl ⟨rfl, (hbw.setCell (Nat.le_refl _) _).setCell (Nat.le_refl _) _⟩

set_option maxHeartbeats 1000000 in
theorem checksum_bad (zs : List Int) (k : Int) (a : Option Addr) (c : Nat) (w : World) (ha : Rd .u8 w a zs) (hz : zs.length ≤ maxLen) (he : errOf zs ≠ 0) :
    Calls Try.prog 52 #[.slice a zs.length c, .int .i64 k] w fun e w' => e = .returned (.tuple #[.agg #[.int .i64 0, .int .u32 0], .int .i64 (errOf zs)]) ∧ Below w.heap.size w w' := by
  have hne : (errOf zs != 0) = true := by simpa using he
  clear he
  go_enter Try.func52, Try.ntmps52
  go_wp2_with fail
  refine (check_any zs a c _ (ha.below ((Below.refl _ _).alloc (Nat.le_refl _) _)) hz).mono ?_
  rintro e w1 ⟨rfl, rfl⟩
  go_wp2
  exact bodyPost_ret (v := .tuple #[.agg #[.int .i64 0, .int .u32 0], .int .i64 (errOf zs)]) (by simp [results, Try.results52, go_sem]) rfl ⟨rfl, (Below.refl _ _).alloc (Nat.le_refl _) _⟩
theorem errSum_ok {zs : List Int} {k : Int} (h : errSum zs k = 0) : errOf zs = 0 ∧ isKind k = true := by
  unfold errSum at h
  split at h
  · rename_i he
    refine ⟨he, ?_⟩
    split at h
    · assumption
    · simp at h
  · contradiction

theorem checksum_err (zs : List Int) (k : Int) (a : Option Addr) (c : Nat) (w : World) (ha : Rd .u8 w a zs) (hz : zs.length ≤ maxLen) (h : errSum zs k ≠ 0) :
    Calls Try.prog 52 #[.slice a zs.length c, .int .i64 k] w fun e w' => e = .returned (.tuple #[.agg #[.int .i64 0, .int .u32 0], .int .i64 (errSum zs k)]) ∧ Below w.heap.size w w' := by
  by_cases he : errOf zs = 0
  · cases hk : isKind k with
    | true => exact absurd (by unfold errSum; rw [if_pos he, hk]; rfl) h
    | false =>
      have : errSum zs k = 1 := by unfold errSum; rw [if_pos he, hk]; rfl
      rw [this]
      exact checksum_kind zs k a c w ha hz he hk
  · have : errSum zs k = errOf zs := by unfold errSum; rw [if_neg he]
    rw [this]
    exact checksum_bad zs k a c w ha hz he

end Go.Proofs.Ytbmdjfolfmgmmag
