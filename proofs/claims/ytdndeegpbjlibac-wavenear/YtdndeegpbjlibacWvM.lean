import Derived.Test.YtdndeegpbjlibacWvS
import Derived.Test.YtdndeegpbjlibacWvE
import Derived.Test.YtdndeegpbjlibacWvN
namespace Go.Proofs.Ytdndeegpbjlibac
open Go.ChangeShapes Go.WideShapes Go.ChangeAt Go.RowKit Go.Shelf

/-! Send, Hear, Near WHERE THEY REFUSE. -/

theorem hear_bad (ps : List (Int × Int)) (order : Int) (a : Option Addr) (c : Nat) (w : World) (hp : Pts w a ps) (hz : ps.length ≤ 8796093022208) (hok : hearsOk ps order = false) :
    Calls Try.prog 9 #[.slice a ps.length c, .int .i64 order] w fun e w' => e = .returned (.tuple #[.slice none 0 0, .int .i64 1]) ∧ Below w.heap.size w w' := by
  have hchk := cheard_any ps order a c w hp hz
  rw [show chErr ps order = 1 by unfold chErr; rw [hok]; rfl] at hchk
  go_enter Try.func9, Try.ntmps9
  go_wp2_with (go_at_call 23; refine hchk.mono ?_; rintro e w1 ⟨rfl, hb1⟩)
  go_ret2
  exact ⟨rfl, hb1⟩
theorem near_bad (ps : List (Int × Int)) (order : Int) (a : Option Addr) (c : Nat) (w : World) (hp : Pts w a ps) (hz : ps.length ≤ 8796093022208) (hok : hearsOk ps order = false) :
    Calls Try.prog 10 #[.slice a ps.length c, .int .i64 order] w fun e w' => e = .returned (.tuple #[.slice none 0 0, .int .i64 1]) ∧ Below w.heap.size w w' := by
  have hchk := cheard_any ps order a c w hp hz
  rw [show chErr ps order = 1 by unfold chErr; rw [hok]; rfl] at hchk
  go_enter Try.func10, Try.ntmps10
  go_wp2_with (go_at_call 23; refine hchk.mono ?_; rintro e w1 ⟨rfl, hb1⟩)
  go_ret2
  exact ⟨rfl, hb1⟩

theorem send_bits (zs : List Int) (order : Int) (a : Option Addr) (c : Nat) (w : World) (hr : Rd .u8 w a zs) (hz : zs.length ≤ maxLen) (h0 : errOf zs ≠ 0) :
    Calls Try.prog 5 #[.slice a zs.length c, .int .i64 order] w fun e w' => e = .returned (.tuple #[.slice none 0 0, .int .i64 (errOf zs)]) ∧ Below w.heap.size w w' := by
  have hchk := check_any zs a c w hr hz
  obtain ⟨x, ex⟩ : ∃ x, x = errOf zs := ⟨_, rfl⟩
  rw [← ex] at hchk h0
  rw [← ex]
  have q0 : (x != 0) = true := by simpa using h0
  clear ex h0
  go_enter Try.func5, Try.ntmps5
  go_wp2_with (go_at_call 19; refine hchk.mono ?_; rintro e w1 ⟨rfl, rfl⟩)
  go_ret2
  exact ⟨rfl, Below.refl _ _⟩
theorem send_order (zs : List Int) (order : Int) (a : Option Addr) (c : Nat) (w : World) (hr : Rd .u8 w a zs) (hz : zs.length ≤ maxLen) (h0 : errOf zs = 0) (ho : ordOk5 order = false) :
    Calls Try.prog 5 #[.slice a zs.length c, .int .i64 order] w fun e w' => e = .returned (.tuple #[.slice none 0 0, .int .i64 1]) ∧ Below w.heap.size w w' := by
  have hchk := check_any zs a c w hr hz
  rw [h0] at hchk
  have hord := ord_any order w
  rw [show ordErr order = 1 by unfold ordErr; rw [ho]; rfl] at hord
  clear h0 ho
  go_enter Try.func5, Try.ntmps5
  go_wp2_with (first
    | (go_at_call 19; refine hchk.mono ?_; rintro e w1 ⟨rfl, rfl⟩)
    | (go_at_call 20; refine hord.mono ?_; rintro e w1 ⟨rfl, rfl⟩))
  go_ret2
  exact ⟨rfl, Below.refl _ _⟩
theorem send_rest (zs : List Int) (o : Nat) (a : Option Addr) (c : Nat) (w : World) (hr : Rd .u8 w a zs) (hz : zs.length ≤ maxLen) (h0 : errOf zs = 0) (ho : ordOk5 o = true) (hrest : zs.length % o ≠ 0) :
    Calls Try.prog 5 #[.slice a zs.length c, .int .i64 o] w fun e w' => e = .returned (.tuple #[.slice none 0 0, .int .i64 1]) ∧ Below w.heap.size w w' := by
  have hchk := check_any zs a c w hr hz
  rw [h0] at hchk
  have hord := ord_any o w
  rw [show ordErr o = 0 by unfold ordErr; rw [ho]; rfl] at hord
  have ho6 : (o : Int) = 2 ∨ (o : Int) = 4 ∨ (o : Int) = 6 := of_decide_eq_true ho
  have hz1 : ((o : Int) == 0) = false := beq_eq_false_iff_ne.2 (by omega)
  have hz2 : (o : Int) ≠ 0 := by omega
  have hrm : ((zs.length : Int)).tmod (o : Int) = ((zs.length % o : Nat) : Int) := by rw [Int.tmod_eq_emod_of_nonneg (by omega)]; simp
  have hrn : ((zs.length : Int)) % (o : Int) = ((zs.length % o : Nat) : Int) := by simp
  obtain ⟨r, er⟩ : ∃ r, r = zs.length % o := ⟨_, rfl⟩
  rw [← er] at hrm hrn hrest
  have qr : ((r : Int) != 0) = true := by simp; omega
  obtain ⟨T, eT⟩ : ∃ T, T = zs.length := ⟨_, rfl⟩
  rw [← eT] at hchk hrm hrn hz
  rw [← eT]
  unfold maxLen at hz
  clear h0 ho er hrest ho6 eT
  go_enter Try.func5, Try.ntmps5
  go_wp2_with (first
    | (go_at_call 19; refine hchk.mono ?_; rintro e w1 ⟨rfl, rfl⟩)
    | (go_at_call 20; refine hord.mono ?_; rintro e w1 ⟨rfl, rfl⟩))
  go_ret2
  exact ⟨rfl, Below.refl _ _⟩

theorem hears_in {ps : List (Int × Int)} {order : Int} (hok : hearsOk ps order = true) : ∀ k, k < ps.length → inSq (ps.getD k (0, 0)) = true := fun k hk => by
  unfold hearsOk at hok
  rw [Bool.and_eq_true] at hok
  rw [getD_atQ _ _ hk]
  exact List.all_eq_true.1 hok.2 _ (List.getElem_mem hk)
theorem hears_nums {ps : List (Int × Int)} {order : Int} (hok : hearsOk ps order = true) : ∃ h : Nat, 1 ≤ h ∧ h ≤ 3 ∧ order = ((2 * h : Nat) : Int) ∧ ps.length * (2 * h) ≤ 4096 := by
  unfold hearsOk at hok
  rw [Bool.and_eq_true, Bool.and_eq_true, decide_eq_true_eq] at hok
  have ho := of_decide_eq_true hok.1.1
  have hl := hok.1.2
  rcases ho with rfl | rfl | rfl
  · exact ⟨1, by omega, by omega, rfl, by omega⟩
  · exact ⟨2, by omega, by omega, rfl, by omega⟩
  · exact ⟨3, by omega, by omega, rfl, by omega⟩

end Go.Proofs.Ytdndeegpbjlibac
