import Derived.Test.YtfbjedcfppghgabDoorProgD
import Derived.Test.YtfbjedcfppghgabDoorSameB
import Derived.Test.YtfbjedcfppghgabDoorSameI
import Derived.Test.YtfbjedcfppghgabDoorFrame
namespace Go.Proofs.YtfbjedcfppghgabDoor
open Go.ChangeShapes Go.WideShapes Go.ChangeAt Go.RowKit

/-! THE LAW PolarSays: each answer of the program, told in one way. -/

theorem turn_uni (b : List Int) (a : Option Addr) (c : Nat) (w : World) (ha : Rd .u8 w a b) (hz : b.length ≤ maxLen) (hy : Bytes b) :
    Calls Tryd.prog 20 #[.slice a b.length c] w fun e w' => ∃ a1 n1 c1, e = .returned (.tuple #[.slice a1 n1 c1, .int .i64 (turnErr b)]) ∧ Below w.heap.size w w' ∧
      (turnErr b = 0 → n1 = b.length ∧ AllBits b ∧ ∃ m, m ≤ 9 ∧ b.length = 2 ^ m ∧ Rd .u8 w' a1 (turnM m b)) ∧ (turnErr b ≠ 0 → n1 = 0) := by
  by_cases h : turnErr b = 0
  · obtain ⟨-, -, hb, m, hm, e⟩ := turn_ok hy h
    refine (pturn_any m b a b.length c w ha rfl e hm hb).mono fun x w' h' => ?_
    obtain ⟨g, rfl, ho, hbel⟩ := h'
    exact ⟨_, _, _, by rw [h], hbel, fun _ => ⟨rfl, hb, m, hm, e, ho.rd⟩, fun hn => absurd h hn⟩
  · refine (pturn_bad b a c w ha hz h).mono fun x w' h' => ?_
    obtain ⟨rfl, rfl⟩ := h'
    exact ⟨_, _, _, rfl, Below.refl _ _, fun h0 => absurd h0 h, fun _ => rfl⟩

def plErr (n k : Int) : Int := if placesOk n k then 0 else 1
theorem places_uni (n k : Int) (w : World) (hn : -9223372036854775808 ≤ n ∧ n ≤ 9223372036854775807) (hW : Wor w) :
    Calls Tryd.prog 23 #[.int .i64 n, .int .i64 k] w fun e w' => ∃ a1 n1 c1, e = .returned (.tuple #[.slice a1 n1 c1, .int .i64 (plErr n k)]) ∧ Below w.heap.size w w' ∧
      (placesOk n k = true → ∃ m N K : Nat, m ≤ 9 ∧ N = 2 ^ m ∧ n = N ∧ k = K ∧ K ≤ N ∧ n1 = K ∧ Rd .i64 w' a1 (ints (placesM N K))) ∧ (placesOk n k = false → n1 = 0) := by
  cases h : placesOk n k with
  | false =>
    refine (pplaces_bad n k w hn h).mono fun x w' h' => ?_
    obtain ⟨rfl, rfl⟩ := h'
    exact ⟨_, _, _, by rw [plErr, h]; rfl, Below.refl _ _, fun h0 => absurd h0 (by simp), fun _ => rfl⟩
  | true =>
    obtain ⟨hp, h0, h1⟩ := places_ok h
    obtain ⟨m, hm, e⟩ := pow_of hp
    obtain ⟨K, rfl⟩ := Int.eq_ofNat_of_zero_le h0
    have hK : K ≤ 2 ^ m := by omega
    subst e
    refine (pplaces_any m (2 ^ m) K w hm rfl hK hW).mono fun x w' h' => ?_
    obtain ⟨g, rfl, har, -, hbel⟩ := h'
    refine ⟨_, _, _, by rw [plErr, h]; rfl, hbel, fun _ => ⟨m, 2 ^ m, K, hm, rfl, rfl, rfl, hK, rfl, ?_⟩, fun hn => absurd hn (by simp)⟩
    exact ArrAt.rd (A := []) (Z := []) (o := 0) (by simpa using har) rfl

theorem encode_uni (b : List Int) (n : Int) (a : Option Addr) (c : Nat) (w : World) (ha : Rd .u8 w a b) (hz : b.length ≤ maxLen) (hy : Bytes b) (hn : -9223372036854775808 ≤ n ∧ n ≤ 9223372036854775807) (hW : Wor w) :
    Calls Tryd.prog 26 #[.slice a b.length c, .int .i64 n] w fun e w' => ∃ a1 n1 c1, e = .returned (.tuple #[.slice a1 n1 c1, .int .i64 (pencErr b n)]) ∧ Below w.heap.size w w' ∧
      (pencErr b n = 0 → ∃ m N : Nat, m ≤ 9 ∧ N = 2 ^ m ∧ n = N ∧ b.length ≤ N ∧ AllBits b ∧ n1 = N ∧ Rd .u8 w' a1 (turnM m (spreadM N (placesM N b.length) b b.length))) ∧ (pencErr b n ≠ 0 → n1 = 0) := by
  by_cases h : pencErr b n = 0
  · have hE : errOf b = 0 ∧ placesOk n b.length = true := by
      unfold pencErr at h
      split at h
      · rename_i h0
        refine ⟨h0, ?_⟩
        cases hp : placesOk n b.length with
        | true => rfl
        | false => rw [hp] at h; simp at h
      · rename_i h0
        exact absurd h h0
    obtain ⟨h0, hp⟩ := hE
    obtain ⟨hp, -, h1⟩ := places_ok hp
    obtain ⟨m, hm, e⟩ := pow_of hp
    subst e
    have hb : AllBits b := fun x hx => by
      obtain ⟨k, hk, rfl⟩ := List.getElem_of_mem hx
      have h1 := (err_zero h0).1 k
      have h2 := hy.at k
      have e : b.getD k 0 = b[k] := by simp [List.getD, hk]
      rw [e] at h1 h2
      omega
    refine (pencode_any m b a (2 ^ m) b.length c w ha hb rfl hm rfl (by omega) hW).mono fun x w' h' => ?_
    obtain ⟨g, rfl, ho, hbel⟩ := h'
    exact ⟨_, _, _, by rw [h], hbel, fun _ => ⟨m, 2 ^ m, hm, rfl, rfl, by omega, hb, rfl, ho.rd⟩, fun hn => absurd h hn⟩
  · refine (pencode_bad b n a c w ha hz hn h).mono fun x w' h' => ?_
    obtain ⟨rfl, rfl⟩ := h'
    exact ⟨_, _, _, rfl, Below.refl _ _, fun h0 => absurd h0 h, fun _ => rfl⟩

theorem decode_uni (l : List Int) (k : Int) (a : Option Addr) (c : Nat) (w : World) (ha : Rd .i64 w a l) (hz : l.length ≤ maxLen) (hc : l.length ≤ c) (hW : Wor w) :
    Calls Tryd.prog 28 #[.slice a l.length c, .int .i64 k] w fun e w' => ∃ a1 n1 c1, e = .returned (.tuple #[.slice a1 n1 c1, .int .i64 (pdecErr l k)]) ∧ Below w.heap.size w w' ∧
      ((softOk l && placesOk l.length k) = true → ∃ m K : Nat, m ≤ 9 ∧ l.length = 2 ^ m ∧ k = K ∧ K ≤ l.length ∧ n1 = K ∧ Rd .u8 w' a1 (readM (placesM l.length K) (decP m l (openM l.length K)))) ∧ ((softOk l && placesOk l.length k) = false → n1 = 0) := by
  cases h : softOk l && placesOk l.length k with
  | false =>
    refine (pdecode_bad l k a c w ha hz h).mono fun x w' h' => ?_
    obtain ⟨rfl, rfl⟩ := h'
    exact ⟨_, _, _, by rw [pdecErr, h]; rfl, Below.refl _ _, fun h0 => absurd h0 (by simp), fun _ => rfl⟩
  | true =>
    have h' : softOk l = true ∧ placesOk l.length k = true := by simpa using h
    obtain ⟨hs, hp0⟩ := h'
    obtain ⟨hp, h0, h1⟩ := places_ok hp0
    obtain ⟨m, hm, e⟩ := pow_of hp
    obtain ⟨K, rfl⟩ := Int.eq_ofNat_of_zero_le h0
    have el : l.length = 2 ^ m := by omega
    have h1p : 1 ≤ 2 ^ m := Nat.one_le_two_pow
    obtain ⟨b1, o1, rfl, hc1⟩ := ha.at (i := 0) (by omega)
    refine (pdecode_any m l b1 o1 l.length K c w ha rfl hm el hc (by omega) hs hW).mono fun x w' h' => ?_
    obtain ⟨g, rfl, ho, hbel⟩ := h'
    exact ⟨_, _, _, by rw [pdecErr, h]; rfl, hbel, fun _ => ⟨m, K, hm, el, rfl, by omega, rfl, ho.rd⟩, fun hn => absurd hn (by simp)⟩

theorem sameT (xs ys : List Int) (n : Nat) (a b : Option Addr) (ca cb : Nat) (w : World) (ha : Rd .u8 w a xs) (hb : Rd .u8 w b ys) (hn : xs.length = n) (hl : ys.length = n) (hz : n ≤ 4096) (h : xs = ys) :
    Calls Tryd.prog 12 #[.slice a n ca, .slice b n cb] w fun e w' => e = .returned (.bool true) ∧ Below w.heap.size w w' := by
  have h1 := same_bits xs ys a b ca cb w ha hb (by unfold maxLen; omega) (by unfold maxLen; omega)
  rw [hn, hl, decide_eq_true h] at h1
  exact h1
theorem sameI (xs ys : List Int) (n : Nat) (a b : Option Addr) (ca cb : Nat) (w : World) (ha : Rd .i64 w a xs) (hb : Rd .i64 w b ys) (hn : xs.length = n) (hl : ys.length = n) (hz : n ≤ 4096) (h : xs = ys) :
    Calls Tryd.prog 24 #[.slice a n ca, .slice b n cb] w fun e w' => e = .returned (.bool true) ∧ Below w.heap.size w w' := by
  have h1 := same_ints xs ys a b ca cb w ha hb (by unfold maxLen; omega) (by unfold maxLen; omega)
  rw [hn, hl, decide_eq_true h] at h1
  exact h1

/-- The code from a statement on. -/
def tailAt : Nat → Code → Code
  | 0, c => c
  | n + 1, .seq _ b => tailAt n b
  | _ + 1, _ => .skip
end Go.Proofs.YtfbjedcfppghgabDoor
