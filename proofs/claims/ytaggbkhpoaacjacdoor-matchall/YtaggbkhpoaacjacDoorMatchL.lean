import Derived.Test.YtaggbkhpoaacjacDoorMatchB
import Derived.Test.YtaggbkhpoaacjacDoorCheck
namespace Go.Proofs.YtaggbkhpoaacjacDoor
open Go.ChangeShapes Go.WideShapes Go.ChangeAt Go.RowKit

/-! WHAT THE LAW ASKS OF Order, Begin, Pick. -/

def ordOk (n : Int) : Bool := decide (0 ≤ n ∧ n ≤ 4096)
def begOk (n v : Int) : Bool := decide (1 ≤ n ∧ n ≤ 4096) && verOk v
def pickErr (cs : List Int) (v k : Int) : Int := if errOf cs = 0 then (if cs.length = 0 ∨ verOk v = false ∨ k < 0 ∨ 4096 < k then 1 else 0) else errOf cs
def pickedM (cs : List Int) (v k : Nat) : List Int := (List.range k).map fun i => cs.getD (pickM cs.length v i) 0
theorem pickedM_length (cs : List Int) (v k : Nat) : (pickedM cs v k).length = k := by simp [pickedM]
theorem pickedM_at {cs : List Int} {v k i : Nat} (h : i < k) : (pickedM cs v k).getD i 0 = cs.getD (pickM cs.length v i) 0 := by simp [pickedM, List.getD, h]

def I64 (n : Int) : Prop := -9223372036854775808 ≤ n ∧ n ≤ 9223372036854775807
structure PickLaws : Prop where
  order : ∀ (n : Int) (w : World), Col w → I64 n → Calls Tryd.prog 13 #[.int .i64 n] w fun e w' => ∃ a k c, e = .returned (.tuple #[.slice a k c, .int .i64 (if ordOk n then 0 else 1)]) ∧ Below w.heap.size w w' ∧ (ordOk n = true → k = n.toNat ∧ Rd .i64 w' a (intsM (ordM n.toNat))) ∧ (ordOk n = false → k = 0)
  begin' : ∀ (n v : Int) (w : World), I64 n → I64 v → Calls Tryd.prog 16 #[.int .i64 n, .int .i64 v] w fun e w' => e = .returned (.tuple #[.int .i64 (if begOk n v then ((v.toNat * n.toNat / 4 : Nat) : Int) else 0), .int .i64 (if begOk n v then 0 else 1)]) ∧ Below w.heap.size w w'
  pick : ∀ (cs : List Int) (a : Option Addr) (c : Nat) (v k : Int) (w : World), Col w → Rd .u8 w a cs → cs.length ≤ maxLen → Bytes cs → I64 v → I64 k → Calls Tryd.prog 18 #[.slice a cs.length c, .int .i64 v, .int .i64 k] w fun e w' => ∃ a' k' c', e = .returned (.tuple #[.slice a' k' c', .int .i64 (pickErr cs v k)]) ∧ Below w.heap.size w w' ∧ (pickErr cs v k = 0 → k' = k.toNat ∧ Rd .u8 w' a' (pickedM cs v.toNat k.toNat)) ∧ (pickErr cs v k ≠ 0 → k' = 0)

theorem PickLaws.orderG (h : PickLaws) (m : Nat) (w : World) (hC : Col w) (hm : m ≤ 4096) : Calls Tryd.prog 13 #[.int .i64 m] w fun e w' => ∃ a c, e = .returned (.tuple #[.slice a m c, .int .i64 0]) ∧ Below w.heap.size w w' ∧ Rd .i64 w' a (intsM (ordM m)) := by
  have hok : ordOk (m : Int) = true := decide_eq_true ⟨by omega, by omega⟩
  refine (h.order (m : Int) w hC ⟨by omega, by omega⟩).mono fun e w' h' => ?_
  obtain ⟨a, k, c, rfl, hb, h1, -⟩ := h'
  obtain ⟨rfl, hr⟩ := h1 hok
  rw [hok]
  exact ⟨a, c, rfl, hb, hr⟩

theorem PickLaws.pickG (h : PickLaws) (cs : List Int) (a : Option Addr) (n c v k : Nat) (w : World) (hC : Col w) (ha : Rd .u8 w a cs) (hn : cs.length = n) (h1 : 1 ≤ n) (h2 : n ≤ 4096) (hb : Bits cs) (hv : v ≤ 3) (hk : k ≤ 4096) :
    Calls Tryd.prog 18 #[.slice a n c, .int .i64 v, .int .i64 k] w fun e w' => ∃ a' c', e = .returned (.tuple #[.slice a' k c', .int .i64 0]) ∧ Below w.heap.size w w' ∧ Rd .u8 w' a' (pickedM cs v k) := by
  subst hn
  have he : errOf cs = 0 := err_none (fun j _ => (hb j).2) (by omega)
  have hvo : verOk (v : Int) = true := decide_eq_true ⟨by omega, by omega⟩
  have hE : pickErr cs v k = 0 := by
    unfold pickErr
    rw [if_pos he, if_neg]
    rintro (h | h | h | h)
    · omega
    · rw [hvo] at h; cases h
    · omega
    · omega
  have hby : Bytes cs := fun z hz => by
    obtain ⟨i, hi, rfl⟩ := List.getElem_of_mem hz
    have := hb i
    simp only [List.getD, List.getElem?_eq_getElem hi, Option.getD_some] at this
    omega
  refine (h.pick cs a c v k w hC ha (by unfold maxLen; omega) hby ⟨by omega, by omega⟩ ⟨by omega, by omega⟩).mono fun e w' h' => ?_
  obtain ⟨a', k', c', rfl, hb', g1, -⟩ := h'
  obtain ⟨rfl, hr⟩ := g1 hE
  rw [hE]
  exact ⟨a', c', rfl, hb', hr⟩
end Go.Proofs.YtaggbkhpoaacjacDoor
