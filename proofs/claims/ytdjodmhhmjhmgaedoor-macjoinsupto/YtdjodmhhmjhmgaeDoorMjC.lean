import Derived.Test.YtdjodmhhmjhmgaeDoorMjB
import Derived.BigRegion
namespace Go.Proofs.YtdjodmhhmjhmgaeDoor
open Go.ChangeShapes Go.WideShapes Go.ChangeAt Go.RowKit

/-! Join of anything; two lists of items that are one. -/

theorem rjoin_any (l : List ItemM) (size : Int) (a : Option Addr) (nl c : Nat) (w : World) (hI : Itms w a l) (hnl : l.length = nl) (hm : nl ≤ maxLen) (hroom : (itemsB l).length ≤ 1099511627776) :
    Calls Tryd.prog 19 #[.slice a nl c, .int .i64 size] w fun e w' => e = .returned (.tuple #[.string (joinM l size).text, .int .i64 (joinM l size).err]) ∧ Below w.heap.size w w' := by
  by_cases hs : size < 0 ∨ 65535 < size
  · refine (rjoin_size l size _ w hs).mono ?_
    rintro e w' ⟨rfl, rfl⟩
    exact ⟨rfl, Below.refl _ _⟩
  · obtain ⟨n, rfl⟩ : ∃ n : Nat, size = (n : Int) := ⟨size.toNat, by omega⟩
    exact rjoin_good l n a nl c w hI hnl hm (by omega) hroom

set_option maxHeartbeats 1000000 in
theorem items_same (l : List ItemM) (a b : Option Addr) (nl ca cb : Nat) (w : World) (ha : Itms w a l) (hb : Itms w b l) (hnl : l.length = nl) (hm : nl ≤ maxLen) :
    Calls Tryd.prog 22 #[.slice a nl ca, .slice b nl cb] w fun e w' => e = .returned (.bool true) ∧ Below w.heap.size w w' := by
  have HA := hid ha
  have HB := hid hb
  have HNL := hid hnl
  have hm' : nl ≤ 9223372036854775807 := by unfold maxLen at hm; omega
  clear ha hb hnl hm
  go_enter Tryd.func22, Tryd.ntmps22
  go_wp2_with fail
  go_loopw [5] (fun i wr => ∃ k : Nat, k ≤ nl ∧ i = .int .i64 k ∧ Below w.heap.size w wr) (fun i _ => nl - (intOf i).toNat)
  case atStart => exact ⟨0, by omega, rfl, Below.refl _ w⟩
  case round =>
    obtain ⟨k, hk, rfl, hw⟩ := hrel
    by_cases hlt : k < nl
    · obtain ⟨b1, o1, rfl, hC⟩ := HA.out.at (i := k) (by rw [HNL.out]; exact hlt)
      obtain ⟨p0, p1⟩ := hC k (by rw [HNL.out]; exact hlt)
      obtain ⟨b2, o2, rfl, hD⟩ := HB.out.at (i := k) (by rw [HNL.out]; exact hlt)
      obtain ⟨q0, q1⟩ := hD k (by rw [HNL.out]; exact hlt)
      generalize l.getD k .zero = I at *
      have p0 := cellOldJ hw p0
      have p1 := cellOldJ hw p1
      have q0 := cellOldJ hw q0
      have q1 := cellOldJ hw q1
      clear hC hD
      go_wp2_with fail
      go_region
      go_wp2_with fail
      exact ⟨⟨k + 1, by omega, by go_num, hw.drew⟩, by simp [intOf]; omega⟩
    · have e : k = nl := by omega
      subst e
      go_wp2_with fail
      go_ret
      exact ⟨rfl, hw⟩
end Go.Proofs.YtdjodmhhmjhmgaeDoor
