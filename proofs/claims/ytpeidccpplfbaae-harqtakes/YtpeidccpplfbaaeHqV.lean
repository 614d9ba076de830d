import Derived.Test.YtpeidccpplfbaaeFrame
import Derived.Test.YtpeidccpplfbaaeArrs
namespace Go.Proofs.Ytpeidccpplfbaae
open Go.ChangeShapes Go.WideShapes Go.ChangeAt Go.RowKit

/-! VERSIONS; FOUR RESULTS. -/

def verOk (v : Int) : Bool := decide (0 ≤ v ∧ v ≤ 3)
def procErr (p : Int) : Int := if 0 ≤ p ∧ p ≤ 7 then 0 else 1
theorem ret_boolM {a b : Bool} (h : a = b) : Ending.returned (.bool a) = .returned (.bool b) := by rw [h]
theorem cellOld {w w' : World} (hb : Below w.heap.size w w') {p : Addr} {v : Value} (h : w.cell? p = some v) : w'.cell? p = some v := (hb.cell (World.block_lt_of_cell? w _ h)).trans h
theorem results_tmp4 {fn : Func} {t u v x : Tmp} (h : fn.results = #[.tmp t, .tmp u, .tmp v, .tmp x]) (tmps : Array Value) (P : Program) (w : World) :
    (results fn tmps).run P w = .ok (.tuple #[tmps.getD t undef, tmps.getD u undef, tmps.getD v undef, tmps.getD x undef]) w := by
  simp [results, h]

set_option maxHeartbeats 400000 in
theorem rversion_any (v : Int) (w : World) : Calls Try.prog 9 #[.int .i64 v] w fun e w' => e = .returned (.bool (verOk v)) ∧ w = w' := by
  by_cases h0 : 0 ≤ v
  · have d0 : decide (0 ≤ v) = true := decide_eq_true h0
    by_cases h3 : v ≤ 3
    · have HV := hid (show true = verOk v by simp [verOk, h0, h3])
      have d3 : decide (v ≤ 3) = true := decide_eq_true h3
      clear h0 h3
      go_enter Try.func9, Try.ntmps9
      go_wp2
      go_ret
      exact ⟨ret_boolM HV.out, rfl⟩
    · have HV := hid (show false = verOk v by simp [verOk]; omega)
      have d3 : decide (v ≤ 3) = false := decide_eq_false h3
      clear h0 h3
      go_enter Try.func9, Try.ntmps9
      go_wp2
      go_ret
      exact ⟨ret_boolM HV.out, rfl⟩
  · have HV := hid (show false = verOk v by simp [verOk]; omega)
    have d0 : decide (0 ≤ v) = false := decide_eq_false h0
    clear h0
    go_enter Try.func9, Try.ntmps9
    go_wp2
    go_ret
    exact ⟨ret_boolM HV.out, rfl⟩

end Go.Proofs.Ytpeidccpplfbaae
