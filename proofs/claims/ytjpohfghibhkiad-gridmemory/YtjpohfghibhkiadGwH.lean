import Derived.Test.YtjpohfghibhkiadGwE
import Derived.Test.YtjpohfghibhkiadLawGrid
namespace Go.Proofs.Ytjpohfghibhkiad
open Go.ChangeShapes Go.WideShapes Go.ChangeAt Go.RowKit

/-! THE PROGRAM'S Check AND Places. -/

set_option maxRecDepth 100000 in
set_option maxHeartbeats 4000000 in
theorem check_any (B : Int) (ss : List Sh) (n c : Nat) (a : Option Addr) (w : World) (hS : Shs w a ss) (hn : ss.length = n) (hz : n ≤ 9223372036854775807) (hF : ∀ i, i < n → (shAt ss i).fr ≤ 9223372036854775807) :
    Calls Try.prog 8 #[.agg #[.int .i64 B, .slice a n c]] w fun e w' => e = .returned (.int .i64 (gridErrM B ss)) ∧ Below w.heap.size w w' := by
  have hOW := fun (wz : World) (hbz : Below w.heap.size w wz) => ownersOf_any B ss n c a wz (hS.below hbz) hn hz hF
  obtain ⟨G, eG⟩ : ∃ G, G = gridErrM B ss := ⟨_, rfl⟩
  simp only [← eG] at hOW
  rw [← eG]
  clear eG hn hF hz hS
  go_enter Try.func8, Try.ntmps8
  go_wp2_with fail
  have hb1 : Below w.heap.size w (w.alloc (.cells #[.int .i64 B, .slice a n c] 24)) := (Below.refl _ w).alloc (Nat.le_refl _) _
  refine (hOW _ hb1).mono ?_
  rintro e w1 ⟨f, rfl, hw1, -⟩
  have hsz : (tabV f).size = 168 := by simp [tabV, tabF]
  have hf := hb1.trans (hw1.mono hb1.size)
  have hb2 : Below w.heap.size w (w1.alloc (.cells Try.zeroCells61 61)) := hf.alloc hf.size _
  have hl2 : w.heap.size ≤ w1.heap.size := hf.size
  have hO2 : (w1.alloc (.cells Try.zeroCells61 61)).heap[w1.heap.size]? = some (.cells Try.zeroCells61 61 (0, 0)) := heap_alloc_new w1 _
  clear hOW hw1 hb1 hf
  go_wp2_with (refine wpList_store_row rfl 61 (.tmp 3) (.tmp 8) rfl w1.heap.size 61 _ _ rfl rfl hO2 (by kernel_rfl) (by kernel_rfl) (by kernel_rfl) ?_)
  go_ret
  exact ⟨rfl, below_setRow hb2 hl2 _⟩

set_option maxRecDepth 100000 in
set_option maxHeartbeats 4000000 in
theorem places_own (B who : Int) (ss : List Sh) (n c : Nat) (a : Option Addr) (w : World) (hS : Shs w a ss) (hn : ss.length = n) (hz : n ≤ 9223372036854775807) (hF : ∀ i, i < n → (shAt ss i).fr ≤ 9223372036854775807) :
    Calls Try.prog 7 #[.agg #[.int .i64 B, .slice a n c], .int .i64 who] w fun e w' => ∃ v, e = .returned (.tuple #[v, .int .i64 (gridErrM B ss)]) ∧ Below w.heap.size w w' ∧ (gridErrM B ss = 0 → OwnT 39 w' w.heap.size v (placesOfM (gN B) ss who)) ∧ (gridErrM B ss ≠ 0 → v = .slice none 0 0) := by
  have hOW := fun (wz : World) (hbz : Below w.heap.size w wz) => ownersOf_any B ss n c a wz (hS.below hbz) hn hz hF
  have HGD := hid (@griderr_good B ss)
  obtain ⟨G, eG⟩ : ∃ G, G = gridErrM B ss := ⟨_, rfl⟩
  simp only [← eG] at hOW HGD
  rw [← eG]
  clear eG hn hF hz hS
  go_enter Try.func7, Try.ntmps7
  go_wp2_with fail
  have hb1 : Below w.heap.size w (w.alloc (.cells #[.int .i64 B, .slice a n c] 24)) := (Below.refl _ w).alloc (Nat.le_refl _) _
  refine (hOW _ hb1).mono ?_
  rintro e w1 ⟨f, rfl, hw1, hTF⟩
  have hsz : (tabV f).size = 168 := by simp [tabV, tabF]
  have hb2 : Below w.heap.size w (w1.alloc (.cells Try.zeroCells61 61)) := (hb1.trans (hw1.mono hb1.size)).alloc (hb1.trans (hw1.mono hb1.size)).size _
  have hl2 : w.heap.size ≤ w1.heap.size := (hb1.trans (hw1.mono hb1.size)).size
  have hO2 : (w1.alloc (.cells Try.zeroCells61 61)).heap[w1.heap.size]? = some (.cells Try.zeroCells61 61 (0, 0)) := heap_alloc_new w1 _
  have hf := hb1.trans (hw1.mono hb1.size)
  have HTF := hid hTF
  clear hOW hw1 hb1 hTF
  by_cases hG : G = 0
  · have d1 : (G != 0) = false := by simpa using hG
    have HG := hid hG
    obtain ⟨hB12, -, hok⟩ := HGD.out hG
    have hTF := HTF.out hG
    clear hG
    have hpl := fun (wz : World) (hA : ArrAt .i64 61 wz w1.heap.size (tabF (ownF ss ss.length))) => placesOf_any B who ss w1.heap.size wz hA hB12 hok
    have HPL := hid hpl
    clear hpl hok
    go_wp2_with (refine wpList_store_row rfl 61 (.tmp 6) (.tmp 11) rfl w1.heap.size 61 _ _ rfl rfl hO2 (by kernel_rfl) (by kernel_rfl) (by kernel_rfl) ?_)
    have hA : ArrAt .i64 61 ((w1.alloc (.cells Try.zeroCells61 61)).setRow w1.heap.size (tabV f)) w1.heap.size (tabF (ownF ss ss.length)) := by
      rw [← hTF]
      exact setRow_heap _ _ _ _ _ _ hO2
    have hb3 := below_setRow hb2 hl2 (tabV f)
    refine (HPL.out _ hA).mono ?_
    rintro e w4 ⟨v, rfl, hO4, hb4⟩
    have hb5 := hb3.trans (hb4.mono hb3.size)
    have hO5 := hO4.mono hb3.size
    clear hO4 hb4 HPL hA hO2 hTF
    go_wp2_with fail
    go_ret2
    exact ⟨v, by rw [HG.out]; rfl, hb5, fun _ => hO5, fun h => absurd HG.out h⟩
  · have d1 : (G != 0) = true := by simpa using hG
    have HG := hid hG
    clear hG
    go_wp2_with (refine wpList_store_row rfl 61 (.tmp 6) (.tmp 11) rfl w1.heap.size 61 _ _ rfl rfl hO2 (by kernel_rfl) (by kernel_rfl) (by kernel_rfl) ?_)
    go_ret2
    exact ⟨_, rfl, below_setRow hb2 hl2 _, fun h => absurd h HG.out, fun _ => rfl⟩
end Go.Proofs.Ytjpohfghibhkiad
