import Derived.Test.YtdndeegpbjlibacWaveQ
namespace Go.Proofs.Ytdndeegpbjlibac
open Go.ChangeShapes Go.WideShapes Go.ChangeAt Go.RowKit

/-! MAY POINTS BE HEARD? -/

def ordOk5 (order : Int) : Bool := decide (order = 2 ∨ order = 4 ∨ order = 6)
def inSq (p : Int × Int) : Bool := decide ((-1000 ≤ p.1 ∧ p.1 ≤ 1000) ∧ -1000 ≤ p.2 ∧ p.2 ≤ 1000)
def hearsOk (ps : List (Int × Int)) (order : Int) : Bool := ordOk5 order && decide ((ps.length : Int) * order ≤ 4096) && ps.all inSq
def InTo (ps : List (Int × Int)) (k : Nat) : Prop := ∀ j, j < k → inSq (ps.getD j (0, 0)) = true
theorem all_inTo {ps : List (Int × Int)} {k : Nat} (hk : k = ps.length) (h : InTo ps k) : ps.all inSq = true := by
  rw [List.all_eq_true]
  intro p hp
  obtain ⟨i, hi, rfl⟩ := List.getElem_of_mem hp
  have := h i (by omega)
  simpa [List.getD, hi] using this
theorem not_all {ps : List (Int × Int)} {k : Nat} (hk : k < ps.length) (h : inSq (ps.getD k (0, 0)) = false) : ps.all inSq = false := by
  rw [List.all_eq_false]
  refine ⟨ps.getD k (0, 0), ?_, by rw [h]; simp⟩
  simp [List.getD, hk]

set_option maxHeartbeats 2000000 in
theorem rhears_any (ps : List (Int × Int)) (order : Int) (a : Option Addr) (c : Nat) (w : World) (ha : Pts w a ps) (hz : ps.length ≤ 8796093022208) :
    Calls Try.prog 11 #[.slice a ps.length c, .int .i64 order] w fun e w' => e = .returned (.bool (hearsOk ps order)) ∧ w = w' := by
  by_cases hO : order = 2 ∨ order = 4 ∨ order = 6
  · have hO' : ordOk5 order = true := decide_eq_true hO
    by_cases h4 : (ps.length : Int) * order ≤ 4096
    · have HV : Hid (∀ b, ps.all inSq = b → b = hearsOk ps order) := fun b hb => by unfold hearsOk; rw [hO', decide_eq_true h4, hb]; rfl
      obtain ⟨n, en⟩ : ∃ n, n = ps.length := ⟨_, rfl⟩
      rw [← en] at h4
      rw [← en]
      have HN := hid en
      have HH := hid (fun k (hk : k < ps.length) => not_all hk)
      clear en hz hO'
      rcases hO with rfl | rfl | rfl
      all_goals
        have hn4 : n ≤ 2048 := by omega
        go_enter Try.func11, Try.ntmps11
        go_wp2
        go_loopw [5] (fun i wr => ∃ k : Nat, k ≤ n ∧ i = .int .i64 k ∧ Hid (InTo ps k) ∧ w = wr) (fun i _ => n - (intOf i).toNat)
        case atStart => exact ⟨0, Nat.zero_le _, rfl, fun j hj => by omega, rfl⟩
        case round =>
          obtain ⟨k, hk, rfl, hin, rfl⟩ := hrel
          by_cases hlt : k < n
          · have hlt' : k < ps.length := by have := HN.out; omega
            obtain ⟨b1, o1, rfl, hc1⟩ := ha.at hlt'
            obtain ⟨g1, g1'⟩ := hc1 k hlt'
            have HX := hid (show inSq (ps.getD k (0, 0)) = decide ((-1000 ≤ (ps.getD k (0, 0)).1 ∧ (ps.getD k (0, 0)).1 ≤ 1000) ∧ -1000 ≤ (ps.getD k (0, 0)).2 ∧ (ps.getD k (0, 0)).2 ≤ 1000) from rfl)
            have HF := hid (HH.out k hlt')
            obtain ⟨x, e1⟩ : ∃ x, x = (ps.getD k (0, 0)).1 := ⟨_, rfl⟩
            obtain ⟨y, e2⟩ : ∃ y, y = (ps.getD k (0, 0)).2 := ⟨_, rfl⟩
            rw [← e1] at g1 HX
            rw [← e2] at g1' HX
            clear hc1 e1 e2 hlt'
            by_cases x1 : 1000 < x
            · have HE := hid (HV.out false (HF.out (by rw [HX.out]; exact decide_eq_false (by omega))))
              go_wp2
              go_ret
              exact ⟨ret_boolQ HE.out, rfl⟩
            · have q1 : decide (1000 < x) = false := decide_eq_false x1
              by_cases x2 : x < -1000
              · have HE := hid (HV.out false (HF.out (by rw [HX.out]; exact decide_eq_false (by omega))))
                go_wp2
                go_ret
                exact ⟨ret_boolQ HE.out, rfl⟩
              · have q2 : decide (x < -1000) = false := decide_eq_false x2
                by_cases y1 : 1000 < y
                · have HE := hid (HV.out false (HF.out (by rw [HX.out]; exact decide_eq_false (by omega))))
                  go_wp2
                  go_ret
                  exact ⟨ret_boolQ HE.out, rfl⟩
                · have q3 : decide (1000 < y) = false := decide_eq_false y1
                  by_cases y2 : y < -1000
                  · have HE := hid (HV.out false (HF.out (by rw [HX.out]; exact decide_eq_false (by omega))))
                    go_wp2
                    go_ret
                    exact ⟨ret_boolQ HE.out, rfl⟩
                  · have q4 : decide (y < -1000) = false := decide_eq_false y2
                    have HI : Hid (InTo ps (k + 1)) := fun j hj => by
                      by_cases e : j = k
                      · subst e; rw [HX.out]; exact decide_eq_true (by omega)
                      · exact hin.out j (by omega)
                    have HLT := hid hlt
                    clear HX HF x1 x2 y1 y2
                    go_wp2
                    go_roundw
                    case rel =>
                      have := HLT.out
                      first | exact ⟨k + 1, by omega, by go_num, HI, rfl⟩ | exact ⟨k + 1, by omega, by go_num, HI, by trivial⟩ | ((repeat apply Exists.intro); exact ⟨⟨k + 1, by omega, by go_num, HI, rfl⟩, rfl⟩)
                    case measure =>
                      have := HLT.out
                      simp [intOf]
                      omega
          · have HE := hid (HV.out true (all_inTo (k := k) (by have := HN.out; omega) hin.out))
            go_wp2
            go_ret
            exact ⟨ret_boolQ HE.out, rfl⟩
    · have HV := hid (show false = hearsOk ps order by unfold hearsOk; rw [decide_eq_false h4]; simp)
      obtain ⟨n, en⟩ : ∃ n, n = ps.length := ⟨_, rfl⟩
      rw [← en] at h4 hz
      rw [← en]
      clear en hO'
      rcases hO with rfl | rfl | rfl
      all_goals
        go_enter Try.func11, Try.ntmps11
        go_wp2
        go_ret
        exact ⟨ret_boolQ HV.out, rfl⟩
  · have HV := hid (show false = hearsOk ps order by unfold hearsOk ordOk5; rw [decide_eq_false hO]; simp)
    have b2 : (order != 2) = true := by simp; omega
    have b4 : (order != 4) = true := by simp; omega
    have b6 : (order != 6) = true := by simp; omega
    clear hO
    go_enter Try.func11, Try.ntmps11
    go_wp2
    go_ret
    exact ⟨ret_boolQ HV.out, rfl⟩
end Go.Proofs.Ytdndeegpbjlibac
