import Derived.Test.YtdndeegpbjlibadGreatDoorK38
namespace Go.Proofs.YtdndeegpbjlibadGreatDoor
open Go.ChangeShapes Go.WideShapes Go.ChangeAt Go.RowKit Go.Shelf

/-! THE PROGRAM'S checkHeard. -/

def chErr (ps : List (Int × Int)) (order : Int) : Int := if hearsOk ps order then 0 else 1

set_option maxRecDepth 100000 in
set_option maxHeartbeats 2000000 in
theorem cheard_any (ps : List (Int × Int)) (order : Int) (a : Option Addr) (c : Nat) (w : World) (ha : Pts w a ps) (hz : ps.length ≤ 8796093022208) :
    Calls Tryz.prog 43 #[.slice a ps.length c, .int .i64 order] w fun e w' => e = .returned (.int .i64 (chErr ps order)) ∧ Below w.heap.size w w' := by
  have hord := ord_any order w
  by_cases hO : order = 2 ∨ order = 4 ∨ order = 6
  · have hO' : ordOk5 order = true := decide_eq_true hO
    rw [show ordErr order = 0 by unfold ordErr; rw [hO']; rfl] at hord
    obtain ⟨m, hm⟩ : ∃ m : Nat, (m : Int) = (4096 : Int).tdiv order ∧ (ps.length ≤ m ↔ (ps.length : Int) * order ≤ 4096) ∧ m ≤ 2048 := by
      rcases hO with rfl | rfl | rfl
      · exact ⟨2048, rfl, by omega, by omega⟩
      · exact ⟨1024, rfl, by omega, by omega⟩
      · exact ⟨682, rfl, by omega, by omega⟩
    obtain ⟨hm1, hm2, hm3⟩ := hm
    have hm1' : (4096 : Int) / order = m := by rw [hm1, Int.tdiv_eq_ediv_of_nonneg (by omega)]
    have hnz : (order == 0) = false := beq_eq_false_iff_ne.2 (by omega)
    have hnz' : order ≠ 0 := by omega
    by_cases h4 : ps.length ≤ m
    · have HV : Hid (∀ b, ps.all inSq = b → (if b then 0 else 1) = chErr ps order) := fun b hb => by unfold chErr hearsOk; rw [hO', decide_eq_true (hm2.1 h4), hb]; cases b <;> rfl
      obtain ⟨n, en⟩ : ∃ n, n = ps.length := ⟨_, rfl⟩
      rw [← en] at h4
      rw [← en]
      have HN := hid en
      have HH := hid (fun k (hk : k < ps.length) => not_all hk)
      clear en hz hO' hO hm2
      have hm1s := hm1.symm
      have HDM := hid (show decide (m < n) = false from decide_eq_false (by omega))
      have hn20 : n ≤ 2048 := by omega
      clear hm1
      go_enter Tryz.func43, Tryz.ntmps43
      go_wp2_with (go_at_call 40; refine hord.mono ?_; rintro e w1 ⟨rfl, rfl⟩)
      go_loopw [20] (fun i wr => ∃ k : Nat, k ≤ n ∧ i = .int .i64 k ∧ Hid (InTo ps k) ∧ Below w.heap.size w wr) (fun i _ => n - (intOf i).toNat)
      case atStart => exact ⟨0, Nat.zero_le _, rfl, fun j hj => by omega, Below.refl _ _⟩
      case round =>
        clear hord
        obtain ⟨k, hk, rfl, hin, hbel⟩ := hrel
        by_cases hlt : k < n
        · have hlt' : k < ps.length := by have := HN.out; omega
          obtain ⟨b1, o1, rfl, hc1⟩ := (ha.below hbel).at hlt'
          obtain ⟨g1, g1'⟩ := hc1 k hlt'
          have HX := hid (show inSq (ps.getD k (0, 0)) = decide ((-1000 ≤ (ps.getD k (0, 0)).1 ∧ (ps.getD k (0, 0)).1 ≤ 1000) ∧ -1000 ≤ (ps.getD k (0, 0)).2 ∧ (ps.getD k (0, 0)).2 ≤ 1000) from rfl)
          have HF := hid (HH.out k hlt')
          obtain ⟨x, e1⟩ : ∃ x, x = (ps.getD k (0, 0)).1 := ⟨_, rfl⟩
          obtain ⟨y, e2⟩ : ∃ y, y = (ps.getD k (0, 0)).2 := ⟨_, rfl⟩
          rw [← e1] at g1 HX
          rw [← e2] at g1' HX
          clear hc1 e1 e2 hlt'
          have f1 := fun w => far_any x w
          have f2 := fun w => far_any y w
          have hbel' := hbel.alloc hbel.size (.cells #[.int .i64 x, .int .i64 y] 29)
          cases hf1 : farX x with
          | true =>
            have HE := hid (HV.out false (HF.out (by rw [HX.out]; have := of_decide_eq_true hf1; exact decide_eq_false (by omega))))
            simp only [hf1] at f1
            clear hf1 HX HF
            go_wp2_with (go_at_call 61; refine (f1 _).mono ?_; rintro e w1 ⟨rfl, rfl⟩)
            go_ret
            exact ⟨ret_int HE.out, hbel'⟩
          | false =>
            simp only [hf1] at f1
            have hx1 := of_decide_eq_false hf1
            cases hf2 : farX y with
            | true =>
              have HE := hid (HV.out false (HF.out (by rw [HX.out]; have := of_decide_eq_true hf2; exact decide_eq_false (by omega))))
              simp only [hf2] at f2
              clear hf1 hf2 HX HF hx1
              go_wp2_with (go_at_call 61; first | (refine (f1 _).mono ?_; rintro e w1 ⟨rfl, rfl⟩) | (refine (f2 _).mono ?_; rintro e w1 ⟨rfl, rfl⟩))
              go_ret
              exact ⟨ret_int HE.out, hbel'⟩
            | false =>
              simp only [hf2] at f2
              have hy1 := of_decide_eq_false hf2
              have HI : Hid (InTo ps (k + 1)) := fun j hj => by
                by_cases e : j = k
                · subst e; rw [HX.out]; exact decide_eq_true (by omega)
                · exact hin.out j (by omega)
              have HLT := hid hlt
              clear hf1 hf2 HX HF hx1 hy1
              go_wp2_with (go_at_call 61; first | (refine (f1 _).mono ?_; rintro e w1 ⟨rfl, rfl⟩) | (refine (f2 _).mono ?_; rintro e w1 ⟨rfl, rfl⟩))
              go_roundw
              case rel =>
                have := HLT.out
                first | exact ⟨k + 1, by omega, by go_num, HI, hbel'⟩ | ((repeat apply Exists.intro); exact ⟨⟨k + 1, by omega, by go_num, HI, hbel'⟩, by rw [HDM.out]; rfl⟩)
              case measure =>
                have := HLT.out
                simp [intOf]
                omega
        · have HE := hid (HV.out true (all_inTo (k := k) (by have := HN.out; omega) hin.out))
          go_wp2
          go_ret
          exact ⟨ret_int HE.out, hbel⟩
    · have HV := hid (show 1 = chErr ps order by unfold chErr hearsOk; rw [decide_eq_false (fun h => h4 (hm2.2 h))]; simp)
      obtain ⟨n, en⟩ : ∃ n, n = ps.length := ⟨_, rfl⟩
      rw [← en] at h4 hz
      rw [← en]
      clear en hO' hO hm2
      have hm1s := hm1.symm
      clear hm1
      go_enter Tryz.func43, Tryz.ntmps43
      go_wp2_with (go_at_call 40; refine hord.mono ?_; rintro e w1 ⟨rfl, rfl⟩)
      go_ret
      exact ⟨ret_int HV.out, Below.refl _ _⟩
  · have hO' : ordOk5 order = false := decide_eq_false hO
    rw [show ordErr order = 1 by unfold ordErr; rw [hO']; rfl] at hord
    have HV := hid (show 1 = chErr ps order by unfold chErr hearsOk; rw [hO']; rfl)
    clear hO hO'
    go_enter Tryz.func43, Tryz.ntmps43
    go_wp2_with (go_at_call 40; refine hord.mono ?_; rintro e w1 ⟨rfl, rfl⟩)
    go_ret
    exact ⟨ret_int HV.out, Below.refl _ _⟩
end Go.Proofs.YtdndeegpbjlibadGreatDoor
