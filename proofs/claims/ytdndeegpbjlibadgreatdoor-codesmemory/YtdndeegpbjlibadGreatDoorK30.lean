import Derived.Test.YtdndeegpbjlibadGreatDoorK29
import Derived.Test.YtdndeegpbjlibadGreatDoorK27
namespace Go.Proofs.YtdndeegpbjlibadGreatDoor
open Go.ChangeShapes Go.WideShapes Go.ChangeAt Go.RowKit Go.Shelf

/-! GOING ROUND IN THE TURN. -/

attribute [local go_sem] Oper.semAt_some

/-- What is yielded at the x-th place. -/
def encR (n v c : Nat) (x : Fin c) : Array Value := #[Value.int .i64 (x.val : Int), Value.int .i64 ((pickM n v x.val : Nat) : Int)]

set_option maxRecDepth 100000 in
set_option maxHeartbeats 2000000 in
theorem round1_in (n v c : Nat) (h1 : 1 ≤ n) (hn : n ≤ 4096) (hv : v ≤ 3) (hc : c ≤ 4096) (l B1 B2 B3 : Nat) (S : List Nat) (J Jx : List (Fin c) → World → Prop) (W : World) (hC : Col W) (hJ : AbidesFrom W.heap.size J)
    (hY : ∀ pre x W1, J pre W1 → pre.length < c → YieldAt Fence.wide 1 Tryz.prog l (encR n v c x) W1 fun e W' =>
      (e = .returned (.bool true) ∧ J (pre ++ [x]) W' ∧ KeptC S W1 W') ∨ (e = .returned (.bool false) ∧ Jx (pre ++ [x]) W'))
    (c1 : W.cell? ⟨B1, 0, none⟩ = some (.int .i64 n)) (c2 : W.cell? ⟨B2, 0, none⟩ = some (.int .i64 v)) (c3 : W.cell? ⟨B3, 0, none⟩ = some (.int .i64 c)) (hS1 : B1 ∉ S) (hSl : ∀ x ∈ S, x < W.heap.size) (h0 : J [] W) :
    CallsIn Fence.wide 2 Tryz.prog 57 #[.func (.yield l) #[] #[], .pointer (some ⟨B1, 0, none⟩), .pointer (some ⟨B2, 0, none⟩), .pointer (some ⟨B3, 0, none⟩)] W fun e W' => (∃ u, e = .returned u) ∧
      ((∃ ys : List (Fin c), ys.map Fin.val = List.range c ∧ J ys W') ∨ (∃ pre : List (Fin c), True ∧ Jx pre W')) := by
  have HLO := hid ((intsM_length (ordM n)).trans (ordM_length n))
  have hbn : v * n / 4 < n := by
    have h3 : v * n ≤ 3 * n := Nat.mul_le_mul_right n hv
    omega
  have HPM := hid (fun i : Nat => show pickM n v i = (ordM n).getD ((v * n / 4 + i) % n) 0 by unfold pickM; rw [Nat.mul_comm n v])
  obtain ⟨b, eb⟩ : ∃ b, b = v * n / 4 := ⟨_, rfl⟩
  have hbe := beginOf_any n v
  rw [← eb] at HPM hbn hbe
  clear eb
  refine callsIn_of_wp Tryz.func57 rfl trivial ?_ rfl
  simp only [Tryz.ntmps57, List.size_toArray, List.length_cons, List.length_nil, Nat.reduceAdd, Nat.reduceSub, Array.replicate_succ, Array.replicate_zero, List.push_toArray, List.append_toArray, List.nil_append, List.cons_append]
  gi_wp2_with (first
    | (refine ⟨trivial, ?_⟩; gi_at_call 58; refine (callsIn_wide.2 (orderOf_any n W hC hn)).mono ?_; rintro e W1 ⟨u1, rfl, hown1, hbel1⟩; obtain ⟨g, cg, rfl, -, -⟩ := hown1.shape1 HLO.out h1; have d1 := (hbel1.cell (World.block_lt_of_cell? W _ c1)).trans c1; have d2 := (hbel1.cell (World.block_lt_of_cell? W _ c2)).trans c2; have d3 := (hbel1.cell (World.block_lt_of_cell? W _ c3)).trans c3)
    | (refine ⟨trivial, ?_⟩; gi_at_call 59; refine (callsIn_wide.2 (hbe W1 hn hv)).mono ?_; rintro e W2 ⟨rfl, rfl⟩))
  have hJ1 : J [] W1 := hJ [] W W1 none h0 (Below.grows hbel1) (fun r e => by cases e)
  have hrd := hown1.rd
  have hgS : g ∉ S := fun h => absurd (hSl g h) (by have := hown1.block; omega)
  clear c1 c2 c3 d2 d3 hown1 hbel1 hbe h0 hJ
  gi_loopw [14] (fun q wr => ∃ (i : Nat) (pre : List (Fin c)), i ≤ c ∧ q = .int .i64 i ∧ Hid (pre.map Fin.val = List.range i) ∧ J pre wr ∧ Rd .i64 wr (some ⟨g, 0, none⟩) (intsM (ordM n)) ∧ wr.cell? ⟨B1, 0, none⟩ = some (.int .i64 n)) (fun q _ => c - (intOf q).toNat)
  case atStart => exact ⟨0, [], Nat.zero_le _, rfl, by unfold Hid; rfl, hJ1, hrd, d1⟩
  case round =>
    clear hJ1 hrd d1
    obtain ⟨i, pre, hi, rfl, HP, hJ1, hrd, d1⟩ := hrel
    by_cases hlt : i < c
    · have hpl : pre.length = i := by have := congrArg List.length HP.out; simpa using this
      have hmod : (b + i) % n < n := Nat.mod_lt _ (by omega)
      have hrem : ((b : Int) + (i : Int)).tmod (n : Int) = (((b + i) % n : Nat) : Int) := by
        rw [Int.tmod_eq_emod_of_nonneg (by omega)]; simp
      have hren : ((b : Int) + (i : Int)) % (n : Int) = (((b + i) % n : Nat) : Int) := by simp
      obtain ⟨g', o', e', hcc⟩ := hrd.at (i := (b + i) % n) (by rw [HLO.out]; exact hmod)
      simp at e'
      obtain ⟨rfl, rfl⟩ := e'
      have g1 := hcc ((b + i) % n) (by rw [HLO.out]; exact hmod)
      rw [intsM_at, ← HPM.out i, Nat.zero_add] at g1
      obtain ⟨fn, tmps, assign, body, hy, hR⟩ := hY pre ⟨i, hlt⟩ wr hJ1 (by omega)
      unfold encR at hy
      dsimp only at hy
      obtain ⟨pk, epk⟩ : ∃ pk, pk = pickM n v i := ⟨_, rfl⟩
      rw [← epk] at g1 hy
      obtain ⟨q, eq⟩ : ∃ q, q = (b + i) % n := ⟨_, rfl⟩
      rw [← eq] at hmod hrem hren g1
      have hnz : ((n : Int) == 0) = false := beq_eq_false_iff_ne.2 (by omega)
      clear hcc epk eq HPM
      gi_wp2
      refine hR.mono ?_
      rintro e W3 (⟨rfl, hJ3, hk3⟩ | ⟨rfl, hJx3⟩)
      · have d3 := hk3.cell d1 hS1
        have r3 := hk3.rd hrd (fun g' o' e' _ => by cases e'; exact hgS)
        have HP3 : Hid ((pre ++ [(⟨i, hlt⟩ : Fin c)]).map Fin.val = List.range (i + 1)) := by
          unfold Hid
          rw [List.map_append, HP.out, List.range_succ]
          rfl
        gi_wp2
        go_roundw
        case rel => first | exact ⟨i + 1, _, by omega, by go_num, HP3, hJ3, r3, d3⟩ | ((repeat apply Exists.intro); exact ⟨⟨i + 1, _, by omega, by go_num, HP3, hJ3, r3, d3⟩, rfl⟩)
        case measure => simp [intOf]; omega
      · gi_wp2
        refine bodyPost_ret (results_none rfl _ _ _) rfl ?_
        exact ⟨⟨_, rfl⟩, .inr ⟨_, trivial, hJx3⟩⟩
    · obtain rfl : i = c := by omega
      gi_wp2
      go_end0
      exact ⟨⟨_, rfl⟩, .inl ⟨pre, HP.out, hJ1⟩⟩

/-- 'round(n, version, count)': all three are boxed. -/
theorem round_in (nf n v c : Nat) (w : World) :
    CallsIn Fence.wide nf Tryz.prog 39 #[.int .i64 n, .int .i64 v, .int .i64 c] w fun e w' => e = .returned (.func (.func 57) #[] #[.pointer (some ⟨w.heap.size, 0, none⟩), .pointer (some ⟨w.heap.size + 1, 0, none⟩), .pointer (some ⟨w.heap.size + 2, 0, none⟩)]) ∧
      w' = ((w.alloc (.cells #[.int .i64 n] 3)).alloc (.cells #[.int .i64 v] 3)).alloc (.cells #[.int .i64 c] 3) := by
  refine callsIn_of_wp Tryz.func39 rfl trivial ?_ rfl
  simp only [Tryz.ntmps39, List.size_toArray, List.length_cons, List.length_nil, Nat.reduceAdd, Nat.reduceSub, Array.replicate_succ, Array.replicate_zero, List.push_toArray, List.append_toArray, List.nil_append, List.cons_append]
  gi_wp2
  go_ret
  exact ⟨rfl, rfl⟩

theorem round_stops (n v c : Nat) (h1 : 1 ≤ n) (hn : n ≤ 4096) (hv : v ≤ 3) (hc : c ≤ 4096) (B1 B2 B3 : Nat) (S : List Nat) (w : World) (hC : Col w)
    (c1 : w.cell? ⟨B1, 0, none⟩ = some (.int .i64 n)) (c2 : w.cell? ⟨B2, 0, none⟩ = some (.int .i64 v)) (c3 : w.cell? ⟨B3, 0, none⟩ = some (.int .i64 c)) (hS1 : B1 ∉ S) (hSl : ∀ x ∈ S, x < w.heap.size) :
    SeqStopsK Fence.wide 2 Tryz.prog 57 #[.pointer (some ⟨B1, 0, none⟩), .pointer (some ⟨B2, 0, none⟩), .pointer (some ⟨B3, 0, none⟩)] (encR n v c) (KeptC S) (fun ys => ys.map Fin.val = List.range c) (fun _ => True) c w :=
  fun l J Jx W hW hJ _ hY h0 => round1_in n v c h1 hn hv hc l B1 B2 B3 S J Jx W (hC.later hW) hJ hY ((hW.cell (World.block_lt_of_cell? w _ c1)).trans c1) ((hW.cell (World.block_lt_of_cell? w _ c2)).trans c2) ((hW.cell (World.block_lt_of_cell? w _ c3)).trans c3) hS1 (fun x hx => Nat.lt_of_lt_of_le (hSl x hx) hW.size) h0
end Go.Proofs.YtdndeegpbjlibadGreatDoor
