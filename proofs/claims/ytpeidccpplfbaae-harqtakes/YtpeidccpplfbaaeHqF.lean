import Derived.Test.YtpeidccpplfbaaeHqE
import Derived.Test.YtpeidccpplfbaaeHqS
import Derived.Test.YtpeidccpplfbaaeRegU
namespace Go.Proofs.Ytpeidccpplfbaae
open Go.ChangeShapes Go.WideShapes Go.ChangeAt Go.RowKit

/-! THE LAW HarqTakes. -/

theorem ptake_any {w : World} {g : Nat} {r : RecvM} (hT : RTakes 37 w g r) (x : ShotM) (hd : Bool) :
    Calls Try.prog 6 #[.pointer (some ⟨g, 0, none⟩), x.val, .bool hd] w fun e w' => e = .returned (r.says x hd).val ∧ RTakes 37 w' g (r.next x hd) ∧ Kept [g] w w' := by
  rcases shot_casesR x with ⟨_, hE⟩ | ⟨_, _, hE⟩ | ⟨_, _, _, hE⟩ | ⟨_, _, _, _, hE⟩ | ⟨h0, h7, hv, hs, hE⟩
  · exact ptake_bad hT x hd (by rw [hE]; decide)
  · exact ptake_bad hT x hd (by rw [hE]; decide)
  · exact ptake_bad hT x hd (by rw [hE]; decide)
  · exact ptake_bad hT x hd (by rw [hE]; decide)
  · obtain ⟨p, ve, fg, da⟩ := x
    dsimp only at h0 h7 hv hs
    obtain ⟨k, rfl⟩ : ∃ k : Nat, p = (k : Int) := ⟨p.toNat, by omega⟩
    exact ptake_good hT k ve fg da hd (by omega) hv hs

theorem rtakes_any {w : World} {g : Nat} {r : RecvM} (hT : RTakes 39 w g r) (x : ShotM) (hd : Bool) :
    Calls Try.prog 7 #[.pointer (some ⟨g, 0, none⟩), x.val, .bool hd] w fun e w' => e = .returned (r.says x hd).val ∧ RTakes 39 w' g (r.next x hd) ∧ Kept [g] w w' := by
  rcases shot_casesR x with ⟨_, hE⟩ | ⟨_, _, hE⟩ | ⟨_, _, _, hE⟩ | ⟨_, _, _, _, hE⟩ | ⟨h0, h7, hv, hs, hE⟩
  · exact rtakes_bad hT x hd (by rw [hE]; decide)
  · exact rtakes_bad hT x hd (by rw [hE]; decide)
  · exact rtakes_bad hT x hd (by rw [hE]; decide)
  · exact rtakes_bad hT x hd (by rw [hE]; decide)
  · obtain ⟨p, ve, fg, da⟩ := x
    dsimp only at h0 h7 hv hs
    obtain ⟨k, rfl⟩ : ∃ k : Nat, p = (k : Int) := ⟨p.toNat, by omega⟩
    exact rtakes_good hT k ve fg da hd (by omega) hv hs

theorem run_ldapiShot {ρ : Operand → Value} (w : World) {o : Oper} {x : Operand} {g j : Nat} {v0 v1 v2 v3 : Value} (ho : o.op = .load 30 x) (h : ρ x = .pointer (some ⟨g, j, none⟩)) (c0 : w.cell? ⟨g, j, none⟩ = some v0) (c1 : w.cell? ⟨g, j + 1, none⟩ = some v1) (c2 : w.cell? ⟨g, j + 2, none⟩ = some v2) (c3 : w.cell? ⟨g, j + 3, none⟩ = some v3) : (execOp ρ o).run Try.prog w = .ok (.value (.agg #[v0, v1, v2, v3])) w := by
  unfold execOp
  simp only [ho, h]
  simp [go_sem, c0, c1, c2, c3]
theorem run_ixSteps {ρ : Operand → Value} (w : World) {o : Oper} {x y : Operand} {g s j n c : Nat} (ho : o.op = .indexAddr 22 x y) (h : ρ x = .slice (some ⟨g, s, none⟩) n c) (h' : ρ y = .int .i64 j) (hj : j < n) : (execOp ρ o).run Try.prog w = .ok (.value (.pointer (some ⟨g, s + j * 5, none⟩))) w := by
  unfold execOp
  simp only [ho, h, h']
  simp [go_sem, hj]
theorem run_fdroamlawStep0 {ρ : Operand → Value} (w : World) {o : Oper} {x : Operand} {g s : Nat} (ho : o.op = .fieldAddr 28 x 0) (h : ρ x = .pointer (some ⟨g, s, none⟩)) : (execOp ρ o).run Try.prog w = .ok (.value (.pointer (some ⟨g, s, none⟩))) w := by
  unfold execOp
  simp only [ho, h]
  simp [go_sem]
theorem run_ldint {ρ : Operand → Value} (w : World) {o : Oper} {x : Operand} {g j : Nat} {v : Value} (ho : o.op = .load 3 x) (h : ρ x = .pointer (some ⟨g, j, none⟩)) (hc : w.cell? ⟨g, j, none⟩ = some v) : (execOp ρ o).run Try.prog w = .ok (.value v) w := by
  unfold execOp
  simp only [ho, h]
  simp [go_sem, hc]
theorem run_eqlint {ρ : Operand → Value} (w : World) {o : Oper} {x y : Operand} {p q : Int} (ho : o.op = .binOp .eql 3 x y 3) (h : ρ x = .int .i64 p) (h' : ρ y = .int .i64 q) : (execOp ρ o).run Try.prog w = .ok (.value (.bool (p == q))) w := by
  unfold execOp
  simp only [ho, h, h']
  simp [go_sem]
theorem Kept.cell_off {S : List Nat} {w w' : World} (h : Kept S w w') {b j : Nat} {v : Value} (hc : w.cell? ⟨b, j, none⟩ = some v) (hb : b ∉ S) : w'.cell? ⟨b, j, none⟩ = some v := (World.cell?_of_block (h.block b (World.block_lt_of_cell? w _ hc) hb)).trans hc
theorem Kept.blocks {S : List Nat} {w w' : World} (h : Kept S w w') : ∀ i, i < w.heap.size → i ∉ S → w'.heap[i]? = w.heap[i]? := fun i hi hs => h.block i hi hs

set_option maxRecDepth 100000 in
set_option maxHeartbeats 4000000 in
theorem htakes_any (ts : List StepM) (a : Option Addr) (nt c : Nat) (w : World) (hS : Steps w a ts) (hnt : ts.length = nt) (hn : nt ≤ maxLen) :
    Calls Try.prog 3 #[.slice a nt c] w fun e w' => e = .returned (.bool true) ∧ Below w.heap.size w w' := by
  have HS := hid hS
  have HNT := hid hnt
  have hn' : nt ≤ 9223372036854775807 := by unfold maxLen at hn; omega
  clear hS hnt hn
  go_enter Try.func3, Try.ntmps3
  go_wp2_with (first
    | (go_at_call 4; refine (pnewreceiver_any _).mono ?_; rintro e w1 ⟨g1, rfl, hg1, hT1, hb1⟩)
    | (go_at_call 5; refine (rnewtakes_any _).mono ?_; rintro e w2 ⟨g2, rfl, hg2, hT2, hb2⟩))
  have hTP := hT1.old hb2
  have hB := hb1.trans (hb2.mono hb1.size)
  have hne : g1 ≠ g2 := by have := hT1.lt; omega
  have hg2' : w.heap.size ≤ g2 := Nat.le_trans hb1.size hg2
  clear hT1 hb1 hb2 hg2
  generalize RecvM.new = r0 at *
  go_loopw [5] (fun i wr => ∃ (k : Nat) (r : RecvM), k ≤ nt ∧ i = .int .i64 k ∧ RTakes 37 wr g1 r ∧ RTakes 39 wr g2 r ∧ Below w.heap.size w wr) (fun i _ => nt - (intOf i).toNat)
  case atStart => exact ⟨0, r0, by omega, rfl, hTP, hT2, hB⟩
  case round =>
    clear hTP hT2 hB
    obtain ⟨k, r, hk, rfl, hTP, hTR, hB⟩ := hrel
    by_cases hlt : k < nt
    · have hne0 : ts ≠ [] := fun h => by have := HNT.out; rw [h] at this; simp at this; omega
      obtain ⟨b, o, rfl, hC⟩ := HS.out hne0
      obtain ⟨q0, q1, q2, q3, q4⟩ := hC k (by rw [HNT.out]; exact hlt)
      generalize ts.getD k .zero = S at *
      have q0w := q0
      have q0 := cellOld hB q0
      have q1 := cellOld hB q1
      have q2 := cellOld hB q2
      have q3 := cellOld hB q3
      have q4 := cellOld hB q4
      clear hC
      have hbz : Below wr.heap.size wr (wr.alloc (.cells #[.int .i64 0, .int .i64 0, .bool false, .string { data := #[] }] 30)) := (Below.refl _ wr).alloc (Nat.le_refl _) _
      have z1 := cellOld hbz q1
      have z2 := cellOld hbz q2
      have z3 := cellOld hbz q3
      have z4 := cellOld hbz q4
      go_wp2_with fail
      go_region
      have hbx : Below wr.heap.size wr (wr.alloc (.cells #[.int .i64 S.n, .int .i64 S.m, .bool S.yes, .string S.text] 30)).drew := ((Below.refl _ wr).alloc (Nat.le_refl _) _).drew
      have hx1 : wr.heap.size ≠ g1 := by have := hTP.lt; omega
      have hx2 : wr.heap.size ≠ g2 := by have := hTR.lt; omega
      have hbl : b < w.heap.size := World.block_lt_of_cell? w _ q0w
      have hbg1 : b ≠ g1 := by omega
      have hbg2 : b ≠ g2 := by omega
      have hTP := hTP.old hbx
      have hTR := hTR.old hbx
      have hB := hB.trans (hbx.mono hB.size)
      have q0 := cellOld hbx q0
      have hq : (wr.alloc (.cells #[.int .i64 S.n, .int .i64 S.m, .bool S.yes, .string S.text] 30)).drew.heap[wr.heap.size]? = _ := heap_alloc_new wr _
      have b0 : (wr.alloc (.cells #[.int .i64 S.n, .int .i64 S.m, .bool S.yes, .string S.text] 30)).drew.cell? ⟨wr.heap.size, 0, none⟩ = some (.int .i64 S.n) := by rw [cell_of_row _ _ _ _ _ _ hq]; rfl
      have b1 : (wr.alloc (.cells #[.int .i64 S.n, .int .i64 S.m, .bool S.yes, .string S.text] 30)).drew.cell? ⟨wr.heap.size, 1, none⟩ = some (.int .i64 S.m) := by rw [cell_of_row _ _ _ _ _ _ hq]; rfl
      have b2 : (wr.alloc (.cells #[.int .i64 S.n, .int .i64 S.m, .bool S.yes, .string S.text] 30)).drew.cell? ⟨wr.heap.size, 2, none⟩ = some (.bool S.yes) := by rw [cell_of_row _ _ _ _ _ _ hq]; rfl
      have b3 : (wr.alloc (.cells #[.int .i64 S.n, .int .i64 S.m, .bool S.yes, .string S.text] 30)).drew.cell? ⟨wr.heap.size, 3, none⟩ = some (.string S.text) := by rw [cell_of_row _ _ _ _ _ _ hq]; rfl
      clear hq hbx z1 z2 z3 z4 hbz
      go_wp2_with fail
      generalize (wr.alloc (.cells #[.int .i64 S.n, .int .i64 S.m, .bool S.yes, .string S.text] 30)).drew = w3 at *
      generalize wr.heap.size = bx at *
      have hmix : Try.prog.follows .mixedOrders = true := by kernel_rfl
      have hpt := fun (wz : World) (h : RTakes 37 wz g1 r) => ptake_any h ⟨S.n, S.m, S.yes, S.text⟩ (S.kind == 1)
      have hrt := fun (wz : World) (h : RTakes 39 wz g2 r) => rtakes_any h ⟨S.n, S.m, S.yes, S.text⟩ (S.kind == 1)
      generalize r.next ⟨S.n, S.m, S.yes, S.text⟩ (S.kind == 1) = r' at hpt hrt
      generalize r.says ⟨S.n, S.m, S.yes, S.text⟩ (S.kind == 1) = tt at hpt hrt
      obtain ⟨da, fr, ye, er⟩ := tt
      unfold TookM.val ShotM.val at hpt hrt
      dsimp only at hpt hrt
      have hcx : ∀ (wc : World), Kept [g1] w3 wc → ∀ j v, w3.cell? ⟨bx, j, none⟩ = some v → wc.cell? ⟨bx, j, none⟩ = some v := fun wc hk j v h => hk.cell_off h (by simpa using hx1)
      have hcq : ∀ (wc : World), Kept [g1] w3 wc → wc.cell? ⟨b, o + k * 5, none⟩ = some (.int .i64 S.kind) := fun wc hk => hk.cell_off q0 (by simpa using hbg1)
      refine wp_mono (region_knownU (Q := fun e a' w' => e = .normal ∧ a' = ({ tmps := ((setAll _ [(45, .pointer (some ⟨g1, 0, none⟩)), (46, .agg #[.int .i64 S.n, .int .i64 S.m, .bool S.yes, .string S.text]), (47, .slice (some ⟨b, o, none⟩) nt c), (48, .int .i64 (k : Int)), (49, .pointer (some ⟨b, o + k * 5, none⟩)), (50, .pointer (some ⟨b, o + k * 5, none⟩)), (51, .int .i64 S.kind), (52, .bool (S.kind == 1)), (53, .tuple #[.string da, .bool fr, .bool ye, .int .i64 er]), (44, .tuple #[.string da, .bool fr, .bool ye, .int .i64 er]), (54, .string da), (55, .bool fr), (56, .bool ye), (57, .int .i64 er), (7, .string da), (8, .bool fr), (9, .bool ye)]).set 10 (.int .i64 er)).toArray, defers := [] } : Act) ∧ RTakes 37 w' g1 r' ∧ Kept [g1] w3 w') 18 17 8 [g1] (fun w' => RTakes 37 w' g1 r') [(45, .pointer (some ⟨g1, 0, none⟩)), (46, .agg #[.int .i64 S.n, .int .i64 S.m, .bool S.yes, .string S.text]), (47, .slice (some ⟨b, o, none⟩) nt c), (48, .int .i64 (k : Int)), (49, .pointer (some ⟨b, o + k * 5, none⟩)), (50, .pointer (some ⟨b, o + k * 5, none⟩)), (51, .int .i64 S.kind), (52, .bool (S.kind == 1)), (53, .tuple #[.string da, .bool fr, .bool ye, .int .i64 er]), (44, .tuple #[.string da, .bool fr, .bool ye, .int .i64 er]), (54, .string da), (55, .bool fr), (56, .bool ye), (57, .int .i64 er), (7, .string da), (8, .bool fr), (9, .bool ye)]
        [[3], [6], [0], [5], [47, 48], [49], [50], [51], [45, 46, 52], [53], [44], [44], [44], [44], [54], [55], [56]] [8, 8, 4, 4, 5, 6, 7, 8, 9, 10, 14, 15, 16, 17, 15, 16, 17] w3 hmix rfl (by decide) rfl (show ([45, 46, 47, 48, 49, 50, 51, 52, 53, 44, 54, 55, 56, 57, 7, 8, 9] : List Nat).Nodup by decide) (by kernel_rfl) (by kernel_rfl) (by kernel_rfl) (by kernel_rfl) (by kernel_rfl) (by kernel_rfl) (fun _ _ h hk => h.kept hk.blocks (by simp))
        (fun i' hi' hiu ac wc hk hr Q K hK => by
          have hor : i' = 0 ∨ i' = 1 ∨ i' = 2 ∨ i' = 3 ∨ i' = 4 ∨ i' = 5 ∨ i' = 6 ∨ i' = 7 ∨ i' = 8 ∨ i' = 9 ∨ i' = 10 ∨ i' = 11 ∨ i' = 12 ∨ i' = 13 ∨ i' = 14 ∨ i' = 15 ∨ i' = 16 := by omega
          rcases hor with rfl | rfl | rfl | rfl | rfl | rfl | rfl | rfl | rfl | rfl | rfl | rfl | rfl | rfl | rfl | rfl | rfl
          · have e3 : ac.eval (.tmp 3) = .pointer (some ⟨g1, 0, none⟩) := hr 3 (by decide)
            exact op_value rfl rfl (run_moveQ wc rfl e3) (hK wc (keptU wc))
          · have e6 : ac.eval (.tmp 6) = .pointer (some ⟨bx, 0, none⟩) := hr 6 (by decide)
            exact op_value rfl rfl (run_ldapiShot wc rfl e6 (hcx wc hk _ _ b0) (hcx wc hk _ _ b1) (hcx wc hk _ _ b2) (hcx wc hk _ _ b3)) (hK wc (keptU wc))
          · have e0 : ac.eval (.tmp 0) = .slice (some ⟨b, o, none⟩) nt c := hr 0 (by decide)
            exact op_value rfl rfl (run_moveQ wc rfl e0) (hK wc (keptU wc))
          · have e5 : ac.eval (.tmp 5) = .int .i64 (k : Int) := hr 5 (by decide)
            exact op_value rfl rfl (run_moveQ wc rfl e5) (hK wc (keptU wc))
          · have e47 : ac.eval (.tmp 47) = .slice (some ⟨b, o, none⟩) nt c := hr 47 (by decide)
            have e48 : ac.eval (.tmp 48) = .int .i64 (k : Int) := hr 48 (by decide)
            exact op_value rfl rfl (run_ixSteps wc rfl e47 e48 hlt) (hK wc (keptU wc))
          · have e49 : ac.eval (.tmp 49) = .pointer (some ⟨b, o + k * 5, none⟩) := hr 49 (by decide)
            exact op_value rfl rfl (run_fdroamlawStep0 wc rfl e49) (hK wc (keptU wc))
          · have e50 : ac.eval (.tmp 50) = .pointer (some ⟨b, o + k * 5, none⟩) := hr 50 (by decide)
            exact op_value rfl rfl (run_ldint wc rfl e50 (hcq wc hk)) (hK wc (keptU wc))
          · have e51 : ac.eval (.tmp 51) = .int .i64 S.kind := hr 51 (by decide)
            exact op_value rfl rfl (run_eqlint wc rfl e51 rfl) (hK wc (keptU wc))
          · exact absurd rfl hiu
          · have e53 : ac.eval (.tmp 53) = .tuple #[.string da, .bool fr, .bool ye, .int .i64 er] := hr 53 (by decide)
            exact op_value rfl rfl (run_moveQ wc rfl e53) (hK wc (keptU wc))
          · have e44 : ac.eval (.tmp 44) = .tuple #[.string da, .bool fr, .bool ye, .int .i64 er] := hr 44 (by decide)
            exact op_value rfl rfl (run_extractL wc rfl e44 rfl) (hK wc (keptU wc))
          · have e44 : ac.eval (.tmp 44) = .tuple #[.string da, .bool fr, .bool ye, .int .i64 er] := hr 44 (by decide)
            exact op_value rfl rfl (run_extractL wc rfl e44 rfl) (hK wc (keptU wc))
          · have e44 : ac.eval (.tmp 44) = .tuple #[.string da, .bool fr, .bool ye, .int .i64 er] := hr 44 (by decide)
            exact op_value rfl rfl (run_extractL wc rfl e44 rfl) (hK wc (keptU wc))
          · have e44 : ac.eval (.tmp 44) = .tuple #[.string da, .bool fr, .bool ye, .int .i64 er] := hr 44 (by decide)
            exact op_value rfl rfl (run_extractL wc rfl e44 rfl) (hK wc (keptU wc))
          · have e54 : ac.eval (.tmp 54) = .string da := hr 54 (by decide)
            exact op_value rfl rfl (run_assignL wc rfl e54) (hK wc (keptU wc))
          · have e55 : ac.eval (.tmp 55) = .bool fr := hr 55 (by decide)
            exact op_value rfl rfl (run_assignL wc rfl e55) (hK wc (keptU wc))
          · have e56 : ac.eval (.tmp 56) = .bool ye := hr 56 (by decide)
            exact op_value rfl rfl (run_assignL wc rfl e56) (hK wc (keptU wc)))
        (fun _ ac wc hb hr Q K hK => by
          have e45 : ac.eval (.tmp 45) = .pointer (some ⟨g1, 0, none⟩) := hr 45 (by decide)
          have e46 : ac.eval (.tmp 46) = .agg #[.int .i64 S.n, .int .i64 S.m, .bool S.yes, .string S.text] := hr 46 (by decide)
          have e52 : ac.eval (.tmp 52) = .bool (S.kind == 1) := hr 52 (by decide)
          refine op_callNL rfl rfl rfl (enters_of Try.func6 (by kernel_rfl) rfl) (map3L e45 e46 e52) (hpt wc (hTP.old hb)) fun e w' hr' => ?_
          obtain ⟨rfl, hT', hk'⟩ := hr'
          exact ⟨_, rfl, hK w' hk' hT'⟩)
        (fun wc hk hu => by
          refine op_value rfl rfl (run_assignL wc rfl ((eval_setAll (t := [(45, .pointer (some ⟨g1, 0, none⟩)), (46, .agg #[.int .i64 S.n, .int .i64 S.m, .bool S.yes, .string S.text]), (47, .slice (some ⟨b, o, none⟩) nt c), (48, .int .i64 (k : Int)), (49, .pointer (some ⟨b, o + k * 5, none⟩)), (50, .pointer (some ⟨b, o + k * 5, none⟩)), (51, .int .i64 S.kind), (52, .bool (S.kind == 1)), (53, .tuple #[.string da, .bool fr, .bool ye, .int .i64 er]), (44, .tuple #[.string da, .bool fr, .bool ye, .int .i64 er]), (54, .string da), (55, .bool fr), (56, .bool ye), (57, .int .i64 er), (7, .string da), (8, .bool fr), (9, .bool ye)]) 57 (show ([45, 46, 47, 48, 49, 50, 51, 52, 53, 44, 54, 55, 56, 57, 7, 8, 9] : List Nat).Nodup by decide) (by kernel_rfl)).trans rfl)) ⟨rfl, put_list _ _ _, hu (by decide), hk⟩)) ?_
      rintro e a' w4 ⟨rfl, rfl, hTP4, hk4⟩
      dsimp only [setAll, List.set, List.append_nil, List.cons_append, List.nil_append]
      go_wp2_with fail
      have hTR4 := hTR.kept hk4.blocks (by simpa using hne.symm)
      have c0 := hcx w4 hk4 _ _ b0
      have c1 := hcx w4 hk4 _ _ b1
      have c2 := hcx w4 hk4 _ _ b2
      have c3 := hcx w4 hk4 _ _ b3
      have q4 := hcq w4 hk4
      have hB4 := hB.trans (hk4.below hB.size (fun x hx => by obtain rfl : x = g1 := (by simpa using hx); exact hg1))
      clear hcx hcq hpt hTP hTR b0 b1 b2 b3 q0
      have hcx : ∀ (wc : World), Kept [g2] w4 wc → ∀ j v, w4.cell? ⟨bx, j, none⟩ = some v → wc.cell? ⟨bx, j, none⟩ = some v := fun wc hk j v h => hk.cell_off h (by simpa using hx2)
      have hcq : ∀ (wc : World), Kept [g2] w4 wc → wc.cell? ⟨b, o + k * 5, none⟩ = some (.int .i64 S.kind) := fun wc hk => hk.cell_off q4 (by simpa using hbg2)
      refine wp_mono (region_knownU (Q := fun e a' w' => e = .normal ∧ a' = ({ tmps := ((setAll _ [(59, .pointer (some ⟨g2, 0, none⟩)), (60, .agg #[.int .i64 S.n, .int .i64 S.m, .bool S.yes, .string S.text]), (61, .slice (some ⟨b, o, none⟩) nt c), (62, .int .i64 (k : Int)), (63, .pointer (some ⟨b, o + k * 5, none⟩)), (64, .pointer (some ⟨b, o + k * 5, none⟩)), (65, .int .i64 S.kind), (66, .bool (S.kind == 1)), (67, .tuple #[.string da, .bool fr, .bool ye, .int .i64 er]), (58, .tuple #[.string da, .bool fr, .bool ye, .int .i64 er]), (68, .string da), (69, .bool fr), (70, .bool ye), (71, .int .i64 er), (11, .string da), (12, .bool fr), (13, .bool ye)]).set 14 (.int .i64 er)).toArray, defers := [] } : Act) ∧ RTakes 39 w' g2 r' ∧ Kept [g2] w4 w') 18 17 8 [g2] (fun w' => RTakes 39 w' g2 r') [(59, .pointer (some ⟨g2, 0, none⟩)), (60, .agg #[.int .i64 S.n, .int .i64 S.m, .bool S.yes, .string S.text]), (61, .slice (some ⟨b, o, none⟩) nt c), (62, .int .i64 (k : Int)), (63, .pointer (some ⟨b, o + k * 5, none⟩)), (64, .pointer (some ⟨b, o + k * 5, none⟩)), (65, .int .i64 S.kind), (66, .bool (S.kind == 1)), (67, .tuple #[.string da, .bool fr, .bool ye, .int .i64 er]), (58, .tuple #[.string da, .bool fr, .bool ye, .int .i64 er]), (68, .string da), (69, .bool fr), (70, .bool ye), (71, .int .i64 er), (11, .string da), (12, .bool fr), (13, .bool ye)]
        [[4], [6], [0], [5], [61, 62], [63], [64], [65], [59, 60, 66], [67], [58], [58], [58], [58], [68], [69], [70]] [8, 8, 4, 4, 5, 6, 7, 8, 9, 10, 14, 15, 16, 17, 15, 16, 17] w4 hmix rfl (by decide) rfl (show ([59, 60, 61, 62, 63, 64, 65, 66, 67, 58, 68, 69, 70, 71, 11, 12, 13] : List Nat).Nodup by decide) (by kernel_rfl) (by kernel_rfl) (by kernel_rfl) (by kernel_rfl) (by kernel_rfl) (by kernel_rfl) (fun _ _ h hk => h.kept hk.blocks (by simp))
        (fun i' hi' hiu ac wc hk hr Q K hK => by
          have hor : i' = 0 ∨ i' = 1 ∨ i' = 2 ∨ i' = 3 ∨ i' = 4 ∨ i' = 5 ∨ i' = 6 ∨ i' = 7 ∨ i' = 8 ∨ i' = 9 ∨ i' = 10 ∨ i' = 11 ∨ i' = 12 ∨ i' = 13 ∨ i' = 14 ∨ i' = 15 ∨ i' = 16 := by omega
          rcases hor with rfl | rfl | rfl | rfl | rfl | rfl | rfl | rfl | rfl | rfl | rfl | rfl | rfl | rfl | rfl | rfl | rfl
          · have e4 : ac.eval (.tmp 4) = .pointer (some ⟨g2, 0, none⟩) := hr 4 (by decide)
            exact op_value rfl rfl (run_moveQ wc rfl e4) (hK wc (keptU wc))
          · have e6 : ac.eval (.tmp 6) = .pointer (some ⟨bx, 0, none⟩) := hr 6 (by decide)
            exact op_value rfl rfl (run_ldapiShot wc rfl e6 (hcx wc hk _ _ c0) (hcx wc hk _ _ c1) (hcx wc hk _ _ c2) (hcx wc hk _ _ c3)) (hK wc (keptU wc))
          · have e0 : ac.eval (.tmp 0) = .slice (some ⟨b, o, none⟩) nt c := hr 0 (by decide)
            exact op_value rfl rfl (run_moveQ wc rfl e0) (hK wc (keptU wc))
          · have e5 : ac.eval (.tmp 5) = .int .i64 (k : Int) := hr 5 (by decide)
            exact op_value rfl rfl (run_moveQ wc rfl e5) (hK wc (keptU wc))
          · have e61 : ac.eval (.tmp 61) = .slice (some ⟨b, o, none⟩) nt c := hr 61 (by decide)
            have e62 : ac.eval (.tmp 62) = .int .i64 (k : Int) := hr 62 (by decide)
            exact op_value rfl rfl (run_ixSteps wc rfl e61 e62 hlt) (hK wc (keptU wc))
          · have e63 : ac.eval (.tmp 63) = .pointer (some ⟨b, o + k * 5, none⟩) := hr 63 (by decide)
            exact op_value rfl rfl (run_fdroamlawStep0 wc rfl e63) (hK wc (keptU wc))
          · have e64 : ac.eval (.tmp 64) = .pointer (some ⟨b, o + k * 5, none⟩) := hr 64 (by decide)
            exact op_value rfl rfl (run_ldint wc rfl e64 (hcq wc hk)) (hK wc (keptU wc))
          · have e65 : ac.eval (.tmp 65) = .int .i64 S.kind := hr 65 (by decide)
            exact op_value rfl rfl (run_eqlint wc rfl e65 rfl) (hK wc (keptU wc))
          · exact absurd rfl hiu
          · have e67 : ac.eval (.tmp 67) = .tuple #[.string da, .bool fr, .bool ye, .int .i64 er] := hr 67 (by decide)
            exact op_value rfl rfl (run_moveQ wc rfl e67) (hK wc (keptU wc))
          · have e58 : ac.eval (.tmp 58) = .tuple #[.string da, .bool fr, .bool ye, .int .i64 er] := hr 58 (by decide)
            exact op_value rfl rfl (run_extractL wc rfl e58 rfl) (hK wc (keptU wc))
          · have e58 : ac.eval (.tmp 58) = .tuple #[.string da, .bool fr, .bool ye, .int .i64 er] := hr 58 (by decide)
            exact op_value rfl rfl (run_extractL wc rfl e58 rfl) (hK wc (keptU wc))
          · have e58 : ac.eval (.tmp 58) = .tuple #[.string da, .bool fr, .bool ye, .int .i64 er] := hr 58 (by decide)
            exact op_value rfl rfl (run_extractL wc rfl e58 rfl) (hK wc (keptU wc))
          · have e58 : ac.eval (.tmp 58) = .tuple #[.string da, .bool fr, .bool ye, .int .i64 er] := hr 58 (by decide)
            exact op_value rfl rfl (run_extractL wc rfl e58 rfl) (hK wc (keptU wc))
          · have e68 : ac.eval (.tmp 68) = .string da := hr 68 (by decide)
            exact op_value rfl rfl (run_assignL wc rfl e68) (hK wc (keptU wc))
          · have e69 : ac.eval (.tmp 69) = .bool fr := hr 69 (by decide)
            exact op_value rfl rfl (run_assignL wc rfl e69) (hK wc (keptU wc))
          · have e70 : ac.eval (.tmp 70) = .bool ye := hr 70 (by decide)
            exact op_value rfl rfl (run_assignL wc rfl e70) (hK wc (keptU wc)))
        (fun _ ac wc hb hr Q K hK => by
          have e59 : ac.eval (.tmp 59) = .pointer (some ⟨g2, 0, none⟩) := hr 59 (by decide)
          have e60 : ac.eval (.tmp 60) = .agg #[.int .i64 S.n, .int .i64 S.m, .bool S.yes, .string S.text] := hr 60 (by decide)
          have e66 : ac.eval (.tmp 66) = .bool (S.kind == 1) := hr 66 (by decide)
          refine op_callNL rfl rfl rfl (enters_of Try.func7 (by kernel_rfl) rfl) (map3L e59 e60 e66) (hrt wc (hTR4.old hb)) fun e w' hr' => ?_
          obtain ⟨rfl, hT', hk'⟩ := hr'
          exact ⟨_, rfl, hK w' hk' hT'⟩)
        (fun wc hk hu => by
          refine op_value rfl rfl (run_assignL wc rfl ((eval_setAll (t := [(59, .pointer (some ⟨g2, 0, none⟩)), (60, .agg #[.int .i64 S.n, .int .i64 S.m, .bool S.yes, .string S.text]), (61, .slice (some ⟨b, o, none⟩) nt c), (62, .int .i64 (k : Int)), (63, .pointer (some ⟨b, o + k * 5, none⟩)), (64, .pointer (some ⟨b, o + k * 5, none⟩)), (65, .int .i64 S.kind), (66, .bool (S.kind == 1)), (67, .tuple #[.string da, .bool fr, .bool ye, .int .i64 er]), (58, .tuple #[.string da, .bool fr, .bool ye, .int .i64 er]), (68, .string da), (69, .bool fr), (70, .bool ye), (71, .int .i64 er), (11, .string da), (12, .bool fr), (13, .bool ye)]) 71 (show ([59, 60, 61, 62, 63, 64, 65, 66, 67, 58, 68, 69, 70, 71, 11, 12, 13] : List Nat).Nodup by decide) (by kernel_rfl)).trans rfl)) ⟨rfl, put_list _ _ _, hu (by decide), hk⟩)) ?_
      rintro e a' w5 ⟨rfl, rfl, hTR5, hk5⟩
      dsimp only [setAll, List.set, List.append_nil, List.cons_append, List.nil_append]
      have hTP5 := hTP4.kept hk5.blocks (by simpa using hne)
      have hB5 := hB4.trans (hk5.below hB4.size (fun x hx => by obtain rfl : x = g2 := (by simpa using hx); exact hg2'))
      have x2 : (fr != fr) = false := by simp
      have x3 : (ye != ye) = false := by simp
      have x4 : (er != er) = false := by simp
      clear hcx hcq hrt
      go_wp2_with fail
      exact ⟨⟨k + 1, r', by omega, by go_num, hTP5, hTR5, hB5⟩, by simp [intOf]; omega⟩
    · have e : k = nt := by omega
      subst e
      go_wp2_with fail
      go_ret
      exact ⟨rfl, hB⟩
end Go.Proofs.Ytpeidccpplfbaae
