import Derived.Test.YtmdfjhnibhmdkafTpH
import Derived.Test.YtmdfjhnibhmdkafRegX
import Derived.Test.YtmdfjhnibhmdkafSameI
namespace Go.Proofs.Ytmdfjhnibhmdkaf
open Go.ChangeShapes Go.WideShapes Go.ChangeAt Go.RowKit

/-! THE LAW TurnsSays. -/

def exT (x : Value) (i : Nat) : Value := match x with
  | .tuple vs => vs.getD i undef
  | _ => undef
theorem exT_0 (x y : Value) : exT (.tuple #[x, y]) 0 = x := rfl
theorem exT_1 (x y : Value) : exT (.tuple #[x, y]) 1 = y := rfl
theorem OwnI.keptT {w w' : World} {B : Nat} {v : Value} {L : List Int} {S : List Nat} (h : OwnI w B v L) (hk : Kept S w w') (hs : ∀ g, v.ownBlock = some g → g ∉ S) : OwnI w' B v L := by
  refine ⟨h.1, ?_⟩
  rcases h.2 with h' | ⟨g, cap, cur, h1, h2, h3, h4⟩
  · exact .inl h'
  · have hlt : g < w.heap.size := (Array.getElem?_eq_some_iff.1 h3).1
    exact .inr ⟨g, cap, cur, h1, h2, (hk.block g hlt (hs g (by rw [h1]; rfl))).trans h3, h4⟩
structure SltM where
  us : List UsM
  bl : Int
def SltM.zero : SltM := ⟨[], 0⟩
/-- Slots that can be read. -/
def Slts (w : World) (a : Option Addr) (l : List SltM) : Prop := l ≠ [] → ∃ b o, a = some ⟨b, o, none⟩ ∧ ∀ i, i < l.length → ∃ au nu cu, w.cell? ⟨b, o + i * 2, none⟩ = some (.slice au nu cu) ∧ w.cell? ⟨b, o + i * 2 + 1, none⟩ = some (.int .i64 (l.getD i .zero).bl) ∧ Usr w au (l.getD i .zero).us ∧ (l.getD i .zero).us.length = nu ∧ nu ≤ maxLen ∧ (au = none → nu = 0 ∧ cu = 0)
theorem turn_new (w : World) (q : Int) : TurnAt 30 (w.alloc (.cells #[.int .i64 q, .int .i64 0, .bool false, .int .i64 0, .int .i64 0, .int .i64 0, .int .i64 0, .int .i64 0, .int .i64 0, .int .i64 0, .int .i64 0, .int .i64 0, .int .i64 0, .int .i64 0, .int .i64 0, .int .i64 0, .int .i64 0, .int .i64 0, .int .i64 0, .int .i64 0] 30)) w.heap.size q 0 false (fun _ => 0) := heap_alloc_new w _
theorem run_ixSlots {ρ : Operand → Value} (w : World) {o : Oper} {x y : Operand} {g s j n c : Nat} (ho : o.op = .indexAddr 22 x y) (h : ρ x = .slice (some ⟨g, s, none⟩) n c) (h' : ρ y = .int .i64 j) (hj : j < n) : (execOp ρ o).run Try.prog w = .ok (.value (.pointer (some ⟨g, s + j * 2, none⟩))) w := by
  unfold execOp
  simp only [ho, h, h']
  simp [go_sem, hj]
theorem run_fdroamlawSlot0 {ρ : Operand → Value} (w : World) {o : Oper} {x : Operand} {g s : Nat} (ho : o.op = .fieldAddr 36 x 0) (h : ρ x = .pointer (some ⟨g, s, none⟩)) : (execOp ρ o).run Try.prog w = .ok (.value (.pointer (some ⟨g, s, none⟩))) w := by
  unfold execOp
  simp only [ho, h]
  simp [go_sem]
theorem run_ldUsers {ρ : Operand → Value} (w : World) {o : Oper} {x : Operand} {g j : Nat} {v : Value} (ho : o.op = .load 34 x) (h : ρ x = .pointer (some ⟨g, j, none⟩)) (hc : w.cell? ⟨g, j, none⟩ = some v) : (execOp ρ o).run Try.prog w = .ok (.value v) w := by
  unfold execOp
  simp only [ho, h]
  simp [go_sem, hc]
theorem run_fdroamlawSlot1 {ρ : Operand → Value} (w : World) {o : Oper} {x : Operand} {g s : Nat} (ho : o.op = .fieldAddr 36 x 1) (h : ρ x = .pointer (some ⟨g, s, none⟩)) : (execOp ρ o).run Try.prog w = .ok (.value (.pointer (some ⟨g, s + 1, none⟩))) w := by
  unfold execOp
  simp only [ho, h]
  simp [go_sem]
theorem run_ldint {ρ : Operand → Value} (w : World) {o : Oper} {x : Operand} {g j : Nat} {v : Value} (ho : o.op = .load 3 x) (h : ρ x = .pointer (some ⟨g, j, none⟩)) (hc : w.cell? ⟨g, j, none⟩ = some v) : (execOp ρ o).run Try.prog w = .ok (.value v) w := by
  unfold execOp
  simp only [ho, h]
  simp [go_sem, hc]
theorem Kept.cell_off {S : List Nat} {w w' : World} (h : Kept S w w') {b j : Nat} {v : Value} (hc : w.cell? ⟨b, j, none⟩ = some v) (hb : b ∉ S) : w'.cell? ⟨b, j, none⟩ = some v := (World.cell?_of_block (h.block b (World.block_lt_of_cell? w _ hc) hb)).trans hc

set_option maxRecDepth 100000 in
set_option maxHeartbeats 4000000 in
theorem tsays_any (q who : Int) (ts : List SltM) (a : Option Addr) (nt c : Nat) (w : World) (hS : Slts w a ts) (hnt : ts.length = nt) (hn : nt ≤ maxLen) :
    Calls Try.prog 3 #[.int .i64 q, .slice a nt c, .int .i64 who] w fun e w' => e = .returned (.bool true) ∧ Below w.heap.size w w' := by
  by_cases hq : q < 1 ∨ 10000 < q
  · have hnew := pnew_bad q w hq
    by_cases h0 : q < 1
    · have d0 : decide (q < 1) = true := decide_eq_true h0
      clear hS hnt hn hq h0
      go_enter Try.func3, Try.ntmps3
      go_wp2_with (go_at_call 5; refine hnew.mono ?_; rintro e w1 ⟨rfl, rfl⟩)
      go_ret
      exact ⟨rfl, Below.refl _ w⟩
    · have d0 : decide (q < 1) = false := decide_eq_false h0
      have d1 : decide (10000 < q) = true := decide_eq_true (by omega)
      clear hS hnt hn hq h0
      go_enter Try.func3, Try.ntmps3
      go_wp2_with (go_at_call 5; refine hnew.mono ?_; rintro e w1 ⟨rfl, rfl⟩)
      go_ret
      exact ⟨rfl, Below.refl _ w⟩
  · have hq1 : 1 ≤ q := by omega
    have hq2 : q ≤ 10000 := by omega
    have d0 : decide (q < 1) = false := decide_eq_false (by omega)
    have d1 : decide (10000 < q) = false := decide_eq_false (by omega)
    have hnew := pnew_good q w hq1 hq2
    have HS := hid hS
    have HNT := hid hnt
    have HQ : Hid (1 ≤ q ∧ q ≤ 10000) := ⟨hq1, hq2⟩
    have hn' : nt ≤ 9223372036854775807 := by unfold maxLen at hn; omega
    have hmix : Try.prog.follows .mixedOrders = true := by kernel_rfl
    clear hS hnt hn hq hq1 hq2
    go_enter Try.func3, Try.ntmps3
    go_wp2_with (go_at_call 5; refine hnew.mono ?_; rintro e w1 ⟨rfl, hP1, hb1⟩)
    obtain ⟨W, eW⟩ : ∃ W, W = w1.alloc (.cells #[.int .i64 q, .int .i64 0, .bool false, .int .i64 0, .int .i64 0, .int .i64 0, .int .i64 0, .int .i64 0, .int .i64 0, .int .i64 0, .int .i64 0, .int .i64 0, .int .i64 0, .int .i64 0, .int .i64 0, .int .i64 0, .int .i64 0, .int .i64 0, .int .i64 0, .int .i64 0] 30) := ⟨_, rfl⟩
    have hR1 : TurnAt 30 W w1.heap.size q TSt.new.last TSt.new.opn TSt.new.cr := by rw [eW]; exact turn_new w1 q
    have hP2 : PTurn W w.heap.size q TSt.new.last TSt.new.opn TSt.new.cr := by rw [eW]; exact FunAt.below hP1 ((Below.refl _ w1).alloc (Nat.le_refl _) _)
    have hbW : Below w.heap.size w W := by rw [eW]; exact hb1.alloc hb1.size _
    have hr1 : w.heap.size < w1.heap.size := FunAt.lt hP1
    rw [← eW]
    obtain ⟨r1, er1⟩ : ∃ r1, r1 = w.heap.size := ⟨_, rfl⟩
    obtain ⟨r2, er2⟩ : ∃ r2, r2 = w1.heap.size := ⟨_, rfl⟩
    rw [← er2] at hR1 hr1 ⊢
    rw [← er1] at hP2 hr1
    rw [show (Value.pointer (some ⟨w.heap.size, 0, none⟩)) = .pointer (some ⟨r1, 0, none⟩) by rw [er1]]
    have hrn : r1 ≠ r2 := by omega
    have hrw : w.heap.size ≤ r1 := by omega
    have hrw2 : w.heap.size ≤ r2 := by omega
    clear eW hP1 hb1 hnew hr1 er1 er2
    go_loopw [10] (fun i wr => ∃ (k : Nat) (t : TSt), k ≤ nt ∧ i = .int .i64 k ∧ PTurn wr r1 q t.last t.opn t.cr ∧ TurnAt 30 wr r2 q t.last t.opn t.cr ∧ Hid t.Ok ∧ Below w.heap.size w wr) (fun i _ => nt - (intOf i).toNat)
    case atStart => exact ⟨0, TSt.new, by omega, rfl, hP2, hR1, TSt.new_ok, hbW⟩
    case round =>
      clear hP2 hR1 hbW
      obtain ⟨k, t, hk, rfl, hP, hR, HT, hB⟩ := hrel
      by_cases hlt : k < nt
      · have hne0 : ts ≠ [] := fun h => by have := HNT.out; rw [h] at this; simp at this; omega
        obtain ⟨b, o, rfl, hC⟩ := HS.out hne0
        obtain ⟨au, nu, cu, q0, q1, hU, hnu, hmu, hnil⟩ := hC k (by rw [HNT.out]; exact hlt)
        generalize ts.getD k .zero = S at *
        have hbl : b < w.heap.size := World.block_lt_of_cell? w _ q0
        have hb1 : b ≠ r1 := by omega
        have hb2 : b ≠ r2 := by omega
        have q0 := cellT hB q0
        have q1 := cellT hB q1
        have hUr := hU.below hB
        have hps := fun (wz : World) (hz : Below wr.heap.size wr wz) => pslot_any t S.us S.bl q nu cu r1 au wz HT.out HQ.out (hUr.below hz) hnu hmu (FunAt.below hP hz)
        have HTN := hid (HT.out.next HQ.out S.us S.bl)
        have HLS := hid (says_len (l := S.us) (blocks := S.bl) HT.out HQ.out)
        have hrs0 := fun (wz : World) (hz : Below w.heap.size w wz) (hz2 : TurnAt 30 wz r2 q t.last t.opn t.cr) => rslot_any t S.us S.bl q nu cu r2 au wz HT.out HQ.out (hU.below hz) hnu hmu hnil hz2
        generalize t.next q S.us S.bl = t2 at hps hrs0 HTN
        generalize t.says q S.us S.bl = LL at hps hrs0 HLS
        generalize slotErr S.us S.bl = ER at hps hrs0
        have hcu : ∀ (wc : World), Kept [r1] wr wc → wc.cell? ⟨b, o + k * 2, none⟩ = some (.slice au nu cu) := fun wc hk => hk.cell_off q0 (by simpa using hb1)
        have hcb : ∀ (wc : World), Kept [r1] wr wc → wc.cell? ⟨b, o + k * 2 + 1, none⟩ = some (.int .i64 S.bl) := fun wc hk => hk.cell_off q1 (by simpa using hb1)
        have HP := hid hP
        clear hC hUr hP
        go_upto_region 10 with fail
        refine wp_mono (region_knownX (Q := fun e a' w' => e = .normal ∧ ∃ x, a' = ({ tmps := ((setAll _ [(45, .pointer (some ⟨r1, 0, none⟩)), (46, .slice (some ⟨b, o, none⟩) nt c), (47, .int .i64 (k : Int)), (48, .pointer (some ⟨b, o + k * 2, none⟩)), (49, .pointer (some ⟨b, o + k * 2, none⟩)), (50, .slice au nu cu), (51, .slice (some ⟨b, o, none⟩) nt c), (52, .int .i64 (k : Int)), (53, .pointer (some ⟨b, o + k * 2, none⟩)), (54, .pointer (some ⟨b, o + k * 2 + 1, none⟩)), (55, .int .i64 S.bl), (56, x), (44, x), (57, (exT x 0)), (58, (exT x 1)), (11, (exT x 0))]).set 12 ((exT x 1))).toArray, defers := [] } : Act) ∧ (∃ v, x = .tuple #[v, .int .i64 ER] ∧ OwnI w' wr.heap.size v LL ∧ PTurn w' r1 q t2.last t2.opn t2.cr) ∧ Kept [r1] wr w') 17 16 11 [r1] (fun x w' => ∃ v, x = .tuple #[v, .int .i64 ER] ∧ OwnI w' wr.heap.size v LL ∧ PTurn w' r1 q t2.last t2.opn t2.cr) (fun x => [(45, .pointer (some ⟨r1, 0, none⟩)), (46, .slice (some ⟨b, o, none⟩) nt c), (47, .int .i64 (k : Int)), (48, .pointer (some ⟨b, o + k * 2, none⟩)), (49, .pointer (some ⟨b, o + k * 2, none⟩)), (50, .slice au nu cu), (51, .slice (some ⟨b, o, none⟩) nt c), (52, .int .i64 (k : Int)), (53, .pointer (some ⟨b, o + k * 2, none⟩)), (54, .pointer (some ⟨b, o + k * 2 + 1, none⟩)), (55, .int .i64 S.bl), (56, x), (44, x), (57, (exT x 0)), (58, (exT x 1)), (11, (exT x 0))]) [45, 46, 47, 48, 49, 50, 51, 52, 53, 54, 55, 56, 44, 57, 58, 11]
          [[7], [1], [10], [46, 47], [48], [49], [1], [10], [51, 52], [53], [54], [45, 50, 55], [56], [44], [44], [57]] [11, 3, 3, 4, 5, 11, 8, 8, 9, 10, 11, 12, 13, 15, 16, 16] wr hmix rfl (by decide) (by decide) (fun _ => rfl) (fun _ => rfl)
          (fun x y j hj hju hw => by
            have hor : j = 0 ∨ j = 1 ∨ j = 2 ∨ j = 3 ∨ j = 4 ∨ j = 5 ∨ j = 6 ∨ j = 7 ∨ j = 8 ∨ j = 9 ∨ j = 10 ∨ j = 11 ∨ j = 12 ∨ j = 13 ∨ j = 14 ∨ j = 15 := by omega
            rcases hor with rfl | rfl | rfl | rfl | rfl | rfl | rfl | rfl | rfl | rfl | rfl | rfl | rfl | rfl | rfl | rfl
            all_goals first | rfl | exact absurd rfl hju | exact absurd (hw.symm.trans (by kernel_rfl)) Bool.false_ne_true)
          rfl (show ([45, 46, 47, 48, 49, 50, 51, 52, 53, 54, 55, 56, 44, 57, 58, 11] : List Nat).Nodup by decide) (by kernel_rfl) (by kernel_rfl) (by kernel_rfl) (by kernel_rfl) (by kernel_rfl) (by kernel_rfl) (by rintro x wa wb ⟨v, h1, h2, h3⟩ hk9; have hb9 := hk9.below (Nat.le_refl _) (by simp); exact ⟨v, h1, h2.below hb9, FunAt.below h3 hb9⟩)
          (fun i' hi' hiu x ac wc hk hr hux Q K hK => by
            have hor : i' = 0 ∨ i' = 1 ∨ i' = 2 ∨ i' = 3 ∨ i' = 4 ∨ i' = 5 ∨ i' = 6 ∨ i' = 7 ∨ i' = 8 ∨ i' = 9 ∨ i' = 10 ∨ i' = 11 ∨ i' = 12 ∨ i' = 13 ∨ i' = 14 ∨ i' = 15 := by omega
            rcases hor with rfl | rfl | rfl | rfl | rfl | rfl | rfl | rfl | rfl | rfl | rfl | rfl | rfl | rfl | rfl | rfl
            · have e7 : ac.eval (.tmp 7) = .pointer (some ⟨r1, 0, none⟩) := hr 7 (by decide)
              exact op_value rfl rfl (run_moveQ wc rfl e7) (hK wc (keptU wc))
            · have e1 : ac.eval (.tmp 1) = .slice (some ⟨b, o, none⟩) nt c := hr 1 (by decide)
              exact op_value rfl rfl (run_moveQ wc rfl e1) (hK wc (keptU wc))
            · have e10 : ac.eval (.tmp 10) = .int .i64 (k : Int) := hr 10 (by decide)
              exact op_value rfl rfl (run_moveQ wc rfl e10) (hK wc (keptU wc))
            · have e46 : ac.eval (.tmp 46) = .slice (some ⟨b, o, none⟩) nt c := hr 46 (by decide)
              have e47 : ac.eval (.tmp 47) = .int .i64 (k : Int) := hr 47 (by decide)
              exact op_value rfl rfl (run_ixSlots wc rfl e46 e47 hlt) (hK wc (keptU wc))
            · have e48 : ac.eval (.tmp 48) = .pointer (some ⟨b, o + k * 2, none⟩) := hr 48 (by decide)
              exact op_value rfl rfl (run_fdroamlawSlot0 wc rfl e48) (hK wc (keptU wc))
            · have e49 : ac.eval (.tmp 49) = .pointer (some ⟨b, o + k * 2, none⟩) := hr 49 (by decide)
              exact op_value rfl rfl (run_ldUsers wc rfl e49 (hcu wc hk)) (hK wc (keptU wc))
            · have e1 : ac.eval (.tmp 1) = .slice (some ⟨b, o, none⟩) nt c := hr 1 (by decide)
              exact op_value rfl rfl (run_moveQ wc rfl e1) (hK wc (keptU wc))
            · have e10 : ac.eval (.tmp 10) = .int .i64 (k : Int) := hr 10 (by decide)
              exact op_value rfl rfl (run_moveQ wc rfl e10) (hK wc (keptU wc))
            · have e51 : ac.eval (.tmp 51) = .slice (some ⟨b, o, none⟩) nt c := hr 51 (by decide)
              have e52 : ac.eval (.tmp 52) = .int .i64 (k : Int) := hr 52 (by decide)
              exact op_value rfl rfl (run_ixSlots wc rfl e51 e52 hlt) (hK wc (keptU wc))
            · have e53 : ac.eval (.tmp 53) = .pointer (some ⟨b, o + k * 2, none⟩) := hr 53 (by decide)
              exact op_value rfl rfl (run_fdroamlawSlot1 wc rfl e53) (hK wc (keptU wc))
            · have e54 : ac.eval (.tmp 54) = .pointer (some ⟨b, o + k * 2 + 1, none⟩) := hr 54 (by decide)
              exact op_value rfl rfl (run_ldint wc rfl e54 (hcb wc hk)) (hK wc (keptU wc))
            · exact absurd rfl hiu
            · have e56 : ac.eval (.tmp 56) = x := hr 56 (by decide)
              exact op_value rfl rfl (run_moveQ wc rfl e56) (hK wc (keptU wc))
            · have e44 : ac.eval (.tmp 44) = x := hr 44 (by decide)
              obtain ⟨v, hx, -, -⟩ := hux (by kernel_rfl)
              subst hx
              exact op_value rfl rfl (run_extractL wc rfl e44 rfl) (hK wc (keptU wc))
            · have e44 : ac.eval (.tmp 44) = x := hr 44 (by decide)
              obtain ⟨v, hx, -, -⟩ := hux (by kernel_rfl)
              subst hx
              exact op_value rfl rfl (run_extractL wc rfl e44 rfl) (hK wc (keptU wc))
            · have e57 : ac.eval (.tmp 57) = (exT x 0) := hr 57 (by decide)
              exact op_value rfl rfl (run_assignL wc rfl e57) (hK wc (keptU wc)))
          (fun x0 ac wc hb hr Q K hK => by
            have e45 : ac.eval (.tmp 45) = .pointer (some ⟨r1, 0, none⟩) := hr 45 (by decide)
            have e50 : ac.eval (.tmp 50) = .slice au nu cu := hr 50 (by decide)
            have e55 : ac.eval (.tmp 55) = .int .i64 S.bl := hr 55 (by decide)
            refine op_callNL rfl rfl rfl (enters_of Try.func6 (by kernel_rfl) rfl) (map3L e45 e50 e55) (hps wc hb) fun e w' hr' => ?_
            obtain ⟨v, rfl, h1, h2, h3⟩ := hr'
            exact ⟨_, rfl, hK _ w' h3 ⟨v, rfl, h1.mono hb.size, h2⟩⟩)
          (fun x wc hk hux => by
            refine op_value rfl rfl (run_assignL wc rfl ((eval_setAll (t := [(45, .pointer (some ⟨r1, 0, none⟩)), (46, .slice (some ⟨b, o, none⟩) nt c), (47, .int .i64 (k : Int)), (48, .pointer (some ⟨b, o + k * 2, none⟩)), (49, .pointer (some ⟨b, o + k * 2, none⟩)), (50, .slice au nu cu), (51, .slice (some ⟨b, o, none⟩) nt c), (52, .int .i64 (k : Int)), (53, .pointer (some ⟨b, o + k * 2, none⟩)), (54, .pointer (some ⟨b, o + k * 2 + 1, none⟩)), (55, .int .i64 S.bl), (56, x), (44, x), (57, (exT x 0)), (58, (exT x 1)), (11, (exT x 0))]) 58 (show ([45, 46, 47, 48, 49, 50, 51, 52, 53, 54, 55, 56, 44, 57, 58, 11] : List Nat).Nodup by decide) (by kernel_rfl)).trans rfl)) ⟨rfl, x, put_list _ _ _, hux, hk⟩)) ?_
        rintro e a' w4 ⟨rfl, x, rfl, ⟨v4, rfl, hO4, hP4⟩, hk4⟩
        dsimp only [setAll, List.set, List.append_nil, List.cons_append, List.nil_append]
        simp only [exT_0, exT_1]
        have hB4 : Below w.heap.size w w4 := hB.trans (hk4.below hB.size (fun x hx => by obtain rfl : x = r1 := (by simpa using hx); exact hrw))
        have hR4 : TurnAt 30 w4 r2 q t.last t.opn t.cr := (hk4.block r2 hR.lt (by simpa using hrn.symm)).trans hR
        have q0 := hcu w4 hk4
        have q1 := hcb w4 hk4
        have hr2l := hR.lt
        clear hcu hcb hps hR
        have hrs := fun (wz : World) (hz : Below w4.heap.size w4 wz) => hrs0 wz (hB4.trans (hz.mono hB4.size)) (hR4.below hz)
        have hcu : ∀ (wc : World), Kept [r2] w4 wc → wc.cell? ⟨b, o + k * 2, none⟩ = some (.slice au nu cu) := fun wc hk => hk.cell_off q0 (by simpa using hb2)
        have hcb : ∀ (wc : World), Kept [r2] w4 wc → wc.cell? ⟨b, o + k * 2 + 1, none⟩ = some (.int .i64 S.bl) := fun wc hk => hk.cell_off q1 (by simpa using hb2)
        clear hrs0
        go_upto_region 11 with fail
        refine wp_mono (region_knownX (Q := fun e a' w' => e = .normal ∧ ∃ x, a' = ({ tmps := ((setAll _ [(60, .pointer (some ⟨r2, 0, none⟩)), (61, .slice (some ⟨b, o, none⟩) nt c), (62, .int .i64 (k : Int)), (63, .pointer (some ⟨b, o + k * 2, none⟩)), (64, .pointer (some ⟨b, o + k * 2, none⟩)), (65, .slice au nu cu), (66, .slice (some ⟨b, o, none⟩) nt c), (67, .int .i64 (k : Int)), (68, .pointer (some ⟨b, o + k * 2, none⟩)), (69, .pointer (some ⟨b, o + k * 2 + 1, none⟩)), (70, .int .i64 S.bl), (71, x), (59, x), (72, (exT x 0)), (73, (exT x 1)), (13, (exT x 0))]).set 14 ((exT x 1))).toArray, defers := [] } : Act) ∧ (∃ v, x = .tuple #[v, .int .i64 ER] ∧ OwnI w' w4.heap.size v LL ∧ TurnAt 30 w' r2 q t2.last t2.opn t2.cr) ∧ Kept [r2] w4 w') 17 16 11 [r2] (fun x w' => ∃ v, x = .tuple #[v, .int .i64 ER] ∧ OwnI w' w4.heap.size v LL ∧ TurnAt 30 w' r2 q t2.last t2.opn t2.cr) (fun x => [(60, .pointer (some ⟨r2, 0, none⟩)), (61, .slice (some ⟨b, o, none⟩) nt c), (62, .int .i64 (k : Int)), (63, .pointer (some ⟨b, o + k * 2, none⟩)), (64, .pointer (some ⟨b, o + k * 2, none⟩)), (65, .slice au nu cu), (66, .slice (some ⟨b, o, none⟩) nt c), (67, .int .i64 (k : Int)), (68, .pointer (some ⟨b, o + k * 2, none⟩)), (69, .pointer (some ⟨b, o + k * 2 + 1, none⟩)), (70, .int .i64 S.bl), (71, x), (59, x), (72, (exT x 0)), (73, (exT x 1)), (13, (exT x 0))]) [60, 61, 62, 63, 64, 65, 66, 67, 68, 69, 70, 71, 59, 72, 73, 13]
          [[9], [1], [10], [61, 62], [63], [64], [1], [10], [66, 67], [68], [69], [60, 65, 70], [71], [59], [59], [72]] [11, 3, 3, 4, 5, 11, 8, 8, 9, 10, 11, 12, 13, 15, 16, 16] w4 hmix rfl (by decide) (by decide) (fun _ => rfl) (fun _ => rfl)
          (fun x y j hj hju hw => by
            have hor : j = 0 ∨ j = 1 ∨ j = 2 ∨ j = 3 ∨ j = 4 ∨ j = 5 ∨ j = 6 ∨ j = 7 ∨ j = 8 ∨ j = 9 ∨ j = 10 ∨ j = 11 ∨ j = 12 ∨ j = 13 ∨ j = 14 ∨ j = 15 := by omega
            rcases hor with rfl | rfl | rfl | rfl | rfl | rfl | rfl | rfl | rfl | rfl | rfl | rfl | rfl | rfl | rfl | rfl
            all_goals first | rfl | exact absurd rfl hju | exact absurd (hw.symm.trans (by kernel_rfl)) Bool.false_ne_true)
          rfl (show ([60, 61, 62, 63, 64, 65, 66, 67, 68, 69, 70, 71, 59, 72, 73, 13] : List Nat).Nodup by decide) (by kernel_rfl) (by kernel_rfl) (by kernel_rfl) (by kernel_rfl) (by kernel_rfl) (by kernel_rfl) (by rintro x wa wb ⟨v, h1, h2, h3⟩ hk9; have hb9 := hk9.below (Nat.le_refl _) (by simp); exact ⟨v, h1, h2.below hb9, h3.below hb9⟩)
          (fun i' hi' hiu x ac wc hk hr hux Q K hK => by
            have hor : i' = 0 ∨ i' = 1 ∨ i' = 2 ∨ i' = 3 ∨ i' = 4 ∨ i' = 5 ∨ i' = 6 ∨ i' = 7 ∨ i' = 8 ∨ i' = 9 ∨ i' = 10 ∨ i' = 11 ∨ i' = 12 ∨ i' = 13 ∨ i' = 14 ∨ i' = 15 := by omega
            rcases hor with rfl | rfl | rfl | rfl | rfl | rfl | rfl | rfl | rfl | rfl | rfl | rfl | rfl | rfl | rfl | rfl
            · have e9 : ac.eval (.tmp 9) = .pointer (some ⟨r2, 0, none⟩) := hr 9 (by decide)
              exact op_value rfl rfl (run_moveQ wc rfl e9) (hK wc (keptU wc))
            · have e1 : ac.eval (.tmp 1) = .slice (some ⟨b, o, none⟩) nt c := hr 1 (by decide)
              exact op_value rfl rfl (run_moveQ wc rfl e1) (hK wc (keptU wc))
            · have e10 : ac.eval (.tmp 10) = .int .i64 (k : Int) := hr 10 (by decide)
              exact op_value rfl rfl (run_moveQ wc rfl e10) (hK wc (keptU wc))
            · have e61 : ac.eval (.tmp 61) = .slice (some ⟨b, o, none⟩) nt c := hr 61 (by decide)
              have e62 : ac.eval (.tmp 62) = .int .i64 (k : Int) := hr 62 (by decide)
              exact op_value rfl rfl (run_ixSlots wc rfl e61 e62 hlt) (hK wc (keptU wc))
            · have e63 : ac.eval (.tmp 63) = .pointer (some ⟨b, o + k * 2, none⟩) := hr 63 (by decide)
              exact op_value rfl rfl (run_fdroamlawSlot0 wc rfl e63) (hK wc (keptU wc))
            · have e64 : ac.eval (.tmp 64) = .pointer (some ⟨b, o + k * 2, none⟩) := hr 64 (by decide)
              exact op_value rfl rfl (run_ldUsers wc rfl e64 (hcu wc hk)) (hK wc (keptU wc))
            · have e1 : ac.eval (.tmp 1) = .slice (some ⟨b, o, none⟩) nt c := hr 1 (by decide)
              exact op_value rfl rfl (run_moveQ wc rfl e1) (hK wc (keptU wc))
            · have e10 : ac.eval (.tmp 10) = .int .i64 (k : Int) := hr 10 (by decide)
              exact op_value rfl rfl (run_moveQ wc rfl e10) (hK wc (keptU wc))
            · have e66 : ac.eval (.tmp 66) = .slice (some ⟨b, o, none⟩) nt c := hr 66 (by decide)
              have e67 : ac.eval (.tmp 67) = .int .i64 (k : Int) := hr 67 (by decide)
              exact op_value rfl rfl (run_ixSlots wc rfl e66 e67 hlt) (hK wc (keptU wc))
            · have e68 : ac.eval (.tmp 68) = .pointer (some ⟨b, o + k * 2, none⟩) := hr 68 (by decide)
              exact op_value rfl rfl (run_fdroamlawSlot1 wc rfl e68) (hK wc (keptU wc))
            · have e69 : ac.eval (.tmp 69) = .pointer (some ⟨b, o + k * 2 + 1, none⟩) := hr 69 (by decide)
              exact op_value rfl rfl (run_ldint wc rfl e69 (hcb wc hk)) (hK wc (keptU wc))
            · exact absurd rfl hiu
            · have e71 : ac.eval (.tmp 71) = x := hr 71 (by decide)
              exact op_value rfl rfl (run_moveQ wc rfl e71) (hK wc (keptU wc))
            · have e59 : ac.eval (.tmp 59) = x := hr 59 (by decide)
              obtain ⟨v, hx, -, -⟩ := hux (by kernel_rfl)
              subst hx
              exact op_value rfl rfl (run_extractL wc rfl e59 rfl) (hK wc (keptU wc))
            · have e59 : ac.eval (.tmp 59) = x := hr 59 (by decide)
              obtain ⟨v, hx, -, -⟩ := hux (by kernel_rfl)
              subst hx
              exact op_value rfl rfl (run_extractL wc rfl e59 rfl) (hK wc (keptU wc))
            · have e72 : ac.eval (.tmp 72) = (exT x 0) := hr 72 (by decide)
              exact op_value rfl rfl (run_assignL wc rfl e72) (hK wc (keptU wc)))
          (fun x0 ac wc hb hr Q K hK => by
            have e60 : ac.eval (.tmp 60) = .pointer (some ⟨r2, 0, none⟩) := hr 60 (by decide)
            have e65 : ac.eval (.tmp 65) = .slice au nu cu := hr 65 (by decide)
            have e70 : ac.eval (.tmp 70) = .int .i64 S.bl := hr 70 (by decide)
            refine op_callNL rfl rfl rfl (enters_of Try.func7 (by kernel_rfl) rfl) (map3L e60 e65 e70) (hrs wc hb) fun e w' hr' => ?_
            obtain ⟨v, rfl, h1, h2, h3⟩ := hr'
            exact ⟨_, rfl, hK _ w' h3 ⟨v, rfl, h1.mono hb.size, h2⟩⟩)
          (fun x wc hk hux => by
            refine op_value rfl rfl (run_assignL wc rfl ((eval_setAll (t := [(60, .pointer (some ⟨r2, 0, none⟩)), (61, .slice (some ⟨b, o, none⟩) nt c), (62, .int .i64 (k : Int)), (63, .pointer (some ⟨b, o + k * 2, none⟩)), (64, .pointer (some ⟨b, o + k * 2, none⟩)), (65, .slice au nu cu), (66, .slice (some ⟨b, o, none⟩) nt c), (67, .int .i64 (k : Int)), (68, .pointer (some ⟨b, o + k * 2, none⟩)), (69, .pointer (some ⟨b, o + k * 2 + 1, none⟩)), (70, .int .i64 S.bl), (71, x), (59, x), (72, (exT x 0)), (73, (exT x 1)), (13, (exT x 0))]) 73 (show ([60, 61, 62, 63, 64, 65, 66, 67, 68, 69, 70, 71, 59, 72, 73, 13] : List Nat).Nodup by decide) (by kernel_rfl)).trans rfl)) ⟨rfl, x, put_list _ _ _, hux, hk⟩)) ?_
        rintro e a' w5 ⟨rfl, x, rfl, ⟨v5, rfl, hO5, hR5⟩, hk5⟩
        dsimp only [setAll, List.set, List.append_nil, List.cons_append, List.nil_append]
        simp only [exT_0, exT_1]
        have hB5 : Below w.heap.size w w5 := hB4.trans (hk5.below hB4.size (fun x hx => by obtain rfl : x = r2 := (by simpa using hx); exact hrw2))
        have hP5 : PTurn w5 r1 q t2.last t2.opn t2.cr := FunAt.kept hP4 hk5 (by simpa using hrn)
        have hO4' : OwnI w5 wr.heap.size v4 LL := by
          refine OwnI.keptT hO4 hk5 ?_
          intro g hg hm
          obtain rfl : g = r2 := by simpa using hm
          have := (hO4.lt g hg).1
          omega
        obtain ⟨a4, c4, rfl, hl4, hc4⟩ := hO4'.shape
        obtain ⟨a5, c5, rfl, hl5, hc5⟩ := hO5.shape
        have hll : LL.length ≤ maxLen := by have := HLS.out; unfold maxLen; omega
        have hsm := same_ints LL LL a4 a5 c4 c5 w5 hO4'.rd hO5.rd hll hll
        have hcr := pcredit_any who q r1 t2.last t2.opn t2.cr
        have HO := hid hO4'
        clear hcu hcb hrs hO4' hO4 hO5 hR4 hP4 hk4 hk5 q0 q1
        have hsm2 : Calls Try.prog 8 #[.slice a4 LL.length c4, .slice a5 LL.length c5] w5 fun e w' => e = .returned (.bool true) ∧ Below w5.heap.size w5 w' := hsm.mono fun e w' h => ⟨by rw [h.1, decide_eq_true rfl], h.2⟩
        have xer : (ER != ER) = false := by simp
        clear hsm
        by_cases hw1 : 1 ≤ who
        · have xw1 : decide (1 ≤ who) = true := decide_eq_true hw1
          by_cases hw2 : who ≤ 16
          · have xw2 : decide (who ≤ 16) = true := decide_eq_true hw2
            obtain ⟨m, rfl⟩ : ∃ m : Nat, who = (m : Int) := ⟨who.toNat, by omega⟩
            have e0 : credM t2.cr m = t2.cr m := by unfold credM; rw [if_pos (by omega), Int.toNat_natCast]
            rw [e0] at hcr
            have hcell : ∀ wz, Below w5.heap.size w5 wz → wz.cell? ⟨r2, 3 + m, none⟩ = some (.int .i64 (t2.cr m)) := fun wz hz => (hR5.below hz).credit (by omega)
            have m0 : (0 : Int) ≤ (m : Int) := by omega
            have m1 : (m : Int) < 17 := by omega
            have xcr : (t2.cr m != t2.cr m) = false := by simp
            clear e0 hw1 hw2
            go_wp2_with (first
              | (go_at_call 8; refine hsm2.mono ?_; rintro e w6 ⟨rfl, hb6⟩; have hP6 : PTurn w6 r1 q t2.last t2.opn t2.cr := FunAt.below hP5 hb6; have hc6 := hcell w6 hb6)
              | (go_at_call 9; refine (hcr w6 hP6).mono ?_; rintro e w7 ⟨rfl, rfl⟩))
            exact ⟨⟨k + 1, t2, by omega, by go_num, hP6, hR5.below hb6, HTN, hB5.trans (hb6.mono hB5.size)⟩, by simp [intOf]; omega⟩
          · have xw2 : decide (who ≤ 16) = false := decide_eq_false hw2
            have e0 : credM t2.cr who = 0 := if_neg (by omega)
            rw [e0] at hcr
            clear e0 hw1 hw2
            go_wp2_with (first
              | (go_at_call 8; refine hsm2.mono ?_; rintro e w6 ⟨rfl, hb6⟩; have hP6 : PTurn w6 r1 q t2.last t2.opn t2.cr := FunAt.below hP5 hb6)
              | (go_at_call 9; refine (hcr w6 hP6).mono ?_; rintro e w7 ⟨rfl, rfl⟩))
            exact ⟨⟨k + 1, t2, by omega, by go_num, hP6, hR5.below hb6, HTN, hB5.trans (hb6.mono hB5.size)⟩, by simp [intOf]; omega⟩
        · have xw1 : decide (1 ≤ who) = false := decide_eq_false hw1
          have e0 : credM t2.cr who = 0 := if_neg (by omega)
          rw [e0] at hcr
          clear e0 hw1
          go_wp2_with (first
            | (go_at_call 8; refine hsm2.mono ?_; rintro e w6 ⟨rfl, hb6⟩; have hP6 : PTurn w6 r1 q t2.last t2.opn t2.cr := FunAt.below hP5 hb6)
            | (go_at_call 9; refine (hcr w6 hP6).mono ?_; rintro e w7 ⟨rfl, rfl⟩))
          exact ⟨⟨k + 1, t2, by omega, by go_num, hP6, hR5.below hb6, HTN, hB5.trans (hb6.mono hB5.size)⟩, by simp [intOf]; omega⟩
      · have e : k = nt := by omega
        subst e
        clear hlt
        go_wp2_with fail
        go_ret
        exact ⟨rfl, hB⟩
end Go.Proofs.Ytmdfjhnibhmdkaf
