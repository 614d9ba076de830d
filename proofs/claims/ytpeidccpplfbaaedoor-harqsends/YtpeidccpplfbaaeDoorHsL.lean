import Derived.Test.YtpeidccpplfbaaeDoorHsK
import Derived.Test.YtpeidccpplfbaaeDoorHqS
import Derived.Test.YtpeidccpplfbaaeDoorSameI
namespace Go.Proofs.YtpeidccpplfbaaeDoor
open Go.ChangeShapes Go.WideShapes Go.ChangeAt Go.RowKit

/-! THE LAW HarqSends. -/

theorem run_ixSteps {ρ : Operand → Value} (w : World) {o : Oper} {x y : Operand} {g s j n c : Nat} (ho : o.op = .indexAddr 22 x y) (h : ρ x = .slice (some ⟨g, s, none⟩) n c) (h' : ρ y = .int .i64 j) (hj : j < n) : (execOp ρ o).run Tryd.prog w = .ok (.value (.pointer (some ⟨g, s + j * 5, none⟩))) w := by
  unfold execOp
  simp only [ho, h, h']
  simp [go_sem, hj]
theorem run_fdroamlawStep1 {ρ : Operand → Value} (w : World) {o : Oper} {x : Operand} {g s : Nat} (ho : o.op = .fieldAddr 34 x 1) (h : ρ x = .pointer (some ⟨g, s, none⟩)) : (execOp ρ o).run Tryd.prog w = .ok (.value (.pointer (some ⟨g, s + 1, none⟩))) w := by
  unfold execOp
  simp only [ho, h]
  simp [go_sem]
theorem run_ldint {ρ : Operand → Value} (w : World) {o : Oper} {x : Operand} {g j : Nat} {v : Value} (ho : o.op = .load 3 x) (h : ρ x = .pointer (some ⟨g, j, none⟩)) (hc : w.cell? ⟨g, j, none⟩ = some v) : (execOp ρ o).run Tryd.prog w = .ok (.value v) w := by
  unfold execOp
  simp only [ho, h]
  simp [go_sem, hc]
theorem run_fdroamlawStep3 {ρ : Operand → Value} (w : World) {o : Oper} {x : Operand} {g s : Nat} (ho : o.op = .fieldAddr 34 x 3) (h : ρ x = .pointer (some ⟨g, s, none⟩)) : (execOp ρ o).run Tryd.prog w = .ok (.value (.pointer (some ⟨g, s + 3, none⟩))) w := by
  unfold execOp
  simp only [ho, h]
  simp [go_sem]
theorem run_ldbool {ρ : Operand → Value} (w : World) {o : Oper} {x : Operand} {g j : Nat} {v : Value} (ho : o.op = .load 4 x) (h : ρ x = .pointer (some ⟨g, j, none⟩)) (hc : w.cell? ⟨g, j, none⟩ = some v) : (execOp ρ o).run Tryd.prog w = .ok (.value v) w := by
  unfold execOp
  simp only [ho, h]
  simp [go_sem, hc]

set_option maxRecDepth 100000 in
set_option maxHeartbeats 1000000 in
theorem hsends_bad (l : Int) (v : Value) (w : World) (hl : l < 1 ∨ 8 < l) : Calls Tryd.prog 3 #[.int .i64 l, v] w fun e w' => e = .returned (.bool true) ∧ Below w.heap.size w w' := by
  have hnw := fun wz => pnew_bad l wz hl
  by_cases h1 : l < 1
  · have d1 : decide (l < 1) = true := decide_eq_true h1
    clear h1 hl
    go_enter Tryd.func3, Tryd.ntmps3
    go_wp2_with (go_at_call 5; refine (hnw _).mono ?_; rintro e w1 ⟨rfl, hb1⟩)
    go_ret
    exact ⟨rfl, hb1⟩
  · have d1 : decide (l < 1) = false := decide_eq_false h1
    have d8 : decide (8 < l) = true := decide_eq_true (by omega)
    clear h1 hl
    go_enter Tryd.func3, Tryd.ntmps3
    go_wp2_with (go_at_call 5; refine (hnw _).mono ?_; rintro e w1 ⟨rfl, hb1⟩)
    go_ret
    exact ⟨rfl, hb1⟩

theorem mem1 {n g : Nat} (hg : n ≤ g) : ∀ x ∈ [g], n ≤ x := fun x hx => by obtain rfl : x = g := (by simpa using hx); exact hg
theorem mem2 {n g b : Nat} (hg : n ≤ g) (hb : n ≤ b) : ∀ x ∈ [g, b], n ≤ x := fun x hx => by
  rcases List.mem_cons.1 hx with rfl | hx
  · exact hg
  · exact mem1 hb x hx
theorem row4_kept {S : List Nat} {w w1 : World} {g : Nat} {v0 v1 v2 v3 : Value} {t : TypeId} (hq : w.heap[g]? = some (.cells #[v0, v1, v2, v3] t (0, 0))) (hk : Kept S w w1) (hg : g ∉ S) (o : Obj) :
    (w1.alloc o).cell? ⟨g, 0, none⟩ = some v0 ∧ (w1.alloc o).cell? ⟨g, 1, none⟩ = some v1 ∧ (w1.alloc o).cell? ⟨g, 2, none⟩ = some v2 ∧ (w1.alloc o).cell? ⟨g, 3, none⟩ = some v3 := by
  have hgl : g < w.heap.size := (Array.getElem?_eq_some_iff.1 hq).1
  have hq1 : (w1.alloc o).heap[g]? = some (.cells #[v0, v1, v2, v3] t (0, 0)) := (Below.heap_alloc w1 o g (Nat.lt_of_lt_of_le hgl hk.size)).trans ((hk.block g hgl hg).trans hq)
  refine ⟨?_, ?_, ?_, ?_⟩ <;> (rw [cell_of_row _ _ _ _ _ _ hq1]; rfl)
theorem cell_kept {S : List Nat} {w w' : World} (h : Kept S w w') {b j : Nat} {v : Value} (hc : w.cell? ⟨b, j, none⟩ = some v) (hb : b ∉ S) : w'.cell? ⟨b, j, none⟩ = some v := h.cell_off hc hb

theorem psub_ok {m : SendM} (h : m.Ok) (s : ByteArray) : (m.sub s).st.Ok := by
  unfold SendM.sub
  split
  · exact h
  · split
    · exact h
    · have := SendM.least_le h.len
      exact h.set (by omega) (given_right h _ s)
theorem pnxt_ok {m : SendM} (h : m.Ok) (p : Int) : (m.nxt p).st.Ok := by
  unfold SendM.nxt
  rcases procErr_cases p with ⟨hp, _⟩ | ⟨hp, _⟩ | ⟨hp, k, hk, rfl⟩
  · rw [if_pos hp]; exact h
  · rw [if_pos hp]; exact h
  · rw [if_neg (by rw [hp]; decide), Int.toNat_natCast]
    cases hb : (m.tat k).busy with
    | false => rw [if_pos rfl]; exact h
    | true =>
      rw [if_neg (by simp)]
      cases ho : (m.tat k).opn with
      | true => rw [if_pos rfl]; exact h
      | false => rw [if_neg (by simp)]; exact h.set hk (tried_right h hk hb ho)
theorem pans_ok {m : SendM} (h : m.Ok) (p : Int) (yes : Bool) : (m.ans p yes).st.Ok := by
  unfold SendM.ans
  rcases procErr_cases p with ⟨hp, _⟩ | ⟨hp, _⟩ | ⟨hp, k, hk, rfl⟩
  · rw [if_pos hp]; exact h
  · rw [if_pos hp]; exact h
  · rw [if_neg (by rw [hp]; decide), Int.toNat_natCast]
    split
    · exact h
    · split
      · exact h
      · exact h.set hk (answered_right m k yes)

set_option maxRecDepth 100000 in
set_option maxHeartbeats 4000000 in
theorem hsends_good (l : Nat) (ts : List StepM) (a : Option Addr) (nt c : Nat) (w : World) (h1 : 1 ≤ l) (h8 : l ≤ 8) (hV : VerT w) (hS : Steps w a ts) (hnt : ts.length = nt) (hn : nt ≤ maxLen) :
    Calls Tryd.prog 3 #[.int .i64 (l : Int), .slice a nt c] w fun e w' => e = .returned (.bool true) ∧ Below w.heap.size w w' := by
  have HS := hid hS
  have HNT := hid hnt
  have hn' : nt ≤ 9223372036854775807 := by unfold maxLen at hn; omega
  have hnw := fun wz => pnew_good l wz h1 h8
  have d1 : decide ((l : Int) < 1) = false := decide_eq_false (by omega)
  have d8 : decide ((8 : Int) < (l : Int)) = false := decide_eq_false (by omega)
  have hok0 := SendM.new_ok h1 h8
  clear hS hnt hn
  go_enter Tryd.func3, Tryd.ntmps3
  go_wp2_with (go_at_call 5; refine (hnw _).mono ?_; rintro e w1 ⟨g, bm, rfl, hg, hbm, hP0, hb0⟩)
  obtain ⟨gr, egr⟩ : ∃ gr, gr = w1.heap.size := ⟨_, rfl⟩
  have hrg : gr ≠ g := by have := hP0.lt; omega
  have hrb : gr ≠ bm := by have := hP0.2.1.lt; omega
  have hgr : w.heap.size ≤ gr := by have := hb0.size; omega
  rw [← egr]
  go_loopw [8] (fun i wr => ∃ (k : Nat) (m : SendM), k ≤ nt ∧ i = .int .i64 k ∧ PSend wr g bm m ∧ RTries wr gr m ∧ Below w.heap.size w wr) (fun i _ => nt - (intOf i).toNat)
  case atStart =>
    have hbb := (Below.refl w1.heap.size w1).alloc (Nat.le_refl _) (.cells (triesCells (SendM.new l)) 32)
    refine ⟨0, SendM.new l, by omega, rfl, hP0.old hbb, ?_, hb0.trans (hbb.mono hb0.size)⟩
    rw [egr]
    exact heap_alloc_new w1 _
  case round =>
    clear hP0 hb0 egr hok0 hnw
    obtain ⟨k, m, hk, rfl, hP, hR, hB⟩ := hrel
    by_cases hlt : k < nt
    · have hne0 : ts ≠ [] := fun h => by have := HNT.out; rw [h] at this; simp at this; omega
      obtain ⟨b, o, rfl, hC⟩ := HS.out hne0
      obtain ⟨qq0, qq1, qq2, qq3, qq4⟩ := hC k (by rw [HNT.out]; exact hlt)
      generalize ts.getD k .zero = S at *
      have q0 := cellOld hB qq0
      have hok := hP.2.2
      clear hC
      by_cases hkd : S.kind = 0
      · have hps := psubmit_any hP S.text
        have hrs := fun (wz : World) (h : RTries wz gr m) => rsubmit_all h hok S.text
        have hok' : (m.sub S.text).st.p.length = 8 := (psub_ok hok S.text).len
        generalize m.sub S.text = sb at hps hrs hok'
        obtain ⟨v, er, m'⟩ := sb
        dsimp only at hps hrs hok'
        have hl' := hok'
        have q4 := cellOld hB qq4
        rw [hkd] at q0
        have hpw := fun (wz : World) (h : PSend wz g bm m') => pwaiting_any h
        have hrw := fun (wz : World) (h : RTries wz gr m') => rwaiting_any h hl'
        have hLl := SendM.waitTo_len m' 8
        obtain ⟨L, eL⟩ : ∃ L, L = m'.waitTo 8 := ⟨_, rfl⟩
        rw [← eL] at hpw hrw hLl
        have hsi := fun (wz : World) (a b : Option Addr) (ca cb : Nat) (ha : Rd .i64 wz a L) (hb : Rd .i64 wz b L) => same_ints L L a b ca cb wz ha hb (by unfold maxLen; omega) (by unfold maxLen; omega)
        rw [show decide (L = L) = true by simp] at hsi
        clear eL
        go_wp2_with (first
          | (go_at_call 6; refine hps.mono ?_; rintro e w1 ⟨rfl, hP1, hk1⟩; have hB1 := hB.trans (hk1.below hB.size (mem2 hg hbm)); have hB1' := hB1; have hR1 := hR.kept hk1 (by simp [hrg, hrb]); have q4b := cellOld hB1 qq4)
          | (go_at_call 7; refine (hrs _ hR1).mono ?_; rintro e w2 ⟨rfl, hR2, hk2⟩; have hB2 := hB1'.trans (hk2.below hB1'.size (mem1 hgr)); have hP2 := hP1.kept hk2 (by simpa using hrg.symm) (by simpa using hrb.symm))
          | (go_at_call 13; refine (hpw _ hP2).mono ?_; rintro e w3 ⟨a3, c3, rfl, hr3, hb3⟩; have hR3 := hR2.old hb3; have hB3 := hB2.trans (hb3.mono hB2.size))
          | (go_at_call 14; refine (hrw _ hR3).mono ?_; rintro e w4 ⟨a4, c4, rfl, hr4, hb4⟩; have hr34 := hr3.below hb4; have hB4 := hB3.trans (hb4.mono hB3.size))
          | (go_at_call 12; refine (hsi _ _ _ _ _ hr34 hr4).mono ?_; rintro e w5 ⟨rfl, hb5⟩; have hB5 := hB4.trans (hb5.mono hB4.size); have hbx := hb3.trans ((hb4.trans (hb5.mono hb4.size)).mono hb3.size); have hP5 := hP2.old hbx; have hR5 := hR2.old hbx))
        exact ⟨⟨k + 1, m', by omega, by go_num, hP5, hR5, hB5⟩, by simp [intOf]; omega⟩
      · have k0 : (S.kind == 0) = false := by simpa using hkd
        clear hkd
        by_cases hkd : S.kind = 1
        · have hps := pnext_any hP (hV.old hB) S.n
          have hrs := fun (wz : World) (h : RTries wz gr m) => rnext_any h hok S.n
          have hok' : (m.nxt S.n).st.p.length = 8 := (pnxt_ok hok S.n).len
          generalize m.nxt S.n = sb at hps hrs hok'
          obtain ⟨sh, er, m'⟩ := sb
          dsimp only at hps hrs hok'
          unfold ShotM.val at hps hrs
          have hl' := hok'
          have q1 := cellOld hB qq1
          rw [hkd] at q0
          have hpw := fun (wz : World) (h : PSend wz g bm m') => pwaiting_any h
          have hrw := fun (wz : World) (h : RTries wz gr m') => rwaiting_any h hl'
          have hLl := SendM.waitTo_len m' 8
          obtain ⟨L, eL⟩ : ∃ L, L = m'.waitTo 8 := ⟨_, rfl⟩
          rw [← eL] at hpw hrw hLl
          have hsi := fun (wz : World) (a b : Option Addr) (ca cb : Nat) (ha : Rd .i64 wz a L) (hb : Rd .i64 wz b L) => same_ints L L a b ca cb wz ha hb (by unfold maxLen; omega) (by unfold maxLen; omega)
          rw [show decide (L = L) = true by simp] at hsi
          clear eL
          go_wp2_with (first
            | (go_at_call 8; refine hps.mono ?_; rintro e w1 ⟨rfl, hP1x, hk1⟩; have hB1 := hB.trans (hk1.below hB.size (mem2 hg hbm)); have hbb : Below w1.heap.size w1 (w1.alloc (.cells #[.int .i64 sh.process, .int .i64 sh.version, .bool sh.flag, .string sh.data] 38)) := (Below.refl _ w1).alloc (Nat.le_refl _) _; have hB1' := hB1.trans (hbb.mono hB1.size); have hP1 := hP1x.old hbb; have hR1 := (hR.kept hk1 (by simp [hrg, hrb])).old hbb; have q1b := cellOld hB1' qq1; have hqa := heap_alloc_new w1 (.cells #[.int .i64 sh.process, .int .i64 sh.version, .bool sh.flag, .string sh.data] 38); have hgl := Nat.lt_of_lt_of_le hR.lt hk1.size)
            | (go_at_call 9; refine (hrs _ hR1).mono ?_; rintro e w2x ⟨rfl, hR2x, hk2⟩; have hB2x := hB1'.trans (hk2.below hB1'.size (mem1 hgr)); have hbc : Below w2x.heap.size w2x (w2x.alloc (.cells #[.int .i64 sh.process, .int .i64 sh.version, .bool sh.flag, .string sh.data] 38)) := (Below.refl _ w2x).alloc (Nat.le_refl _) _; have hB2 := hB2x.trans (hbc.mono hB2x.size); have hP2 := (hP1.kept hk2 (by simpa using hrg.symm) (by simpa using hrb.symm)).old hbc; have hR2 := hR2x.old hbc; obtain ⟨z0, z1, z2, z3⟩ := row4_kept hqa hk2 (by simp; omega) (.cells #[.int .i64 sh.process, .int .i64 sh.version, .bool sh.flag, .string sh.data] 38))
            | (go_at_call 13; refine (hpw _ hP2).mono ?_; rintro e w3 ⟨a3, c3, rfl, hr3, hb3⟩; have hR3 := hR2.old hb3; have hB3 := hB2.trans (hb3.mono hB2.size))
            | (go_at_call 14; refine (hrw _ hR3).mono ?_; rintro e w4 ⟨a4, c4, rfl, hr4, hb4⟩; have hr34 := hr3.below hb4; have hB4 := hB3.trans (hb4.mono hB3.size))
            | (go_at_call 12; refine (hsi _ _ _ _ _ hr34 hr4).mono ?_; rintro e w5 ⟨rfl, hb5⟩; have hB5 := hB4.trans (hb5.mono hB4.size); have hbx := hb3.trans ((hb4.trans (hb5.mono hb4.size)).mono hb3.size); have hP5 := hP2.old hbx; have hR5 := hR2.old hbx))
          exact ⟨⟨k + 1, m', by omega, by go_num, hP5, hR5, hB5⟩, by simp [intOf]; omega⟩
        · have k1 : (S.kind == 1) = false := by simpa using hkd
          clear hkd
          by_cases hkd : S.kind = 2
          · have hps := fun (wz : World) (h : PSend wz g bm m) => pans_any h S.n S.yes
            have hrs := fun (wz : World) (h : RTries wz gr m) => rans_any h hok S.n S.yes
            have hok' : (m.ans S.n S.yes).st.p.length = 8 := (pans_ok hok S.n S.yes).len
            generalize m.ans S.n S.yes = sb at hps hrs hok'
            obtain ⟨dn, er, m'⟩ := sb
            dsimp only at hps hrs hok'
            have hl' := hok'
            have qa1 := cellOld hB qq1
            have qa3 := cellOld hB qq3
            rw [hkd] at q0
            have hmix : Tryd.prog.follows .mixedOrders = true := by kernel_rfl
            have hblt : b < w.heap.size := World.block_lt_of_cell? w _ qq1
            have nbg : b ≠ g := by omega
            have nbm : b ≠ bm := by omega
            have nbr : b ≠ gr := by omega
            go_wp2_with fail
            refine wp_mono (region_knownU (Q := fun e a' w' => e = .normal ∧ a' = ({ tmps := ((setAll _ [(118, .pointer (some ⟨g, 0, none⟩)), (119, .slice (some ⟨b, o, none⟩) nt c), (120, .int .i64 (k : Int)), (121, .pointer (some ⟨b, o + k * 5, none⟩)), (122, .pointer (some ⟨b, o + k * 5 + 1, none⟩)), (123, .int .i64 S.n), (124, .slice (some ⟨b, o, none⟩) nt c), (125, .int .i64 (k : Int)), (126, .pointer (some ⟨b, o + k * 5, none⟩)), (127, .pointer (some ⟨b, o + k * 5 + 3, none⟩)), (128, .bool S.yes), (129, .tuple #[.bool dn, .int .i64 er]), (117, .tuple #[.bool dn, .int .i64 er]), (130, .bool dn), (131, .int .i64 er), (18, .bool dn)]).set 19 (.int .i64 er)).toArray, defers := [] } : Act) ∧ PSend w' g bm m' ∧ Kept [g, bm] wr w') 17 16 11 [g, bm] (fun w' => PSend w' g bm m') [(118, .pointer (some ⟨g, 0, none⟩)), (119, .slice (some ⟨b, o, none⟩) nt c), (120, .int .i64 (k : Int)), (121, .pointer (some ⟨b, o + k * 5, none⟩)), (122, .pointer (some ⟨b, o + k * 5 + 1, none⟩)), (123, .int .i64 S.n), (124, .slice (some ⟨b, o, none⟩) nt c), (125, .int .i64 (k : Int)), (126, .pointer (some ⟨b, o + k * 5, none⟩)), (127, .pointer (some ⟨b, o + k * 5 + 3, none⟩)), (128, .bool S.yes), (129, .tuple #[.bool dn, .int .i64 er]), (117, .tuple #[.bool dn, .int .i64 er]), (130, .bool dn), (131, .int .i64 er), (18, .bool dn)]
              [[5], [1], [8], [119, 120], [121], [122], [1], [8], [124, 125], [126], [127], [118, 123, 128], [129], [117], [117], [130]] [11, 3, 3, 4, 5, 11, 8, 8, 9, 10, 11, 12, 13, 15, 16, 16] wr hmix rfl (by decide) rfl (show ([118, 119, 120, 121, 122, 123, 124, 125, 126, 127, 128, 129, 117, 130, 131, 18] : List Nat).Nodup by decide) (by kernel_rfl) (by kernel_rfl) (by kernel_rfl) (by kernel_rfl) (by kernel_rfl) (by kernel_rfl) (fun _ _ h hk => h.kept hk (by simp) (by simp))
              (fun i' hi' hiu ac wc hk hr Q K hK => by
                have hor : i' = 0 ∨ i' = 1 ∨ i' = 2 ∨ i' = 3 ∨ i' = 4 ∨ i' = 5 ∨ i' = 6 ∨ i' = 7 ∨ i' = 8 ∨ i' = 9 ∨ i' = 10 ∨ i' = 11 ∨ i' = 12 ∨ i' = 13 ∨ i' = 14 ∨ i' = 15 := by omega
                rcases hor with rfl | rfl | rfl | rfl | rfl | rfl | rfl | rfl | rfl | rfl | rfl | rfl | rfl | rfl | rfl | rfl
                · have e5 : ac.eval (.tmp 5) = .pointer (some ⟨g, 0, none⟩) := hr 5 (by decide)
                  exact op_value rfl rfl (run_moveQ wc rfl e5) (hK wc (keptU wc))
                · have e1 : ac.eval (.tmp 1) = .slice (some ⟨b, o, none⟩) nt c := hr 1 (by decide)
                  exact op_value rfl rfl (run_moveQ wc rfl e1) (hK wc (keptU wc))
                · have e8 : ac.eval (.tmp 8) = .int .i64 (k : Int) := hr 8 (by decide)
                  exact op_value rfl rfl (run_moveQ wc rfl e8) (hK wc (keptU wc))
                · have e119 : ac.eval (.tmp 119) = .slice (some ⟨b, o, none⟩) nt c := hr 119 (by decide)
                  have e120 : ac.eval (.tmp 120) = .int .i64 (k : Int) := hr 120 (by decide)
                  exact op_value rfl rfl (run_ixSteps wc rfl e119 e120 hlt) (hK wc (keptU wc))
                · have e121 : ac.eval (.tmp 121) = .pointer (some ⟨b, o + k * 5, none⟩) := hr 121 (by decide)
                  exact op_value rfl rfl (run_fdroamlawStep1 wc rfl e121) (hK wc (keptU wc))
                · have e122 : ac.eval (.tmp 122) = .pointer (some ⟨b, o + k * 5 + 1, none⟩) := hr 122 (by decide)
                  exact op_value rfl rfl (run_ldint wc rfl e122 (hk.cell_off qa1 (by simp [nbg, nbm]))) (hK wc (keptU wc))
                · have e1 : ac.eval (.tmp 1) = .slice (some ⟨b, o, none⟩) nt c := hr 1 (by decide)
                  exact op_value rfl rfl (run_moveQ wc rfl e1) (hK wc (keptU wc))
                · have e8 : ac.eval (.tmp 8) = .int .i64 (k : Int) := hr 8 (by decide)
                  exact op_value rfl rfl (run_moveQ wc rfl e8) (hK wc (keptU wc))
                · have e124 : ac.eval (.tmp 124) = .slice (some ⟨b, o, none⟩) nt c := hr 124 (by decide)
                  have e125 : ac.eval (.tmp 125) = .int .i64 (k : Int) := hr 125 (by decide)
                  exact op_value rfl rfl (run_ixSteps wc rfl e124 e125 hlt) (hK wc (keptU wc))
                · have e126 : ac.eval (.tmp 126) = .pointer (some ⟨b, o + k * 5, none⟩) := hr 126 (by decide)
                  exact op_value rfl rfl (run_fdroamlawStep3 wc rfl e126) (hK wc (keptU wc))
                · have e127 : ac.eval (.tmp 127) = .pointer (some ⟨b, o + k * 5 + 3, none⟩) := hr 127 (by decide)
                  exact op_value rfl rfl (run_ldbool wc rfl e127 (hk.cell_off qa3 (by simp [nbg, nbm]))) (hK wc (keptU wc))
                · exact absurd rfl hiu
                · have e129 : ac.eval (.tmp 129) = .tuple #[.bool dn, .int .i64 er] := hr 129 (by decide)
                  exact op_value rfl rfl (run_moveQ wc rfl e129) (hK wc (keptU wc))
                · have e117 : ac.eval (.tmp 117) = .tuple #[.bool dn, .int .i64 er] := hr 117 (by decide)
                  exact op_value rfl rfl (run_extractL wc rfl e117 rfl) (hK wc (keptU wc))
                · have e117 : ac.eval (.tmp 117) = .tuple #[.bool dn, .int .i64 er] := hr 117 (by decide)
                  exact op_value rfl rfl (run_extractL wc rfl e117 rfl) (hK wc (keptU wc))
                · have e130 : ac.eval (.tmp 130) = .bool dn := hr 130 (by decide)
                  exact op_value rfl rfl (run_assignL wc rfl e130) (hK wc (keptU wc)))
              (fun _ ac wc hb hr Q K hK => by
                have e118 : ac.eval (.tmp 118) = .pointer (some ⟨g, 0, none⟩) := hr 118 (by decide)
                have e123 : ac.eval (.tmp 123) = .int .i64 S.n := hr 123 (by decide)
                have e128 : ac.eval (.tmp 128) = .bool S.yes := hr 128 (by decide)
                refine op_callNL rfl rfl rfl (enters_of Tryd.func10 (by kernel_rfl) rfl) (map3L e118 e123 e128) (hps wc (hP.old hb)) fun e w' hr' => ?_
                obtain ⟨rfl, hT', hk'⟩ := hr'
                exact ⟨_, rfl, hK w' hk' hT'⟩)
              (fun wc hk hu => by
                refine op_value rfl rfl (run_assignL wc rfl ((eval_setAll (t := [(118, .pointer (some ⟨g, 0, none⟩)), (119, .slice (some ⟨b, o, none⟩) nt c), (120, .int .i64 (k : Int)), (121, .pointer (some ⟨b, o + k * 5, none⟩)), (122, .pointer (some ⟨b, o + k * 5 + 1, none⟩)), (123, .int .i64 S.n), (124, .slice (some ⟨b, o, none⟩) nt c), (125, .int .i64 (k : Int)), (126, .pointer (some ⟨b, o + k * 5, none⟩)), (127, .pointer (some ⟨b, o + k * 5 + 3, none⟩)), (128, .bool S.yes), (129, .tuple #[.bool dn, .int .i64 er]), (117, .tuple #[.bool dn, .int .i64 er]), (130, .bool dn), (131, .int .i64 er), (18, .bool dn)]) 131 (show ([118, 119, 120, 121, 122, 123, 124, 125, 126, 127, 128, 129, 117, 130, 131, 18] : List Nat).Nodup by decide) (by kernel_rfl)).trans rfl)) ⟨rfl, put_list _ _ _, hu (by decide), hk⟩)) ?_
            rintro e a' w1 ⟨rfl, rfl, hP1, hk1⟩
            dsimp only [setAll, List.set, List.append_nil, List.cons_append, List.nil_append]
            have hB1' := hB.trans (hk1.below hB.size (mem2 hg hbm))
            have hR1 := hR.kept hk1 (by simp [hrg, hrb])
            have qb1 := cellOld hB1' qq1
            have qb3 := cellOld hB1' qq3
            go_wp2_with fail
            refine wp_mono (region_knownU (Q := fun e a' w' => e = .normal ∧ a' = ({ tmps := ((setAll _ [(133, .pointer (some ⟨gr, 0, none⟩)), (134, .slice (some ⟨b, o, none⟩) nt c), (135, .int .i64 (k : Int)), (136, .pointer (some ⟨b, o + k * 5, none⟩)), (137, .pointer (some ⟨b, o + k * 5 + 1, none⟩)), (138, .int .i64 S.n), (139, .slice (some ⟨b, o, none⟩) nt c), (140, .int .i64 (k : Int)), (141, .pointer (some ⟨b, o + k * 5, none⟩)), (142, .pointer (some ⟨b, o + k * 5 + 3, none⟩)), (143, .bool S.yes), (144, .tuple #[.bool dn, .int .i64 er]), (132, .tuple #[.bool dn, .int .i64 er]), (145, .bool dn), (146, .int .i64 er), (20, .bool dn)]).set 21 (.int .i64 er)).toArray, defers := [] } : Act) ∧ RTries w' gr m' ∧ Kept [gr] w1 w') 17 16 11 [gr] (fun w' => RTries w' gr m') [(133, .pointer (some ⟨gr, 0, none⟩)), (134, .slice (some ⟨b, o, none⟩) nt c), (135, .int .i64 (k : Int)), (136, .pointer (some ⟨b, o + k * 5, none⟩)), (137, .pointer (some ⟨b, o + k * 5 + 1, none⟩)), (138, .int .i64 S.n), (139, .slice (some ⟨b, o, none⟩) nt c), (140, .int .i64 (k : Int)), (141, .pointer (some ⟨b, o + k * 5, none⟩)), (142, .pointer (some ⟨b, o + k * 5 + 3, none⟩)), (143, .bool S.yes), (144, .tuple #[.bool dn, .int .i64 er]), (132, .tuple #[.bool dn, .int .i64 er]), (145, .bool dn), (146, .int .i64 er), (20, .bool dn)]
              [[7], [1], [8], [134, 135], [136], [137], [1], [8], [139, 140], [141], [142], [133, 138, 143], [144], [132], [132], [145]] [11, 3, 3, 4, 5, 11, 8, 8, 9, 10, 11, 12, 13, 15, 16, 16] w1 hmix rfl (by decide) rfl (show ([133, 134, 135, 136, 137, 138, 139, 140, 141, 142, 143, 144, 132, 145, 146, 20] : List Nat).Nodup by decide) (by kernel_rfl) (by kernel_rfl) (by kernel_rfl) (by kernel_rfl) (by kernel_rfl) (by kernel_rfl) (fun _ _ h hk => h.kept hk (by simp))
              (fun i' hi' hiu ac wc hk hr Q K hK => by
                have hor : i' = 0 ∨ i' = 1 ∨ i' = 2 ∨ i' = 3 ∨ i' = 4 ∨ i' = 5 ∨ i' = 6 ∨ i' = 7 ∨ i' = 8 ∨ i' = 9 ∨ i' = 10 ∨ i' = 11 ∨ i' = 12 ∨ i' = 13 ∨ i' = 14 ∨ i' = 15 := by omega
                rcases hor with rfl | rfl | rfl | rfl | rfl | rfl | rfl | rfl | rfl | rfl | rfl | rfl | rfl | rfl | rfl | rfl
                · have e7 : ac.eval (.tmp 7) = .pointer (some ⟨gr, 0, none⟩) := hr 7 (by decide)
                  exact op_value rfl rfl (run_moveQ wc rfl e7) (hK wc (keptU wc))
                · have e1 : ac.eval (.tmp 1) = .slice (some ⟨b, o, none⟩) nt c := hr 1 (by decide)
                  exact op_value rfl rfl (run_moveQ wc rfl e1) (hK wc (keptU wc))
                · have e8 : ac.eval (.tmp 8) = .int .i64 (k : Int) := hr 8 (by decide)
                  exact op_value rfl rfl (run_moveQ wc rfl e8) (hK wc (keptU wc))
                · have e134 : ac.eval (.tmp 134) = .slice (some ⟨b, o, none⟩) nt c := hr 134 (by decide)
                  have e135 : ac.eval (.tmp 135) = .int .i64 (k : Int) := hr 135 (by decide)
                  exact op_value rfl rfl (run_ixSteps wc rfl e134 e135 hlt) (hK wc (keptU wc))
                · have e136 : ac.eval (.tmp 136) = .pointer (some ⟨b, o + k * 5, none⟩) := hr 136 (by decide)
                  exact op_value rfl rfl (run_fdroamlawStep1 wc rfl e136) (hK wc (keptU wc))
                · have e137 : ac.eval (.tmp 137) = .pointer (some ⟨b, o + k * 5 + 1, none⟩) := hr 137 (by decide)
                  exact op_value rfl rfl (run_ldint wc rfl e137 (hk.cell_off qb1 (by simp [nbr]))) (hK wc (keptU wc))
                · have e1 : ac.eval (.tmp 1) = .slice (some ⟨b, o, none⟩) nt c := hr 1 (by decide)
                  exact op_value rfl rfl (run_moveQ wc rfl e1) (hK wc (keptU wc))
                · have e8 : ac.eval (.tmp 8) = .int .i64 (k : Int) := hr 8 (by decide)
                  exact op_value rfl rfl (run_moveQ wc rfl e8) (hK wc (keptU wc))
                · have e139 : ac.eval (.tmp 139) = .slice (some ⟨b, o, none⟩) nt c := hr 139 (by decide)
                  have e140 : ac.eval (.tmp 140) = .int .i64 (k : Int) := hr 140 (by decide)
                  exact op_value rfl rfl (run_ixSteps wc rfl e139 e140 hlt) (hK wc (keptU wc))
                · have e141 : ac.eval (.tmp 141) = .pointer (some ⟨b, o + k * 5, none⟩) := hr 141 (by decide)
                  exact op_value rfl rfl (run_fdroamlawStep3 wc rfl e141) (hK wc (keptU wc))
                · have e142 : ac.eval (.tmp 142) = .pointer (some ⟨b, o + k * 5 + 3, none⟩) := hr 142 (by decide)
                  exact op_value rfl rfl (run_ldbool wc rfl e142 (hk.cell_off qb3 (by simp [nbr]))) (hK wc (keptU wc))
                · exact absurd rfl hiu
                · have e144 : ac.eval (.tmp 144) = .tuple #[.bool dn, .int .i64 er] := hr 144 (by decide)
                  exact op_value rfl rfl (run_moveQ wc rfl e144) (hK wc (keptU wc))
                · have e132 : ac.eval (.tmp 132) = .tuple #[.bool dn, .int .i64 er] := hr 132 (by decide)
                  exact op_value rfl rfl (run_extractL wc rfl e132 rfl) (hK wc (keptU wc))
                · have e132 : ac.eval (.tmp 132) = .tuple #[.bool dn, .int .i64 er] := hr 132 (by decide)
                  exact op_value rfl rfl (run_extractL wc rfl e132 rfl) (hK wc (keptU wc))
                · have e145 : ac.eval (.tmp 145) = .bool dn := hr 145 (by decide)
                  exact op_value rfl rfl (run_assignL wc rfl e145) (hK wc (keptU wc)))
              (fun _ ac wc hb hr Q K hK => by
                have e133 : ac.eval (.tmp 133) = .pointer (some ⟨gr, 0, none⟩) := hr 133 (by decide)
                have e138 : ac.eval (.tmp 138) = .int .i64 S.n := hr 138 (by decide)
                have e143 : ac.eval (.tmp 143) = .bool S.yes := hr 143 (by decide)
                refine op_callNL rfl rfl rfl (enters_of Tryd.func11 (by kernel_rfl) rfl) (map3L e133 e138 e143) (hrs wc (hR1.old hb)) fun e w' hr' => ?_
                obtain ⟨rfl, hT', hk'⟩ := hr'
                exact ⟨_, rfl, hK w' hk' hT'⟩)
              (fun wc hk hu => by
                refine op_value rfl rfl (run_assignL wc rfl ((eval_setAll (t := [(133, .pointer (some ⟨gr, 0, none⟩)), (134, .slice (some ⟨b, o, none⟩) nt c), (135, .int .i64 (k : Int)), (136, .pointer (some ⟨b, o + k * 5, none⟩)), (137, .pointer (some ⟨b, o + k * 5 + 1, none⟩)), (138, .int .i64 S.n), (139, .slice (some ⟨b, o, none⟩) nt c), (140, .int .i64 (k : Int)), (141, .pointer (some ⟨b, o + k * 5, none⟩)), (142, .pointer (some ⟨b, o + k * 5 + 3, none⟩)), (143, .bool S.yes), (144, .tuple #[.bool dn, .int .i64 er]), (132, .tuple #[.bool dn, .int .i64 er]), (145, .bool dn), (146, .int .i64 er), (20, .bool dn)]) 146 (show ([133, 134, 135, 136, 137, 138, 139, 140, 141, 142, 143, 144, 132, 145, 146, 20] : List Nat).Nodup by decide) (by kernel_rfl)).trans rfl)) ⟨rfl, put_list _ _ _, hu (by decide), hk⟩)) ?_
            rintro e a' w2 ⟨rfl, rfl, hR2, hk2⟩
            dsimp only [setAll, List.set, List.append_nil, List.cons_append, List.nil_append]
            have hB2 := hB1'.trans (hk2.below hB1'.size (mem1 hgr))
            have hP2 := hP1.kept hk2 (by simpa using hrg.symm) (by simpa using hrb.symm)
            clear hps hrs
            have hpw := fun (wz : World) (h : PSend wz g bm m') => pwaiting_any h
            have hrw := fun (wz : World) (h : RTries wz gr m') => rwaiting_any h hl'
            have hLl := SendM.waitTo_len m' 8
            obtain ⟨L, eL⟩ : ∃ L, L = m'.waitTo 8 := ⟨_, rfl⟩
            rw [← eL] at hpw hrw hLl
            have hsi := fun (wz : World) (a b : Option Addr) (ca cb : Nat) (ha : Rd .i64 wz a L) (hb : Rd .i64 wz b L) => same_ints L L a b ca cb wz ha hb (by unfold maxLen; omega) (by unfold maxLen; omega)
            rw [show decide (L = L) = true by simp] at hsi
            clear eL
            go_wp2_with (first
              | (go_at_call 13; refine (hpw _ hP2).mono ?_; rintro e w3 ⟨a3, c3, rfl, hr3, hb3⟩; have hR3 := hR2.old hb3; have hB3 := hB2.trans (hb3.mono hB2.size))
              | (go_at_call 14; refine (hrw _ hR3).mono ?_; rintro e w4 ⟨a4, c4, rfl, hr4, hb4⟩; have hr34 := hr3.below hb4; have hB4 := hB3.trans (hb4.mono hB3.size))
              | (go_at_call 12; refine (hsi _ _ _ _ _ hr34 hr4).mono ?_; rintro e w5 ⟨rfl, hb5⟩; have hB5 := hB4.trans (hb5.mono hB4.size); have hbx := hb3.trans ((hb4.trans (hb5.mono hb4.size)).mono hb3.size); have hP5 := hP2.old hbx; have hR5 := hR2.old hbx))
            exact ⟨⟨k + 1, m', by omega, by go_num, hP5, hR5, hB5⟩, by simp [intOf]; omega⟩
          · have k2 : (S.kind == 2) = false := by simpa using hkd
            clear hkd
            obtain ⟨m', em⟩ : ∃ m', m' = m := ⟨_, rfl⟩
            have hP2 : PSend wr g bm m' := by rw [em]; exact hP
            have hR2 : RTries wr gr m' := by rw [em]; exact hR
            have hB2 := hB
            have hl' : m'.p.length = 8 := by rw [em]; exact hok.len
            clear em
            have hpw := fun (wz : World) (h : PSend wz g bm m') => pwaiting_any h
            have hrw := fun (wz : World) (h : RTries wz gr m') => rwaiting_any h hl'
            have hLl := SendM.waitTo_len m' 8
            obtain ⟨L, eL⟩ : ∃ L, L = m'.waitTo 8 := ⟨_, rfl⟩
            rw [← eL] at hpw hrw hLl
            have hsi := fun (wz : World) (a b : Option Addr) (ca cb : Nat) (ha : Rd .i64 wz a L) (hb : Rd .i64 wz b L) => same_ints L L a b ca cb wz ha hb (by unfold maxLen; omega) (by unfold maxLen; omega)
            rw [show decide (L = L) = true by simp] at hsi
            clear eL
            go_wp2_with (first
              | (go_at_call 13; refine (hpw _ hP2).mono ?_; rintro e w3 ⟨a3, c3, rfl, hr3, hb3⟩; have hR3 := hR2.old hb3; have hB3 := hB2.trans (hb3.mono hB2.size))
              | (go_at_call 14; refine (hrw _ hR3).mono ?_; rintro e w4 ⟨a4, c4, rfl, hr4, hb4⟩; have hr34 := hr3.below hb4; have hB4 := hB3.trans (hb4.mono hB3.size))
              | (go_at_call 12; refine (hsi _ _ _ _ _ hr34 hr4).mono ?_; rintro e w5 ⟨rfl, hb5⟩; have hB5 := hB4.trans (hb5.mono hB4.size); have hbx := hb3.trans ((hb4.trans (hb5.mono hb4.size)).mono hb3.size); have hP5 := hP2.old hbx; have hR5 := hR2.old hbx))
            exact ⟨⟨k + 1, m', by omega, by go_num, hP5, hR5, hB5⟩, by simp [intOf]; omega⟩
    · have e : k = nt := by omega
      subst e
      go_wp2_with fail
      go_ret
      exact ⟨rfl, hB⟩
end Go.Proofs.YtpeidccpplfbaaeDoor
