import Derived.Test.YtjpohfghibhkiadGmC
import Derived.Test.YtjpohfghibhkiadGmD
import Derived.Test.YtjpohfghibhkiadGridW
import Derived.Test.YtjpohfghibhkiadWaveQ
import Derived.Test.YtjpohfghibhkiadGridN
import Derived.Test.YtjpohfghibhkiadGmR
import Derived.Test.YtjpohfghibhkiadGmF
namespace Go.Proofs.Ytjpohfghibhkiad
open Go.ChangeShapes Go.WideShapes Go.ChangeAt Go.RowKit

/-! THE LAW GridMemory. -/


def mem1 (gG : Nat) (B : Int) (a : Option Addr) (n c : Nat) (ss : List Sh) (N : Nat) : Nat → (Nat → Value) → World → Prop
  | 0, σ, _ => σ 0 = .pointer (some ⟨gG, 0, none⟩)
  | 1, σ, _ => σ 1 = .int .i64 B
  | 2, σ, _ => σ 2 = .pointer (some ⟨gG, 0 + 1, none⟩)
  | 3, σ, _ => σ 3 = .slice a n c
  | 4, σ, _ => σ 4 = .agg #[.int .i64 (-7), .int .i64 0, .int .i64 0, .int .i64 0, .int .i64 0]
  | 5, σ, w => ∃ g, N ≤ g ∧ σ 5 = .slice (some ⟨g, 0, none⟩) n (n + 3) ∧ SArr w g (ss ++ [markS, markS, markS])
  | 6, σ, _ => σ 6 = .agg #[.int .i64 B, σ 5]
  | 7, σ, w => ∃ g, N ≤ g ∧ σ 7 = .pointer (some ⟨g, 0, none⟩) ∧ w.heap[g]? = some (.cells #[.int .i64 0, .slice none 0 0] 24 (0, 0))
  | _, _, _ => True
theorem mem1_mono {gG : Nat} {B : Int} {a : Option Addr} {n c : Nat} {ss : List Sh} {N : Nat} (j : Nat) (σ : Nat → Value) (w w' : World) (h : mem1 gG B a n c ss N j σ w) (hg : w.grownBy w' none) : mem1 gG B a n c ss N j σ w' := by
  match j, h with
  | 0, h => exact h
  | 1, h => exact h
  | 2, h => exact h
  | 3, h => exact h
  | 4, h => exact h
  | 5, ⟨g, h1, h2, h3⟩ => exact ⟨g, h1, h2, (hg.block g h3.lt (by simp)).trans h3⟩
  | 6, h => exact h
  | 7, ⟨g, h1, h2, h3⟩ => exact ⟨g, h1, h2, (hg.block g (Array.getElem?_eq_some_iff.1 h3).1 (by simp)).trans h3⟩
  | j + 8, _ => exact trivial
theorem run_fldG1 {ρ : Operand → Value} (w : World) {o : Oper} {x : Operand} {g s : Nat} (ho : o.op = .fieldAddr 24 x 1) (h : ρ x = .pointer (some ⟨g, s, none⟩)) : (execOp ρ o).run Try.prog w = .ok (.value (.pointer (some ⟨g, s + 1, none⟩))) w := by
  unfold execOp
  simp only [ho, h]
  simp [go_sem]
theorem run_loadSh {ρ : Operand → Value} (w : World) {o : Oper} {x : Operand} {g j : Nat} {v : Value} (ho : o.op = .load 22 x) (h : ρ x = .pointer (some ⟨g, j, none⟩)) (hc : w.cell? ⟨g, j, none⟩ = some v) : (execOp ρ o).run Try.prog w = .ok (.value v) w := by
  unfold execOp
  simp only [ho, h]
  simp [go_sem, hc]
theorem run_buildM {ρ : Operand → Value} (w : World) {o : Oper} (ho : o.op = .build 52 #[(0, .const (.int .i64 (-7)))]) (h : ρ (.const (.int .i64 (-7))) = .int .i64 (-7)) : (execOp ρ o).run Try.prog w = .ok (.value (.agg #[.int .i64 (-7), .int .i64 0, .int .i64 0, .int .i64 0, .int .i64 0])) w := by
  unfold execOp
  simp only [ho]
  simp [go_sem, h]
theorem run_buildGr {ρ : Operand → Value} (w : World) {o : Oper} {x y : Operand} {B : Int} {u : Option Addr} {m c : Nat} (ho : o.op = .build 24 #[(0, x), (1, y)]) (h : ρ x = .int .i64 B) (h' : ρ y = .slice u m c) : (execOp ρ o).run Try.prog w = .ok (.value (.agg #[.int .i64 B, .slice u m c])) w := by
  unfold execOp
  simp only [ho]
  simp [go_sem, h, h']
theorem run_allocGr {ρ : Operand → Value} (w : World) {o : Oper} (ho : o.op = .alloc 24) : (execOp ρ o).run Try.prog w = .ok (.value (.pointer (some ⟨w.heap.size, 0, none⟩))) (w.alloc (.cells #[.int .i64 0, .slice none 0 0] 24)) := by
  unfold execOp
  simp only [ho]
  simp [go_sem]
theorem run_storeGr {ρ : Operand → Value} (w : World) {o : Oper} {x y : Operand} {g : Nat} {u v : Value} {old : Array Value} (ho : o.op = .store 24 x y) (h : ρ x = .pointer (some ⟨g, 0, none⟩)) (h' : ρ y = .agg #[u, v]) (hg : w.heap[g]? = some (.cells old 24 (0, 0))) (hs : old.size = 2) (hu : u.oneCell' = true) (hv : v.oneCell' = true) : (execOp ρ o).run Try.prog w = .ok .skip (w.setRow g #[u, v]) := by
  unfold execOp
  have hr := run_storeVar_row (P := Try.prog) w g 24 24 old #[u, v] hg (by kernel_rfl) (by simp [hs]) (by simp [hu, hv])
  simp only [ho, h, h', Instr.storeAt, Instr.sureAddr, Sem.run_bind, Sem.run_pure, Result.andThen_ok, hr]

set_option maxRecDepth 100000 in
set_option maxHeartbeats 4000000 in
theorem gmem_any (B : Int) (ss : List Sh) (a : Option Addr) (n c : Nat) (xs : List (Int × Int)) (ax : Option Addr) (nx cx : Nat) (w : World) (hS : Shs w a ss) (hnil : a = none → n = 0 ∧ c = 0) (hn : ss.length = n) (hz : n ≤ 3518437208880) (hF : ∀ i, i < n → (shAt ss i).fr ≤ 9223372036854775807) (hX : Pts w ax xs) (hnx : xs.length = nx) (hzx : nx ≤ 9223372036854775807) :
    Calls Try.prog 5 #[.agg #[.int .i64 B, .slice a n c], .slice ax nx cx] w fun e w' => e = .returned (.bool true) ∧ Below w.heap.size w w' := by
  have HN := hid hn
  have HNX := hid hnx
  have hmix : Try.prog.follows .mixedOrders = true := by kernel_rfl
  have hb1 : Below w.heap.size w (w.alloc (.cells #[.int .i64 B, .slice a n c] 24)) := (Below.refl _ w).alloc (Nat.le_refl _) _
  have q0 : (w.alloc (.cells #[.int .i64 B, .slice a n c] 24)).cell? ⟨w.heap.size, 0, none⟩ = some (.int .i64 B) := by rw [cell_of_row _ _ _ _ _ _ (heap_alloc_new w _)]; rfl
  have q1 : (w.alloc (.cells #[.int .i64 B, .slice a n c] 24)).cell? ⟨w.heap.size, 1, none⟩ = some (.slice a n c) := by rw [cell_of_row _ _ _ _ _ _ (heap_alloc_new w _)]; rfl
  have hGb : (w.alloc (.cells #[.int .i64 B, .slice a n c] 24)).heap[w.heap.size]? = some (.cells #[.int .i64 B, .slice a n c] 24 (0, 0)) := heap_alloc_new w _
  have hRO := fun (wz : World) (hbz : Below w.heap.size w wz) => roomyS ss markS a c n wz (hS.below hbz) hnil hn hz
  have HRO := hid hRO
  clear hn hnx hRO
  go_enter Try.func5, Try.ntmps5
  go_wp2_with fail
  have hsz1 : w.heap.size < (w.alloc (.cells #[.int .i64 B, .slice a n c] 24)).heap.size := by simp
  generalize w.alloc (.cells #[.int .i64 B, .slice a n c] 24) = wb at *
  obtain ⟨gG, eG⟩ : ∃ gG, gG = w.heap.size := ⟨_, rfl⟩
  rw [← eG] at q0 q1 hsz1 hGb
  rw [← eG]
  have HGG := hid eG
  clear eG
  have hRE : Enters Try.prog 15 := enters_of Try.func15 (by kernel_rfl) rfl
  have hcw : ∀ (wc : World), Below wb.heap.size wb wc → ∀ q v, wb.cell? q = some v → wc.cell? q = some v := fun wc hbc q v h => (hbc.cell (World.block_lt_of_cell? wb _ h)).trans h
  refine wp_mono (region_sig (Q := fun e a' w' => e = .normal ∧ ∃ gS gX, wb.heap.size ≤ gS ∧ wb.heap.size ≤ gX ∧ a' = { tmps := (setAll _ [(16, .pointer (some ⟨gG, 0, none⟩)), (17, .int .i64 B), (18, .pointer (some ⟨gG, 0 + 1, none⟩)), (19, .slice a n c), (20, .agg #[.int .i64 (-7), .int .i64 0, .int .i64 0, .int .i64 0, .int .i64 0]), (21, .slice (some ⟨gS, 0, none⟩) n (n + 3)), (22, .agg #[.int .i64 B, .slice (some ⟨gS, 0, none⟩) n (n + 3)]), (5, .pointer (some ⟨gX, 0, none⟩))]).toArray, defers := [] } ∧ SArr w' gS (ss ++ [markS, markS, markS]) ∧ w'.heap[gX]? = some (.cells #[.int .i64 B, .slice (some ⟨gS, 0, none⟩) n (n + 3)] 24 (0, 0)) ∧ Below wb.heap.size wb w') 9 8 [16, 17, 18, 19, 20, 21, 22, 5]
    [[2], [16], [2], [18], [], [19, 20], [17, 21], []] [1, 6, 3, 5, 5, 6, 8, 8] (mem1 gG B a n c ss wb.heap.size) wb hmix rfl (by decide) rfl (by decide) (by kernel_rfl) (by kernel_rfl) (by kernel_rfl) (by kernel_rfl) (by kernel_rfl) (by kernel_rfl) (fun j hj σ σ' w0 he hp => by
      have e0 := he j (Or.inl rfl)
      have h8 : j = 0 ∨ j = 1 ∨ j = 2 ∨ j = 3 ∨ j = 4 ∨ j = 5 ∨ j = 6 ∨ j = 7 := by omega
      rcases h8 with rfl | rfl | rfl | rfl | rfl | rfl | rfl | rfl
      · exact e0.symm.trans hp
      · exact e0.symm.trans hp
      · exact e0.symm.trans hp
      · exact e0.symm.trans hp
      · exact e0.symm.trans hp
      · obtain ⟨g, h1, h2, h3⟩ := hp
        exact ⟨g, h1, e0.symm.trans h2, h3⟩
      · have e5 := he 5 (Or.inr (by kernel_rfl))
        have hp' : σ 6 = .agg #[.int .i64 B, σ 5] := hp
        show σ' 6 = .agg #[.int .i64 B, σ' 5]
        rw [← e0, ← e5]
        exact hp'
      · obtain ⟨g, h1, h2, h3⟩ := hp
        exact ⟨g, h1, e0.symm.trans h2, h3⟩) mem1_mono (fun i' hi' σ ac wc hbc hp hr Q K hK => by
      have h8 : i' = 0 ∨ i' = 1 ∨ i' = 2 ∨ i' = 3 ∨ i' = 4 ∨ i' = 5 ∨ i' = 6 ∨ i' = 7 := by omega
      rcases h8 with rfl | rfl | rfl | rfl | rfl | rfl | rfl | rfl
      · exact op_value rfl rfl (run_fldG0 wc rfl (hr 2 (by decide))) (hK _ wc (grownG wc) (fun σ' _ h => h))
      · exact op_value rfl rfl (run_loadI wc rfl ((hr 16 (by decide)).trans (hp 0 (by decide) (by kernel_rfl))) (hcw wc hbc _ _ q0)) (hK _ wc (grownG wc) (fun σ' _ h => h))
      · exact op_value rfl rfl (run_fldG1 wc rfl (hr 2 (by decide))) (hK _ wc (grownG wc) (fun σ' _ h => h))
      · exact op_value rfl rfl (run_loadSh wc rfl ((hr 18 (by decide)).trans (hp 2 (by decide) (by kernel_rfl))) (hcw wc hbc _ _ q1)) (hK _ wc (grownG wc) (fun σ' _ h => h))
      · exact op_value rfl rfl (run_buildM wc rfl rfl) (hK _ wc (grownG wc) (fun σ' _ h => h))
      · refine op_callG rfl rfl rfl hRE (by simp only [List.map_toArray, List.map_cons, List.map_nil]; rw [(hr 19 (by decide)).trans (hp 3 (by decide) (by kernel_rfl)), (hr 20 (by decide)).trans (hp 4 (by decide) (by kernel_rfl))]; rfl) (HRO.out wc (hb1.trans (hbc.mono hb1.size))) fun e w' hr' => ?_
        obtain ⟨g, rfl, h1, h2, h3⟩ := hr'
        exact ⟨_, rfl, hK _ w' ⟨h3.os, h3.tape, h3.output, h3.size, fun b hb _ => h3.block b hb⟩ (fun σ' _ h => ⟨g, Nat.le_trans hbc.size h2, h, h1⟩)⟩
      · obtain ⟨g, h1, h2, h3⟩ := hp 5 (by decide) (by kernel_rfl)
        exact op_value rfl rfl (run_buildGr wc rfl ((hr 17 (by decide)).trans (hp 1 (by decide) (by kernel_rfl))) ((hr 21 (by decide)).trans h2)) (hK _ wc (grownG wc) (fun σ' hj h => by
          show σ' 6 = .agg #[.int .i64 B, σ' 5]
          rw [h, hj 5 (by decide), h2]))
      · exact op_value rfl rfl (run_allocGr wc rfl) (hK _ _ ⟨rfl, rfl, rfl, by simp, fun k hk _ => Below.heap_alloc _ _ _ hk⟩ (fun σ' _ h => ⟨wc.heap.size, hbc.size, h, heap_alloc_new wc _⟩)))
    (fun σ wc hbc hp => by
      have p0 : σ 0 = _ := hp 0 (by decide)
      have p1 : σ 1 = _ := hp 1 (by decide)
      have p2 : σ 2 = _ := hp 2 (by decide)
      have p3 : σ 3 = _ := hp 3 (by decide)
      have p4 : σ 4 = _ := hp 4 (by decide)
      obtain ⟨gS, s1, p5, s3⟩ := hp 5 (by decide)
      have p6 : σ 6 = .agg #[.int .i64 B, σ 5] := hp 6 (by decide)
      obtain ⟨gX, x1, p7, x3⟩ := hp 7 (by decide)
      rw [p5] at p6
      have etb : tbS [16, 17, 18, 19, 20, 21, 22, 5] 8 σ = [(16, .pointer (some ⟨gG, 0, none⟩)), (17, .int .i64 B), (18, .pointer (some ⟨gG, 0 + 1, none⟩)), (19, .slice a n c), (20, .agg #[.int .i64 (-7), .int .i64 0, .int .i64 0, .int .i64 0, .int .i64 0]), (21, .slice (some ⟨gS, 0, none⟩) n (n + 3)), (22, .agg #[.int .i64 B, .slice (some ⟨gS, 0, none⟩) n (n + 3)]), (5, .pointer (some ⟨gX, 0, none⟩))] := by
        show [(16, σ 0), (17, σ 1), (18, σ 2), (19, σ 3), (20, σ 4), (21, σ 5), (22, σ 6), (5, σ 7)] = _
        rw [p0, p1, p2, p3, p4, p5, p6, p7]
      rw [etb]
      have hne : gS ≠ gX := fun e => by
        rw [← e] at x3
        unfold SArr at s3
        rw [x3] at s3
        simp at s3
      exact op_skip rfl rfl (run_storeGr wc rfl (eval_setAll 5 (show ([16, 17, 18, 19, 20, 21, 22, 5] : List Nat).Nodup by decide) (by kernel_rfl)) (eval_setAll 22 (show ([16, 17, 18, 19, 20, 21, 22, 5] : List Nat).Nodup by decide) (by kernel_rfl)) x3 rfl rfl rfl) ⟨rfl, gS, gX, s1, x1, rfl, (setRow_other wc gX gS _ hne).trans s3, setRow_heap _ _ _ _ _ _ x3, below_setRow hbc x1 _⟩)) ?_
  rintro e a' w2 ⟨rfl, gS, gX, hgS, hgX, rfl, hSA, hXb, hb2⟩
  dsimp only [setAll, List.set, List.append_nil, List.cons_append, List.nil_append]
  have hbw2 : Below w.heap.size w w2 := hb1.trans (hb2.mono hb1.size)
  have x0 : w2.cell? ⟨gX, 0, none⟩ = some (.int .i64 B) := by rw [cell_of_row _ _ _ _ _ _ hXb]; rfl
  have x1 : w2.cell? ⟨gX, 1, none⟩ = some (.slice (some ⟨gS, 0, none⟩) n (n + 3)) := by rw [cell_of_row _ _ _ _ _ _ hXb]; rfl
  have hPL := places_own B 1 ss n (n + 3) (some ⟨gS, 0, none⟩) w2 hSA.shs HN.out (by omega) hF
  have HPLC := hid (fun (wz : World) (hbz : SArr wz gS (ss ++ [markS, markS, markS])) => lay_own B ss n (n + 3) (some ⟨gS, 0, none⟩))
  clear HRO hRE hcw
  go_wp2_with fail
  refine hPL.mono ?_
  rintro e w3 ⟨v, rfl, hb3, hv0, hv1⟩
  have hbw3 := hbw2.trans (hb3.mono hbw2.size)
  have hSA3 := hSA.below hb3 hSA.lt
  have hXb3 := (hb3.block gX (Array.getElem?_eq_some_iff.1 hXb).1).trans hXb
  have HV0 := hid hv0
  have HV1 := hid hv1
  clear hPL hv0 hv1 x0 x1 HPLC
  obtain ⟨G, eG⟩ : ∃ G, G = gridErrM B ss := ⟨_, rfl⟩
  have HG := hid eG
  rw [← eG] at HV0 HV1
  rw [← eG]
  clear eG
  obtain ⟨PL, hPL0, hPL1, hOv⟩ : ∃ PL, (G = 0 → PL = placesOfM (gN B) ss 1) ∧ (G ≠ 0 → PL = []) ∧ OwnT 39 w3 w2.heap.size v PL := by
    by_cases h : G = 0
    · exact ⟨_, fun _ => rfl, fun h' => absurd h h', HV0.out h⟩
    · exact ⟨[], fun h' => absurd h' h, fun _ => rfl, by rw [HV1.out h]; exact OwnT.nil _ _ _⟩
  have hlb : PL.length ≤ 2016 := by
    by_cases h : G = 0
    · have hgd := (griderr_good (show gridErrM B ss = 0 by rw [← HG.out]; exact h)).1
      have h1 := placesTo_length (gN B) ss 1 14
      have h3 : gN B ≤ 144 := by unfold gN; omega
      have h4 : 14 * gN B ≤ 14 * 144 := Nat.mul_le_mul_left _ h3
      rw [hPL0 h]
      unfold placesOfM
      omega
    · rw [hPL1 h]; simp
  have HP0 := hid hPL0
  have HP1 := hid hPL1
  obtain ⟨av, cv, rfl, -, -⟩ := hOv.shape
  obtain ⟨L, eL⟩ : ∃ L, L = PL.length := ⟨_, rfl⟩
  rw [← eL] at hOv hlb
  rw [← eL]
  have HL := hid eL
  clear HV0 HV1 hPL0 hPL1 eL
  have hpc : (w3.alloc (.cells #[.int .i64 1, .slice none 0 0] 45)).cell? ⟨w3.heap.size, 0, none⟩ = some (.int .i64 1) := by rw [cell_of_row _ _ _ _ _ _ (heap_alloc_new w3 _)]; rfl
  have hpd : (w3.alloc (.cells #[.int .i64 1, .slice none 0 0] 45)).cell? ⟨w3.heap.size, 0 + 1, none⟩ = some (.slice none 0 0) := by rw [cell_of_row _ _ _ _ _ _ (heap_alloc_new w3 _)]; rfl
  have hRT := roomyT w3.heap.size 0 1 _ hpc hpd
  have hal := (Below.refl w3.heap.size w3).alloc (Nat.le_refl _) (.cells #[.int .i64 1, .slice none 0 0] 45)
  clear hpc hpd
  go_wp2_with fail
  refine hRT.mono ?_
  rintro e w4 ⟨gT, rfl, hT4, hgT, hb4⟩
  have hgT3 : w3.heap.size < gT := by simp at hgT; omega
  have hb34 : Below w3.heap.size w3 w4 := hal.trans (hb4.mono hal.size)
  have hbw4 := hbw3.trans (hb34.mono hbw3.size)
  have hSA4 := hSA3.below hb34 hSA3.lt
  have hXb4 := (hb34.block gX (Array.getElem?_eq_some_iff.1 hXb3).1).trans hXb3
  have hOv4 := hOv.below hb34
  have HVB := hid (fun k (hk : (Value.slice av L cv).ownBlock = some k) => (World.ownsRow.lt hOv k hk).2)
  clear hRT hal hb4 hgT hOv hSA3 hXb3
  obtain ⟨iQ, hiQ, hz0Q, hz1Q, hz2Q⟩ := info_parts Try.infoQ
  have hPB4 : PartB w4 gT (.slice none 0 0) := hT4
  clear hT4
  go_wp2_with fail
  go_loopw [34] (fun q wr => ∃ i : Nat, i ≤ L ∧ q = .int .i64 i ∧ ∃ vP, PartB wr gT vP ∧ OwnT 47 wr w4.heap.size vP (fillM xs 3 i) ∧ Kept [gT] w4 wr) (fun q _ => L - (intOf q).toNat)
  case atStart => exact ⟨0, Nat.zero_le _, rfl, _, hPB4, OwnT.nil _ _ _, Kept.refl _ _⟩
  case round =>
    clear hPB4
    obtain ⟨i, hi, rfl, vP, hPB, hOP, hKr⟩ := hrel
    by_cases hlt : i < L
    · have HLI := hid hlt
      have hiL : i ≤ 2016 := by omega
      by_cases hxs : nx = 0
      · have HV := hid (show fillM xs 3 (i + 1) = fillM xs 3 i ++ [((3 : Int), (i : Int))] by
          rw [fillM_succ, if_pos (show xs = [] from List.length_eq_zero_iff.1 (by rw [HNX.out]; exact hxs))]
          rfl)
        have dx : decide ((0 : Int) < (nx : Int)) = false := by simp; omega
        have dx' : decide (0 < nx) = false := by simp; omega
        have hb5 := (Below.refl wr.heap.size wr).alloc (Nat.le_refl _) (.cells #[.int .i64 3, .int .i64 i] 47)
        have hPB5 : PartB (wr.alloc (.cells #[.int .i64 3, .int .i64 i] 47)) gT vP := (Below.heap_alloc _ _ _ hPB.lt).trans hPB
        have hOw := hOP.below hb5
        have hK5 := hKr.alloc (.cells #[.int .i64 3, .int .i64 i] 47)
        have cP : (wr.alloc (.cells #[.int .i64 3, .int .i64 i] 47)).cell? ⟨gT, 0 + 0 * 2 + 1, none⟩ = some vP := hPB5.cell 1
        have x0 : (wr.alloc (.cells #[.int .i64 3, .int .i64 i] 47)).cell? ⟨wr.heap.size, 0, none⟩ = some (.int .i64 3) := by rw [cell_of_row _ _ _ _ _ _ (heap_alloc_new wr _)]; rfl
        have x1 : (wr.alloc (.cells #[.int .i64 3, .int .i64 i] 47)).cell? ⟨wr.heap.size, 1, none⟩ = some (.int .i64 i) := by rw [cell_of_row _ _ _ _ _ _ (heap_alloc_new wr _)]; rfl
        have hs5 : w4.heap.size ≤ (wr.alloc (.cells #[.int .i64 3, .int .i64 i] 47)).heap.size := Nat.le_trans hKr.size hb5.size
        have HTS := hid (show gT ∉ ownS vP from fun h => hOw.neT hPB5 (by decide) (mem_ownS.1 h))
        have HGPS := hid (show wr.heap.size ∉ ownS vP from fun h => by have := (hOP.lt _ (mem_ownS.1 h)).2; omega)
        have HLN := hid (show (fillM xs 3 i).length < 1000000 by rw [fillM_length]; omega)
        clear hxs
        go_upto_region 10 with fail
        clear hb5 hPB hOP hKr
        generalize wr.alloc (.cells #[.int .i64 3, .int .i64 i] 47) = w5 at *
        generalize wr.heap.size = gp at *
        refine wp_mono (region_sigU (Q := fun e a' w' => e = .normal ∧ ∃ gb v', a' = { tmps := (setAll _ [(49, .slice (some ⟨gT, 0, none⟩) 1 4), (50, .slice (some ⟨gT, 0, none⟩) 1 4), (51, .pointer (some ⟨gT, 0 + 0 * 2, none⟩)), (52, .pointer (some ⟨gT, 0 + 0 * 2 + 1, none⟩)), (53, vP), (54, .agg #[.int .i64 ((3 : Int), (i : Int)).1, .int .i64 ((3 : Int), (i : Int)).2]), (55, .slice (some ⟨gb, 0, none⟩) 1 1), (56, v'), (57, .pointer (some ⟨gT, 0 + 0 * 2, none⟩)), (58, .pointer (some ⟨gT, 0 + 0 * 2 + 1, none⟩))]).toArray, defers := [] } ∧ PartB w' gT v' ∧ OwnT 47 w' w4.heap.size v' (fillM xs 3 (i + 1)) ∧ Kept [gT] w4 w') 11 10 7 (ownS vP) [49, 50, 51, 52, 53, 54, 55, 56, 57, 58]
          [[8], [8], [50], [51], [52], [10], [54], [53, 55], [49], [57]] [8, 8, 8, 8, 8, 8, 8, 8, 9, 10] (mem2 gT vP (fillM xs 3 i) ((3 : Int), (i : Int)) w4.heap.size) w5 hmix rfl (by decide) rfl (by decide) (by kernel_rfl) (by kernel_rfl) (by kernel_rfl) (by kernel_rfl) (by kernel_rfl) (by kernel_rfl) (fun j hj σ σ' w0 he hp => mem2_cong j σ σ' w0 (he j (Or.inl rfl)) hp) mem2_mono mem2_monoS (fun i' hi' σ ac wc hkc hbc hp hr Q K hK => by
          have h10 : i' = 0 ∨ i' = 1 ∨ i' = 2 ∨ i' = 3 ∨ i' = 4 ∨ i' = 5 ∨ i' = 6 ∨ i' = 7 ∨ i' = 8 ∨ i' = 9 := by omega
          rcases h10 with rfl | rfl | rfl | rfl | rfl | rfl | rfl | rfl | rfl | rfl
          · exact op_value rfl rfl (run_moveQ wc rfl (hr 8 (by decide))) (hK _ wc (Kept.refl _ _) (fun σ' _ h => h))
          · exact op_value rfl rfl (run_moveQ wc rfl (hr 8 (by decide))) (hK _ wc (Kept.refl _ _) (fun σ' _ h => h))
          · exact op_value rfl rfl (run_idxPa (j := 0) wc rfl ((hr 50 (by decide)).trans (hp 1 (by decide) (by kernel_rfl))) rfl (by omega)) (hK _ wc (Kept.refl _ _) (fun σ' _ h => h))
          · exact op_value rfl rfl (run_fldPa1 wc rfl ((hr 51 (by decide)).trans (hp 2 (by decide) (by kernel_rfl)))) (hK _ wc (Kept.refl _ _) (fun σ' _ h => h))
          · exact op_value rfl rfl (run_loadRw wc rfl ((hr 52 (by decide)).trans (hp 3 (by decide) (by kernel_rfl))) (hkc.cellG cP HTS.out)) (hK _ wc (Kept.refl _ _) (fun σ' _ h => h))
          · exact op_value rfl rfl (run_loadPt (p := ((3 : Int), (i : Int))) wc rfl (hr 10 (by decide)) ⟨hkc.cellG x0 HGPS.out, hkc.cellG x1 HGPS.out⟩) (hK _ wc (Kept.refl _ _) (fun σ' _ h => h))
          · refine op_value rfl rfl (run_buildPt1 (p := ((3 : Int), (i : Int))) wc rfl ((hr 54 (by decide)).trans (hp 5 (by decide) (by kernel_rfl)))) (hK _ _ ((Kept.refl _ wc).alloc _) (fun σ' _ h => ⟨wc.heap.size, fun hm => ?_, h, by rw [cell_of_row _ _ _ _ _ _ (heap_alloc_new wc _)]; rfl, by rw [cell_of_row _ _ _ _ _ _ (heap_alloc_new wc _)]; rfl⟩))
            have h1 := (hOw.lt _ (mem_ownS.1 hm)).2
            have h2 := hkc.size
            omega
          · obtain ⟨gb, b1, b2, b3, b4⟩ := hp 6 (by decide) (by kernel_rfl)
            have hb := hbc rfl
            exact op_pushT rfl rfl Try.underlying34 hiQ hz0Q hz1Q hz2Q w4.heap.size ((3 : Int), (i : Int)) gb rfl ((hr 53 (by decide)).trans (hp 4 (by decide) (by kernel_rfl))) ((hr 55 (by decide)).trans b2) (hOw.below hb) ⟨b3, b4⟩ HLN.out (Nat.le_trans hs5 hb.size) (fun v' w' hO hg => hK v' w' (kept_ownS hg) (fun σ' _ h => by show OwnT _ _ _ (σ' 7) _; rw [h]; exact hO))
          · exact op_value rfl rfl (run_idxPa (j := 0) wc rfl ((hr 49 (by decide)).trans (hp 0 (by decide) (by kernel_rfl))) rfl (by omega)) (hK _ wc (Kept.refl _ _) (fun σ' _ h => h))
          · exact op_value rfl rfl (run_fldPa1 wc rfl ((hr 57 (by decide)).trans (hp 8 (by decide) (by kernel_rfl)))) (hK _ wc (Kept.refl _ _) (fun σ' _ h => h)))
          (fun σ wc hkc hp => by
            have p0 : σ 0 = _ := hp 0 (by decide)
            have p1 : σ 1 = _ := hp 1 (by decide)
            have p2 : σ 2 = _ := hp 2 (by decide)
            have p3 : σ 3 = _ := hp 3 (by decide)
            have p4 : σ 4 = _ := hp 4 (by decide)
            have p5 : σ 5 = _ := hp 5 (by decide)
            obtain ⟨gb, -, p6, -, -⟩ := hp 6 (by decide)
            have p7 : OwnT 47 wc w4.heap.size (σ 7) (fillM xs 3 i ++ [((3 : Int), (i : Int))]) := hp 7 (by decide)
            have p8 : σ 8 = _ := hp 8 (by decide)
            have p9 : σ 9 = _ := hp 9 (by decide)
            obtain ⟨v', ev⟩ : ∃ v', v' = σ 7 := ⟨_, rfl⟩
            rw [← ev] at p7
            have etb : tbS [49, 50, 51, 52, 53, 54, 55, 56, 57, 58] 10 σ = [(49, .slice (some ⟨gT, 0, none⟩) 1 4), (50, .slice (some ⟨gT, 0, none⟩) 1 4), (51, .pointer (some ⟨gT, 0 + 0 * 2, none⟩)), (52, .pointer (some ⟨gT, 0 + 0 * 2 + 1, none⟩)), (53, vP), (54, .agg #[.int .i64 ((3 : Int), (i : Int)).1, .int .i64 ((3 : Int), (i : Int)).2]), (55, .slice (some ⟨gb, 0, none⟩) 1 1), (56, v'), (57, .pointer (some ⟨gT, 0 + 0 * 2, none⟩)), (58, .pointer (some ⟨gT, 0 + 0 * 2 + 1, none⟩))] := by
              show [(49, σ 0), (50, σ 1), (51, σ 2), (52, σ 3), (53, σ 4), (54, σ 5), (55, σ 6), (56, σ 7), (57, σ 8), (58, σ 9)] = _
              rw [p0, p1, p2, p3, p4, p5, p6, p8, p9, ev]
            rw [etb]
            rw [← HV.out] at p7
            have hPc : PartB wc gT vP := (hkc.block gT hPB5.lt HTS.out).trans hPB5
            obtain ⟨a', c', rfl, -, -⟩ := p7.shape
            have hnT := p7.neT hPc (by decide)
            have hkN : Kept [gT] w4 wc := Kept.fresh hK5 hkc (fun x hx => (hOw.lt x (mem_ownS.1 hx)).1)
            exact op_skip rfl rfl (run_storeSl wc rfl (eval_setAll 58 (show ([49, 50, 51, 52, 53, 54, 55, 56, 57, 58] : List Nat).Nodup by decide) (by kernel_rfl)) (eval_setAll 56 (show ([49, 50, 51, 52, 53, 54, 55, 56, 57, 58] : List Nat).Nodup by decide) (by kernel_rfl)) (hPc.cell 1) (frozen_of_row wc gT _ _ _ hPc)) ⟨rfl, gb, _, rfl, hPc.set _, p7.setOther ⟨gT, 1, none⟩ _ hnT, hkN.setCell (p := ⟨gT, 1, none⟩) (by simp) _⟩)) ?_
        rintro e a' w' ⟨rfl, gb, v', rfl, hPB', hO', hK'⟩
        dsimp only [setAll, List.set, List.append_nil, List.cons_append, List.nil_append]
        clear hPB5 hK5 hOw cP x0 x1 hs5 HTS HGPS HLN HV
        go_wp2_with fail
        go_roundw
        case rel =>
          have := HLI.out
          first | exact ⟨i + 1, by omega, by go_num, v', hPB', hO', hK'⟩ | ((repeat apply Exists.intro); exact ⟨⟨i + 1, by omega, by go_num, v', hPB', hO', hK'⟩, by first | rfl | (rw [dx]; rfl)⟩)
        case measure =>
          have := HLI.out
          simp [intOf]
          omega
      · have hxne : ¬ xs = [] := fun e => hxs (by rw [← HNX.out, e]; rfl)
        obtain ⟨r, er⟩ : ∃ r, r = i % nx := ⟨_, rfl⟩
        have hrx : r < nx := by rw [er]; exact Nat.mod_lt _ (by omega)
        have hrm : ((i : Int)).tmod (nx : Int) = (r : Int) := by rw [er, Int.tmod_eq_emod_of_nonneg (by omega)]; simp
        have hrn : ((i : Int)) % (nx : Int) = (r : Int) := by rw [er]; simp
        have hnz : ((nx : Int) == 0) = false := beq_eq_false_iff_ne.2 (by omega)
        have hnz' : (nx : Int) ≠ 0 := by omega
        obtain ⟨y, ey⟩ : ∃ y, y = xs.getD r (0, 0) := ⟨_, rfl⟩
        have HV := hid (show fillM xs 3 (i + 1) = fillM xs 3 i ++ [y] by rw [fillM_succ, if_neg hxne, ey, er, HNX.out])
        have hrl : r < xs.length := by rw [HNX.out]; exact hrx
        have hbwr : Below w.heap.size w wr := hbw4.trans (hKr.below hbw4.size (by have h1 := hbw3.size; intro x hx; simp at hx; omega))
        obtain ⟨gs, os, rfl, hcx⟩ := (hX.below hbwr).at hrl
        obtain ⟨s0, s1⟩ := hcx r hrl
        rw [← ey] at s0 s1
        clear hcx er ey hrl hbwr
        have dx : decide ((0 : Int) < (nx : Int)) = true := by simp; omega
        have dx' : decide (0 < nx) = true := by simp; omega
        have hb0 := (Below.refl wr.heap.size wr).alloc (Nat.le_refl _) (.cells #[.int .i64 3, .int .i64 i] 47)
        have m0 := (hb0.cell (World.block_lt_of_cell? wr _ s0)).trans s0
        have m1 := (hb0.cell (World.block_lt_of_cell? wr _ s1)).trans s1
        have hb5 := (Below.refl wr.heap.size wr).alloc (Nat.le_refl _) (.cells #[.int .i64 y.1, .int .i64 y.2] 47)
        have hPB5 : PartB (wr.alloc (.cells #[.int .i64 y.1, .int .i64 y.2] 47)) gT vP := (Below.heap_alloc _ _ _ hPB.lt).trans hPB
        have hOw := hOP.below hb5
        have hK5 := hKr.alloc (.cells #[.int .i64 y.1, .int .i64 y.2] 47)
        have cP : (wr.alloc (.cells #[.int .i64 y.1, .int .i64 y.2] 47)).cell? ⟨gT, 0 + 0 * 2 + 1, none⟩ = some vP := hPB5.cell 1
        have x0 : (wr.alloc (.cells #[.int .i64 y.1, .int .i64 y.2] 47)).cell? ⟨wr.heap.size, 0, none⟩ = some (.int .i64 y.1) := by rw [cell_of_row _ _ _ _ _ _ (heap_alloc_new wr _)]; rfl
        have x1 : (wr.alloc (.cells #[.int .i64 y.1, .int .i64 y.2] 47)).cell? ⟨wr.heap.size, 1, none⟩ = some (.int .i64 y.2) := by rw [cell_of_row _ _ _ _ _ _ (heap_alloc_new wr _)]; rfl
        have hs5 : w4.heap.size ≤ (wr.alloc (.cells #[.int .i64 y.1, .int .i64 y.2] 47)).heap.size := Nat.le_trans hKr.size hb5.size
        have HTS := hid (show gT ∉ ownS vP from fun h => hOw.neT hPB5 (by decide) (mem_ownS.1 h))
        have HGPS := hid (show wr.heap.size ∉ ownS vP from fun h => by have := (hOP.lt _ (mem_ownS.1 h)).2; omega)
        have HLN := hid (show (fillM xs 3 i).length < 1000000 by rw [fillM_length]; omega)
        clear hxs hxne hb0 s0 s1
        go_upto_region 10 with fail
        clear m0 m1
        clear hb5 hPB hOP hKr
        generalize wr.alloc (.cells #[.int .i64 y.1, .int .i64 y.2] 47) = w5 at *
        generalize wr.heap.size = gp at *
        refine wp_mono (region_sigU (Q := fun e a' w' => e = .normal ∧ ∃ gb v', a' = { tmps := (setAll _ [(49, .slice (some ⟨gT, 0, none⟩) 1 4), (50, .slice (some ⟨gT, 0, none⟩) 1 4), (51, .pointer (some ⟨gT, 0 + 0 * 2, none⟩)), (52, .pointer (some ⟨gT, 0 + 0 * 2 + 1, none⟩)), (53, vP), (54, .agg #[.int .i64 y.1, .int .i64 y.2]), (55, .slice (some ⟨gb, 0, none⟩) 1 1), (56, v'), (57, .pointer (some ⟨gT, 0 + 0 * 2, none⟩)), (58, .pointer (some ⟨gT, 0 + 0 * 2 + 1, none⟩))]).toArray, defers := [] } ∧ PartB w' gT v' ∧ OwnT 47 w' w4.heap.size v' (fillM xs 3 (i + 1)) ∧ Kept [gT] w4 w') 11 10 7 (ownS vP) [49, 50, 51, 52, 53, 54, 55, 56, 57, 58]
          [[8], [8], [50], [51], [52], [10], [54], [53, 55], [49], [57]] [8, 8, 8, 8, 8, 8, 8, 8, 9, 10] (mem2 gT vP (fillM xs 3 i) y w4.heap.size) w5 hmix rfl (by decide) rfl (by decide) (by kernel_rfl) (by kernel_rfl) (by kernel_rfl) (by kernel_rfl) (by kernel_rfl) (by kernel_rfl) (fun j hj σ σ' w0 he hp => mem2_cong j σ σ' w0 (he j (Or.inl rfl)) hp) mem2_mono mem2_monoS (fun i' hi' σ ac wc hkc hbc hp hr Q K hK => by
          have h10 : i' = 0 ∨ i' = 1 ∨ i' = 2 ∨ i' = 3 ∨ i' = 4 ∨ i' = 5 ∨ i' = 6 ∨ i' = 7 ∨ i' = 8 ∨ i' = 9 := by omega
          rcases h10 with rfl | rfl | rfl | rfl | rfl | rfl | rfl | rfl | rfl | rfl
          · exact op_value rfl rfl (run_moveQ wc rfl (hr 8 (by decide))) (hK _ wc (Kept.refl _ _) (fun σ' _ h => h))
          · exact op_value rfl rfl (run_moveQ wc rfl (hr 8 (by decide))) (hK _ wc (Kept.refl _ _) (fun σ' _ h => h))
          · exact op_value rfl rfl (run_idxPa (j := 0) wc rfl ((hr 50 (by decide)).trans (hp 1 (by decide) (by kernel_rfl))) rfl (by omega)) (hK _ wc (Kept.refl _ _) (fun σ' _ h => h))
          · exact op_value rfl rfl (run_fldPa1 wc rfl ((hr 51 (by decide)).trans (hp 2 (by decide) (by kernel_rfl)))) (hK _ wc (Kept.refl _ _) (fun σ' _ h => h))
          · exact op_value rfl rfl (run_loadRw wc rfl ((hr 52 (by decide)).trans (hp 3 (by decide) (by kernel_rfl))) (hkc.cellG cP HTS.out)) (hK _ wc (Kept.refl _ _) (fun σ' _ h => h))
          · exact op_value rfl rfl (run_loadPt (p := y) wc rfl (hr 10 (by decide)) ⟨hkc.cellG x0 HGPS.out, hkc.cellG x1 HGPS.out⟩) (hK _ wc (Kept.refl _ _) (fun σ' _ h => h))
          · refine op_value rfl rfl (run_buildPt1 (p := y) wc rfl ((hr 54 (by decide)).trans (hp 5 (by decide) (by kernel_rfl)))) (hK _ _ ((Kept.refl _ wc).alloc _) (fun σ' _ h => ⟨wc.heap.size, fun hm => ?_, h, by rw [cell_of_row _ _ _ _ _ _ (heap_alloc_new wc _)]; rfl, by rw [cell_of_row _ _ _ _ _ _ (heap_alloc_new wc _)]; rfl⟩))
            have h1 := (hOw.lt _ (mem_ownS.1 hm)).2
            have h2 := hkc.size
            omega
          · obtain ⟨gb, b1, b2, b3, b4⟩ := hp 6 (by decide) (by kernel_rfl)
            have hb := hbc rfl
            exact op_pushT rfl rfl Try.underlying34 hiQ hz0Q hz1Q hz2Q w4.heap.size y gb rfl ((hr 53 (by decide)).trans (hp 4 (by decide) (by kernel_rfl))) ((hr 55 (by decide)).trans b2) (hOw.below hb) ⟨b3, b4⟩ HLN.out (Nat.le_trans hs5 hb.size) (fun v' w' hO hg => hK v' w' (kept_ownS hg) (fun σ' _ h => by show OwnT _ _ _ (σ' 7) _; rw [h]; exact hO))
          · exact op_value rfl rfl (run_idxPa (j := 0) wc rfl ((hr 49 (by decide)).trans (hp 0 (by decide) (by kernel_rfl))) rfl (by omega)) (hK _ wc (Kept.refl _ _) (fun σ' _ h => h))
          · exact op_value rfl rfl (run_fldPa1 wc rfl ((hr 57 (by decide)).trans (hp 8 (by decide) (by kernel_rfl)))) (hK _ wc (Kept.refl _ _) (fun σ' _ h => h)))
          (fun σ wc hkc hp => by
            have p0 : σ 0 = _ := hp 0 (by decide)
            have p1 : σ 1 = _ := hp 1 (by decide)
            have p2 : σ 2 = _ := hp 2 (by decide)
            have p3 : σ 3 = _ := hp 3 (by decide)
            have p4 : σ 4 = _ := hp 4 (by decide)
            have p5 : σ 5 = _ := hp 5 (by decide)
            obtain ⟨gb, -, p6, -, -⟩ := hp 6 (by decide)
            have p7 : OwnT 47 wc w4.heap.size (σ 7) (fillM xs 3 i ++ [y]) := hp 7 (by decide)
            have p8 : σ 8 = _ := hp 8 (by decide)
            have p9 : σ 9 = _ := hp 9 (by decide)
            obtain ⟨v', ev⟩ : ∃ v', v' = σ 7 := ⟨_, rfl⟩
            rw [← ev] at p7
            have etb : tbS [49, 50, 51, 52, 53, 54, 55, 56, 57, 58] 10 σ = [(49, .slice (some ⟨gT, 0, none⟩) 1 4), (50, .slice (some ⟨gT, 0, none⟩) 1 4), (51, .pointer (some ⟨gT, 0 + 0 * 2, none⟩)), (52, .pointer (some ⟨gT, 0 + 0 * 2 + 1, none⟩)), (53, vP), (54, .agg #[.int .i64 y.1, .int .i64 y.2]), (55, .slice (some ⟨gb, 0, none⟩) 1 1), (56, v'), (57, .pointer (some ⟨gT, 0 + 0 * 2, none⟩)), (58, .pointer (some ⟨gT, 0 + 0 * 2 + 1, none⟩))] := by
              show [(49, σ 0), (50, σ 1), (51, σ 2), (52, σ 3), (53, σ 4), (54, σ 5), (55, σ 6), (56, σ 7), (57, σ 8), (58, σ 9)] = _
              rw [p0, p1, p2, p3, p4, p5, p6, p8, p9, ev]
            rw [etb]
            rw [← HV.out] at p7
            have hPc : PartB wc gT vP := (hkc.block gT hPB5.lt HTS.out).trans hPB5
            obtain ⟨a', c', rfl, -, -⟩ := p7.shape
            have hnT := p7.neT hPc (by decide)
            have hkN : Kept [gT] w4 wc := Kept.fresh hK5 hkc (fun x hx => (hOw.lt x (mem_ownS.1 hx)).1)
            exact op_skip rfl rfl (run_storeSl wc rfl (eval_setAll 58 (show ([49, 50, 51, 52, 53, 54, 55, 56, 57, 58] : List Nat).Nodup by decide) (by kernel_rfl)) (eval_setAll 56 (show ([49, 50, 51, 52, 53, 54, 55, 56, 57, 58] : List Nat).Nodup by decide) (by kernel_rfl)) (hPc.cell 1) (frozen_of_row wc gT _ _ _ hPc)) ⟨rfl, gb, _, rfl, hPc.set _, p7.setOther ⟨gT, 1, none⟩ _ hnT, hkN.setCell (p := ⟨gT, 1, none⟩) (by simp) _⟩)) ?_
        rintro e a' w' ⟨rfl, gb, v', rfl, hPB', hO', hK'⟩
        dsimp only [setAll, List.set, List.append_nil, List.cons_append, List.nil_append]
        clear hPB5 hK5 hOw cP x0 x1 hs5 HTS HGPS HLN HV
        go_wp2_with fail
        go_roundw
        case rel =>
          have := HLI.out
          first | exact ⟨i + 1, by omega, by go_num, v', hPB', hO', hK'⟩ | ((repeat apply Exists.intro); exact ⟨⟨i + 1, by omega, by go_num, v', hPB', hO', hK'⟩, by first | rfl | (rw [dx]; rfl)⟩)
        case measure =>
          have := HLI.out
          simp [intOf]
          omega
    · obtain rfl : i = L := by omega
      clear hlt hi
      have hwT : w.heap.size ≤ gT := by have := hbw3.size; omega
      have hgGT : gG ≠ gT := by have := hb2.size; have := hb3.size; omega
      have hgXT : gX ≠ gT := by have h1 := (Array.getElem?_eq_some_iff.1 hXb).1; have := hb3.size; omega
      have hgST : gS ≠ gT := by have h1 := hSA.lt; have := hb3.size; omega
      have hG2 := (hb2.block gG hsz1).trans hGb
      have hG3 := (hb3.block gG (Array.getElem?_eq_some_iff.1 hG2).1).trans hG2
      have hG4 := (hb34.block gG (Array.getElem?_eq_some_iff.1 hG3).1).trans hG3
      have hM : MemAt w wr B a n c ss gG gX gS gT w4.heap.size vP (fillM xs 3 i) := ⟨hbw4.trans (hKr.below hbw4.size (by simpa using hwT)), (hKr.block gG (Array.getElem?_eq_some_iff.1 hG4).1 (by simpa using hgGT)).trans hG4, (hKr.block gX (Array.getElem?_eq_some_iff.1 hXb4).1 (by simpa using hgXT)).trans hXb4, (hKr.block gS hSA4.lt (by simpa using hgST)).trans hSA4, hPB, hOP⟩
      have hOvr : OwnT 39 wr w2.heap.size (.slice av i cv) PL := by
        refine World.ownsRow.kept hOv4 (row := some gT) ⟨hKr.os, hKr.tape, hKr.output, hKr.size, fun k hk hn => hKr.block k hk (by simpa [eq_comm] using hn)⟩ (.inr ?_)
        intro e
        have := HVB.out gT e
        omega
      have hSL := spoiltL (-7) 0 (.slice av i cv) i _ w2.heap.size (ownS (.slice av i cv)) wr (by have := HL.out; rw [this] at hOvr ⊢; exact hOvr) (by have := hb3.size; have := hb34.size; have := hKr.size; omega) (fun k hk => mem_ownS.2 hk) (by omega)
      have hMS : ∀ wz, Kept (ownS (.slice av i cv)) wr wz → MemAt w wz B a n c ss gG gX gS gT w4.heap.size vP (fillM xs 3 i) := fun wz hk => by
        have hlw : ∀ x ∈ ownS (.slice av i cv), w.heap.size ≤ x := fun x hx => Nat.le_trans hbw2.size (World.ownsRow.lt hOvr x (mem_ownS.1 hx)).1
        refine hM.kept hk hlw (fun hm => ?_) (fun hm => ?_) (fun hm => ?_) (fun hm => ?_) (fun x hm he => ?_)
        · exact hOvr.neT hM.gg (by decide) (mem_ownS.1 hm)
        · exact hOvr.neT hM.gx (by decide) (mem_ownS.1 hm)
        · exact hOvr.neT hM.arr (by decide) (mem_ownS.1 hm)
        · exact hOvr.neT hM.part (by decide) (mem_ownS.1 hm)
        · rcases hM.own.2 with ⟨e1, _⟩ | ⟨g, cap, cur, e1, _, e3, _⟩
          · rw [e1] at he; cases he
          · have e' : g = x := by rw [e1] at he; simpa [Value.ownBlock] using he
            subst e'
            exact hOvr.neT e3 (by decide) (mem_ownS.1 hm)
      have hXL : (fillM xs 3 i).length ≤ 2016 := by rw [fillM_length]; exact hlb
      have hXG : gridErrM B ss = 0 → (fillM xs 3 i).length = (placesOfM (gN B) ss 1).length := fun h => by rw [fillM_length, HL.out, HP0.out (by rw [HG.out]; exact h)]
      have HMS := hid hMS
      have HXG := hid hXG
      have HXL := hid hXL
      have HLAY := hid (fun (wz : World) (h : MemAt w wz B a n c ss gG gX gS gT w4.heap.size vP (fillM xs 3 i)) => lay_mem h HN.out (by omega) hF hXL hXG)
      have HTAK := hid (fun (wz : World) (h : MemAt w wz B a n c ss gG gX gS gT w4.heap.size vP (fillM xs 3 i)) {rs : List (List (Int × Int))} {ar : Option Addr} {nr cr : Nat} (h1 : RowsP wz ar rs) (h2 : rs.length = nr) (h3 : nr ≤ 14) (h4 : ∀ i, i < nr → (rowAt rs i).length ≤ 144) (h5 : gridErrM B ss = 0 → rowsOk (gN B) rs = true ∧ takeM (gN B) ss rs 1 = fillM xs 3 i) => take_mem (cr := cr) h HN.out (by omega) hF hXL hXG h1 h2 h3 h4 h5)
      rw [← HG.out] at HLAY HTAK
      obtain ⟨X, eX⟩ : ∃ X, X = fillM xs 3 i := ⟨_, rfl⟩
      rw [← eX] at HMS HXG HXL HLAY HTAK
      clear hM hOvr hMS hXL hXG hPB hOP hKr hOv4 hSA4 hXb4 hG2 hG3 hG4 hgGT hgXT hgST hwT HVB hgT3 hb34 hSA hXb hb3 hb2 hGb q0 q1 hz0Q hz1Q hz2Q hiQ iQ eX hbw2 hbw3 hgS hgX HNX hX hzx hnil
      go_wp2_with fail
      refine hSL.mono ?_
      rintro e w5 ⟨rfl, hk5⟩
      have hM5 := HMS.out w5 hk5
      clear hSL hk5 HMS
      obtain ⟨c50, c51⟩ : w5.cell? ⟨gX, 0, none⟩ = some (.int .i64 B) ∧ w5.cell? ⟨gX, 1, none⟩ = some (.slice (some ⟨gS, 0, none⟩) n (n + 3)) := by constructor <;> (rw [cell_of_row _ _ _ _ _ _ hM5.gx]; rfl)
      go_wp2_with fail
      refine (HLAY.out w5 hM5).mono ?_
      rintro e w6 ⟨a6, n6, c6, rfl, hb6, hn6, hr6, -⟩
      have hM6 := hM5.below hb6
      obtain ⟨g6, gs6, N6, ls6, hR6⟩ : ∃ g gs N ls, 0 < n6 → a6 = some ⟨g, 0, none⟩ ∧ n6 = 14 ∧ N ≤ 144 ∧ RowsO w6 w5.heap.size g N gs ls 14 := by
        by_cases h : 0 < n6
        · obtain ⟨g, gs, N, ls, h1⟩ := hr6 h
          exact ⟨g, gs, N, ls, fun _ => h1⟩
        · exact ⟨0, fun _ => 0, 0, fun _ => [], fun h' => absurd h' h⟩
      have HR6 := hid hR6
      clear hr6 c50 c51 hR6
      go_wp2_with fail
      go_loopw [71] (fun q wr => ∃ j : Nat, j ≤ n6 ∧ q = .int .i64 j ∧ Kept ((List.range j).map gs6) w6 wr) (fun q _ => n6 - (intOf q).toNat)
      case atStart => exact ⟨0, Nat.zero_le _, rfl, Kept.refl _ _⟩
      case round =>
        obtain ⟨j, hj, rfl, hkj⟩ := hrel
        by_cases hltj : j < n6
        · have HLJ := hid hltj
          obtain ⟨rfl, hn14, hN6, hRO⟩ := HR6.out (by omega)
          have hj14 : j < 14 := by omega
          have hsub : ∀ x ∈ (List.range j).map gs6, x ∈ rowBs gs6 := fun x hx => by
            obtain ⟨t, ht, rfl⟩ := List.mem_map.1 hx
            exact mem_rowBs.2 ⟨t, by have := List.mem_range.1 ht; omega, rfl⟩
          have hcj : wr.cell? ⟨g6, j, none⟩ = some (.slice (some ⟨gs6 j, 0, none⟩) N6 N6) := hkj.cellG (hRO.cell hj14 hj14) (fun hm => hRO.notin hRO.top (by decide) (hsub _ hm))
          have hpj : PArr wr (gs6 j) (ls6 j) := (hkj.block (gs6 j) (hRO.row j hj14).lt (fun hm => by
            obtain ⟨t, ht, e⟩ := List.mem_map.1 hm
            have ht' := List.mem_range.1 ht
            have := hRO.inj t j (by omega) hj14 e
            omega)).trans (hRO.row j hj14)
          have hsp := spoiltP (-7) 0 (.slice (some ⟨gs6 j, 0, none⟩) N6 N6) N6 _ w5.heap.size [gs6 j] wr (hpj.owns (hRO.ge j hj14) (hRO.len j hj14) (by unfold maxLen; omega)) (Nat.le_trans hb6.size hkj.size) (fun k hk => by simp [Value.ownBlock] at hk; simp [hk]) (by omega)
          clear hpj hsub hRO hn14
          go_wp2_with fail
          refine hsp.mono ?_
          rintro e w7 ⟨rfl, hk7⟩
          have hk8 : Kept ((List.range (j + 1)).map gs6) w6 w7 := (hkj.wider (fun x hx => by
            obtain ⟨t, ht, rfl⟩ := List.mem_map.1 hx
            exact List.mem_map.2 ⟨t, List.mem_range.2 (by have := List.mem_range.1 ht; omega), rfl⟩)).trans (hk7.wider (fun x hx => by
            simp at hx
            exact List.mem_map.2 ⟨j, List.mem_range.2 (by omega), hx.symm⟩))
          clear hsp hk7 hkj hcj
          go_wp2_with fail
          go_roundw
          case rel => exact ⟨j + 1, by have := HLJ.out; omega, by go_num, hk8⟩
          case measure => have := HLJ.out; simp [intOf]; omega
        · obtain rfl : j = n6 := by omega
          have hb7 : Below w5.heap.size w5 wr := hb6.trans (hkj.below hb6.size (fun x hx => by
            obtain ⟨t, ht, rfl⟩ := List.mem_map.1 hx
            have ht' := List.mem_range.1 ht
            obtain ⟨-, hn14, -, hRO⟩ := HR6.out (by omega)
            exact hRO.ge t (by omega)))
          have hM7 := hM5.below hb7
          clear hb7 hkj HR6 hM6 hM5 hb6
          obtain ⟨c70, c71⟩ : wr.cell? ⟨gX, 0, none⟩ = some (.int .i64 B) ∧ wr.cell? ⟨gX, 1, none⟩ = some (.slice (some ⟨gS, 0, none⟩) n (n + 3)) := by constructor <;> (rw [cell_of_row _ _ _ _ _ _ hM7.gx]; rfl)
          go_wp2_with fail
          refine (HLAY.out wr hM7).mono ?_
          rintro e w8 ⟨a8, n8, c8, rfl, hb8, hn8, -, rs8, hrs8, hrl8, hrr8, hrt8⟩
          have hM8 := hM7.below hb8
          have HRT8 := hid hrt8
          have HRR8 := hid hrr8
          have HRL8 := hid hrl8
          clear hM7 hb8 c70 c71 hrt8 hrr8 hrl8 HLAY
          obtain ⟨c80, c81⟩ : w8.cell? ⟨gX, 0, none⟩ = some (.int .i64 B) ∧ w8.cell? ⟨gX, 1, none⟩ = some (.slice (some ⟨gS, 0, none⟩) n (n + 3)) := by constructor <;> (rw [cell_of_row _ _ _ _ _ _ hM8.gx]; rfl)
          go_wp2_with fail
          refine (HTAK.out w8 hM8 hrs8 HRL8.out hn8 HRR8.out HRT8.out).mono ?_
          rintro e w9 ⟨a9, n9, c9, ys9, rfl, hb9, ho9, hn9, -⟩
          have hM9 := hM8.below hb9
          have hrs9 := hrs8.below hb9
          have hsp := spoiltP (-7) 0 (.slice a9 n9 c9) n9 ys9 w8.heap.size (ownS (.slice a9 n9 c9)) w9 ho9 hb9.size (fun k hk => mem_ownS.2 hk) (by omega)
          have HB9 := hid (fun x (hx : x ∈ ownS (.slice a9 n9 c9)) => (World.ownsRow.lt ho9 x (mem_ownS.1 hx)).1)
          clear c80 c81 ho9 hM9 hrs9
          go_wp2_with fail
          refine hsp.mono ?_
          rintro e w10 ⟨rfl, hk10⟩
          have hb10 : Below w8.heap.size w8 w10 := hb9.trans (hk10.below hb9.size HB9.out)
          have hM10 := hM8.below hb10
          have hrs10 := hrs8.below hb10
          clear hsp hk10 hb10 HB9 hb9 hM8 hrs8
          obtain ⟨c80, c81⟩ : w10.cell? ⟨gX, 0, none⟩ = some (.int .i64 B) ∧ w10.cell? ⟨gX, 1, none⟩ = some (.slice (some ⟨gS, 0, none⟩) n (n + 3)) := by constructor <;> (rw [cell_of_row _ _ _ _ _ _ hM10.gx]; rfl)
          go_wp2_with fail
          refine (HTAK.out w10 hM10 hrs10 HRL8.out hn8 HRR8.out HRT8.out).mono ?_
          rintro e w11 ⟨a11, n11, c11, ys11, rfl, hb11, -, hn11, hP11⟩
          have hM11 := hM10.below hb11
          have HP11 := hid hP11
          clear c80 c81 hM10 hb11 hP11 hrs10 HTAK HRL8 HRR8 HRT8
          have hCK := check_any 0 [] 0 0 none w11 (fun h => absurd rfl h) rfl (by omega) (fun i hi => by omega)
          rw [show gridErrM 0 [] = 1 from rfl] at hCK
          go_wp2_with fail
          refine hCK.mono ?_
          rintro e w12 ⟨rfl, hb12⟩
          have hM12 := hM11.below hb12
          have HP12 := hid (fun (h : G = 0) => (⟨(HP11.out h).1, (HP11.out h).2.below hb12⟩ : n11 = X.length ∧ Pts w12 a11 X))
          clear hCK hb12 hM11 HP11
          obtain ⟨c80, c81⟩ : w12.cell? ⟨gX, 0, none⟩ = some (.int .i64 B) ∧ w12.cell? ⟨gX, 1, none⟩ = some (.slice (some ⟨gS, 0, none⟩) n (n + 3)) := by constructor <;> (rw [cell_of_row _ _ _ _ _ _ hM12.gx]; rfl)
          have c91 : w12.cell? ⟨gG, 1, none⟩ = some (.slice a n c) := by rw [cell_of_row _ _ _ _ _ _ hM12.gg]; rfl
          have hKP := keptS ss markS gS n a c w12 HN.out hz hM12.arr (hS.below hM12.bel)
          go_wp2_with fail
          refine hKP.mono ?_
          rintro e w13 ⟨rfl, hb13⟩
          have hM13 := hM12.below hb13
          have HP13 := hid (fun (h : G = 0) => (⟨(HP12.out h).1, (HP12.out h).2.below hb13⟩ : n11 = X.length ∧ Pts w13 a11 X))
          clear hKP hb13 hM12 HP12 c80 c81 c91
          have c21 := hM13.part.cell 1
          have c22 : w13.cell? ⟨gT, 2, none⟩ = some (.int .i64 (-7)) := hM13.part.cell 2
          obtain ⟨aP, cP, rfl, -, -⟩ := hM13.own.shape
          have c21' : w13.cell? ⟨gT, 1, none⟩ = some (.slice aP X.length cP) := c21
          have hpP := hM13.own.pts
          have hfin := hM13.bel
          clear c21 hM13
          by_cases hG : G = 0
          · obtain ⟨hn11', hP11⟩ := HP13.out hG
            have HG0 := hid hG
            have d1 : (G != 0) = false := by simpa using hG
            have hXm : X.length ≤ maxLen := by have := HXL.out; unfold maxLen; omega
            have hSP := same_points X X a11 aP c11 cP w13 hP11 hpP hXm hXm
            rw [decide_eq_true (show X = X from rfl)] at hSP
            clear hG
            go_wp2_with fail
            refine hSP.mono ?_
            rintro e w14 ⟨rfl, hb14⟩
            have e22 := (hb14.cell (World.block_lt_of_cell? _ _ c22)).trans c22
            have hfin' := hfin.trans (hb14.mono hfin.size)
            clear hSP hb14 c22 c21' hP11 hpP
            go_wp2_with fail
            go_ret
            exact ⟨rfl, hfin'⟩
          · have d1 : (G != 0) = true := by simpa using hG
            clear hG
            go_wp2_with fail
            go_ret
            exact ⟨rfl, hfin⟩
end Go.Proofs.Ytjpohfghibhkiad
