import Derived.Test.YtplkmkbambbemadGreatDoorK16
import Derived.Test.YtplkmkbambbemadGreatDoorK25
import Derived.Test.YtplkmkbambbemadGreatDoorK29
namespace Go.Proofs.YtplkmkbambbemadGreatDoor
open Go.ChangeShapes Go.WideShapes Go.ChangeAt Go.RowKit
theorem wrap64 {x : Int} (h1 : -9223372036854775808 ≤ x) (h2 : x ≤ 9223372036854775807) : IntKind.i64.wrap x = x := by simp [IntKind.wrap, IntKind.bits, IntKind.signed]; omega
theorem REar.below {w w' : World} {g : Nat} {S : Setg} {bytes : Int} {sums : List Int} (h : REar w g S bytes sums) (hb : Below w.heap.size w w') : REar w' g S bytes sums := by
  have hl := h.lt
  obtain ⟨gs, c, h1, h2, h3, h4⟩ := h
  exact ⟨gs, c, (hb.block g hl).trans h1, h2.below hb, Nat.lt_of_lt_of_le h3 hb.size, h4⟩
theorem hears_few {ps : List (Int × Int)} {order : Int} (h : hearsOk ps order = true) : (ps.length : Int) * order ≤ 4096 ∧ PtsIn 1000 ps := by
  unfold hearsOk at h
  rw [Bool.and_eq_true, Bool.and_eq_true, decide_eq_true_eq] at h
  refine ⟨h.1.2, fun i => ?_⟩
  by_cases hi : i < ps.length
  · have e : ps.getD i (0, 0) = ps[i] := by simp [List.getD, hi]
    have := List.all_eq_true.1 h.2 _ (List.getElem_mem hi)
    rw [e]
    exact of_decide_eq_true this
  · have e : ps.getD i (0, 0) = (0, 0) := by simp [List.getD, hi]
    rw [e]
    decide
theorem comes_bd {ps : List Nat} {xs : List Int} (hx : ∀ k, -1000 ≤ xs.getD k 0 ∧ xs.getD k 0 ≤ 1000) (j : Nat) : ∀ k : Nat, -1000 * (k : Int) ≤ comesTo ps xs j k ∧ comesTo ps xs j k ≤ 1000 * (k : Int)
  | 0 => by simp [comesTo]
  | k + 1 => by
    have ih := comes_bd (ps := ps) hx j k
    have h := hx k
    rw [comesTo]
    split <;> omega
theorem gath_bdL {s : List Int} {ps : List Nat} {xs : List Int} (hs : softOk s = true) (hx : ∀ k, -1000 ≤ xs.getD k 0 ∧ xs.getD k 0 ≤ 1000) (k : Nat) {j : Nat} (hj : j < s.length) : -100000 - 1000 * (k : Int) ≤ (gathTo s ps xs k).getD j 0 ∧ (gathTo s ps xs k).getD j 0 ≤ 100000 + 1000 * (k : Int) := by
  rw [gathTo_at s ps xs k hj]
  have h1 := soft_at hs j
  have h2 := comes_bd (ps := ps) hx j k
  omega
theorem noise_bd (U C k : Nat) : 0 ≤ (noiseTo U C).getD k 0 ∧ (noiseTo U C).getD k 0 ≤ 1 := by
  unfold noiseTo
  by_cases hj : k < C
  · have e : ((List.range C).map (noiseAt U)).getD k 0 = noiseAt U k := by simp [List.getD, hj]
    rw [e]
    exact b2i_bd _
  · have e : ((List.range C).map (noiseAt U)).getD k 0 = 0 := by simp [List.getD, hj]
    rw [e]
    omega
theorem heard_bd {h o : Nat} {ps : List (Int × Int)} (hh : h ≤ 3) (hin : PtsIn 1000 ps) (n : Nat) (k : Nat) : -8796093022208 ≤ (heardM h o ps n).getD k 0 ∧ (heardM h o ps n).getD k 0 ≤ 8796093022208 := by
  by_cases hk : k < (heardM h o ps n).length
  · have e : (heardM h o ps n).getD k 0 = (heardM h o ps n)[k] := by simp [List.getD, hk]
    rw [e]
    have hm := List.getElem_mem hk
    generalize (heardM h o ps n)[k] = x at hm
    unfold heardM at hm
    obtain ⟨p, hp, hx⟩ := List.mem_flatMap.1 hm
    unfold heardOf at hx
    obtain ⟨j, -, rfl⟩ := List.mem_map.1 hx
    have hp' := List.mem_of_mem_take hp
    obtain ⟨i, hi, ei⟩ := List.getElem_of_mem hp'
    have hq := hin i
    have ed : ps.getD i (0, 0) = ps[i] := by simp [List.getD, hi]
    rw [ed, ei] at hq
    have b1 := bestTo_bd (order := o) hh hq j 1 (2 ^ o)
    have b0 := bestTo_bd (order := o) hh hq j 0 (2 ^ o)
    unfold heardAt5
    omega
  · have e : (heardM h o ps n).getD k 0 = 0 := by simp [List.getD, hk]
    rw [e]
    omega
theorem Kept.freshL {S T : List Nat} {a b c : World} (h : Kept S a b) (k : Kept T b c) (ht : ∀ x ∈ T, a.heap.size ≤ x) : Kept S a c :=
  ⟨k.os.trans h.os, k.tape.trans h.tape, k.output.trans h.output, Nat.le_trans h.size k.size, fun i hi hn => (k.block i (Nat.lt_of_lt_of_le hi h.size) (fun e => by have := ht i e; omega)).trans (h.block i hi hn)⟩
theorem REar.kept {w w' : World} {g : Nat} {S : Setg} {bytes : Int} {sums : List Int} {T : List Nat} (h : REar w g S bytes sums) (hk : Kept T w w') (hT : ∀ x ∈ T, w.heap.size ≤ x) : REar w' g S bytes sums := by
  have hb : Below w.heap.size w w' := hk.below (Nat.le_refl _) hT
  exact h.below hb
theorem ear_set {w : World} {g : Nat} {S : Setg} {b : Int} {gs n c g5 n5 c5 : Nat} (h : w.heap[g]? = some (.cells (earCells S b gs n c) 119 (0, 0))) : (w.setCell ⟨g, 6, none⟩ (.slice (some ⟨g5, 0, none⟩) n5 c5)).heap[g]? = some (.cells (earCells S b g5 n5 c5) 119 (0, 0)) := by
  rw [heap_setCell_same w g 6 _ _ _ h]
  rfl
def tkP (g9 d9 K M : Nat) (Z : List Int) : Nat → (Nat → Value) → World → Prop
  | 0, σ, _ => σ 0 = .slice (some ⟨g9, 0, none⟩) M d9
  | 1, σ, _ => σ 1 = .int .i64 (M : Int)
  | 2, σ, _ => σ 2 = .int .i64 (K : Int)
  | 3, σ, _ => σ 3 = .slice (some ⟨g9, 0, none⟩) K d9
  | 4, σ, w => ∃ b o c, σ 4 = .slice (some ⟨b, o, none⟩) 24 c ∧ Rd .u8 w (some ⟨b, o, none⟩) Z
  | 5, σ, _ => σ 5 = .slice (some ⟨g9, 0, none⟩) M d9
  | 6, σ, _ => σ 6 = .int .i64 (M : Int)
  | 7, σ, _ => σ 7 = .int .i64 (K : Int)
  | 8, σ, _ => σ 8 = .slice (some ⟨g9, 0 + K, none⟩) 24 (d9 - K)
  | _, _, _ => True
theorem tkP_mono {g9 d9 K M : Nat} {Z : List Int} (j : Nat) (σ : Nat → Value) (w w' : World) (h : tkP g9 d9 K M Z j σ w) (hg : w.grownBy w' none) : tkP g9 d9 K M Z j σ w' := by
  match j, h with
  | 0, h => exact h
  | 1, h => exact h
  | 2, h => exact h
  | 3, h => exact h
  | 4, ⟨b, o, c, h1, h2⟩ => exact ⟨b, o, c, h1, h2.below ⟨hg.os, hg.tape, hg.output, hg.size, fun k hk => hg.block k hk (fun e => by cases e)⟩⟩
  | 5, h => exact h
  | 6, h => exact h
  | 7, h => exact h
  | 8, h => exact h
  | n + 9, _ => trivial
theorem foundL_length {S : Setg} {n : Nat} {s : List Int} (h : S.code = 1 → n ≤ S.size.toNat) (hc : S.code = 0 ∨ S.code = 1) : (foundL S n s).length = n := by
  unfold foundL
  by_cases c0 : S.code = 0
  · rw [if_pos c0]; exact way_length _ _ _ _
  · rw [if_neg c0]
    unfold readM
    rw [List.length_map]
    exact places_length (h (by omega))
theorem foundL_bits (S : Setg) (n : Nat) (s : List Int) : AllBits (foundL S n s) := by
  unfold foundL
  split
  · exact (way_best _ _ _ _).bits
  · intro x hx
    obtain ⟨p, -, rfl⟩ := List.mem_map.1 hx
    exact (decP_bits _ _ _).at p
theorem clip_bd (x : Int) : -1000 ≤ clipM x ∧ clipM x ≤ 1000 := by
  unfold clipM
  split
  · omega
  · split <;> omega
theorem tell_bd (S : Setg) (ps : List (Int × Int)) (k : Nat) : -1000 ≤ (tellM S ps).getD k 0 ∧ (tellM S ps).getD k 0 ≤ 1000 := by
  by_cases hk : k < S.count.toNat
  · have e : (tellM S ps).getD k 0 = signM (clipM ((heardM (S.order.toNat / 2) S.order.toNat ps ps.length).getD k 0)) ((noiseTo S.seed.toNat S.count.toNat).getD k 0) := by simp [tellM, List.getD, hk]
    rw [e]
    have h := clip_bd ((heardM (S.order.toNat / 2) S.order.toNat ps ps.length).getD k 0)
    unfold signM
    split <;> omega
  · have e : (tellM S ps).getD k 0 = 0 := by simp [tellM, List.getD, hk]
    rw [e]
    omega
set_option maxRecDepth 100000 in
set_option maxHeartbeats 8000000 in
theorem rtake_good (S : Setg) (B : Nat) (sums : List Int) (g : Nat) (ps : List (Int × Int)) (v : Int) (a : Option Addr) (n c : Nat) (w : World) (hS : SetOk S B) (hsl : (sums.length : Int) = codedN S B) (hso : softOk sums = true) (hE : REar w g S B sums) (hP : Pts w a ps) (hn : ps.length = n) (hz : n ≤ 900000) (hok : earHears S ps v = true) :
    Calls Tryz.prog 38 #[.pointer (some ⟨g, 0, none⟩), .slice a n c, .int .i64 v] w fun e w' => e = .returned (earSays S B sums ps v).val ∧ REar w' g S B (earNext S sums ps v) ∧ Kept [g] w w' := by
  have hmix : Tryz.prog.follows .mixedOrders = true := by kernel_rfl
  have hve := fun wz => rversion_any v wz
  have hhe := fun (wz : World) (h : Pts wz a ps) => rhears_any ps S.order a c wz h (by omega)
  rw [hn] at hhe
  obtain ⟨gs, cs, ⟨c0, c1, c2, c3, c4, c5, c6⟩, hrs, hgs, hgg, hcs, hcm⟩ := hE.cells
  have HOK := hid hok
  unfold earHears at hok
  rw [Bool.and_eq_true] at hok
  rw [hok.1] at hve
  rw [hok.2] at hhe
  have HHE := hid (hhe w hP)
  have HVE := hid hve
  obtain ⟨O, eO⟩ : ∃ O : Nat, S.order = O := ⟨S.order.toNat, by have := hS.order; omega⟩
  obtain ⟨C, eC⟩ : ∃ C : Nat, S.count = C := ⟨S.count.toNat, by have := hS.order; have := hS.count.1; omega⟩
  obtain ⟨U, eU⟩ : ∃ U : Nat, S.seed = U := ⟨S.seed.toNat, by have := hS.seed.1; omega⟩
  have hO6 : 2 ≤ O ∧ O ≤ 6 := by have := hS.order; omega
  have hC4 : C ≤ 4096 := by have := hS.count.2.1; omega
  have hU : U < 2147483648 := by have := hS.seed.2; omega
  have HSV := hid (show earSays S B sums ps v = if (n : Int) * (O : Int) ≠ (C : Int) then ⟨ByteArray.empty, false, 3⟩ else if softOk (nextM sums (tellM S ps) v) = false then ⟨ByteArray.empty, false, 2⟩ else tookM S B (nextM sums (tellM S ps) v) by
    unfold earSays
    rw [HOK.out, if_neg (by decide), hn, eO, eC])
  have HNX := hid (show earNext S sums ps v = if (n : Int) * (O : Int) ≠ (C : Int) ∨ softOk (nextM sums (tellM S ps) v) = false then sums else nextM sums (tellM S ps) v by
    unfold earNext
    rw [HOK.out, hn, eO, eC]
    simp)
  rw [eO] at c2 HHE
  rw [eC] at c4
  rw [eU] at c3
  have hw1 : IntKind.i64.wrap ((n : Int) * (O : Int)) = (n : Int) * (O : Int) := by
    have h1 : (0 : Int) ≤ (n : Int) * (O : Int) := Int.mul_nonneg (by omega) (by omega)
    have h2 : (n : Int) * (O : Int) ≤ 900000 * 6 := Int.mul_le_mul (by omega) (by omega) (by omega) (by omega)
    exact wrap64 (by omega) (by omega)
  have HEO := hid eO
  have HEC := hid eC
  have HEU := hid eU
  have HS := hid hS
  have HSL := hid hsl
  have HE := hid hE
  have HW1 := hid hw1
  clear hhe hve hok eO eC eU hS hsl hE hw1
  go_enter Tryz.func38, Tryz.ntmps38
  go_wp2_with fail
  refine (HVE.out _).mono ?_
  rintro e w1 ⟨rfl, rfl⟩
  go_wp2_with fail
  refine HHE.out.mono ?_
  rintro e w1 ⟨rfl, rfl⟩
  go_upto_region 3 with fail
  have hcw : ∀ (wc : World), Below w.heap.size w wc → ∀ q v, w.cell? q = some v → wc.cell? q = some v := fun wc hbc q v h => (hbc.cell (World.block_lt_of_cell? w _ h)).trans h
  refine wp_mono (region_lastL (Q := fun e a' w' => e = .normal ∧ a' = ({ tmps := (_ : List Value).toArray, defers := [] } : Act) ∧ Below w.heap.size w w') 13 30 (.slice a n c) [(31, .int .i64 (n : Int)), (32, .pointer (some ⟨g, 0, none⟩)), (33, .pointer (some ⟨g, 0, none⟩)), (34, .pointer (some ⟨g, 0, none⟩)), (35, .pointer (some ⟨g, 0 + 2, none⟩)), (36, .int .i64 (O : Int)), (37, .int .i64 ((n : Int) * (O : Int))), (38, .pointer (some ⟨g, 0, none⟩)), (39, .pointer (some ⟨g, 0, none⟩)), (40, .pointer (some ⟨g, 0, none⟩)), (41, .pointer (some ⟨g, 0 + 4, none⟩)), (42, .int .i64 (C : Int))]
    [[1], [30], [0], [32], [33], [34], [35], [31, 36], [0], [38], [39], [40], [41]] [1, 7, 3, 4, 5, 6, 7, 13, 9, 10, 11, 12, 13] w hmix rfl rfl (show ([30, 31, 32, 33, 34, 35, 36, 37, 38, 39, 40, 41, 42] : List Nat).Nodup by decide) (by kernel_rfl) (by kernel_rfl) (by kernel_rfl) (by kernel_rfl) (by kernel_rfl) (fun i' hi' ac wc hbc hrd Q K hK => by
    have h13 : i' = 0 ∨ i' = 1 ∨ i' = 2 ∨ i' = 3 ∨ i' = 4 ∨ i' = 5 ∨ i' = 6 ∨ i' = 7 ∨ i' = 8 ∨ i' = 9 ∨ i' = 10 ∨ i' = 11 ∨ i' = 12 := by omega
    rcases h13 with rfl | rfl | rfl | rfl | rfl | rfl | rfl | rfl | rfl | rfl | rfl | rfl | rfl
    · exact op_value rfl rfl (run_moveQ wc rfl (hrd 1 (by decide))) (hK wc (grownL wc))
    · exact op_value rfl rfl (run_lenL wc rfl (hrd 30 (by decide))) (hK wc (grownL wc))
    · exact op_value rfl rfl (run_moveQ wc rfl (hrd 0 (by decide))) (hK wc (grownL wc))
    · exact op_value rfl rfl (run_nilL wc rfl (hrd 32 (by decide))) (hK wc (grownL wc))
    · exact op_value rfl rfl (run_fldEar0 wc rfl (hrd 33 (by decide))) (hK wc (grownL wc))
    · exact op_value rfl rfl (run_fldSet2 wc rfl (hrd 34 (by decide))) (hK wc (grownL wc))
    · exact op_value rfl rfl (run_loadI wc rfl (hrd 35 (by decide)) (hcw wc hbc _ _ c2)) (hK wc (grownL wc))
    · exact op_value rfl rfl (run_mulL wc rfl (hrd 31 (by decide)) (hrd 36 (by decide)) HW1.out) (hK wc (grownL wc))
    · exact op_value rfl rfl (run_moveQ wc rfl (hrd 0 (by decide))) (hK wc (grownL wc))
    · exact op_value rfl rfl (run_nilL wc rfl (hrd 38 (by decide))) (hK wc (grownL wc))
    · exact op_value rfl rfl (run_fldEar0 wc rfl (hrd 39 (by decide))) (hK wc (grownL wc))
    · exact op_value rfl rfl (run_fldSet4 wc rfl (hrd 40 (by decide))) (hK wc (grownL wc))
    · exact op_value rfl rfl (run_loadI wc rfl (hrd 41 (by decide)) (hcw wc hbc _ _ c4)) (hK wc (grownL wc)))
    (fun wc hbc => by
      refine op_value rfl rfl (run_neqL wc rfl (eval_setAll 37 (show ([30, 31, 32, 33, 34, 35, 36, 37, 38, 39, 40, 41, 42] : List Nat).Nodup by decide) (by kernel_rfl)) (eval_setAll 42 (show ([30, 31, 32, 33, 34, 35, 36, 37, 38, 39, 40, 41, 42] : List Nat).Nodup by decide) (by kernel_rfl))) ⟨rfl, put_list _ _ _, hbc⟩)) ?_
  rintro e a' w1 ⟨rfl, rfl, hb1⟩
  dsimp only [setAll, List.set, List.append_nil, List.cons_append, List.nil_append]
  by_cases hne : (n : Int) * (O : Int) ≠ (C : Int)
  · have k0 : ((n : Int) * (O : Int) != (C : Int)) = true := by simpa using hne
    have HA := hid (show earSays S B sums ps v = ⟨ByteArray.empty, false, 3⟩ by rw [HSV.out, if_pos hne])
    have HB := hid (show earNext S sums ps v = sums by rw [HNX.out, if_pos (Or.inl hne)])
    clear hne
    go_wp2_with fail
    go_ret3
    refine ⟨by rw [HA.out]; rfl, ?_, Kept.of_below hb1⟩
    rw [HB.out]
    exact HE.out.below hb1
  · have k0 : ((n : Int) * (O : Int) != (C : Int)) = false := by simpa using hne
    have hnC : n * O = C := by have h := Decidable.not_not.1 hne; exact_mod_cast h
    obtain ⟨hhl, hin⟩ := hears_few (show hearsOk ps S.order = true by have h := HOK.out; unfold earHears at h; rw [Bool.and_eq_true] at h; exact h.2)
    have hn4 : n ≤ 4096 := by
      have h1 : n * 1 ≤ n * O := Nat.mul_le_mul_left n (by omega)
      omega
    have hh2 : O = 2 * (O / 2) := by have := HS.out.order; have := HEO.out; omega
    have hhe := rheard_any O (O / 2) ps a n c w1 hh2 (by omega) (by omega) (hP.below hb1) hn hn4 hin
    obtain ⟨H, eH⟩ : ∃ H, H = heardM (O / 2) O ps n := ⟨_, rfl⟩
    have hHl : H.length = C := by rw [eH, heardM_length _ _ _ _ (by omega), hnC]
    rw [← eH] at hhe
    have HHH := hid eH
    have HNC := hid hnC
    have HHR := hid hhe
    have HSA := hid (show earSays S B sums ps v = if softOk (nextM sums (tellM S ps) v) = false then ⟨ByteArray.empty, false, 2⟩ else tookM S B (nextM sums (tellM S ps) v) by rw [HSV.out, if_neg hne])
    have HNA := hid (show earNext S sums ps v = if softOk (nextM sums (tellM S ps) v) = false then sums else nextM sums (tellM S ps) v by
      rw [HNX.out]
      by_cases hq : softOk (nextM sums (tellM S ps) v) = false
      · rw [if_pos (Or.inr hq), if_pos hq]
      · rw [if_neg (fun h => h.elim hne hq), if_neg hq])
    obtain ⟨V, eV⟩ : ∃ V : Nat, v = V := ⟨v.toNat, by have h := HOK.out; unfold earHears at h; rw [Bool.and_eq_true] at h; have := of_decide_eq_true h.1; omega⟩
    have hV : V ≤ 3 := by have h := HOK.out; unfold earHears at h; rw [Bool.and_eq_true] at h; have := of_decide_eq_true h.1; omega
    clear hne hhe eH hhl hh2 HSV HNX hnC
    go_wp2_with fail
    refine HHR.out.mono ?_
    rintro e w2 ⟨v2, rfl, hO2, hB2⟩
    have hB02 := hb1.trans (hB2.mono hb1.size)
    have c3' := hcw w2 hB02 _ _ c3
    have c4' := hcw w2 hB02 _ _ c4
    have hNE : Enters Tryz.prog 81 := enters_of Tryz.func81 (by kernel_rfl) rfl
    go_upto_region 6 with fail
    refine wp_mono (region_knownL (Q := fun e a' w' => e = .normal ∧ ∃ u, a' = ({ tmps := (((_ : List Value).set 61 u).set 10 u).toArray, defers := [] } : Act) ∧ Own w' w2.heap.size u (noiseTo U C) ∧ Below w2.heap.size w2 w') 12 10 51 (.pointer (some ⟨g, 0, none⟩)) [(52, .pointer (some ⟨g, 0, none⟩)), (53, .pointer (some ⟨g, 0, none⟩)), (54, .pointer (some ⟨g, 0 + 3, none⟩)), (55, .int .i64 (U : Int)), (56, .pointer (some ⟨g, 0, none⟩)), (57, .pointer (some ⟨g, 0, none⟩)), (58, .pointer (some ⟨g, 0, none⟩)), (59, .pointer (some ⟨g, 0 + 4, none⟩)), (60, .int .i64 (C : Int))]
      [[0], [51], [52], [53], [54], [0], [56], [57], [58], [59]] [1, 2, 3, 4, 10, 6, 7, 8, 9, 10] w2 hmix rfl (by decide) rfl (show ([51, 52, 53, 54, 55, 56, 57, 58, 59, 60] : List Nat).Nodup by decide) (by kernel_rfl) (by kernel_rfl) (by kernel_rfl) (by kernel_rfl) (by kernel_rfl) (by kernel_rfl) (fun i' hi' ac wc hbc hrd Q K hK => by
      have hor : i' = 0 ∨ i' = 1 ∨ i' = 2 ∨ i' = 3 ∨ i' = 4 ∨ i' = 5 ∨ i' = 6 ∨ i' = 7 ∨ i' = 8 ∨ i' = 9 := by omega
      rcases hor with rfl | rfl | rfl | rfl | rfl | rfl | rfl | rfl | rfl | rfl
      · exact op_value rfl rfl (run_moveQ wc rfl (hrd 0 (by decide))) (hK wc (grownL wc))
      · exact op_value rfl rfl (run_nilL wc rfl (hrd 51 (by decide))) (hK wc (grownL wc))
      · exact op_value rfl rfl (run_fldEar0 wc rfl (hrd 52 (by decide))) (hK wc (grownL wc))
      · exact op_value rfl rfl (run_fldSet3 wc rfl (hrd 53 (by decide))) (hK wc (grownL wc))
      · exact op_value rfl rfl (run_loadI wc rfl (hrd 54 (by decide)) (cell_later hbc c3')) (hK wc (grownL wc))
      · exact op_value rfl rfl (run_moveQ wc rfl (hrd 0 (by decide))) (hK wc (grownL wc))
      · exact op_value rfl rfl (run_nilL wc rfl (hrd 56 (by decide))) (hK wc (grownL wc))
      · exact op_value rfl rfl (run_fldEar0 wc rfl (hrd 57 (by decide))) (hK wc (grownL wc))
      · exact op_value rfl rfl (run_fldSet4 wc rfl (hrd 58 (by decide))) (hK wc (grownL wc))
      · exact op_value rfl rfl (run_loadI wc rfl (hrd 59 (by decide)) (cell_later hbc c4')) (hK wc (grownL wc)))
      (fun wc hbc => by
        refine op_callNL (us := #[.int .i64 (U : Int), .int .i64 (C : Int)]) rfl rfl rfl hNE (map2L (eval_setAll 55 (show ([51, 52, 53, 54, 55, 56, 57, 58, 59, 60] : List Nat).Nodup by decide) (by kernel_rfl)) (eval_setAll 60 (show ([51, 52, 53, 54, 55, 56, 57, 58, 59, 60] : List Nat).Nodup by decide) (by kernel_rfl))) (rnoise_any U C wc hU hC4) fun e w' hr' => ?_
        obtain ⟨u, rfl, hu, hb⟩ := hr'
        refine ⟨u, rfl, op_value rfl rfl (run_assignL w' rfl (v := u) ?_) ⟨rfl, u, ?_, hu.mono hbc.size, hbc.trans (hb.mono hbc.size)⟩⟩
        · exact Act.eval_put_same _ _ _ (by simp [setAll])
        · exact (congrArg (fun a => Act.put a (some 10) u) (put_list _ 61 u)).trans (put_list _ 10 u))) ?_
    rintro e a' w3 ⟨rfl, u3, rfl, hO3, hB3⟩
    dsimp only [setAll, List.set, List.append_nil, List.cons_append, List.nil_append]
    have hB03 := hB02.trans (hB3.mono hB02.size)
    have c4' := hcw w3 hB03 _ _ c4
    obtain ⟨N, eN⟩ : ∃ N, N = sums.length := ⟨_, rfl⟩
    have hNN : 1 ≤ N ∧ N ≤ 1050 := by
      have h := HSL.out
      obtain ⟨hby, hcd, -, -, -, hs0, hs1⟩ := HS.out
      unfold codedN at h
      by_cases c0 : S.code = 0
      · rw [if_pos c0] at h; omega
      · rw [if_neg c0] at h
        obtain ⟨m, hm, e⟩ := pow_of (hs1 (by omega)).1
        have : 2 ^ m ≤ 2 ^ 9 := Nat.pow_le_pow_right (by omega) hm
        have : 1 ≤ 2 ^ m := Nat.one_le_two_pow
        omega
    have hN1 : 1 ≤ N := hNN.1
    have hN4 : N ≤ 4096 := by omega
    rw [← eN] at c6 hcs
    have HEN := hid eN
    clear eN hNN
    have c6' := hcw w3 hB03 _ _ c6
    have hPE : Enters Tryz.prog 78 := enters_of Tryz.func78 (by kernel_rfl) rfl
    clear hNE c3'
    go_upto_region 7 with fail
    refine wp_mono (region_knownL (Q := fun e a' w' => e = .normal ∧ ∃ u, a' = ({ tmps := (((_ : List Value).set 73 u).set 11 u).toArray, defers := [] } : Act) ∧ OwnI w' w3.heap.size u (intsM (pickTo N V C)) ∧ Below w3.heap.size w3 w') 13 11 62 (.pointer (some ⟨g, 0, none⟩)) [(63, .pointer (some ⟨g, 0, none⟩)), (64, .pointer (some ⟨g, 0 + 6, none⟩)), (65, .slice (some ⟨gs, 0, none⟩) N cs), (66, .int .i64 (N : Int)), (67, .int .i64 (V : Int)), (68, .pointer (some ⟨g, 0, none⟩)), (69, .pointer (some ⟨g, 0, none⟩)), (70, .pointer (some ⟨g, 0, none⟩)), (71, .pointer (some ⟨g, 0 + 4, none⟩)), (72, .int .i64 (C : Int))]
      [[0], [62], [63], [64], [65], [2], [0], [68], [69], [70], [71]] [1, 2, 3, 4, 11, 11, 7, 8, 9, 10, 11] w3 hmix rfl (by decide) rfl (show ([62, 63, 64, 65, 66, 67, 68, 69, 70, 71, 72] : List Nat).Nodup by decide) (by kernel_rfl) (by kernel_rfl) (by kernel_rfl) (by kernel_rfl) (by kernel_rfl) (by kernel_rfl) (fun i' hi' ac wc hbc hrd Q K hK => by
      have hor : i' = 0 ∨ i' = 1 ∨ i' = 2 ∨ i' = 3 ∨ i' = 4 ∨ i' = 5 ∨ i' = 6 ∨ i' = 7 ∨ i' = 8 ∨ i' = 9 ∨ i' = 10 := by omega
      rcases hor with rfl | rfl | rfl | rfl | rfl | rfl | rfl | rfl | rfl | rfl | rfl
      · exact op_value rfl rfl (run_moveQ wc rfl (hrd 0 (by decide))) (hK wc (grownL wc))
      · exact op_value rfl rfl (run_nilL wc rfl (hrd 62 (by decide))) (hK wc (grownL wc))
      · exact op_value rfl rfl (run_fldEar2 wc rfl (hrd 63 (by decide))) (hK wc (grownL wc))
      · exact op_value rfl rfl (run_loadSI wc rfl (hrd 64 (by decide)) (cell_later hbc c6')) (hK wc (grownL wc))
      · exact op_value rfl rfl (run_lenIL wc rfl (hrd 65 (by decide))) (hK wc (grownL wc))
      · exact op_value rfl rfl (run_moveQ wc rfl (hrd 2 (by decide))) (hK wc (grownL wc))
      · exact op_value rfl rfl (run_moveQ wc rfl (hrd 0 (by decide))) (hK wc (grownL wc))
      · exact op_value rfl rfl (run_nilL wc rfl (hrd 68 (by decide))) (hK wc (grownL wc))
      · exact op_value rfl rfl (run_fldEar0 wc rfl (hrd 69 (by decide))) (hK wc (grownL wc))
      · exact op_value rfl rfl (run_fldSet4 wc rfl (hrd 70 (by decide))) (hK wc (grownL wc))
      · exact op_value rfl rfl (run_loadI wc rfl (hrd 71 (by decide)) (cell_later hbc c4')) (hK wc (grownL wc)))
      (fun wc hbc => by
        refine op_callNL (us := #[.int .i64 (N : Int), .int .i64 (V : Int), .int .i64 (C : Int)]) rfl rfl rfl hPE (map3L (eval_setAll 66 (show ([62, 63, 64, 65, 66, 67, 68, 69, 70, 71, 72] : List Nat).Nodup by decide) (by kernel_rfl)) (eval_setAll 67 (show ([62, 63, 64, 65, 66, 67, 68, 69, 70, 71, 72] : List Nat).Nodup by decide) (by kernel_rfl)) (eval_setAll 72 (show ([62, 63, 64, 65, 66, 67, 68, 69, 70, 71, 72] : List Nat).Nodup by decide) (by kernel_rfl))) (rpicked_any N V C wc hN1 hN4 hV hC4) fun e w' hr' => ?_
        obtain ⟨u, rfl, hu, hb⟩ := hr'
        refine ⟨u, rfl, op_value rfl rfl (run_assignL w' rfl (v := u) ?_) ⟨rfl, u, ?_, hu.mono hbc.size, hbc.trans (hb.mono hbc.size)⟩⟩
        · exact Act.eval_put_same _ _ _ (by simp [setAll])
        · exact (congrArg (fun a => Act.put a (some 11) u) (put_list _ 73 u)).trans (put_list _ 11 u))) ?_
    rintro e a' w4 ⟨rfl, u4, rfl, hO4, hB4⟩
    dsimp only [setAll, List.set, List.append_nil, List.cons_append, List.nil_append]
    have hB04 := hB03.trans (hB4.mono hB03.size)
    have c6' := hcw w4 hB04 _ _ c6
    have hr4 := hrs.below hB04
    clear hPE c4'
    go_wp2_with (at_builtin; go_must (refine wpList_copyL gs N cs sums HEN.out.symm hN1 hr4 rfl _ _ rfl rfl rfl (by omega) ?_))
    intro v5 w5 hO5 hB5
    have hB05 := hB04.trans (hB5.mono hB04.size)
    have hC1 : 1 ≤ C := by have h1 := HS.out.count.1; have h2 := HEO.out; have h3 := HEC.out; omega
    obtain ⟨g2, d2, rfl, hd2, -⟩ := hO2.shape1 hHl hC1
    obtain ⟨g3, d3, rfl, hd3, -⟩ := hO3.shapeL (noiseTo_length U C) hC1
    obtain ⟨g4, d4, rfl, hd4, -⟩ := hO4.shape1 (pickTo_length N V C) hC1
    obtain ⟨g5, d5, rfl, hd5, hdm⟩ := hO5.shape1 HEN.out.symm hN1
    have hg5 := hO5.block
    have hr2 := ((hO2.rd.below hB3).below hB4).below hB5
    have hr3 := (hO3.rd.below hB4).below hB5
    have hr4 := hO4.rd.below hB5
    have hl2 := hO2.block.2
    have hl3 := hO3.block.2
    have hl4 := hO4.block.2
    obtain ⟨T, eT⟩ : ∃ T, T = tellM S ps := ⟨_, rfl⟩
    have hTl : T.length = C := by rw [eT, tellM_length, HEC.out, Int.toNat_natCast]
    have hTb := tell_bd S ps
    rw [← eT] at hTb
    have HTK := hid (show ∀ k, k < C → T.getD k 0 = signM (clipM (H.getD k 0)) ((noiseTo U C).getD k 0) by
      intro k hk
      rw [eT, HHH.out]
      simp only [tellM, HEO.out, HEC.out, HEU.out, Int.toNat_natCast, hn]
      simp [List.getD, hk])
    obtain ⟨R, eR⟩ : ∃ R, R = nextM sums (tellM S ps) v := ⟨_, rfl⟩
    have HR := hid (show R = gathTo sums (pickTo N V C) T C by
      rw [eR, ← eT, eV]
      unfold nextM
      rw [hTl, ← HEN.out, Int.toNat_natCast])
    rw [← eR] at HSA HNA
    have HT := hid eT
    have HER := hid eR
    have HHL := hid hHl
    have HEV := hid eV
    have HHB := hid (show ∀ k, -8796093022208 ≤ H.getD k 0 ∧ H.getD k 0 ≤ 8796093022208 by rw [HHH.out]; exact heard_bd (by omega) hin n)
    have HTL := hid hTl
    have hs3 := hB3.size
    have hs4 := hB4.size
    clear hin c6' hO2 hO3 hO4 hB3 hB4 hB5 eT eR hHl hTl hB2
    go_wp2_with fail
    go_loopw [13] (fun i wr => ∃ k : Nat, k ≤ C ∧ i = .int .i64 k ∧ OwnI wr w4.heap.size (.slice (some ⟨g5, 0, none⟩) N d5) (gathTo sums (pickTo N V C) T k) ∧ Kept [g5] w5 wr) (fun i _ => C - (intOf i).toNat)
    case atStart => exact ⟨0, Nat.zero_le _, rfl, hO5, Kept.refl _ _⟩
    case round =>
      obtain ⟨k, hk, rfl, hown, hkp⟩ := hrel
      by_cases hlt : k < C
      · obtain ⟨x, ex⟩ : ∃ x, x = H.getD k 0 := ⟨_, rfl⟩
        obtain ⟨b, eb⟩ : ∃ b, b = (noiseTo U C).getD k 0 := ⟨_, rfl⟩
        obtain ⟨q, eq⟩ : ∃ q, q = pickM N V k := ⟨_, rfl⟩
        obtain ⟨y, ey⟩ : ∃ y, y = (gathTo sums (pickTo N V C) T k).getD q 0 := ⟨_, rfl⟩
        have hq : q < N := by rw [eq]; exact pickM_lt hN1
        have hxb : -8796093022208 ≤ x ∧ x ≤ 8796093022208 := by rw [ex]; exact HHB.out k
        have q1 := (hkp.rd hr2 (fun g' o' e => by cases e; simp; omega)).getL (j := k) (by rw [HHL.out]; exact hlt)
        have q2 := (hkp.rd hr3 (fun g' o' e => by cases e; simp; omega)).getL (j := k) (by rw [noiseTo_length]; exact hlt)
        have q3 := (hkp.rd hr4 (fun g' o' e => by cases e; simp; omega)).getL (j := k) (by rw [pickTo_length]; exact hlt)
        have hgl : (gathTo sums (pickTo N V C) T k).length = N := by rw [gathTo_length, HEN.out]
        have q4 := hown.cellI (i := q) (by rw [hgl]; exact hq)
        have hfr := hown.free q
        rw [intsM_at, pickTo_at hlt, ← eq, Nat.zero_add] at q3
        rw [← ex, Nat.zero_add] at q1
        rw [← eb, Nat.zero_add] at q2
        rw [← ey] at q4
        have hyb := gath_bdL hso hTb k (ps := pickTo N V C) (j := q) (by rw [← HEN.out]; exact hq)
        rw [← ey] at hyb
        have HST := hid (show ∀ t, t = signM (clipM x) b → OwnI (wr.setCell ⟨g5, q, none⟩ (.int .i64 (y + t))) w4.heap.size (.slice (some ⟨g5, 0, none⟩) N d5) (gathTo sums (pickTo N V C) T (k + 1)) by
          intro t et
          have h := hown.set q (y + t)
          rw [gathTo, pickTo_at hlt, ← eq, HTK.out k hlt, ← ex, ← eb, ← et, ← ey]
          exact h)
        have HKS := hid (show ∀ u, Kept [g5] w5 (wr.setCell ⟨g5, q, none⟩ u) from fun u => hkp.setCell (by simp) u)
        have hbb : b = 0 ∨ b = 1 := by rw [eb]; have := noise_bd U C k; omega
        have HLT := hid hlt
        clear ex eb eq ey hown hkp hgl hlt
        rcases (show 1000 < x ∨ x < -1000 ∨ (-1000 ≤ x ∧ x ≤ 1000) by omega) with hx | hx | hx <;> rcases hbb with rfl | rfl
        · have HV := hid (show (1000 : Int) = signM (clipM x) 0 by unfold signM clipM; rw [if_neg (by decide), if_neg (by omega), if_pos hx])
          go_wp2_with fail
          go_roundw
          case rel => exact ⟨k + 1, HLT.out, by go_num, HST.out _ HV.out, HKS.out _⟩
          case measure => have := HLT.out; simp [intOf]; omega
        · have HV := hid (show (-1000 : Int) = signM (clipM x) 1 by unfold signM clipM; rw [if_pos rfl, if_neg (by omega), if_pos hx])
          go_wp2_with fail
          go_roundw
          case rel => exact ⟨k + 1, HLT.out, by go_num, HST.out _ HV.out, HKS.out _⟩
          case measure => have := HLT.out; simp [intOf]; omega
        · have HV := hid (show (-1000 : Int) = signM (clipM x) 0 by unfold signM clipM; rw [if_neg (by decide), if_pos hx])
          go_wp2_with fail
          go_roundw
          case rel => exact ⟨k + 1, HLT.out, by go_num, HST.out _ HV.out, HKS.out _⟩
          case measure => have := HLT.out; simp [intOf]; omega
        · have HV := hid (show (1000 : Int) = signM (clipM x) 1 by unfold signM clipM; rw [if_pos rfl, if_pos hx]; rfl)
          go_wp2_with fail
          go_roundw
          case rel => exact ⟨k + 1, HLT.out, by go_num, HST.out _ HV.out, HKS.out _⟩
          case measure => have := HLT.out; simp [intOf]; omega
        · have HV := hid (show x = signM (clipM x) 0 by unfold signM clipM; rw [if_neg (by decide), if_neg (by omega), if_neg (by omega)])
          go_wp2_with fail
          go_roundw
          case rel => exact ⟨k + 1, HLT.out, by go_num, HST.out _ HV.out, HKS.out _⟩
          case measure => have := HLT.out; simp [intOf]; omega
        · have HV := hid (show -x = signM (clipM x) 1 by unfold signM clipM; rw [if_pos rfl, if_neg (by omega), if_neg (by omega)])
          go_wp2_with fail
          go_roundw
          case rel => exact ⟨k + 1, HLT.out, by go_num, HST.out _ HV.out, HKS.out _⟩
          case measure => have := HLT.out; simp [intOf]; omega
      · obtain rfl : k = C := by omega
        rw [← HR.out] at hown
        have hRl : R.length = N := by rw [HR.out, gathTo_length, HEN.out]
        have hks : Kept [g] w wr := Kept.freshL (Kept.of_below hB05) hkp (fun x hx => by have h := hB05.size; have h2 := hB04.size; simp at hx; omega)
        have hkn : Kept [g5] w wr := (Kept.of_below hB05).trans hkp
        have hfr : ∀ x ∈ [g5], w.heap.size ≤ x := fun x hx => by have h2 := hB04.size; simp at hx; omega
        have hso2 := rsoft_any R (some ⟨g5, 0, none⟩) d5 wr hown.rd (by unfold maxLen; omega)
        rw [hRl] at hso2
        have HSO := hid hso2
        have HRL := hid hRl
        clear hso2 hRl hkp hr2 hr3 hr4
        go_wp2_with fail
        refine HSO.out.mono ?_
        rintro e w6 ⟨rfl, rfl⟩
        cases hq : softOk R with
        | false =>
          have HA := hid (show earSays S B sums ps v = ⟨ByteArray.empty, false, 2⟩ by rw [HSA.out, if_pos hq])
          have HB := hid (show earNext S sums ps v = sums by rw [HNA.out, if_pos hq])
          clear hq
          go_wp2_with fail
          go_ret3
          refine ⟨by rw [← HEV.out, HA.out]; rfl, ?_, hks⟩
          rw [HB.out]
          exact HE.out.kept hkn hfr
        | true =>
          have HA := hid (show earSays S B sums ps v = tookM S B R by rw [HSA.out, if_neg (by rw [hq]; decide)])
          have HB := hid (show earNext S sums ps v = R by rw [HNA.out, if_neg (by rw [hq]; decide)])
          have HQ := hid hq
          clear hq
          obtain ⟨gs', cs', hrow0, -⟩ := HE.out
          have hgl : g < w.heap.size := HE.out.lt
          have hrow := (hkn.block g hgl (fun h => by have := hfr g h; omega)).trans hrow0
          have k6 : wr.cell? ⟨g, 6, none⟩ = some (.slice (some ⟨gs', 0, none⟩) sums.length cs') := by rw [cell_of_row _ _ _ _ _ _ hrow]; rfl
          have kf := frozen_of_row wr g 6 _ _ hrow
          have HROW := hid hrow
          clear hrow hrow0
          go_upto_region 23 with fail
          have hne5 : g5 ≠ g := by have h2 := hB04.size; omega
          have hk6 : Kept [g] wr (wr.setCell ⟨g, 6, none⟩ (.slice (some ⟨g5, 0, none⟩) N d5)) := (Kept.refl _ wr).setCell (by simp) _
          have hE7 : REar (wr.setCell ⟨g, 6, none⟩ (.slice (some ⟨g5, 0, none⟩) N d5)) g S B R := by
            refine ⟨g5, d5, ?_, hk6.rd hown.rd (fun g' o' e => by cases e; simp; exact hne5), Nat.lt_of_lt_of_le hown.block.2 hk6.size, hne5, by rw [HRL.out]; exact hd5, by assumption⟩
            rw [HRL.out]
            exact ear_set HROW.out
          have hk7 : Kept [g] w (wr.setCell ⟨g, 6, none⟩ (.slice (some ⟨g5, 0, none⟩) N d5)) := hks.trans hk6
          have hr7 : Rd .i64 (wr.setCell ⟨g, 6, none⟩ (.slice (some ⟨g5, 0, none⟩) N d5)) (some ⟨g5, 0, none⟩) R := hk6.rd hown.rd (fun g' o' e => by cases e; simp; exact hne5)
          clear hk6 hown hks hkn hfr HROW k6 kf
          generalize wr.setCell ⟨g, 6, none⟩ (.slice (some ⟨g5, 0, none⟩) N d5) = w7 at *
          obtain ⟨gs7, cs7, ⟨e0, e1, e2, e3, e4, e5, e6⟩, -⟩ := hE7.cells
          have HCE := hid (show ∀ wz, Below w7.heap.size w7 wz → wz.cell? ⟨g, 0, none⟩ = some (.int .i64 S.code) from fun wz hb => cell_later hb e0)
          have hB40 : (0 : Int) ≤ (B : Int) ∧ (B : Int) ≤ 40 := HS.out.few
          have hse := fun wz => sealed_eq (B : Int) wz hB40
          obtain ⟨M, eM⟩ : ∃ M, M = 8 * B + 24 := ⟨_, rfl⟩
          have hM : (8 : Int) * (B : Int) + 24 = (M : Int) := by omega
          rw [hM] at hse
          have hM4 : 24 ≤ M ∧ M ≤ 344 := by omega
          obtain ⟨D, eD⟩ : ∃ D, D = foundL S M R := ⟨_, rfl⟩
          have HM := hid eM
          have HD := hid eD
          have HDL := hid (show D.length = M by rw [eD]; exact foundL_length (fun h => by have h2 := (HS.out.size1 h).2; omega) HS.out.code)
          have HDB := hid (show AllBits D by rw [eD]; exact foundL_bits _ _ _)
          clear e1 e2 e3 e4 e6 eM eD hM
          rcases HS.out.code with hcd | hcd
          case' inl =>
            rw [hcd] at e0
            have hde := rdecode_any R M (some ⟨g5, 0, none⟩) d5 w7 hr7 (fun k => soft_at HQ.out k) (by have h := HSL.out; unfold codedN at h; rw [if_pos hcd] at h; have h2 := HRL.out; have h3 := HEN.out; have h4 := HM.out; omega) (by omega) (by rw [HRL.out]; exact hd5)
            rw [show way R M 0 0 = D by rw [HD.out]; unfold foundL; rw [if_pos hcd], HRL.out] at hde
            have HDE := hid hde
            clear hde hcd
            go_wp2_with fail
            refine (hse _).mono ?_
            rintro e w8 ⟨rfl, rfl⟩
            go_wp2_with fail
            refine HDE.out.mono ?_
            rintro e w9 ⟨v9, rfl, hO9, hB9⟩
          case' inr =>
            rw [hcd] at e0
            obtain ⟨p1, p2, p3⟩ := size_pow (HS.out.size1 hcd).1
            have hNs : N = 2 ^ sizeL S := by
              have h := HSL.out
              unfold codedN at h
              rw [if_neg (by omega), p1] at h
              have := HEN.out
              omega
            have hN5 : N ≤ 512 := by
              have : 2 ^ sizeL S ≤ 2 ^ 9 := Nat.pow_le_pow_right (by omega) p3
              omega
            have hMN : M ≤ N := by
              have h := (HS.out.size1 hcd).2
              have h4 := HM.out
              omega
            have hfo := rfound_any (sizeL S) R (some ⟨g5, 0, none⟩) N M d5 w7 hr7 HRL.out hNs hN5 hMN (fun k => soft_at HQ.out k)
            rw [show readM (placesM N M) (decP (sizeL S) R (openM N M)) = D by rw [HD.out]; unfold foundL; rw [if_neg (by omega), p2, ← hNs]] at hfo
            have HFO := hid hfo
            clear hfo hcd p1 p2 p3 hNs
            go_wp2_with fail
            refine (hse _).mono ?_
            rintro e w8 ⟨rfl, rfl⟩
            go_wp2_with fail
            refine HFO.out.mono ?_
            rintro e w9 ⟨v9, rfl, hO9, hB9⟩
          all_goals
            obtain ⟨g9, d9, rfl, hd9, hd9m⟩ := hO9.shapeL HDL.out (by omega)
            obtain ⟨K, eK⟩ : ∃ K, K = 8 * B := ⟨_, rfl⟩
            have hKM : (M : Int) - 24 = (K : Int) := by have := HM.out; omega
            have hKM2 : M = K + 24 := by have := HM.out; omega
            have hK320 : K ≤ 320 := by omega
            have hKw : IntKind.i64.wrap (K : Int) = (K : Int) := wrap64 (by omega) (by omega)
            have hr9 := hO9.rd
            have hcl : ∀ j, j < D.length → w9.cell? ⟨g9, 0 + j, none⟩ = some (.int .u8 (D.getD j 0)) := fun j hj => hr9.getL hj
            have hrt : Rd .u8 w9 (some ⟨g9, 0, none⟩) (D.take K) := Rd.take hcl K
            have hrd : Rd .u8 w9 (some ⟨g9, 0 + K, none⟩) (D.drop K) := Rd.drop hcl K
            have htl : (D.take K).length = K := by rw [List.length_take, HDL.out]; omega
            have hdl : (D.drop K).length = 24 := by rw [List.length_drop, HDL.out]; omega
            have htb : AllBits (D.take K) := fun x hx => HDB.out x (List.mem_of_mem_take hx)
            obtain ⟨X, eX⟩ : ∃ X, X = D.take K := ⟨_, rfl⟩
            obtain ⟨Y, eY⟩ : ∃ Y, Y = D.drop K := ⟨_, rfl⟩
            rw [← eX] at hrt htl htb
            rw [← eY] at hrd hdl
            obtain ⟨Z, eZ⟩ : ∃ Z, Z = ksum X 3 := ⟨_, rfl⟩
            have hZl : Z.length = 24 := by rw [eZ, ← kW3]; exact sumL_length _ _ _
            have HTK2 := hid (show tookM S B R = if Z = Y then ⟨strOfNums (packL X), true, 0⟩ else ⟨ByteArray.empty, false, 0⟩ by
              unfold tookM
              rw [← HM.out, ← HD.out, ← eK, ← eX, ← eY, ← eZ])
            have hsum := fun (wz : World) (h : Rd .u8 wz (some ⟨g9, 0, none⟩) X) => rsum3 X Z eZ (some ⟨g9, 0, none⟩) K d9 wz h htb.bits htl (by omega)
            have hsam := fun (wz : World) (b : Option Addr) (cb : Nat) (h1 : Rd .u8 wz b Z) (h2 : Rd .u8 wz (some ⟨g9, 0 + K, none⟩) Y) => same_bits Z Y b (some ⟨g9, 0 + K, none⟩) cb (d9 - K) wz h1 h2 (by unfold maxLen; omega) (by unfold maxLen; omega)
            rw [hZl, hdl] at hsam
            have hpk := fun (wz : World) (h : Rd .u8 wz (some ⟨g9, 0, none⟩) X) => rpack_ok X (some ⟨g9, 0, none⟩) d9 wz h htb.bits (by omega)
            rw [htl] at hpk
            have HSUM := hid hsum
            have HSAM := hid hsam
            have HPK := hid hpk
            have HKM := hid hKM
            have HKM2 := hid hKM2
            have HKW := hid hKw
            clear hsum hsam hpk hcl eX eY eZ eK hKM hKM2 hKw hO9 hr9 htl hdl hZl
            have hSE : Enters Tryz.prog 75 := enters_of Tryz.func75 (by kernel_rfl) rfl
            have hBE : Enters Tryz.prog 23 := enters_of Tryz.func23 (by kernel_rfl) rfl
            go_upto_region 28 with fail
            refine wp_mono (region_sig (Q := fun e a' w' => e = .normal ∧ ∃ y4, a' = { tmps := (((setAll _ [(136, .slice (some ⟨g9, 0, none⟩) M d9), (137, .int .i64 (M : Int)), (138, .int .i64 (K : Int)), (139, .slice (some ⟨g9, 0, none⟩) K d9), (140, y4), (141, .slice (some ⟨g9, 0, none⟩) M d9), (142, .int .i64 (M : Int)), (143, .int .i64 (K : Int)), (144, .slice (some ⟨g9, 0 + K, none⟩) 24 (d9 - K))]).set 145 (.bool (decide (Z = Y)))).set 146 (.bool (!decide (Z = Y)))).toArray, defers := [] } ∧ Below w9.heap.size w9 w') 11 9 [136, 137, 138, 139, 140, 141, 142, 143, 144]
              [[16], [15], [137], [136, 138], [139], [16], [15], [142], [141, 143]] [3, 2, 3, 4, 9, 8, 7, 8, 9] (tkP g9 d9 K M Z) w9 hmix rfl (by decide) rfl (by decide) (by kernel_rfl) (by kernel_rfl) (by kernel_rfl) (by kernel_rfl) (by kernel_rfl) (by kernel_rfl) (fun j hj σ σ' w0 he hp => by
                have e0' := he j (Or.inl rfl)
                have h9 : j = 0 ∨ j = 1 ∨ j = 2 ∨ j = 3 ∨ j = 4 ∨ j = 5 ∨ j = 6 ∨ j = 7 ∨ j = 8 := by omega
                rcases h9 with rfl | rfl | rfl | rfl | rfl | rfl | rfl | rfl | rfl
                · exact e0'.symm.trans hp
                · exact e0'.symm.trans hp
                · exact e0'.symm.trans hp
                · exact e0'.symm.trans hp
                · obtain ⟨b, o, c, h1, h2⟩ := hp
                  exact ⟨b, o, c, e0'.symm.trans h1, h2⟩
                · exact e0'.symm.trans hp
                · exact e0'.symm.trans hp
                · exact e0'.symm.trans hp
                · exact e0'.symm.trans hp) tkP_mono (fun i' hi' σ ac wc hbc hp hr Q K' hK => by
                have h9 : i' = 0 ∨ i' = 1 ∨ i' = 2 ∨ i' = 3 ∨ i' = 4 ∨ i' = 5 ∨ i' = 6 ∨ i' = 7 ∨ i' = 8 := by omega
                rcases h9 with rfl | rfl | rfl | rfl | rfl | rfl | rfl | rfl | rfl
                · exact op_value rfl rfl (run_moveQ wc rfl (hr 16 (by decide))) (hK _ wc (grownL wc) (fun σ' _ h => h))
                · exact op_value rfl rfl (run_moveQ wc rfl (hr 15 (by decide))) (hK _ wc (grownL wc) (fun σ' _ h => h))
                · exact op_value rfl rfl (run_subL wc rfl ((hr 137 (by decide)).trans (hp 1 (by decide) (by kernel_rfl))) rfl HKM.out HKW.out) (hK _ wc (grownL wc) (fun σ' _ h => h))
                · exact op_value rfl rfl (run_sliceTo wc rfl ((hr 136 (by decide)).trans (hp 0 (by decide) (by kernel_rfl))) ((hr 138 (by decide)).trans (hp 2 (by decide) (by kernel_rfl))) (by have := HKM2.out; omega) hd9) (hK _ wc (grownL wc) (fun σ' _ h => h))
                · refine op_callNL rfl rfl rfl hSE (map2L ((hr 139 (by decide)).trans (hp 3 (by decide) (by kernel_rfl))) rfl) (HSUM.out wc (hrt.below hbc)) fun e w' hr' => ?_
                  obtain ⟨b, o, cp, rfl, hz', hb⟩ := hr'
                  exact ⟨_, rfl, hK _ w' ⟨hb.os, hb.tape, hb.output, hb.size, fun b hb' _ => hb.block b hb'⟩ (fun σ' _ h => ⟨b, o, cp, h, hz'⟩)⟩
                · exact op_value rfl rfl (run_moveQ wc rfl (hr 16 (by decide))) (hK _ wc (grownL wc) (fun σ' _ h => h))
                · exact op_value rfl rfl (run_moveQ wc rfl (hr 15 (by decide))) (hK _ wc (grownL wc) (fun σ' _ h => h))
                · exact op_value rfl rfl (run_subL wc rfl ((hr 142 (by decide)).trans (hp 6 (by decide) (by kernel_rfl))) rfl HKM.out HKW.out) (hK _ wc (grownL wc) (fun σ' _ h => h))
                · exact op_value rfl rfl (run_sliceFrom wc rfl ((hr 141 (by decide)).trans (hp 5 (by decide) (by kernel_rfl))) ((hr 143 (by decide)).trans (hp 7 (by decide) (by kernel_rfl))) (by have := HKM2.out; omega) (by have := HKM2.out; omega)) (hK _ wc (grownL wc) (fun σ' _ h => h.trans (by rw [show M - K = 24 by have := HKM2.out; omega]))))
              (fun σ wc hbc hp => by
                have p0 : σ 0 = _ := hp 0 (by decide)
                have p1 : σ 1 = _ := hp 1 (by decide)
                have p2 : σ 2 = _ := hp 2 (by decide)
                have p3 : σ 3 = _ := hp 3 (by decide)
                obtain ⟨b, o, cp, p4, hz'⟩ := hp 4 (by decide)
                have p5 : σ 5 = _ := hp 5 (by decide)
                have p6 : σ 6 = _ := hp 6 (by decide)
                have p7 : σ 7 = _ := hp 7 (by decide)
                have p8 : σ 8 = _ := hp 8 (by decide)
                have etb : tbS [136, 137, 138, 139, 140, 141, 142, 143, 144] 9 σ = [(136, .slice (some ⟨g9, 0, none⟩) M d9), (137, .int .i64 (M : Int)), (138, .int .i64 (K : Int)), (139, .slice (some ⟨g9, 0, none⟩) K d9), (140, .slice (some ⟨b, o, none⟩) 24 cp), (141, .slice (some ⟨g9, 0, none⟩) M d9), (142, .int .i64 (M : Int)), (143, .int .i64 (K : Int)), (144, .slice (some ⟨g9, 0 + K, none⟩) 24 (d9 - K))] := by
                  show [(136, σ 0), (137, σ 1), (138, σ 2), (139, σ 3), (140, σ 4), (141, σ 5), (142, σ 6), (143, σ 7), (144, σ 8)] = _
                  rw [p0, p1, p2, p3, p4, p5, p6, p7, p8]
                rw [etb]
                refine op_callNL (us := #[.slice (some ⟨b, o, none⟩) 24 cp, .slice (some ⟨g9, 0 + K, none⟩) 24 (d9 - K)]) rfl rfl rfl hBE (map2L (eval_setAll 140 (show ([136, 137, 138, 139, 140, 141, 142, 143, 144] : List Nat).Nodup by decide) (by kernel_rfl)) (eval_setAll 144 (show ([136, 137, 138, 139, 140, 141, 142, 143, 144] : List Nat).Nodup by decide) (by kernel_rfl))) (HSAM.out wc (some ⟨b, o, none⟩) cp hz' (hrd.below hbc)) fun e w' hr' => ?_
                obtain ⟨rfl, hb⟩ := hr'
                refine ⟨_, rfl, op_value rfl rfl (run_notL w' rfl (b := decide (Z = Y)) ?_) ⟨rfl, .slice (some ⟨b, o, none⟩) 24 cp, ?_, hbc.trans (hb.mono hbc.size)⟩⟩
                · exact Act.eval_put_same _ _ _ (by simp [setAll])
                · exact (congrArg (fun a => Act.put a (some 146) _) (put_list _ 145 _)).trans (put_list _ 146 _))) ?_
            rintro e a' w10 ⟨rfl, y4, rfl, hB10⟩
            dsimp only [setAll, List.set, List.append_nil, List.cons_append, List.nil_append]
            have hB710 := hB9.trans (hB10.mono hB9.size)
            have hE10 := hE7.below hB710
            have hk10 : Kept [g] w w10 := hk7.trans (Kept.of_below hB710)
            by_cases hZY : Z = Y
            · have kd : decide (Z = Y) = true := decide_eq_true hZY
              have HV := hid (show earSays S B sums ps v = ⟨strOfNums (packL X), true, 0⟩ by rw [HA.out, HTK2.out, if_pos hZY])
              have hrt10 := hrt.below hB10
              have hpk2 := HPK.out w10 hrt10
              rw [show K = M - 24 by have := HKM2.out; omega] at hpk2
              have HPK2 := hid hpk2
              rw [kd]
              clear hZY kd hpk2
              go_wp2_with fail
              refine HPK2.out.mono ?_
              rintro e w11 ⟨rfl, hB11⟩
              go_wp2_with fail
              go_ret3
              exact ⟨by rw [HV.out]; rfl, by rw [HB.out]; exact hE10.below hB11, hk10.trans (Kept.of_below hB11)⟩
            · have kd : decide (Z = Y) = false := decide_eq_false hZY
              have HV := hid (show earSays S B sums ps v = ⟨ByteArray.empty, false, 0⟩ by rw [HA.out, HTK2.out, if_neg hZY])
              rw [kd]
              clear hZY kd
              go_wp2_with fail
              go_ret3
              exact ⟨by rw [HV.out]; rfl, by rw [HB.out]; exact hE10, hk10⟩
end Go.Proofs.YtplkmkbambbemadGreatDoor
