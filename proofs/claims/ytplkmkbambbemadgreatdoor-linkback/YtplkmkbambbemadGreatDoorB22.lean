import Derived.Test.YtplkmkbambbemadGreatDoorB21
namespace Go.Proofs.YtplkmkbambbemadGreatDoor
open Go.ChangeShapes Go.WideShapes Go.ChangeAt Go.RowKit
set_option maxRecDepth 100000 in
set_option maxHeartbeats 8000000 in
theorem lback_good (s : ByteArray) (S : Setg) (zs : List Int) (az : Option Addr) (nz cz : Nat) (w : World) (hR : ReadyL w) (hIn : S.In) (hs : I64k (s.size : Int)) (hZ : Rd .i64 w az zs) (hz : zs.length = nz) (hz9 : nz ≤ 9223372036854775807) (hE : setErr S s.size = 0) :
    Calls Tryz.prog 5 #[.string s, S.val, .slice az nz cz] w fun e w' => e = .returned (.bool true) ∧ Below w.heap.size w w' := by
  have hmix : Tryz.prog.follows .mixedOrders = true := by kernel_rfl
  have hS := setOk_of hE
  have hfew := hS.few
  have hck := fun wz => lcheck_any S (s.size : Int) wz hIn hs
  rw [hE] at hck
  have hs2 := hs.2
  have hnw := fun (wz : World) (hz : ReadyL wz) => lnew_ok S s.size wz hz hIn hE
  have hsi := fun wz => rsize_any S (s.size : Int) wz hfew
  have hcl := coded_lenN hS
  have hz0 : List.replicate (codedN S s.size).toNat (0 : Int) = sumsV S s [] := by unfold sumsV; rw [← hcl, Int.toNat_natCast]; rfl
  rw [hz0] at hnw
  obtain ⟨m, em⟩ : ∃ m, m = S.count.toNat / S.order.toNat := ⟨_, rfl⟩
  have hm : ∀ v, (builtM S s v).length = m := fun v => by rw [em]; unfold builtM; simp [sentM]
  have hm4 : m ≤ 4096 := by rw [← hm 0]; exact builtM_few hS 0
  have hbu := fun (v : Nat) (hv : v ≤ 3) (wz : World) (hz : ReadyL wz) => build_back hIn hE m hm v hv wz hz
  have HTK := hid (fun (wz : World) (p : Addr) (F : List Nat) (vs : List Nat) (v : Nat) (g : Nat) (hz : ReadyL wz) (hEr : EarP wz p F S s.size (sumsV S s vs)) (hP : Pts wz (some ⟨g, 0, none⟩) (builtM S s v)) (hl : vs.length ≤ 11) (hv : v ≤ 3) => by
    have h := ltake_any (builtM S s v) (some ⟨g, 0, none⟩) m m (v : Int) hz hEr hS (by rw [sumsV_length]; exact hcl) (sums_soft hS (by omega)) hP (hm v) (by omega)
    rw [(says_back hS vs hv hl).1, (says_back hS vs hv hl).2] at h
    exact h)
  have HAL : Hid (codedN S s.size ≤ S.count → ∀ (vs : List Nat) (v : Nat), tookM S s.size (sumsV S s (vs ++ [v])) = ⟨s, true, 0⟩) := fun h vs v => took_all hS (by omega) vs v
  have HCC : Hid (∀ wz, Below (w.alloc (.cells #[.int .i64 S.code, .int .i64 S.size, .int .i64 S.order, .int .i64 S.seed, .int .i64 S.count] 55)).heap.size (w.alloc (.cells #[.int .i64 S.code, .int .i64 S.size, .int .i64 S.order, .int .i64 S.seed, .int .i64 S.count] 55)) wz → wz.cell? ⟨w.heap.size, 0, none⟩ = some (.int .i64 S.code) ∧ wz.cell? ⟨w.heap.size, 1, none⟩ = some (.int .i64 S.size) ∧ wz.cell? ⟨w.heap.size, 2, none⟩ = some (.int .i64 S.order) ∧ wz.cell? ⟨w.heap.size, 3, none⟩ = some (.int .i64 S.seed) ∧ wz.cell? ⟨w.heap.size, 4, none⟩ = some (.int .i64 S.count)) := fun wz h => set_cells h
  have hb0 : Below w.heap.size w (w.alloc (.cells #[.int .i64 S.code, .int .i64 S.size, .int .i64 S.order, .int .i64 S.seed, .int .i64 S.count] 55)) := (Below.refl _ w).alloc (Nat.le_refl _) _
  have hl0 : w.heap.size < (w.alloc (.cells #[.int .i64 S.code, .int .i64 S.size, .int .i64 S.order, .int .i64 S.seed, .int .i64 S.count] 55)).heap.size := by simp
  have hR0 := hR.below hb0
  obtain ⟨VV, eVV⟩ : ∃ VV : Nat → Nat, VV = fun j => (zs.getD j 0 % 4).toNat := ⟨_, rfl⟩
  have HVV : Hid (∀ j, bits BinOp.and IntKind.i64 (zs.getD j 0) 3 = (VV j : Int) ∧ VV j ≤ 3) := fun j => by
    have h1 : bits BinOp.and IntKind.i64 (zs.getD j 0) 3 = zs.getD j 0 % 4 := and_lowK (zs.getD j 0) 2 (by decide)
    rw [h1, eVV]
    constructor
    · show zs.getD j 0 % 4 = (((zs.getD j 0 % 4).toNat : Nat) : Int); omega
    · show (zs.getD j 0 % 4).toNat ≤ 3; omega
  obtain ⟨kk, ekk⟩ : ∃ kk, kk = min nz 6 := ⟨_, rfl⟩
  have hk6 : kk ≤ 6 := by omega
  have hkn : kk ≤ nz := by omega
  have hmin : min (nz : Int) 6 = (kk : Int) := by omega
  obtain ⟨VS, eVS⟩ : ∃ VS, VS = (List.range kk).map VV := ⟨_, rfl⟩
  have hVl : VS.length = kk := by rw [eVS]; simp
  have hVt : ∀ i, i < kk → VS.take (i + 1) = VS.take i ++ [VV i] := fun i hi => by rw [List.take_add_one, eVS]; simp [hi]
  have hVr : ∀ i, i < kk → VS.reverse.take (i + 1) = VS.reverse.take i ++ [VV (kk - 1 - i)] := fun i hi => by
    rw [List.take_add_one]
    congr 1
    rw [List.getElem?_reverse (by rw [hVl]; exact hi), hVl, eVS]
    have : kk - 1 - i < kk := by omega
    simp [this]
  have HVT := hid hVt
  have HVR := hid hVr
  have HVL := hid hVl
  have HZ := hid hz
  clear hVt hVr hVl eVS eVV hE hz em hz0 hcl ekk
  unfold Setg.val
  go_enter Tryz.func5, Tryz.ntmps5
  go_wp2_with fail
  generalize w.alloc (.cells #[.int .i64 S.code, .int .i64 S.size, .int .i64 S.order, .int .i64 S.seed, .int .i64 S.count] 55) = w0 at *
  have hrdy : ∀ wz, Below w0.heap.size w0 wz → ReadyL wz := fun wz h => hR0.below h
  have hZ0 := hZ.below hb0
  refine (hck _).mono ?_
  rintro e w1 ⟨rfl, hb1⟩
  obtain ⟨d0, d1, d2, d3, d4⟩ := HCC.out w1 hb1
  go_wp2_with fail
  refine (hnw _ (hrdy _ hb1)).mono ?_
  rintro e w2 ⟨pa, Fa, rfl, hEa, hFa, hb2⟩
  have hB2 := hb1.trans (hb2.mono hb1.size)
  obtain ⟨d0, d1, d2, d3, d4⟩ := HCC.out w2 hB2
  go_wp2_with fail
  refine (hnw _ (hrdy _ hB2)).mono ?_
  rintro e w3 ⟨pb, Fb, rfl, hEb, hFb, hb3⟩
  have hB3 := hB2.trans (hb3.mono hB2.size)
  obtain ⟨d0, d1, d2, d3, d4⟩ := HCC.out w3 hB3
  go_wp2_with fail
  refine wp_mono (region_each (Q := fun e a' w' => e = .normal ∧ ∃ σ : Nat → Value, a' = ({ tmps := ((setAll _ (tbS [56, 57, 58, 59, 60, 61, 62] 7 σ)).set 13 (.bool (decide (codedN S s.size ≤ S.count)))).toArray, defers := [] } : Act) ∧ Below w3.heap.size w3 w') 8 7 [56, 57, 58, 59, 60, 61, 62]
    [[4], [0], [57], [56, 58], [4], [60], [59, 61]] [3, 2, 3, 6, 5, 6, 7]
    [eqR S.val, eqR (.string s), eqR (.int .i64 (s.size : Int)), eqR (.int .i64 (codedN S s.size)), eqR (.pointer (some ⟨w.heap.size, 0 + 4, none⟩)), eqR (.int .i64 S.count), eqR (.bool (decide (codedN S s.size ≤ S.count)))] w3 hmix rfl (by decide) rfl (by decide) (by kernel_rfl) (by kernel_rfl) (by kernel_rfl) (by kernel_rfl) (by kernel_rfl) (by kernel_rfl)
    (by intro R hR; simp only [List.mem_cons, List.not_mem_nil, or_false] at hR; rcases hR with rfl | rfl | rfl | rfl | rfl | rfl | rfl <;> (first | (exact eqR_mono _)))
    (fun i' hi' σ ac wc hbc hp hr Q K hK => by
      have hor : i' = 0 ∨ i' = 1 ∨ i' = 2 ∨ i' = 3 ∨ i' = 4 ∨ i' = 5 ∨ i' = 6 := by omega
      rcases hor with rfl | rfl | rfl | rfl | rfl | rfl | rfl
      · have e4 := hr 4 (by decide)
        obtain ⟨c0, c1, c2, c3, c4⟩ := HCC.out wc (hB3.trans (hbc.mono hB3.size))
        exact op_value rfl rfl (run_loadSetL (S := S) wc rfl e4 c0 c1 c2 c3 c4) (hK _ wc (grownL wc) rfl)
      · have e0 := hr 0 (by decide)
        exact op_value rfl rfl (run_moveQ wc rfl e0) (hK _ wc (grownL wc) rfl)
      · have e57 : ac.eval (.tmp 57) = (.string s) := (hr 57 (by decide)).trans (hp 1 (by decide) (by kernel_rfl))
        exact op_value rfl rfl (run_lenSL wc rfl e57) (hK _ wc (grownL wc) rfl)
      · have e56 : ac.eval (.tmp 56) = S.val := (hr 56 (by decide)).trans (hp 0 (by decide) (by kernel_rfl))
        have e58 : ac.eval (.tmp 58) = (.int .i64 (s.size : Int)) := (hr 58 (by decide)).trans (hp 2 (by decide) (by kernel_rfl))
        refine op_callNL rfl rfl rfl (enters_of Tryz.func39 (by kernel_rfl) rfl) (map2L e56 e58) (hsi wc) fun e w' hr' => ?_
        obtain ⟨rfl, hb'⟩ := hr'
        exact ⟨_, rfl, hK _ w' (grown_of_below hb') rfl⟩
      · have e4 := hr 4 (by decide)
        exact op_value rfl rfl (run_fldSet4 wc rfl e4) (hK _ wc (grownL wc) rfl)
      · have e60 : ac.eval (.tmp 60) = (.pointer (some ⟨w.heap.size, 0 + 4, none⟩)) := (hr 60 (by decide)).trans (hp 4 (by decide) (by kernel_rfl))
        obtain ⟨c0, c1, c2, c3, c4⟩ := HCC.out wc (hB3.trans (hbc.mono hB3.size))
        exact op_value rfl rfl (run_loadI wc rfl e60 c4) (hK _ wc (grownL wc) rfl)
      · have e59 : ac.eval (.tmp 59) = (.int .i64 (codedN S s.size)) := (hr 59 (by decide)).trans (hp 3 (by decide) (by kernel_rfl))
        have e61 : ac.eval (.tmp 61) = (.int .i64 S.count) := (hr 61 (by decide)).trans (hp 5 (by decide) (by kernel_rfl))
        exact op_value rfl rfl (run_leqL wc rfl e59 e61) (hK _ wc (grownL wc) rfl))
    (fun σ wc hbc hp => by
      refine op_value rfl rfl (run_assignL wc rfl ((eval_setAll (t := tbS [56, 57, 58, 59, 60, 61, 62] 7 σ) 62 (show ([56, 57, 58, 59, 60, 61, 62] : List Nat).Nodup by decide) (by kernel_rfl)).trans (hp 6 (by decide)))) ⟨rfl, σ, put_list _ _ _, hbc⟩)) ?_
  rintro e a' w4 ⟨rfl, σ4, rfl, hb4⟩
  rw [show tbS [56, 57, 58, 59, 60, 61, 62] 7 σ4 = [(56, σ4 0), (57, σ4 1), (58, σ4 2), (59, σ4 3), (60, σ4 4), (61, σ4 5), (62, σ4 6)] from rfl]
  dsimp only [setAll, List.set, List.append_nil, List.cons_append, List.nil_append]
  have hB4 := hB3.trans (hb4.mono hB3.size)
  have hEa4 := (hEa.old hb3).old hb4
  have hEb4 := hEb.old hb4
  have hFa4 : ∀ x ∈ Fa, w0.heap.size ≤ x := fun x hx => Nat.le_trans hb1.size (hFa x hx)
  have hFb4 : ∀ x ∈ Fb, w0.heap.size ≤ x := fun x hx => Nat.le_trans hB2.size (hFb x hx)
  have hab : ∀ x ∈ Fa, x ∉ Fb := fun x hx h => by have h1 := BufR.lt hEa x hx; have h2 := hFb x h; omega
  obtain ⟨al, eal⟩ : ∃ al, al = decide (codedN S s.size ≤ S.count) := ⟨_, rfl⟩
  rw [← eal]
  have HAL2 : Hid (al = true → ∀ (vs : List Nat) (v : Nat), tookM S s.size (sumsV S s (vs ++ [v])) = ⟨s, true, 0⟩) := fun h vs v => HAL.out (of_decide_eq_true (eal ▸ h)) vs v
  clear hEa hEb hFa hFb eal
  go_wp2_with fail
  obtain ⟨ba, ga, rfl, -, -, -, -⟩ := hEa4.block
  obtain ⟨bb, gb, rfl, -, -, -, -⟩ := hEb4.block
  cases al with
  | true =>
    go_loopw [14, 15, 16, 17, 19] (fun l bk o t i wr => ∃ (n : Nat) (Fa Fb : List Nat), n ≤ kk ∧ i = .int .i64 (n : Int) ∧ l = .string (toldV S s (VS.take n)).data ∧ o = .bool (toldV S s (VS.take n)).ok ∧ bk = .string (toldV S s (VS.reverse.take n)).data ∧ t = .bool (toldV S s (VS.reverse.take n)).ok ∧ EarP wr ⟨ba, 0, none⟩ Fa S s.size (sumsV S s (VS.take n)) ∧ EarP wr ⟨bb, 0, none⟩ Fb S s.size (sumsV S s (VS.reverse.take n)) ∧ (∀ x ∈ Fa, w0.heap.size ≤ x) ∧ (∀ x ∈ Fb, w0.heap.size ≤ x) ∧ (∀ x ∈ Fa, x ∉ Fb) ∧ Below w0.heap.size w0 wr) (fun _ _ _ _ i _ => kk - (intOf i).toNat)
    case atStart => exact ⟨0, Fa, Fb, Nat.zero_le _, rfl, rfl, rfl, rfl, rfl, hEa4, hEb4, hFa4, hFb4, hab, hB4⟩
    case round =>
      clear hEa4 hEb4 hFa4 hFb4 hab
      obtain ⟨i, Fa, Fb, hi, rfl, rfl, rfl, rfl, rfl, hEa, hEb, hFa, hFb, hab, hB⟩ := hrel
      by_cases hlt : i < kk
      · obtain ⟨bz, oz, rfl, hcs⟩ := hZ0.at (i := i) (by rw [HZ.out]; omega)
        obtain ⟨j, ej⟩ : ∃ j, j = kk - 1 - i := ⟨_, rfl⟩
        have hji : (kk : Int) - 1 - (i : Int) = (j : Int) := by omega
        have hjnz : j < nz := by omega
        have hinz : i < nz := by omega
        have gx0 := hcs i (by rw [HZ.out]; exact hinz)
        have gy0 := hcs j (by rw [HZ.out]; exact hjnz)
        obtain ⟨hx3, hv⟩ := HVV.out i
        obtain ⟨hy3, hu⟩ := HVV.out j
        obtain ⟨x, ex⟩ : ∃ x, x = zs.getD i 0 := ⟨_, rfl⟩
        obtain ⟨y, ey⟩ : ∃ y, y = zs.getD j 0 := ⟨_, rfl⟩
        rw [← ex] at gx0 hx3
        rw [← ey] at gy0 hy3
        have hti := HVT.out i hlt
        have htj := HVR.out i hlt
        rw [← ej] at htj
        obtain ⟨v, ev⟩ : ∃ v, v = VV i := ⟨_, rfl⟩
        obtain ⟨u, eu⟩ : ∃ u, u = VV j := ⟨_, rfl⟩
        rw [← ev] at hx3 hv hti
        rw [← eu] at hy3 hu htj
        have HTI := hid hti
        have HTJ := hid htj
        have hla : (VS.take i).length ≤ 11 := by rw [List.length_take]; omega
        have hlb : (VS.reverse.take i).length ≤ 11 := by rw [List.length_take]; omega
        obtain ⟨va, eva⟩ : ∃ va, va = VS.take i := ⟨_, rfl⟩
        obtain ⟨vb, evb⟩ : ∃ vb, vb = VS.reverse.take i := ⟨_, rfl⟩
        rw [← eva] at hEa hla HTI
        rw [← evb] at hEb hlb HTJ
        have gx := cell_old hB gx0
        clear ex ey ev eu ej hcs hti htj eva evb
        go_wp2_with fail
        refine wp_mono (region_each (Q := fun e a' w' => e = .normal ∧ ∃ σ : Nat → Value, a' = ({ tmps := ((setAll _ (tbS [72, 73, 74, 75, 76, 77, 78, 79, 71, 80, 81, 20] 12 σ)).set 21 (.int .i64 0)).toArray, defers := [] } : Act) ∧ bltO m (builtM S s v) wr.heap.size (σ 11) w' ∧ Below wr.heap.size wr w') 13 12 [72, 73, 74, 75, 76, 77, 78, 79, 71, 80, 81, 20]
          [[0], [4], [2], [19], [74, 75], [76], [77], [72, 73, 78], [79], [71], [71], [80]] [7, 7, 4, 4, 5, 6, 7, 8, 9, 11, 12, 12]
          [eqR (.string s), eqR S.val, eqR (.slice (some ⟨bz, oz, none⟩) nz cz), eqR (.int .i64 (i : Int)), eqR (.pointer (some ⟨bz, oz + i, none⟩)), eqR (.int .i64 x), eqR (.int .i64 (v : Int)), bltT m (builtM S s v) wr.heap.size, bltT m (builtM S s v) wr.heap.size, bltO m (builtM S s v) wr.heap.size, eqR (.int .i64 0), bltO m (builtM S s v) wr.heap.size] wr hmix rfl (by decide) rfl (by decide) (by kernel_rfl) (by kernel_rfl) (by kernel_rfl) (by kernel_rfl) (by kernel_rfl) (by kernel_rfl)
          (by intro R hR; simp only [List.mem_cons, List.not_mem_nil, or_false] at hR; rcases hR with rfl | rfl | rfl | rfl | rfl | rfl | rfl | rfl | rfl | rfl | rfl | rfl <;> (first | (exact eqR_mono _) | (exact bltT_mono _ _ _) | (exact bltO_mono _ _ _)))
          (fun i' hi' σ ac wc hbc hp hr Q K hK => by
            have hor : i' = 0 ∨ i' = 1 ∨ i' = 2 ∨ i' = 3 ∨ i' = 4 ∨ i' = 5 ∨ i' = 6 ∨ i' = 7 ∨ i' = 8 ∨ i' = 9 ∨ i' = 10 ∨ i' = 11 := by omega
            rcases hor with rfl | rfl | rfl | rfl | rfl | rfl | rfl | rfl | rfl | rfl | rfl | rfl
            · have e0 := hr 0 (by decide)
              exact op_value rfl rfl (run_moveQ wc rfl e0) (hK _ wc (grownL wc) rfl)
            · have e4 := hr 4 (by decide)
              obtain ⟨c0, c1, c2, c3, c4⟩ := HCC.out wc (hB.trans (hbc.mono hB.size))
              exact op_value rfl rfl (run_loadSetL (S := S) wc rfl e4 c0 c1 c2 c3 c4) (hK _ wc (grownL wc) rfl)
            · have e2 := hr 2 (by decide)
              exact op_value rfl rfl (run_moveQ wc rfl e2) (hK _ wc (grownL wc) rfl)
            · have e19 := hr 19 (by decide)
              exact op_value rfl rfl (run_moveQ wc rfl e19) (hK _ wc (grownL wc) rfl)
            · have e74 : ac.eval (.tmp 74) = (.slice (some ⟨bz, oz, none⟩) nz cz) := (hr 74 (by decide)).trans (hp 2 (by decide) (by kernel_rfl))
              have e75 : ac.eval (.tmp 75) = (.int .i64 (i : Int)) := (hr 75 (by decide)).trans (hp 3 (by decide) (by kernel_rfl))
              exact op_value rfl rfl (run_idxI wc rfl e74 e75 hinz) (hK _ wc (grownL wc) rfl)
            · have e76 : ac.eval (.tmp 76) = (.pointer (some ⟨bz, oz + i, none⟩)) := (hr 76 (by decide)).trans (hp 4 (by decide) (by kernel_rfl))
              exact op_value rfl rfl (run_loadI wc rfl e76 (cell_old hbc gx)) (hK _ wc (grownL wc) rfl)
            · have e77 : ac.eval (.tmp 77) = (.int .i64 x) := (hr 77 (by decide)).trans (hp 5 (by decide) (by kernel_rfl))
              exact op_value rfl rfl (run_and3 wc rfl e77 hx3 rfl) (hK _ wc (grownL wc) rfl)
            · have e72 : ac.eval (.tmp 72) = (.string s) := (hr 72 (by decide)).trans (hp 0 (by decide) (by kernel_rfl))
              have e73 : ac.eval (.tmp 73) = S.val := (hr 73 (by decide)).trans (hp 1 (by decide) (by kernel_rfl))
              have e78 : ac.eval (.tmp 78) = (.int .i64 (v : Int)) := (hr 78 (by decide)).trans (hp 6 (by decide) (by kernel_rfl))
              refine op_callNL rfl rfl rfl (enters_of Tryz.func32 (by kernel_rfl) rfl) (map3L e72 e73 e78) (hbu v hv wc (hrdy wc (hB.trans (hbc.mono hB.size)))) fun e w' hr' => ?_
              obtain ⟨g1, rfl, hp1, hg1, hb'⟩ := hr'
              exact ⟨_, rfl, hK _ w' (grown_of_below hb') (show bltT m (builtM S s v) wr.heap.size _ _ from ⟨g1, rfl, hp1, Nat.le_trans hbc.size hg1⟩)⟩
            · obtain ⟨g79, q79, h79⟩ := hp 7 (by decide) (by kernel_rfl)
              have e79 := (hr 79 (by decide)).trans q79
              exact op_value rfl rfl (run_moveQ wc rfl e79) (hK _ wc (grownL wc) (show bltT m (builtM S s v) wr.heap.size _ _ from ⟨g79, rfl, h79⟩))
            · obtain ⟨g71, q71, h71⟩ := hp 8 (by decide) (by kernel_rfl)
              have e71 := (hr 71 (by decide)).trans q71
              exact op_value rfl rfl (run_extractL wc rfl e71 rfl) (hK _ wc (grownL wc) (show bltO m (builtM S s v) wr.heap.size _ _ from ⟨g71, rfl, h71⟩))
            · obtain ⟨g71, q71, h71⟩ := hp 8 (by decide) (by kernel_rfl)
              have e71 := (hr 71 (by decide)).trans q71
              exact op_value rfl rfl (run_extractL wc rfl e71 rfl) (hK _ wc (grownL wc) rfl)
            · obtain ⟨g80, q80, h80⟩ := hp 9 (by decide) (by kernel_rfl)
              have e80 := (hr 80 (by decide)).trans q80
              exact op_value rfl rfl (run_assignL wc rfl e80) (hK _ wc (grownL wc) (show bltO m (builtM S s v) wr.heap.size _ _ from ⟨g80, rfl, h80⟩)))
          (fun σ wc hbc hp => by
            refine op_value rfl rfl (run_assignL wc rfl ((eval_setAll (t := tbS [72, 73, 74, 75, 76, 77, 78, 79, 71, 80, 81, 20] 12 σ) 81 (show ([72, 73, 74, 75, 76, 77, 78, 79, 71, 80, 81, 20] : List Nat).Nodup by decide) (by kernel_rfl)).trans (hp 10 (by decide)))) ⟨rfl, σ, put_list _ _ _, hp 11 (by decide), hbc⟩)) ?_
        rintro e a' w5 ⟨rfl, σ5, rfl, ⟨gp, qp, hpp, hgp⟩, hb5⟩
        rw [show tbS [72, 73, 74, 75, 76, 77, 78, 79, 71, 80, 81, 20] 12 σ5 = [(72, σ5 0), (73, σ5 1), (74, σ5 2), (75, σ5 3), (76, σ5 4), (77, σ5 5), (78, σ5 6), (79, σ5 7), (71, σ5 8), (80, σ5 9), (81, σ5 10), (20, σ5 11)] from rfl, qp]
        dsimp only [setAll, List.set, List.append_nil, List.cons_append, List.nil_append]
        have hB5 := hB.trans (hb5.mono hB.size)
        have gy5 := cell_old hB5 gy0
        have gx5 := cell_old hB5 gx0
        go_wp2_with fail
        refine wp_mono (region_each (Q := fun e a' w' => e = .normal ∧ ∃ σ : Nat → Value, a' = ({ tmps := ((setAll _ (tbS [83, 84, 85, 86, 87, 88, 89, 90, 91, 92, 93, 82, 94, 95, 22] 15 σ)).set 23 (.int .i64 0)).toArray, defers := [] } : Act) ∧ bltO m (builtM S s u) w5.heap.size (σ 14) w' ∧ Below w5.heap.size w5 w') 16 15 [83, 84, 85, 86, 87, 88, 89, 90, 91, 92, 93, 82, 94, 95, 22]
          [[0], [4], [2], [18], [86], [19], [87, 88], [85, 89], [90], [91], [83, 84, 92], [93], [82], [82], [94]] [10, 10, 7, 4, 6, 6, 7, 8, 9, 10, 11, 12, 14, 15, 15]
          [eqR (.string s), eqR S.val, eqR (.slice (some ⟨bz, oz, none⟩) nz cz), eqR (.int .i64 (kk : Int)), eqR (.int .i64 ((kk : Int) - 1)), eqR (.int .i64 (i : Int)), eqR (.int .i64 (j : Int)), eqR (.pointer (some ⟨bz, oz + j, none⟩)), eqR (.int .i64 y), eqR (.int .i64 (u : Int)), bltT m (builtM S s u) w5.heap.size, bltT m (builtM S s u) w5.heap.size, bltO m (builtM S s u) w5.heap.size, eqR (.int .i64 0), bltO m (builtM S s u) w5.heap.size] w5 hmix rfl (by decide) rfl (by decide) (by kernel_rfl) (by kernel_rfl) (by kernel_rfl) (by kernel_rfl) (by kernel_rfl) (by kernel_rfl)
          (by intro R hR; simp only [List.mem_cons, List.not_mem_nil, or_false] at hR; rcases hR with rfl | rfl | rfl | rfl | rfl | rfl | rfl | rfl | rfl | rfl | rfl | rfl | rfl | rfl | rfl <;> (first | (exact eqR_mono _) | (exact bltT_mono _ _ _) | (exact bltO_mono _ _ _)))
          (fun i' hi' σ ac wc hbc hp hr Q K hK => by
            have hor : i' = 0 ∨ i' = 1 ∨ i' = 2 ∨ i' = 3 ∨ i' = 4 ∨ i' = 5 ∨ i' = 6 ∨ i' = 7 ∨ i' = 8 ∨ i' = 9 ∨ i' = 10 ∨ i' = 11 ∨ i' = 12 ∨ i' = 13 ∨ i' = 14 := by omega
            rcases hor with rfl | rfl | rfl | rfl | rfl | rfl | rfl | rfl | rfl | rfl | rfl | rfl | rfl | rfl | rfl
            · have e0 := hr 0 (by decide)
              exact op_value rfl rfl (run_moveQ wc rfl e0) (hK _ wc (grownL wc) rfl)
            · have e4 := hr 4 (by decide)
              obtain ⟨c0, c1, c2, c3, c4⟩ := HCC.out wc (hB5.trans (hbc.mono hB5.size))
              exact op_value rfl rfl (run_loadSetL (S := S) wc rfl e4 c0 c1 c2 c3 c4) (hK _ wc (grownL wc) rfl)
            · have e2 := hr 2 (by decide)
              exact op_value rfl rfl (run_moveQ wc rfl e2) (hK _ wc (grownL wc) rfl)
            · have e18 := hr 18 (by decide)
              exact op_value rfl rfl (run_moveQ wc rfl e18) (hK _ wc (grownL wc) rfl)
            · have e86 : ac.eval (.tmp 86) = (.int .i64 (kk : Int)) := (hr 86 (by decide)).trans (hp 3 (by decide) (by kernel_rfl))
              exact op_value rfl rfl (run_subL wc rfl e86 rfl rfl (by rw [IntKind.wrap_i64]; omega)) (hK _ wc (grownL wc) rfl)
            · have e19 := hr 19 (by decide)
              exact op_value rfl rfl (run_moveQ wc rfl e19) (hK _ wc (grownL wc) rfl)
            · have e87 : ac.eval (.tmp 87) = (.int .i64 ((kk : Int) - 1)) := (hr 87 (by decide)).trans (hp 4 (by decide) (by kernel_rfl))
              have e88 : ac.eval (.tmp 88) = (.int .i64 (i : Int)) := (hr 88 (by decide)).trans (hp 5 (by decide) (by kernel_rfl))
              exact op_value rfl rfl (run_subL wc rfl e87 e88 hji (by rw [IntKind.wrap_i64]; omega)) (hK _ wc (grownL wc) rfl)
            · have e85 : ac.eval (.tmp 85) = (.slice (some ⟨bz, oz, none⟩) nz cz) := (hr 85 (by decide)).trans (hp 2 (by decide) (by kernel_rfl))
              have e89 : ac.eval (.tmp 89) = (.int .i64 (j : Int)) := (hr 89 (by decide)).trans (hp 6 (by decide) (by kernel_rfl))
              exact op_value rfl rfl (run_idxI wc rfl e85 e89 hjnz) (hK _ wc (grownL wc) rfl)
            · have e90 : ac.eval (.tmp 90) = (.pointer (some ⟨bz, oz + j, none⟩)) := (hr 90 (by decide)).trans (hp 7 (by decide) (by kernel_rfl))
              exact op_value rfl rfl (run_loadI wc rfl e90 (cell_old hbc gy5)) (hK _ wc (grownL wc) rfl)
            · have e91 : ac.eval (.tmp 91) = (.int .i64 y) := (hr 91 (by decide)).trans (hp 8 (by decide) (by kernel_rfl))
              exact op_value rfl rfl (run_and3 wc rfl e91 hy3 rfl) (hK _ wc (grownL wc) rfl)
            · have e83 : ac.eval (.tmp 83) = (.string s) := (hr 83 (by decide)).trans (hp 0 (by decide) (by kernel_rfl))
              have e84 : ac.eval (.tmp 84) = S.val := (hr 84 (by decide)).trans (hp 1 (by decide) (by kernel_rfl))
              have e92 : ac.eval (.tmp 92) = (.int .i64 (u : Int)) := (hr 92 (by decide)).trans (hp 9 (by decide) (by kernel_rfl))
              refine op_callNL rfl rfl rfl (enters_of Tryz.func32 (by kernel_rfl) rfl) (map3L e83 e84 e92) (hbu u hu wc (hrdy wc (hB5.trans (hbc.mono hB5.size)))) fun e w' hr' => ?_
              obtain ⟨g1, rfl, hp1, hg1, hb'⟩ := hr'
              exact ⟨_, rfl, hK _ w' (grown_of_below hb') (show bltT m (builtM S s u) w5.heap.size _ _ from ⟨g1, rfl, hp1, Nat.le_trans hbc.size hg1⟩)⟩
            · obtain ⟨g93, q93, h93⟩ := hp 10 (by decide) (by kernel_rfl)
              have e93 := (hr 93 (by decide)).trans q93
              exact op_value rfl rfl (run_moveQ wc rfl e93) (hK _ wc (grownL wc) (show bltT m (builtM S s u) w5.heap.size _ _ from ⟨g93, rfl, h93⟩))
            · obtain ⟨g82, q82, h82⟩ := hp 11 (by decide) (by kernel_rfl)
              have e82 := (hr 82 (by decide)).trans q82
              exact op_value rfl rfl (run_extractL wc rfl e82 rfl) (hK _ wc (grownL wc) (show bltO m (builtM S s u) w5.heap.size _ _ from ⟨g82, rfl, h82⟩))
            · obtain ⟨g82, q82, h82⟩ := hp 11 (by decide) (by kernel_rfl)
              have e82 := (hr 82 (by decide)).trans q82
              exact op_value rfl rfl (run_extractL wc rfl e82 rfl) (hK _ wc (grownL wc) rfl)
            · obtain ⟨g94, q94, h94⟩ := hp 12 (by decide) (by kernel_rfl)
              have e94 := (hr 94 (by decide)).trans q94
              exact op_value rfl rfl (run_assignL wc rfl e94) (hK _ wc (grownL wc) (show bltO m (builtM S s u) w5.heap.size _ _ from ⟨g94, rfl, h94⟩)))
          (fun σ wc hbc hp => by
            refine op_value rfl rfl (run_assignL wc rfl ((eval_setAll (t := tbS [83, 84, 85, 86, 87, 88, 89, 90, 91, 92, 93, 82, 94, 95, 22] 15 σ) 95 (show ([83, 84, 85, 86, 87, 88, 89, 90, 91, 92, 93, 82, 94, 95, 22] : List Nat).Nodup by decide) (by kernel_rfl)).trans (hp 13 (by decide)))) ⟨rfl, σ, put_list _ _ _, hp 14 (by decide), hbc⟩)) ?_
        rintro e a' w6 ⟨rfl, σ6, rfl, ⟨gq, qq, hpq, hgq⟩, hb6⟩
        rw [show tbS [83, 84, 85, 86, 87, 88, 89, 90, 91, 92, 93, 82, 94, 95, 22] 15 σ6 = [(83, σ6 0), (84, σ6 1), (85, σ6 2), (86, σ6 3), (87, σ6 4), (88, σ6 5), (89, σ6 6), (90, σ6 7), (91, σ6 8), (92, σ6 9), (93, σ6 10), (82, σ6 11), (94, σ6 12), (95, σ6 13), (22, σ6 14)] from rfl, qq]
        dsimp only [setAll, List.set, List.append_nil, List.cons_append, List.nil_append]
        have hB6 := hB5.trans (hb6.mono hB5.size)
        have gx6 := cell_old hB6 gx0
        have hr6 := hb5.trans (hb6.mono hb5.size)
        have hEa6 := hEa.old hr6
        have hEb6 := hEb.old hr6
        have hpp6 := hpp.below hb6
        obtain ⟨ba', ga', ea', eFa, -, -, -⟩ := hEa.block
        cases ea'
        obtain ⟨bb', gb', eb', eFb, -, -, -⟩ := hEb.block
        cases eb'
        have htk := HTK.out w6 ⟨ba, 0, none⟩ Fa va v gp (hrdy _ hB6) hEa6 hpp6 hla hv
        have hbaF : ba ∈ Fa := by rw [eFa]; simp
        have hbbF : bb ∈ Fb := by rw [eFb]; simp
        have hbaB : ba ∉ Fb := hab ba hbaF
        have hlta := BufR.lt hEa ba hbaF
        have hltb := BufR.lt hEb bb hbbF
        have hEr1 := took_err S s.size (sumsV S s (va ++ [v]))
        have hEr2 := took_err S s.size (sumsV S s (vb ++ [u]))
        have hA1 := fun h => HAL2.out h va v
        have hT1 := toldV_snoc S s va v
        have hT2 := toldV_snoc S s vb u
        obtain ⟨t1, et1⟩ : ∃ t1, t1 = tookM S s.size (sumsV S s (va ++ [v])) := ⟨_, rfl⟩
        obtain ⟨t2, et2⟩ : ∃ t2, t2 = tookM S s.size (sumsV S s (vb ++ [u])) := ⟨_, rfl⟩
        have HTK2 := HTK
        rw [← et1] at htk hEr1 hA1 hT1
        rw [← et2] at hEr2 hT2
        have HE2 := hid et2
        clear et1 et2
        obtain rfl := hA1 (by simp)
        clear hEr1
        obtain ⟨db, ob, rb⟩ := t2
        obtain rfl : rb = 0 := hEr2
        unfold Told.val at htk
        dsimp only at htk
        have HT1 := hid hT1
        have HT2 := hid hT2
        have hBk : ∀ wz, Kept [ba] w6 wz → Below w0.heap.size w0 wz := fun wz hk => hB6.trans (hk.below hB6.size (fun x hx => by obtain rfl : x = ba := (by simpa using hx); exact hFa _ hbaF))
        have hBl : ∀ w7 wz, Below w0.heap.size w0 w7 → Kept [bb] w7 wz → Below w0.heap.size w0 wz := fun w7 wz h7 hk => h7.trans (hk.below h7.size (fun x hx => by obtain rfl : x = bb := (by simpa using hx); exact hFb _ hbbF))
        have HFa := hid eFa
        have HFb := hid eFb
        clear eFa eFb
        clear hT1 hT2
        go_wp2_with fail
        refine htk.mono ?_
        rintro e w7 ⟨rfl, Fa', hEa7, hFa7, hk7⟩
        have hB7 := hBk w7 hk7
        have gx7 := cell_old hB7 gx0
        have gy7 := cell_old hB7 gy0
        have hEb7 := hEb6.keptA hk7 (fun x hx h => by obtain rfl : x = ba := (by simpa using h); exact hbaB hx)
        have hpq7 := Pts.keptK hpq hk7 (fun g o e _ h => by cases e; obtain rfl : gq = ba := (by simpa using h); have := hb5.size; omega)
        have htk2 := HTK2.out w7 ⟨bb, 0, none⟩ Fb vb u gq (hrdy _ hB7) hEb7 hpq7 hlb hu
        rw [← HE2.out] at htk2
        unfold Told.val at htk2
        dsimp only at htk2
        clear htk
        go_wp2_with fail
        refine htk2.mono ?_
        rintro e w8 ⟨rfl, Fb', hEb8, hFb8, hk8⟩
        clear htk2
        have hEa8 := hEa7.keptA hk8 (fun x hx h => by
          obtain rfl : x = bb := (by simpa using h)
          rcases hFa7 _ hx with h1 | h1
          · exact hab _ h1 hbbF
          · have := hr6.size; omega)
        have hB8 := hBl w7 w8 hB7 hk8
        have hFa' : ∀ x ∈ Fa', w0.heap.size ≤ x := fun x hx => by
          rcases hFa7 x hx with h | h
          · exact hFa x h
          · exact Nat.le_trans hB6.size h
        have hFb' : ∀ x ∈ Fb', w0.heap.size ≤ x := fun x hx => by
          rcases hFb8 x hx with h | h
          · exact hFb x h
          · exact Nat.le_trans hB7.size h
        have hab' : ∀ x ∈ Fa', x ∉ Fb' := fun x hx hy => by
          rcases hFb8 x hy with h | h
          · rcases hFa7 x hx with h1 | h1
            · exact hab x h1 h
            · have h2 := BufR.lt hEb6 x h; omega
          · have h2 := BufR.lt hEa7 x hx; omega
        go_wp2_with fail
        go_roundw
        case measure => simp [intOf]; omega
        refine ⟨i + 1, Fa', Fb', by omega, by go_num, ?_, ?_, ?_, ?_, ?_, ?_, hFa', hFb', hab', hB8⟩
        · rw [HTI.out, HT1.out]
        · rw [HTI.out, HT1.out]
        · rw [HTJ.out, HT2.out]
        · rw [HTJ.out, HT2.out]
        · rw [HTI.out]; exact hEa8
        · rw [HTJ.out]; exact hEb8
      · have e : i = kk := by omega
        subst e
        have e1 : VS.take i = VS := List.take_of_length_le (by rw [HVL.out]; exact Nat.le_refl _)
        have e2 : VS.reverse.take i = VS.reverse := List.take_of_length_le (by rw [List.length_reverse, HVL.out]; exact Nat.le_refl _)
        rw [e1, e2, toldV_reverse]
        clear hEa hEb e1 e2
        generalize toldV S s VS = tt
        obtain ⟨da, oa, ra⟩ := tt
        dsimp only
        go_wp2_with fail
        go_ret
        exact ⟨rfl, hb0.trans (hB.mono (Nat.le_of_lt hl0))⟩
  | false =>
    go_loopw [14, 15, 16, 17, 19] (fun l bk o t i wr => ∃ (n : Nat) (Fa Fb : List Nat), n ≤ kk ∧ i = .int .i64 (n : Int) ∧ l = .string (toldV S s (VS.take n)).data ∧ o = .bool (toldV S s (VS.take n)).ok ∧ bk = .string (toldV S s (VS.reverse.take n)).data ∧ t = .bool (toldV S s (VS.reverse.take n)).ok ∧ EarP wr ⟨ba, 0, none⟩ Fa S s.size (sumsV S s (VS.take n)) ∧ EarP wr ⟨bb, 0, none⟩ Fb S s.size (sumsV S s (VS.reverse.take n)) ∧ (∀ x ∈ Fa, w0.heap.size ≤ x) ∧ (∀ x ∈ Fb, w0.heap.size ≤ x) ∧ (∀ x ∈ Fa, x ∉ Fb) ∧ Below w0.heap.size w0 wr) (fun _ _ _ _ i _ => kk - (intOf i).toNat)
    case atStart => exact ⟨0, Fa, Fb, Nat.zero_le _, rfl, rfl, rfl, rfl, rfl, hEa4, hEb4, hFa4, hFb4, hab, hB4⟩
    case round =>
      clear hEa4 hEb4 hFa4 hFb4 hab
      obtain ⟨i, Fa, Fb, hi, rfl, rfl, rfl, rfl, rfl, hEa, hEb, hFa, hFb, hab, hB⟩ := hrel
      by_cases hlt : i < kk
      · obtain ⟨bz, oz, rfl, hcs⟩ := hZ0.at (i := i) (by rw [HZ.out]; omega)
        obtain ⟨j, ej⟩ : ∃ j, j = kk - 1 - i := ⟨_, rfl⟩
        have hji : (kk : Int) - 1 - (i : Int) = (j : Int) := by omega
        have hjnz : j < nz := by omega
        have hinz : i < nz := by omega
        have gx0 := hcs i (by rw [HZ.out]; exact hinz)
        have gy0 := hcs j (by rw [HZ.out]; exact hjnz)
        obtain ⟨hx3, hv⟩ := HVV.out i
        obtain ⟨hy3, hu⟩ := HVV.out j
        obtain ⟨x, ex⟩ : ∃ x, x = zs.getD i 0 := ⟨_, rfl⟩
        obtain ⟨y, ey⟩ : ∃ y, y = zs.getD j 0 := ⟨_, rfl⟩
        rw [← ex] at gx0 hx3
        rw [← ey] at gy0 hy3
        have hti := HVT.out i hlt
        have htj := HVR.out i hlt
        rw [← ej] at htj
        obtain ⟨v, ev⟩ : ∃ v, v = VV i := ⟨_, rfl⟩
        obtain ⟨u, eu⟩ : ∃ u, u = VV j := ⟨_, rfl⟩
        rw [← ev] at hx3 hv hti
        rw [← eu] at hy3 hu htj
        have HTI := hid hti
        have HTJ := hid htj
        have hla : (VS.take i).length ≤ 11 := by rw [List.length_take]; omega
        have hlb : (VS.reverse.take i).length ≤ 11 := by rw [List.length_take]; omega
        obtain ⟨va, eva⟩ : ∃ va, va = VS.take i := ⟨_, rfl⟩
        obtain ⟨vb, evb⟩ : ∃ vb, vb = VS.reverse.take i := ⟨_, rfl⟩
        rw [← eva] at hEa hla HTI
        rw [← evb] at hEb hlb HTJ
        have gx := cell_old hB gx0
        clear ex ey ev eu ej hcs hti htj eva evb
        go_wp2_with fail
        refine wp_mono (region_each (Q := fun e a' w' => e = .normal ∧ ∃ σ : Nat → Value, a' = ({ tmps := ((setAll _ (tbS [72, 73, 74, 75, 76, 77, 78, 79, 71, 80, 81, 20] 12 σ)).set 21 (.int .i64 0)).toArray, defers := [] } : Act) ∧ bltO m (builtM S s v) wr.heap.size (σ 11) w' ∧ Below wr.heap.size wr w') 13 12 [72, 73, 74, 75, 76, 77, 78, 79, 71, 80, 81, 20]
          [[0], [4], [2], [19], [74, 75], [76], [77], [72, 73, 78], [79], [71], [71], [80]] [7, 7, 4, 4, 5, 6, 7, 8, 9, 11, 12, 12]
          [eqR (.string s), eqR S.val, eqR (.slice (some ⟨bz, oz, none⟩) nz cz), eqR (.int .i64 (i : Int)), eqR (.pointer (some ⟨bz, oz + i, none⟩)), eqR (.int .i64 x), eqR (.int .i64 (v : Int)), bltT m (builtM S s v) wr.heap.size, bltT m (builtM S s v) wr.heap.size, bltO m (builtM S s v) wr.heap.size, eqR (.int .i64 0), bltO m (builtM S s v) wr.heap.size] wr hmix rfl (by decide) rfl (by decide) (by kernel_rfl) (by kernel_rfl) (by kernel_rfl) (by kernel_rfl) (by kernel_rfl) (by kernel_rfl)
          (by intro R hR; simp only [List.mem_cons, List.not_mem_nil, or_false] at hR; rcases hR with rfl | rfl | rfl | rfl | rfl | rfl | rfl | rfl | rfl | rfl | rfl | rfl <;> (first | (exact eqR_mono _) | (exact bltT_mono _ _ _) | (exact bltO_mono _ _ _)))
          (fun i' hi' σ ac wc hbc hp hr Q K hK => by
            have hor : i' = 0 ∨ i' = 1 ∨ i' = 2 ∨ i' = 3 ∨ i' = 4 ∨ i' = 5 ∨ i' = 6 ∨ i' = 7 ∨ i' = 8 ∨ i' = 9 ∨ i' = 10 ∨ i' = 11 := by omega
            rcases hor with rfl | rfl | rfl | rfl | rfl | rfl | rfl | rfl | rfl | rfl | rfl | rfl
            · have e0 := hr 0 (by decide)
              exact op_value rfl rfl (run_moveQ wc rfl e0) (hK _ wc (grownL wc) rfl)
            · have e4 := hr 4 (by decide)
              obtain ⟨c0, c1, c2, c3, c4⟩ := HCC.out wc (hB.trans (hbc.mono hB.size))
              exact op_value rfl rfl (run_loadSetL (S := S) wc rfl e4 c0 c1 c2 c3 c4) (hK _ wc (grownL wc) rfl)
            · have e2 := hr 2 (by decide)
              exact op_value rfl rfl (run_moveQ wc rfl e2) (hK _ wc (grownL wc) rfl)
            · have e19 := hr 19 (by decide)
              exact op_value rfl rfl (run_moveQ wc rfl e19) (hK _ wc (grownL wc) rfl)
            · have e74 : ac.eval (.tmp 74) = (.slice (some ⟨bz, oz, none⟩) nz cz) := (hr 74 (by decide)).trans (hp 2 (by decide) (by kernel_rfl))
              have e75 : ac.eval (.tmp 75) = (.int .i64 (i : Int)) := (hr 75 (by decide)).trans (hp 3 (by decide) (by kernel_rfl))
              exact op_value rfl rfl (run_idxI wc rfl e74 e75 hinz) (hK _ wc (grownL wc) rfl)
            · have e76 : ac.eval (.tmp 76) = (.pointer (some ⟨bz, oz + i, none⟩)) := (hr 76 (by decide)).trans (hp 4 (by decide) (by kernel_rfl))
              exact op_value rfl rfl (run_loadI wc rfl e76 (cell_old hbc gx)) (hK _ wc (grownL wc) rfl)
            · have e77 : ac.eval (.tmp 77) = (.int .i64 x) := (hr 77 (by decide)).trans (hp 5 (by decide) (by kernel_rfl))
              exact op_value rfl rfl (run_and3 wc rfl e77 hx3 rfl) (hK _ wc (grownL wc) rfl)
            · have e72 : ac.eval (.tmp 72) = (.string s) := (hr 72 (by decide)).trans (hp 0 (by decide) (by kernel_rfl))
              have e73 : ac.eval (.tmp 73) = S.val := (hr 73 (by decide)).trans (hp 1 (by decide) (by kernel_rfl))
              have e78 : ac.eval (.tmp 78) = (.int .i64 (v : Int)) := (hr 78 (by decide)).trans (hp 6 (by decide) (by kernel_rfl))
              refine op_callNL rfl rfl rfl (enters_of Tryz.func32 (by kernel_rfl) rfl) (map3L e72 e73 e78) (hbu v hv wc (hrdy wc (hB.trans (hbc.mono hB.size)))) fun e w' hr' => ?_
              obtain ⟨g1, rfl, hp1, hg1, hb'⟩ := hr'
              exact ⟨_, rfl, hK _ w' (grown_of_below hb') (show bltT m (builtM S s v) wr.heap.size _ _ from ⟨g1, rfl, hp1, Nat.le_trans hbc.size hg1⟩)⟩
            · obtain ⟨g79, q79, h79⟩ := hp 7 (by decide) (by kernel_rfl)
              have e79 := (hr 79 (by decide)).trans q79
              exact op_value rfl rfl (run_moveQ wc rfl e79) (hK _ wc (grownL wc) (show bltT m (builtM S s v) wr.heap.size _ _ from ⟨g79, rfl, h79⟩))
            · obtain ⟨g71, q71, h71⟩ := hp 8 (by decide) (by kernel_rfl)
              have e71 := (hr 71 (by decide)).trans q71
              exact op_value rfl rfl (run_extractL wc rfl e71 rfl) (hK _ wc (grownL wc) (show bltO m (builtM S s v) wr.heap.size _ _ from ⟨g71, rfl, h71⟩))
            · obtain ⟨g71, q71, h71⟩ := hp 8 (by decide) (by kernel_rfl)
              have e71 := (hr 71 (by decide)).trans q71
              exact op_value rfl rfl (run_extractL wc rfl e71 rfl) (hK _ wc (grownL wc) rfl)
            · obtain ⟨g80, q80, h80⟩ := hp 9 (by decide) (by kernel_rfl)
              have e80 := (hr 80 (by decide)).trans q80
              exact op_value rfl rfl (run_assignL wc rfl e80) (hK _ wc (grownL wc) (show bltO m (builtM S s v) wr.heap.size _ _ from ⟨g80, rfl, h80⟩)))
          (fun σ wc hbc hp => by
            refine op_value rfl rfl (run_assignL wc rfl ((eval_setAll (t := tbS [72, 73, 74, 75, 76, 77, 78, 79, 71, 80, 81, 20] 12 σ) 81 (show ([72, 73, 74, 75, 76, 77, 78, 79, 71, 80, 81, 20] : List Nat).Nodup by decide) (by kernel_rfl)).trans (hp 10 (by decide)))) ⟨rfl, σ, put_list _ _ _, hp 11 (by decide), hbc⟩)) ?_
        rintro e a' w5 ⟨rfl, σ5, rfl, ⟨gp, qp, hpp, hgp⟩, hb5⟩
        rw [show tbS [72, 73, 74, 75, 76, 77, 78, 79, 71, 80, 81, 20] 12 σ5 = [(72, σ5 0), (73, σ5 1), (74, σ5 2), (75, σ5 3), (76, σ5 4), (77, σ5 5), (78, σ5 6), (79, σ5 7), (71, σ5 8), (80, σ5 9), (81, σ5 10), (20, σ5 11)] from rfl, qp]
        dsimp only [setAll, List.set, List.append_nil, List.cons_append, List.nil_append]
        have hB5 := hB.trans (hb5.mono hB.size)
        have gy5 := cell_old hB5 gy0
        have gx5 := cell_old hB5 gx0
        go_wp2_with fail
        refine wp_mono (region_each (Q := fun e a' w' => e = .normal ∧ ∃ σ : Nat → Value, a' = ({ tmps := ((setAll _ (tbS [83, 84, 85, 86, 87, 88, 89, 90, 91, 92, 93, 82, 94, 95, 22] 15 σ)).set 23 (.int .i64 0)).toArray, defers := [] } : Act) ∧ bltO m (builtM S s u) w5.heap.size (σ 14) w' ∧ Below w5.heap.size w5 w') 16 15 [83, 84, 85, 86, 87, 88, 89, 90, 91, 92, 93, 82, 94, 95, 22]
          [[0], [4], [2], [18], [86], [19], [87, 88], [85, 89], [90], [91], [83, 84, 92], [93], [82], [82], [94]] [10, 10, 7, 4, 6, 6, 7, 8, 9, 10, 11, 12, 14, 15, 15]
          [eqR (.string s), eqR S.val, eqR (.slice (some ⟨bz, oz, none⟩) nz cz), eqR (.int .i64 (kk : Int)), eqR (.int .i64 ((kk : Int) - 1)), eqR (.int .i64 (i : Int)), eqR (.int .i64 (j : Int)), eqR (.pointer (some ⟨bz, oz + j, none⟩)), eqR (.int .i64 y), eqR (.int .i64 (u : Int)), bltT m (builtM S s u) w5.heap.size, bltT m (builtM S s u) w5.heap.size, bltO m (builtM S s u) w5.heap.size, eqR (.int .i64 0), bltO m (builtM S s u) w5.heap.size] w5 hmix rfl (by decide) rfl (by decide) (by kernel_rfl) (by kernel_rfl) (by kernel_rfl) (by kernel_rfl) (by kernel_rfl) (by kernel_rfl)
          (by intro R hR; simp only [List.mem_cons, List.not_mem_nil, or_false] at hR; rcases hR with rfl | rfl | rfl | rfl | rfl | rfl | rfl | rfl | rfl | rfl | rfl | rfl | rfl | rfl | rfl <;> (first | (exact eqR_mono _) | (exact bltT_mono _ _ _) | (exact bltO_mono _ _ _)))
          (fun i' hi' σ ac wc hbc hp hr Q K hK => by
            have hor : i' = 0 ∨ i' = 1 ∨ i' = 2 ∨ i' = 3 ∨ i' = 4 ∨ i' = 5 ∨ i' = 6 ∨ i' = 7 ∨ i' = 8 ∨ i' = 9 ∨ i' = 10 ∨ i' = 11 ∨ i' = 12 ∨ i' = 13 ∨ i' = 14 := by omega
            rcases hor with rfl | rfl | rfl | rfl | rfl | rfl | rfl | rfl | rfl | rfl | rfl | rfl | rfl | rfl | rfl
            · have e0 := hr 0 (by decide)
              exact op_value rfl rfl (run_moveQ wc rfl e0) (hK _ wc (grownL wc) rfl)
            · have e4 := hr 4 (by decide)
              obtain ⟨c0, c1, c2, c3, c4⟩ := HCC.out wc (hB5.trans (hbc.mono hB5.size))
              exact op_value rfl rfl (run_loadSetL (S := S) wc rfl e4 c0 c1 c2 c3 c4) (hK _ wc (grownL wc) rfl)
            · have e2 := hr 2 (by decide)
              exact op_value rfl rfl (run_moveQ wc rfl e2) (hK _ wc (grownL wc) rfl)
            · have e18 := hr 18 (by decide)
              exact op_value rfl rfl (run_moveQ wc rfl e18) (hK _ wc (grownL wc) rfl)
            · have e86 : ac.eval (.tmp 86) = (.int .i64 (kk : Int)) := (hr 86 (by decide)).trans (hp 3 (by decide) (by kernel_rfl))
              exact op_value rfl rfl (run_subL wc rfl e86 rfl rfl (by rw [IntKind.wrap_i64]; omega)) (hK _ wc (grownL wc) rfl)
            · have e19 := hr 19 (by decide)
              exact op_value rfl rfl (run_moveQ wc rfl e19) (hK _ wc (grownL wc) rfl)
            · have e87 : ac.eval (.tmp 87) = (.int .i64 ((kk : Int) - 1)) := (hr 87 (by decide)).trans (hp 4 (by decide) (by kernel_rfl))
              have e88 : ac.eval (.tmp 88) = (.int .i64 (i : Int)) := (hr 88 (by decide)).trans (hp 5 (by decide) (by kernel_rfl))
              exact op_value rfl rfl (run_subL wc rfl e87 e88 hji (by rw [IntKind.wrap_i64]; omega)) (hK _ wc (grownL wc) rfl)
            · have e85 : ac.eval (.tmp 85) = (.slice (some ⟨bz, oz, none⟩) nz cz) := (hr 85 (by decide)).trans (hp 2 (by decide) (by kernel_rfl))
              have e89 : ac.eval (.tmp 89) = (.int .i64 (j : Int)) := (hr 89 (by decide)).trans (hp 6 (by decide) (by kernel_rfl))
              exact op_value rfl rfl (run_idxI wc rfl e85 e89 hjnz) (hK _ wc (grownL wc) rfl)
            · have e90 : ac.eval (.tmp 90) = (.pointer (some ⟨bz, oz + j, none⟩)) := (hr 90 (by decide)).trans (hp 7 (by decide) (by kernel_rfl))
              exact op_value rfl rfl (run_loadI wc rfl e90 (cell_old hbc gy5)) (hK _ wc (grownL wc) rfl)
            · have e91 : ac.eval (.tmp 91) = (.int .i64 y) := (hr 91 (by decide)).trans (hp 8 (by decide) (by kernel_rfl))
              exact op_value rfl rfl (run_and3 wc rfl e91 hy3 rfl) (hK _ wc (grownL wc) rfl)
            · have e83 : ac.eval (.tmp 83) = (.string s) := (hr 83 (by decide)).trans (hp 0 (by decide) (by kernel_rfl))
              have e84 : ac.eval (.tmp 84) = S.val := (hr 84 (by decide)).trans (hp 1 (by decide) (by kernel_rfl))
              have e92 : ac.eval (.tmp 92) = (.int .i64 (u : Int)) := (hr 92 (by decide)).trans (hp 9 (by decide) (by kernel_rfl))
              refine op_callNL rfl rfl rfl (enters_of Tryz.func32 (by kernel_rfl) rfl) (map3L e83 e84 e92) (hbu u hu wc (hrdy wc (hB5.trans (hbc.mono hB5.size)))) fun e w' hr' => ?_
              obtain ⟨g1, rfl, hp1, hg1, hb'⟩ := hr'
              exact ⟨_, rfl, hK _ w' (grown_of_below hb') (show bltT m (builtM S s u) w5.heap.size _ _ from ⟨g1, rfl, hp1, Nat.le_trans hbc.size hg1⟩)⟩
            · obtain ⟨g93, q93, h93⟩ := hp 10 (by decide) (by kernel_rfl)
              have e93 := (hr 93 (by decide)).trans q93
              exact op_value rfl rfl (run_moveQ wc rfl e93) (hK _ wc (grownL wc) (show bltT m (builtM S s u) w5.heap.size _ _ from ⟨g93, rfl, h93⟩))
            · obtain ⟨g82, q82, h82⟩ := hp 11 (by decide) (by kernel_rfl)
              have e82 := (hr 82 (by decide)).trans q82
              exact op_value rfl rfl (run_extractL wc rfl e82 rfl) (hK _ wc (grownL wc) (show bltO m (builtM S s u) w5.heap.size _ _ from ⟨g82, rfl, h82⟩))
            · obtain ⟨g82, q82, h82⟩ := hp 11 (by decide) (by kernel_rfl)
              have e82 := (hr 82 (by decide)).trans q82
              exact op_value rfl rfl (run_extractL wc rfl e82 rfl) (hK _ wc (grownL wc) rfl)
            · obtain ⟨g94, q94, h94⟩ := hp 12 (by decide) (by kernel_rfl)
              have e94 := (hr 94 (by decide)).trans q94
              exact op_value rfl rfl (run_assignL wc rfl e94) (hK _ wc (grownL wc) (show bltO m (builtM S s u) w5.heap.size _ _ from ⟨g94, rfl, h94⟩)))
          (fun σ wc hbc hp => by
            refine op_value rfl rfl (run_assignL wc rfl ((eval_setAll (t := tbS [83, 84, 85, 86, 87, 88, 89, 90, 91, 92, 93, 82, 94, 95, 22] 15 σ) 95 (show ([83, 84, 85, 86, 87, 88, 89, 90, 91, 92, 93, 82, 94, 95, 22] : List Nat).Nodup by decide) (by kernel_rfl)).trans (hp 13 (by decide)))) ⟨rfl, σ, put_list _ _ _, hp 14 (by decide), hbc⟩)) ?_
        rintro e a' w6 ⟨rfl, σ6, rfl, ⟨gq, qq, hpq, hgq⟩, hb6⟩
        rw [show tbS [83, 84, 85, 86, 87, 88, 89, 90, 91, 92, 93, 82, 94, 95, 22] 15 σ6 = [(83, σ6 0), (84, σ6 1), (85, σ6 2), (86, σ6 3), (87, σ6 4), (88, σ6 5), (89, σ6 6), (90, σ6 7), (91, σ6 8), (92, σ6 9), (93, σ6 10), (82, σ6 11), (94, σ6 12), (95, σ6 13), (22, σ6 14)] from rfl, qq]
        dsimp only [setAll, List.set, List.append_nil, List.cons_append, List.nil_append]
        have hB6 := hB5.trans (hb6.mono hB5.size)
        have gx6 := cell_old hB6 gx0
        have hr6 := hb5.trans (hb6.mono hb5.size)
        have hEa6 := hEa.old hr6
        have hEb6 := hEb.old hr6
        have hpp6 := hpp.below hb6
        obtain ⟨ba', ga', ea', eFa, -, -, -⟩ := hEa.block
        cases ea'
        obtain ⟨bb', gb', eb', eFb, -, -, -⟩ := hEb.block
        cases eb'
        have htk := HTK.out w6 ⟨ba, 0, none⟩ Fa va v gp (hrdy _ hB6) hEa6 hpp6 hla hv
        have hbaF : ba ∈ Fa := by rw [eFa]; simp
        have hbbF : bb ∈ Fb := by rw [eFb]; simp
        have hbaB : ba ∉ Fb := hab ba hbaF
        have hlta := BufR.lt hEa ba hbaF
        have hltb := BufR.lt hEb bb hbbF
        have hEr1 := took_err S s.size (sumsV S s (va ++ [v]))
        have hEr2 := took_err S s.size (sumsV S s (vb ++ [u]))
        have hA1 := fun h => HAL2.out h va v
        have hT1 := toldV_snoc S s va v
        have hT2 := toldV_snoc S s vb u
        obtain ⟨t1, et1⟩ : ∃ t1, t1 = tookM S s.size (sumsV S s (va ++ [v])) := ⟨_, rfl⟩
        obtain ⟨t2, et2⟩ : ∃ t2, t2 = tookM S s.size (sumsV S s (vb ++ [u])) := ⟨_, rfl⟩
        have HTK2 := HTK
        rw [← et1] at htk hEr1 hA1 hT1
        rw [← et2] at hEr2 hT2
        have HE2 := hid et2
        clear et1 et2
        clear hA1
        obtain ⟨da, oa, ra⟩ := t1
        obtain rfl : ra = 0 := hEr1
        cases oa with
        | true =>
          obtain ⟨db, ob, rb⟩ := t2
          obtain rfl : rb = 0 := hEr2
          unfold Told.val at htk
          dsimp only at htk
          have HT1 := hid hT1
          have HT2 := hid hT2
          have hBk : ∀ wz, Kept [ba] w6 wz → Below w0.heap.size w0 wz := fun wz hk => hB6.trans (hk.below hB6.size (fun x hx => by obtain rfl : x = ba := (by simpa using hx); exact hFa _ hbaF))
          have hBl : ∀ w7 wz, Below w0.heap.size w0 w7 → Kept [bb] w7 wz → Below w0.heap.size w0 wz := fun w7 wz h7 hk => h7.trans (hk.below h7.size (fun x hx => by obtain rfl : x = bb := (by simpa using hx); exact hFb _ hbbF))
          have HFa := hid eFa
          have HFb := hid eFb
          clear eFa eFb
          clear hT1 hT2
          go_wp2_with fail
          refine htk.mono ?_
          rintro e w7 ⟨rfl, Fa', hEa7, hFa7, hk7⟩
          have hB7 := hBk w7 hk7
          have gx7 := cell_old hB7 gx0
          have gy7 := cell_old hB7 gy0
          have hEb7 := hEb6.keptA hk7 (fun x hx h => by obtain rfl : x = ba := (by simpa using h); exact hbaB hx)
          have hpq7 := Pts.keptK hpq hk7 (fun g o e _ h => by cases e; obtain rfl : gq = ba := (by simpa using h); have := hb5.size; omega)
          have htk2 := HTK2.out w7 ⟨bb, 0, none⟩ Fb vb u gq (hrdy _ hB7) hEb7 hpq7 hlb hu
          rw [← HE2.out] at htk2
          unfold Told.val at htk2
          dsimp only at htk2
          clear htk
          go_wp2_with fail
          refine htk2.mono ?_
          rintro e w8 ⟨rfl, Fb', hEb8, hFb8, hk8⟩
          clear htk2
          have hEa8 := hEa7.keptA hk8 (fun x hx h => by
            obtain rfl : x = bb := (by simpa using h)
            rcases hFa7 _ hx with h1 | h1
            · exact hab _ h1 hbbF
            · have := hr6.size; omega)
          have hB8 := hBl w7 w8 hB7 hk8
          have hFa' : ∀ x ∈ Fa', w0.heap.size ≤ x := fun x hx => by
            rcases hFa7 x hx with h | h
            · exact hFa x h
            · exact Nat.le_trans hB6.size h
          have hFb' : ∀ x ∈ Fb', w0.heap.size ≤ x := fun x hx => by
            rcases hFb8 x hx with h | h
            · exact hFb x h
            · exact Nat.le_trans hB7.size h
          have hab' : ∀ x ∈ Fa', x ∉ Fb' := fun x hx hy => by
            rcases hFb8 x hy with h | h
            · rcases hFa7 x hx with h1 | h1
              · exact hab x h1 h
              · have h2 := BufR.lt hEb6 x h; omega
            · have h2 := BufR.lt hEa7 x hx; omega
          go_wp2_with fail
          go_roundw
          case measure => simp [intOf]; omega
          refine ⟨i + 1, Fa', Fb', by omega, by go_num, ?_, ?_, ?_, ?_, ?_, ?_, hFa', hFb', hab', hB8⟩
          · rw [HTI.out, HT1.out]
          · rw [HTI.out, HT1.out]
          · rw [HTJ.out, HT2.out]
          · rw [HTJ.out, HT2.out]
          · rw [HTI.out]; exact hEa8
          · rw [HTJ.out]; exact hEb8
        | false =>
          obtain ⟨db, ob, rb⟩ := t2
          obtain rfl : rb = 0 := hEr2
          unfold Told.val at htk
          dsimp only at htk
          have HT1 := hid hT1
          have HT2 := hid hT2
          have hBk : ∀ wz, Kept [ba] w6 wz → Below w0.heap.size w0 wz := fun wz hk => hB6.trans (hk.below hB6.size (fun x hx => by obtain rfl : x = ba := (by simpa using hx); exact hFa _ hbaF))
          have hBl : ∀ w7 wz, Below w0.heap.size w0 w7 → Kept [bb] w7 wz → Below w0.heap.size w0 wz := fun w7 wz h7 hk => h7.trans (hk.below h7.size (fun x hx => by obtain rfl : x = bb := (by simpa using hx); exact hFb _ hbbF))
          have HFa := hid eFa
          have HFb := hid eFb
          clear eFa eFb
          clear hT1 hT2
          go_wp2_with fail
          refine htk.mono ?_
          rintro e w7 ⟨rfl, Fa', hEa7, hFa7, hk7⟩
          have hB7 := hBk w7 hk7
          have gx7 := cell_old hB7 gx0
          have gy7 := cell_old hB7 gy0
          have hEb7 := hEb6.keptA hk7 (fun x hx h => by obtain rfl : x = ba := (by simpa using h); exact hbaB hx)
          have hpq7 := Pts.keptK hpq hk7 (fun g o e _ h => by cases e; obtain rfl : gq = ba := (by simpa using h); have := hb5.size; omega)
          have htk2 := HTK2.out w7 ⟨bb, 0, none⟩ Fb vb u gq (hrdy _ hB7) hEb7 hpq7 hlb hu
          rw [← HE2.out] at htk2
          unfold Told.val at htk2
          dsimp only at htk2
          clear htk
          go_wp2_with fail
          refine htk2.mono ?_
          rintro e w8 ⟨rfl, Fb', hEb8, hFb8, hk8⟩
          clear htk2
          have hEa8 := hEa7.keptA hk8 (fun x hx h => by
            obtain rfl : x = bb := (by simpa using h)
            rcases hFa7 _ hx with h1 | h1
            · exact hab _ h1 hbbF
            · have := hr6.size; omega)
          have hB8 := hBl w7 w8 hB7 hk8
          have hFa' : ∀ x ∈ Fa', w0.heap.size ≤ x := fun x hx => by
            rcases hFa7 x hx with h | h
            · exact hFa x h
            · exact Nat.le_trans hB6.size h
          have hFb' : ∀ x ∈ Fb', w0.heap.size ≤ x := fun x hx => by
            rcases hFb8 x hx with h | h
            · exact hFb x h
            · exact Nat.le_trans hB7.size h
          have hab' : ∀ x ∈ Fa', x ∉ Fb' := fun x hx hy => by
            rcases hFb8 x hy with h | h
            · rcases hFa7 x hx with h1 | h1
              · exact hab x h1 h
              · have h2 := BufR.lt hEb6 x h; omega
            · have h2 := BufR.lt hEa7 x hx; omega
          go_wp2_with fail
          go_roundw
          case measure => simp [intOf]; omega
          refine ⟨i + 1, Fa', Fb', by omega, by go_num, ?_, ?_, ?_, ?_, ?_, ?_, hFa', hFb', hab', hB8⟩
          · rw [HTI.out, HT1.out]
          · rw [HTI.out, HT1.out]
          · rw [HTJ.out, HT2.out]
          · rw [HTJ.out, HT2.out]
          · rw [HTI.out]; exact hEa8
          · rw [HTJ.out]; exact hEb8
      · have e : i = kk := by omega
        subst e
        have e1 : VS.take i = VS := List.take_of_length_le (by rw [HVL.out]; exact Nat.le_refl _)
        have e2 : VS.reverse.take i = VS.reverse := List.take_of_length_le (by rw [List.length_reverse, HVL.out]; exact Nat.le_refl _)
        rw [e1, e2, toldV_reverse]
        clear hEa hEb e1 e2
        generalize toldV S s VS = tt
        obtain ⟨da, oa, ra⟩ := tt
        dsimp only
        go_wp2_with fail
        go_ret
        exact ⟨rfl, hb0.trans (hB.mono (Nat.le_of_lt hl0))⟩
end Go.Proofs.YtplkmkbambbemadGreatDoor
