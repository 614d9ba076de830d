import Derived.Test.YtplkmkbambbemaeGreatDoorM21
import Derived.Test.YtplkmkbambbemaeGreatDoorM02
import Derived.Deep.SlicePairs
import Derived.Lib.SmallJoins
namespace Go.Proofs.YtplkmkbambbemaeGreatDoor
open Go.ChangeShapes Go.WideShapes Go.ChangeAt Go.RowKit
set_option linter.unusedVariables false
set_option maxRecDepth 100000 in
set_option maxHeartbeats 8000000 in
theorem bufmem_good_err (n : Int) (zs : List Int) (az : Option Addr) (nz cz : Nat) (s : ByteArray) (S : Setg) (w : World) (hR : ReadyL w) (hIn : S.In) (hs : I64k (s.size : Int)) (hZ : Rd .i64 w az zs) (hzl : zs.length = nz) (hzn : az = none → nz = 0 ∧ cz = 0) (hz9 : nz ≤ 17592186043904) (k : Nat) (hnk : n = (k : Int)) (hk1 : 1 ≤ k) (hk4 : k ≤ 4096) (hE : buildErr S s.size 0 ≠ 0) :
    Calls Tryz.prog 3 #[.int .i64 n, .slice az nz cz, .string s, S.val] w fun e w' => e = .returned (.bool true) ∧ Below w.heap.size w w' := by
  have hs2 := hs.2
  have HCC : Hid (∀ wz, Below (w.alloc (.cells #[.int .i64 S.code, .int .i64 S.size, .int .i64 S.order, .int .i64 S.seed, .int .i64 S.count] 24)).heap.size (w.alloc (.cells #[.int .i64 S.code, .int .i64 S.size, .int .i64 S.order, .int .i64 S.seed, .int .i64 S.count] 24)) wz → wz.cell? ⟨w.heap.size, 0, none⟩ = some (.int .i64 S.code) ∧ wz.cell? ⟨w.heap.size, 1, none⟩ = some (.int .i64 S.size) ∧ wz.cell? ⟨w.heap.size, 2, none⟩ = some (.int .i64 S.order) ∧ wz.cell? ⟨w.heap.size, 3, none⟩ = some (.int .i64 S.seed) ∧ wz.cell? ⟨w.heap.size, 4, none⟩ = some (.int .i64 S.count)) := fun wz h => set_cells h
  have hb0 : Below w.heap.size w (w.alloc (.cells #[.int .i64 S.code, .int .i64 S.size, .int .i64 S.order, .int .i64 S.seed, .int .i64 S.count] 24)) := (Below.refl _ w).alloc (Nat.le_refl _) _
  have hl0 : w.heap.size < (w.alloc (.cells #[.int .i64 S.code, .int .i64 S.size, .int .i64 S.order, .int .i64 S.seed, .int .i64 S.count] 24)).heap.size := by simp
  have hR0 := hR.below hb0
  have hZ0 := hZ.below hb0
  have HZL := hid hzl
  subst hnk
  have hzk : softOk (List.replicate k (0 : Int)) = true := by
    unfold softOk
    refine List.all_eq_true.2 fun x hx => ?_
    rw [List.eq_of_mem_replicate hx]
    decide
  have hbd := fun wz => lbuild_bad s S 0 wz hIn hs hE
  obtain ⟨E, eE⟩ : ∃ E, E = buildErr S s.size 0 := ⟨_, rfl⟩
  rw [← eE] at hbd hE
  have qE : (E != 0) = true := by simpa using hE
  clear eE hE
  unfold Setg.val
  go_enter Tryz.func3, Tryz.ntmps3
  go_wp2_with fail
  generalize w.alloc (.cells #[.int .i64 S.code, .int .i64 S.size, .int .i64 S.order, .int .i64 S.seed, .int .i64 S.count] 24) = w0 at *
  have hrdy : ∀ wz, Below w0.heap.size w0 wz → ReadyL wz := fun wz h => hR0.below h
  refine (new_any k _ hk1 hk4).mono ?_
  rintro e w1 ⟨pa, Fa, rfl, ha1, hFa, hb1⟩
  obtain ⟨ba, ga, rfl, eFa, -⟩ := id ha1
  have hba : ba ∈ Fa := by rw [eFa]; simp
  have hbal := BufR.lt ha1 ba hba
  have hba1 := hFa ba hba
  have HFa := hid eFa
  clear eFa
  go_wp2_with fail
  refine (new_any k _ hk1 hk4).mono ?_
  rintro e w2 ⟨pb, Fb, rfl, hb2', hFb, hb2⟩
  obtain ⟨bb, gb, rfl, eFb, -⟩ := id hb2'
  have hbb : bb ∈ Fb := by rw [eFb]; simp
  have hbbl := BufR.lt hb2' bb hbb
  have hbb1 := hFb bb hbb
  have HFb := hid eFb
  clear eFb
  have hB2 := hb1.trans (hb2.mono hb1.size)
  have hab : ∀ x ∈ Fa, x ∉ Fb := fun x h1 h2 => by have h3 := BufR.lt ha1 x h1; have h4 := hFb x h2; omega
  have ha2 := bufP_kept ha1 (Kept.of_below (S := []) hb2) (fun _ _ => by simp)
  have hs01 := hb1.size
  have hs12 := hb2.size
  go_wp2_with fail
  refine (there_any _).mono ?_
  rintro e w3 ⟨rfl, hb3⟩
  have hB3 := hB2.trans (hb3.mono hB2.size)
  have ha3 := bufP_kept ha2 (Kept.of_below (S := []) hb3) (fun _ _ => by simp)
  have hbb3 := bufP_kept hb2' (Kept.of_below (S := []) hb3) (fun _ _ => by simp)
  have hZ3 := hZ0.below hB3
  have hs23 := hb3.size
  go_wp2_with fail
  refine (roomyI zs (-7) az cz nz _ hZ3 hzn HZL.out (by omega)).mono ?_
  rintro e w4 ⟨gx, rfl, hx4, hgx, hb4⟩
  have hB4 := hB3.trans (hb4.mono hB3.size)
  have hgxl := hx4.lt
  have ha4 := bufP_kept ha3 (Kept.of_below (S := []) hb4) (fun _ _ => by simp)
  have hbb4 := bufP_kept hbb3 (Kept.of_below (S := []) hb4) (fun _ _ => by simp)
  have hZ4 := hZ0.below hB4
  have hs34 := hb4.size
  have hrx : Rd .i64 w4 (some ⟨gx, 0, none⟩) zs := ArrAt.rd (A := []) (o := 0) hx4 rfl
  have had := add_any (some ⟨gx, 0, none⟩) (nz + 3) zs 0 (hrdy _ hB4).col ha4 (by rw [List.length_replicate]; exact hk1) (by rw [List.length_replicate]; exact hk4) hzk hrx (by rw [HZL.out]; unfold maxLen; omega)
  rw [HZL.out] at had
  go_wp2_with fail
  refine had.mono ?_
  rintro e w5 ⟨Fa5, rfl, ha5, hFa5, hk5⟩
  have hB5 : Below w0.heap.size w0 w5 := hB4.trans (hk5.below hB4.size (fun x hx => by obtain rfl : x = ba := (by simpa using hx); omega))
  have hbb5 := bufP_kept hbb4 hk5 (fun x hx h => by obtain rfl : x = ba := (by simpa using h); exact hab _ hba hx)
  have hx5 := hx4.kept hk5 (fun h => by obtain rfl : gx = ba := (by simpa using h); omega)
  have hZ5 := hZ0.below hB5
  have hs45 := hk5.size
  have had := add_any az cz zs 0 (hrdy _ hB5).col hbb5 (by rw [List.length_replicate]; exact hk1) (by rw [List.length_replicate]; exact hk4) hzk hZ5 (by rw [HZL.out]; unfold maxLen; omega)
  rw [HZL.out] at had
  go_wp2_with fail
  refine had.mono ?_
  rintro e w6 ⟨Fb6, rfl, hbb6, hFb6, hk6⟩
  have hB6 : Below w0.heap.size w0 w6 := hB5.trans (hk6.below hB5.size (fun x hx => by obtain rfl : x = bb := (by simpa using hx); omega))
  have ha6 := bufP_kept ha5 hk6 (fun x hx h => by
    obtain rfl : x = bb := (by simpa using h)
    rcases hFa5 _ hx with h1 | h1
    · exact hab _ h1 hbb
    · omega)
  have hx6 := hx5.kept hk6 (fun h => by obtain rfl : gx = bb := (by simpa using h); omega)
  have hZ6 := hZ0.below hB6
  have hs56 := hk6.size
  have hsl : (addM (List.replicate k 0) zs 0).length = k := by rw [addM_length, List.length_replicate]
  obtain ⟨ss, ess⟩ : ∃ ss, ss = addM (List.replicate k 0) zs 0 := ⟨_, rfl⟩
  rw [← ess] at ha6 hbb6 hsl
  have HSS := hid hsl
  obtain ⟨ae, eae⟩ : ∃ ae, ae = addErr (List.replicate k 0) zs 0 := ⟨_, rfl⟩
  rw [← eae]
  have qae : (ae != ae) = false := by simp
  clear ess eae hsl ha5 hbb5
  have hkp := keptI zs (-7) gx nz az cz w6 HZL.out (by omega) hx6 hZ6
  go_wp2_with fail
  refine hkp.mono ?_
  rintro e w7 ⟨rfl, hb7⟩
  have hB7 := hB6.trans (hb7.mono hB6.size)
  have ha7 := bufP_kept ha6 (Kept.of_below (S := []) hb7) (fun _ _ => by simp)
  have hbb7 := bufP_kept hbb6 (Kept.of_below (S := []) hb7) (fun _ _ => by simp)
  have hx7 := hx6.below hb7 hx6.lt
  have hs67 := hb7.size
  have hsp := spoiltIK (-7) gx nz (nz + 3) _ w7 hx7 (by omega) (by unfold maxLen; omega) (by have h1 := HZL.out; simp [h1]) hz9
  go_wp2_with fail
  refine hsp.mono ?_
  rintro e w8 ⟨rfl, hk8⟩
  have hB8 : Below w0.heap.size w0 w8 := hB7.trans (hk8.below hB7.size (fun x hx => by obtain rfl : x = gx := (by simpa using hx); omega))
  have ha8 := bufP_kept ha7 hk8 (fun x hx h => by
    obtain rfl : x = gx := (by simpa using h)
    rcases hFa5 _ hx with h1 | h1
    · have h2 := BufR.lt ha1 _ h1; omega
    · omega)
  have hbb8 := bufP_kept hbb7 hk8 (fun x hx h => by
    obtain rfl : x = gx := (by simpa using h)
    rcases hFb6 _ hx with h1 | h1
    · have h2 := BufR.lt hb2' _ h1; omega
    · omega)
  have hs78 := hk8.size
  have hsg := fun {wz : World} {p : Addr} {F : List Nat} (h : BufP wz p F ss) => soft_get h (by rw [HSS.out]; exact hk1) (by rw [HSS.out]; exact hk4)
  simp only [HSS.out] at hsg
  have hal := fun {wz : World} {p : Addr} {F : List Nat} (h : BufP wz p F ss) => BufR.lt h
  go_wp2_with fail
  refine (hsg ha8).mono ?_
  rintro e w9 ⟨gu, rfl, hu9, hgu, hb9⟩
  have hB9 := hB8.trans (hb9.mono hB8.size)
  have ha9 := bufP_kept ha8 (Kept.of_below (S := []) hb9) (fun _ _ => by simp)
  have hbb9 := bufP_kept hbb8 (Kept.of_below (S := []) hb9) (fun _ _ => by simp)
  have hs89 := hb9.size
  have hgul := hu9.lt
  have hsp2 := spoiltIK (-7) gu k k _ w9 hu9 (Nat.le_refl _) (by unfold maxLen; omega) (by have h1 := HSS.out; simp [h1]) (by omega)
  go_wp2_with fail
  refine hsp2.mono ?_
  rintro e w10 ⟨rfl, hk10⟩
  have hB10 : Below w0.heap.size w0 w10 := hB9.trans (hk10.below hB9.size (fun x hx => by obtain rfl : x = gu := (by simpa using hx); have := hB8.size; omega))
  have ha10 := bufP_kept ha9 hk10 (fun x hx h => by obtain rfl : x = gu := (by simpa using h); have := hal ha8 _ hx; omega)
  have hbb10 := bufP_kept hbb9 hk10 (fun x hx h => by obtain rfl : x = gu := (by simpa using h); have := hal hbb8 _ hx; omega)
  go_wp2_with fail
  refine (hsg ha10).mono ?_
  rintro e w11 ⟨g1, rfl, hu11, hg11, hb11⟩
  have hB11 := hB10.trans (hb11.mono hB10.size)
  have hbb11 := bufP_kept hbb10 (Kept.of_below (S := []) hb11) (fun _ _ => by simp)
  go_wp2_with fail
  refine (hsg hbb11).mono ?_
  rintro e w12 ⟨g2, rfl, hu12, hg12, hb12⟩
  have hB12 := hB11.trans (hb12.mono hB11.size)
  have hsm := same_ints ss ss (some ⟨g1, 0, none⟩) (some ⟨g2, 0, none⟩) k k w12 (ArrAt.rdL (hu11.below hb12 hu11.lt)) (ArrAt.rdL hu12) (by rw [HSS.out]; unfold maxLen; omega) (by rw [HSS.out]; unfold maxLen; omega)
  rw [HSS.out, show decide (ss = ss) = true by simp] at hsm
  go_wp2_with fail
  refine hsm.mono ?_
  rintro e w13 ⟨rfl, hb13⟩
  have hB13 := hB12.trans (hb13.mono hB12.size)
  obtain ⟨d0, d1, d2, d3, d4⟩ := HCC.out w13 hB13
  go_wp2_with fail
  refine (hbd _).mono ?_
  rintro e x1 ⟨rfl, hx1⟩
  go_wp2_with fail
  go_ret
  exact ⟨rfl, hb0.trans ((hB13.trans (hx1.mono hB13.size)).mono hb0.size)⟩
set_option maxRecDepth 100000 in
set_option maxHeartbeats 8000000 in
theorem bufmem_good_ok (n : Int) (zs : List Int) (az : Option Addr) (nz cz : Nat) (s : ByteArray) (S : Setg) (w : World) (hR : ReadyL w) (hIn : S.In) (hs : I64k (s.size : Int)) (hZ : Rd .i64 w az zs) (hzl : zs.length = nz) (hzn : az = none → nz = 0 ∧ cz = 0) (hz9 : nz ≤ 17592186043904) (k : Nat) (hnk : n = (k : Int)) (hk1 : 1 ≤ k) (hk4 : k ≤ 4096) (hE : buildErr S s.size 0 = 0) :
    Calls Tryz.prog 3 #[.int .i64 n, .slice az nz cz, .string s, S.val] w fun e w' => e = .returned (.bool true) ∧ Below w.heap.size w w' := by
  have hs2 := hs.2
  have HCC : Hid (∀ wz, Below (w.alloc (.cells #[.int .i64 S.code, .int .i64 S.size, .int .i64 S.order, .int .i64 S.seed, .int .i64 S.count] 24)).heap.size (w.alloc (.cells #[.int .i64 S.code, .int .i64 S.size, .int .i64 S.order, .int .i64 S.seed, .int .i64 S.count] 24)) wz → wz.cell? ⟨w.heap.size, 0, none⟩ = some (.int .i64 S.code) ∧ wz.cell? ⟨w.heap.size, 1, none⟩ = some (.int .i64 S.size) ∧ wz.cell? ⟨w.heap.size, 2, none⟩ = some (.int .i64 S.order) ∧ wz.cell? ⟨w.heap.size, 3, none⟩ = some (.int .i64 S.seed) ∧ wz.cell? ⟨w.heap.size, 4, none⟩ = some (.int .i64 S.count)) := fun wz h => set_cells h
  have hb0 : Below w.heap.size w (w.alloc (.cells #[.int .i64 S.code, .int .i64 S.size, .int .i64 S.order, .int .i64 S.seed, .int .i64 S.count] 24)) := (Below.refl _ w).alloc (Nat.le_refl _) _
  have hl0 : w.heap.size < (w.alloc (.cells #[.int .i64 S.code, .int .i64 S.size, .int .i64 S.order, .int .i64 S.seed, .int .i64 S.count] 24)).heap.size := by simp
  have hR0 := hR.below hb0
  have hZ0 := hZ.below hb0
  have HZL := hid hzl
  subst hnk
  have hzk : softOk (List.replicate k (0 : Int)) = true := by
    unfold softOk
    refine List.all_eq_true.2 fun x hx => ?_
    rw [List.eq_of_mem_replicate hx]
    decide
  have hSe : setErr S s.size = 0 := by
    by_cases h0 : setErr S s.size = 0
    · exact h0
    · unfold buildErr at hE; rw [if_neg h0] at hE; exact absurd hE h0
  have hS := setOk_of hSe
  obtain ⟨m, em⟩ : ∃ m, m = S.count.toNat / S.order.toNat := ⟨_, rfl⟩
  have hm : ∀ v, (builtM S s v).length = m := fun v => by rw [em]; unfold builtM; simp [sentM]
  have hm4 : m ≤ 4096 := by rw [← hm 0]; exact builtM_few hS 0
  have hm1 : 1 ≤ m := by
    have h1 := hS.order
    have h2 := hS.count
    rw [em]
    exact Nat.div_pos (by omega) (by omega)
  have hbd : ∀ wz, ReadyL wz → Calls Tryz.prog 12 #[.string s, S.val, .int .i64 0] wz fun e w' => ∃ g, e = .returned (.tuple #[.slice (some ⟨g, 0, none⟩) m m, .int .i64 0]) ∧ Pts w' (some ⟨g, 0, none⟩) (builtM S s 0) ∧ wz.heap.size ≤ g ∧ Below wz.heap.size wz w' := fun wz hz => build_back hIn hSe m hm 0 (by omega) wz hz
  have hnw := fun (wz : World) (hz : ReadyL wz) => lnew_ok S s.size wz hz hIn hSe
  obtain ⟨N, eN, hN1, hN4⟩ := codedN_nat hS
  rw [eN, Int.toNat_natCast] at hnw
  have hzr : ((List.replicate N (0 : Int)).length : Int) = codedN S s.size := by rw [eN, List.length_replicate]
  have hzs : softOk (List.replicate N (0 : Int)) = true := by
    unfold softOk
    refine List.all_eq_true.2 fun x hx => ?_
    rw [List.eq_of_mem_replicate hx]
    decide
  have HM := hid (hm 0)
  obtain ⟨L, eL⟩ : ∃ L, L = builtM S s 0 := ⟨_, rfl⟩
  rw [← eL] at hbd HM
  have HTB := hid (fun (wz : World) (p : Addr) (F : List Nat) (sm : List Int) (g c : Nat) (h1 : ReadyL wz) (h2 : EarP wz p F S s.size sm) (h3 : (sm.length : Int) = codedN S s.size) (h4 : softOk sm = true) (h5 : Pts wz (some ⟨g, 0, none⟩) L) => take_back hS L m HM.out hm4 g c h1 h2 h3 h4 h5)
  have hn1 : ((earNext S (List.replicate N 0) L 0).length : Int) = codedN S s.size := by rw [earNext_length]; exact hzr
  have hn2 : softOk (earNext S (List.replicate N 0) L 0) = true := earNext_soft hzs
  obtain ⟨t1, et1⟩ : ∃ t1, t1 = earSays S s.size (List.replicate N 0) L 0 := ⟨_, rfl⟩
  obtain ⟨nx, enx⟩ : ∃ nx, nx = earNext S (List.replicate N 0) L 0 := ⟨_, rfl⟩
  rw [← enx] at hn1 hn2
  obtain ⟨t2, et2⟩ : ∃ t2, t2 = earSays S s.size nx L 0 := ⟨_, rfl⟩
  have HT1 := hid et1
  have HT2 := hid et2
  have HNX := hid enx
  have HN1 := hid hzr
  have HN2 := hid hn1
  clear eL em eN hzr hn1 et1 et2 enx hm
  unfold Setg.val
  go_enter Tryz.func3, Tryz.ntmps3
  go_wp2_with fail
  generalize w.alloc (.cells #[.int .i64 S.code, .int .i64 S.size, .int .i64 S.order, .int .i64 S.seed, .int .i64 S.count] 24) = w0 at *
  have hrdy : ∀ wz, Below w0.heap.size w0 wz → ReadyL wz := fun wz h => hR0.below h
  refine (new_any k _ hk1 hk4).mono ?_
  rintro e w1 ⟨pa, Fa, rfl, ha1, hFa, hb1⟩
  obtain ⟨ba, ga, rfl, eFa, -⟩ := id ha1
  have hba : ba ∈ Fa := by rw [eFa]; simp
  have hbal := BufR.lt ha1 ba hba
  have hba1 := hFa ba hba
  have HFa := hid eFa
  clear eFa
  go_wp2_with fail
  refine (new_any k _ hk1 hk4).mono ?_
  rintro e w2 ⟨pb, Fb, rfl, hb2', hFb, hb2⟩
  obtain ⟨bb, gb, rfl, eFb, -⟩ := id hb2'
  have hbb : bb ∈ Fb := by rw [eFb]; simp
  have hbbl := BufR.lt hb2' bb hbb
  have hbb1 := hFb bb hbb
  have HFb := hid eFb
  clear eFb
  have hB2 := hb1.trans (hb2.mono hb1.size)
  have hab : ∀ x ∈ Fa, x ∉ Fb := fun x h1 h2 => by have h3 := BufR.lt ha1 x h1; have h4 := hFb x h2; omega
  have ha2 := bufP_kept ha1 (Kept.of_below (S := []) hb2) (fun _ _ => by simp)
  have hs01 := hb1.size
  have hs12 := hb2.size
  go_wp2_with fail
  refine (there_any _).mono ?_
  rintro e w3 ⟨rfl, hb3⟩
  have hB3 := hB2.trans (hb3.mono hB2.size)
  have ha3 := bufP_kept ha2 (Kept.of_below (S := []) hb3) (fun _ _ => by simp)
  have hbb3 := bufP_kept hb2' (Kept.of_below (S := []) hb3) (fun _ _ => by simp)
  have hZ3 := hZ0.below hB3
  have hs23 := hb3.size
  go_wp2_with fail
  refine (roomyI zs (-7) az cz nz _ hZ3 hzn HZL.out (by omega)).mono ?_
  rintro e w4 ⟨gx, rfl, hx4, hgx, hb4⟩
  have hB4 := hB3.trans (hb4.mono hB3.size)
  have hgxl := hx4.lt
  have ha4 := bufP_kept ha3 (Kept.of_below (S := []) hb4) (fun _ _ => by simp)
  have hbb4 := bufP_kept hbb3 (Kept.of_below (S := []) hb4) (fun _ _ => by simp)
  have hZ4 := hZ0.below hB4
  have hs34 := hb4.size
  have hrx : Rd .i64 w4 (some ⟨gx, 0, none⟩) zs := ArrAt.rd (A := []) (o := 0) hx4 rfl
  have had := add_any (some ⟨gx, 0, none⟩) (nz + 3) zs 0 (hrdy _ hB4).col ha4 (by rw [List.length_replicate]; exact hk1) (by rw [List.length_replicate]; exact hk4) hzk hrx (by rw [HZL.out]; unfold maxLen; omega)
  rw [HZL.out] at had
  go_wp2_with fail
  refine had.mono ?_
  rintro e w5 ⟨Fa5, rfl, ha5, hFa5, hk5⟩
  have hB5 : Below w0.heap.size w0 w5 := hB4.trans (hk5.below hB4.size (fun x hx => by obtain rfl : x = ba := (by simpa using hx); omega))
  have hbb5 := bufP_kept hbb4 hk5 (fun x hx h => by obtain rfl : x = ba := (by simpa using h); exact hab _ hba hx)
  have hx5 := hx4.kept hk5 (fun h => by obtain rfl : gx = ba := (by simpa using h); omega)
  have hZ5 := hZ0.below hB5
  have hs45 := hk5.size
  have had := add_any az cz zs 0 (hrdy _ hB5).col hbb5 (by rw [List.length_replicate]; exact hk1) (by rw [List.length_replicate]; exact hk4) hzk hZ5 (by rw [HZL.out]; unfold maxLen; omega)
  rw [HZL.out] at had
  go_wp2_with fail
  refine had.mono ?_
  rintro e w6 ⟨Fb6, rfl, hbb6, hFb6, hk6⟩
  have hB6 : Below w0.heap.size w0 w6 := hB5.trans (hk6.below hB5.size (fun x hx => by obtain rfl : x = bb := (by simpa using hx); omega))
  have ha6 := bufP_kept ha5 hk6 (fun x hx h => by
    obtain rfl : x = bb := (by simpa using h)
    rcases hFa5 _ hx with h1 | h1
    · exact hab _ h1 hbb
    · omega)
  have hx6 := hx5.kept hk6 (fun h => by obtain rfl : gx = bb := (by simpa using h); omega)
  have hZ6 := hZ0.below hB6
  have hs56 := hk6.size
  have hsl : (addM (List.replicate k 0) zs 0).length = k := by rw [addM_length, List.length_replicate]
  obtain ⟨ss, ess⟩ : ∃ ss, ss = addM (List.replicate k 0) zs 0 := ⟨_, rfl⟩
  rw [← ess] at ha6 hbb6 hsl
  have HSS := hid hsl
  obtain ⟨ae, eae⟩ : ∃ ae, ae = addErr (List.replicate k 0) zs 0 := ⟨_, rfl⟩
  rw [← eae]
  have qae : (ae != ae) = false := by simp
  clear ess eae hsl ha5 hbb5
  have hkp := keptI zs (-7) gx nz az cz w6 HZL.out (by omega) hx6 hZ6
  go_wp2_with fail
  refine hkp.mono ?_
  rintro e w7 ⟨rfl, hb7⟩
  have hB7 := hB6.trans (hb7.mono hB6.size)
  have ha7 := bufP_kept ha6 (Kept.of_below (S := []) hb7) (fun _ _ => by simp)
  have hbb7 := bufP_kept hbb6 (Kept.of_below (S := []) hb7) (fun _ _ => by simp)
  have hx7 := hx6.below hb7 hx6.lt
  have hs67 := hb7.size
  have hsp := spoiltIK (-7) gx nz (nz + 3) _ w7 hx7 (by omega) (by unfold maxLen; omega) (by have h1 := HZL.out; simp [h1]) hz9
  go_wp2_with fail
  refine hsp.mono ?_
  rintro e w8 ⟨rfl, hk8⟩
  have hB8 : Below w0.heap.size w0 w8 := hB7.trans (hk8.below hB7.size (fun x hx => by obtain rfl : x = gx := (by simpa using hx); omega))
  have ha8 := bufP_kept ha7 hk8 (fun x hx h => by
    obtain rfl : x = gx := (by simpa using h)
    rcases hFa5 _ hx with h1 | h1
    · have h2 := BufR.lt ha1 _ h1; omega
    · omega)
  have hbb8 := bufP_kept hbb7 hk8 (fun x hx h => by
    obtain rfl : x = gx := (by simpa using h)
    rcases hFb6 _ hx with h1 | h1
    · have h2 := BufR.lt hb2' _ h1; omega
    · omega)
  have hs78 := hk8.size
  have hsg := fun {wz : World} {p : Addr} {F : List Nat} (h : BufP wz p F ss) => soft_get h (by rw [HSS.out]; exact hk1) (by rw [HSS.out]; exact hk4)
  simp only [HSS.out] at hsg
  have hal := fun {wz : World} {p : Addr} {F : List Nat} (h : BufP wz p F ss) => BufR.lt h
  go_wp2_with fail
  refine (hsg ha8).mono ?_
  rintro e w9 ⟨gu, rfl, hu9, hgu, hb9⟩
  have hB9 := hB8.trans (hb9.mono hB8.size)
  have ha9 := bufP_kept ha8 (Kept.of_below (S := []) hb9) (fun _ _ => by simp)
  have hbb9 := bufP_kept hbb8 (Kept.of_below (S := []) hb9) (fun _ _ => by simp)
  have hs89 := hb9.size
  have hgul := hu9.lt
  have hsp2 := spoiltIK (-7) gu k k _ w9 hu9 (Nat.le_refl _) (by unfold maxLen; omega) (by have h1 := HSS.out; simp [h1]) (by omega)
  go_wp2_with fail
  refine hsp2.mono ?_
  rintro e w10 ⟨rfl, hk10⟩
  have hB10 : Below w0.heap.size w0 w10 := hB9.trans (hk10.below hB9.size (fun x hx => by obtain rfl : x = gu := (by simpa using hx); have := hB8.size; omega))
  have ha10 := bufP_kept ha9 hk10 (fun x hx h => by obtain rfl : x = gu := (by simpa using h); have := hal ha8 _ hx; omega)
  have hbb10 := bufP_kept hbb9 hk10 (fun x hx h => by obtain rfl : x = gu := (by simpa using h); have := hal hbb8 _ hx; omega)
  go_wp2_with fail
  refine (hsg ha10).mono ?_
  rintro e w11 ⟨g1, rfl, hu11, hg11, hb11⟩
  have hB11 := hB10.trans (hb11.mono hB10.size)
  have hbb11 := bufP_kept hbb10 (Kept.of_below (S := []) hb11) (fun _ _ => by simp)
  go_wp2_with fail
  refine (hsg hbb11).mono ?_
  rintro e w12 ⟨g2, rfl, hu12, hg12, hb12⟩
  have hB12 := hB11.trans (hb12.mono hB11.size)
  have hsm := same_ints ss ss (some ⟨g1, 0, none⟩) (some ⟨g2, 0, none⟩) k k w12 (ArrAt.rdL (hu11.below hb12 hu11.lt)) (ArrAt.rdL hu12) (by rw [HSS.out]; unfold maxLen; omega) (by rw [HSS.out]; unfold maxLen; omega)
  rw [HSS.out, show decide (ss = ss) = true by simp] at hsm
  go_wp2_with fail
  refine hsm.mono ?_
  rintro e w13 ⟨rfl, hb13⟩
  have hB13 := hB12.trans (hb13.mono hB12.size)
  obtain ⟨d0, d1, d2, d3, d4⟩ := HCC.out w13 hB13
  obtain ⟨f0, f1, f2, f3, f4⟩ := HCC.out w13 hB13
  go_wp2_with fail
  refine (hbd _ (hrdy _ hB13)).mono ?_
  rintro e x1 ⟨gp, rfl, hpp1, hgp, hx1⟩
  have hX1 := hB13.trans (hx1.mono hB13.size)
  obtain ⟨f0, f1, f2, f3, f4⟩ := HCC.out x1 hX1
  have hgpl : gp < x1.heap.size := by
    obtain ⟨b, o, e, hc⟩ := hpp1.at (i := 0) (by rw [HM.out]; omega)
    cases e
    exact World.block_lt_of_cell? x1 _ (hc 0 (by rw [HM.out]; omega)).1
  go_wp2_with fail
  refine (hnw _ (hrdy _ hX1)).mono ?_
  rintro e x2 ⟨pc, Fc, rfl, hc2, hFc, hx2⟩
  obtain ⟨bc, gc, rfl, eFc, -, -, -⟩ := hc2.block
  have hbc : bc ∈ Fc := by rw [eFc]; simp
  have hbcl := BufR.lt hc2 bc hbc
  have hbc1 := hFc bc hbc
  have HFc := hid eFc
  clear eFc
  have hX2 := hX1.trans (hx2.mono hX1.size)
  obtain ⟨f0, f1, f2, f3, f4⟩ := HCC.out x2 hX2
  go_wp2_with fail
  refine (hnw _ (hrdy _ hX2)).mono ?_
  rintro e x3 ⟨pd, Fd, rfl, hd3, hFd, hx3⟩
  obtain ⟨bd, gd, rfl, eFd, -, -, -⟩ := hd3.block
  have hbd3 : bd ∈ Fd := by rw [eFd]; simp
  have hbdl := BufR.lt hd3 bd hbd3
  have hbd1 := hFd bd hbd3
  have HFd := hid eFd
  clear eFd
  have hX3 := hX2.trans (hx3.mono hX2.size)
  have hpp3 := (hpp1.below hx2).below hx3
  have hcd : ∀ x ∈ Fc, x ∉ Fd := fun x h1 h2 => by have h3 := BufR.lt hc2 x h1; have h4 := hFd x h2; omega
  have hc3 := hc2.old hx3
  have hsz12 := hx2.size
  have hsz23 := hx3.size
  go_wp2_with fail
  refine (roomyP L (-7) 0 (some ⟨gp, 0, none⟩) m m _ hpp3 (fun h => by cases h) HM.out (by omega)).mono ?_
  rintro e x4 ⟨gq, rfl, hq4, hgq, hx4⟩
  have hX4 := hX3.trans (hx4.mono hX3.size)
  have hgql := parr_lt hq4
  have hpp4 := hpp3.below hx4
  have hc4 := hc3.old hx4
  have hd4 := hd3.old hx4
  have hsz34 := hx4.size
  have htk := HTB.out x4 ⟨bc, 0, none⟩ Fc (List.replicate N 0) gq (m + 3) (hrdy _ hX4) hc4 HN1.out hzs (pts_of_parr hq4)
  rw [← HT1.out, ← HNX.out] at htk
  go_wp2_with fail
  refine htk.mono ?_
  rintro e x5 ⟨rfl, Fc5, hc5, hFc5, hk5⟩
  have hX5 : Below w0.heap.size w0 x5 := hX4.trans (hk5.below hX4.size (fun x hx => by obtain rfl : x = bc := (by simpa using hx); have := hX1.size; omega))
  have hd5 := hd4.keptA hk5 (fun x hx h => by obtain rfl : x = bc := (by simpa using h); exact hcd _ hbc hx)
  have hpp5 := Pts.keptK hpp4 hk5 (fun g o e _ h => by cases e; obtain rfl : gp = bc := (by simpa using h); omega)
  have hq5 := parr_kept hq4 hk5 (fun h => by obtain rfl : gq = bc := (by simpa using h); omega)
  have hsz45 := hk5.size
  have htk := HTB.out x5 ⟨bd, 0, none⟩ Fd (List.replicate N 0) gp m (hrdy _ hX5) hd5 HN1.out hzs hpp5
  rw [← HT1.out, ← HNX.out] at htk
  go_wp2_with fail
  refine htk.mono ?_
  rintro e x6 ⟨rfl, Fd6, hd6, hFd6, hk6⟩
  have hX6 : Below w0.heap.size w0 x6 := hX5.trans (hk6.below hX5.size (fun x hx => by obtain rfl : x = bd := (by simpa using hx); have := hX2.size; omega))
  have hc5b : ∀ x ∈ Fc5, x ∉ [bd] := fun x hx h => by
    obtain rfl : x = bd := (by simpa using h)
    rcases hFc5 _ hx with h1 | h1
    · exact hcd _ h1 hbd3
    · omega
  have hc6 := hc5.keptA hk6 hc5b
  have hpp6 := Pts.keptK hpp5 hk6 (fun g o e _ h => by cases e; obtain rfl : gp = bd := (by simpa using h); omega)
  have hq6 := parr_kept hq5 hk6 (fun h => by obtain rfl : gq = bd := (by simpa using h); omega)
  have hsz56 := hk6.size
  have hkp := keptP L (-7) 0 gq m (some ⟨gp, 0, none⟩) m x6 HM.out (by omega) hq6 hpp6
  go_wp2_with fail
  refine hkp.mono ?_
  rintro e x7 ⟨rfl, hx7⟩
  have hX7 := hX6.trans (hx7.mono hX6.size)
  have hc7 := hc6.old hx7
  have hd7 := hd6.old hx7
  have hpp7 := hpp6.below hx7
  have hq7 : PArr x7 gq (L ++ [(-7, 0), (-7, 0), (-7, 0)]) := (hx7.block gq (parr_lt hq6)).trans hq6
  have hsz67 := hx7.size
  have hsp := spoiltPK 7 0 (.slice (some ⟨gq, 0, none⟩) m (m + 3)) m _ gq [gq] x7 (own_of_block2 (n := m) (cap := m + 3) (Nat.le_refl _) hq7 (by omega) (by unfold maxLen; omega) (by have h1 := HM.out; simp [cellsQ_length, h1]; omega)) (by omega) (fun k hk => by have e : some gq = some k := hk; simp only [Option.some.injEq] at e; simp [e]) (by omega)
  go_wp2_with fail
  refine hsp.mono ?_
  rintro e x8 ⟨rfl, hk8⟩
  have hX8 : Below w0.heap.size w0 x8 := hX7.trans (hk8.below hX7.size (fun x hx => by obtain rfl : x = gq := (by simpa using hx); have := hX3.size; omega))
  have hc8 := hc7.keptA hk8 (fun x hx h => by
    obtain rfl : x = gq := (by simpa using h)
    rcases hFc5 _ hx with h1 | h1
    · have h2 := BufR.lt hc2 _ h1; omega
    · omega)
  have hd8 := hd7.keptA hk8 (fun x hx h => by
    obtain rfl : x = gq := (by simpa using h)
    rcases hFd6 _ hx with h1 | h1
    · have h2 := BufR.lt hd3 _ h1; omega
    · omega)
  have hpp8 := Pts.keptK hpp7 hk8 (fun g o e _ h => by cases e; obtain rfl : gp = gq := (by simpa using h); omega)
  have htk := HTB.out x8 ⟨bc, 0, none⟩ Fc5 nx gp m (hrdy _ hX8) hc8 HN2.out hn2 hpp8
  rw [← HT2.out] at htk
  go_wp2_with fail
  refine htk.mono ?_
  rintro e x9 ⟨rfl, Fc9, hc9, hFc9, hk9⟩
  have hX9 : Below w0.heap.size w0 x9 := hX8.trans (hk9.below hX8.size (fun x hx => by obtain rfl : x = bc := (by simpa using hx); have := hX1.size; omega))
  have hd9 := hd8.keptA hk9 (fun x hx h => by
    obtain rfl : x = bc := (by simpa using h)
    rcases hFd6 _ hx with h1 | h1
    · exact hcd _ hbc h1
    · omega)
  have hpp9 := Pts.keptK hpp8 hk9 (fun g o e _ h => by cases e; obtain rfl : gp = bc := (by simpa using h); omega)
  have htk := HTB.out x9 ⟨bd, 0, none⟩ Fd6 nx gp m (hrdy _ hX9) hd9 HN2.out hn2 hpp9
  rw [← HT2.out] at htk
  go_wp2_with fail
  refine htk.mono ?_
  rintro e x10 ⟨rfl, Fd10, hd10, hFd10, hk10⟩
  have hX10 : Below w0.heap.size w0 x10 := hX9.trans (hk10.below hX9.size (fun x hx => by obtain rfl : x = bd := (by simpa using hx); have := hX2.size; omega))
  go_wp2_with fail
  go_ret
  exact ⟨rfl, hb0.trans (hX10.mono hb0.size)⟩
end Go.Proofs.YtplkmkbambbemaeGreatDoor
namespace Go.Proofs.YtplkmkbambbemaeGreatDoor
open Go.ChangeShapes Go.WideShapes Go.ChangeAt Go.RowKit Go.Deep
theorem Addr.addL (b off j : Nat) : (⟨b, off, none⟩ : Addr).add j = ⟨b, off + j, none⟩ := by unfold Addr.add; split <;> simp_all
theorem open_settings {H : Type} {enc : TypeId × Value → H} {P : Program} {W : World} {base : Nat} {t : TypeId} {g0 g1 g2 g3 g4 : Field} {v : Value} {d : DataW H} {p : List MemPlace} (hs : P.underlying t = some (.struct #[g0, g1, g2, g3, g4])) (hC : P.cellsOf t = 5)
    (p0 : g0.offset = 0) (p1 : g1.offset = 1) (p2 : g2.offset = 2) (p3 : g3.offset = 3) (p4 : g4.offset = 4) (k0 : P.cellsOf g0.type = 1) (k1 : P.cellsOf g1.type = 1) (k2 : P.cellsOf g2.type = 1) (k3 : P.cellsOf g3.type = 1) (k4 : P.cellsOf g4.type = 1)
    (h0 : P.underlying g0.type = some (.int .i64)) (h1 : P.underlying g1.type = some (.int .i64)) (h2 : P.underlying g2.type = some (.int .i64)) (h3 : P.underlying g3.type = some (.int .i64)) (h4 : P.underlying g4.type = some (.int .i64)) (hv : Value.okWide P W .any base t v) (h : DataW.Trod enc P W 0 (fun _ => true) true t v d p) :
    ∃ S : Setg, v = S.val ∧ S.In := by
  obtain ⟨cs, rfl, hsz⟩ := okWide_struct hs hv
  obtain ⟨fuel, hf⟩ := h
  obtain ⟨xs, k, hk, hxy, _, hxl, hff⟩ := DataW.trod_struct hs hf
  obtain ⟨cl⟩ := cs
  rw [hC] at hsz
  match xs, hxl, cl, hsz with
  | [y0, y1, y2, y3, y4], _, [v0, v1, v2, v3, v4], _ =>
    have z0 := hff 0 g0 rfl
    have z1 := hff 1 g1 rfl
    have z2 := hff 2 g2 rfl
    have z3 := hff 3 g3 rfl
    have z4 := hff 4 g4 rfl
    simp [Value.cells, p0, p1, p2, p3, p4, k0, k1, k2, k3, k4] at z0 z1 z2 z3 z4
    obtain ⟨a0, e0, _, wf0⟩ := DataW.trod_int h0 z0
    obtain ⟨a1, e1, _, wf1⟩ := DataW.trod_int h1 z1
    obtain ⟨a2, e2, _, wf2⟩ := DataW.trod_int h2 z2
    obtain ⟨a3, e3, _, wf3⟩ := DataW.trod_int h3 z3
    obtain ⟨a4, e4, _, wf4⟩ := DataW.trod_int h4 z4
    simp at e0 e1 e2 e3 e4
    subst e0 e1 e2 e3 e4
    exact ⟨⟨a0, a1, a2, a3, a4⟩, rfl, ⟨bounds_i64 wf0, bounds_i64 wf1, bounds_i64 wf2, bounds_i64 wf3, bounds_i64 wf4⟩⟩
end Go.Proofs.YtplkmkbambbemaeGreatDoor
namespace Go.Proofs.YtplkmkbambbemaeGreatDoor
open Go.ChangeShapes Go.WideShapes Go.ChangeAt Go.RowKit
theorem Tryz.bytes3 : Tryz.prog.bytesOf 3 = 8 := by kernel_rfl
theorem Tryz.cells3 : Tryz.prog.cellsOf 3 = 1 := by kernel_rfl
/-- A list of numbers that came in, as the walks are told of it. -/
theorem open_numsN {H : Type} {enc : TypeId × Value → H} {P : Program} {W : World} {base : Nat} {t e : TypeId} {k : IntKind} {v : Value} {d : DataW H} {p : List MemPlace}
    (ht : P.underlying t = some (.slice e)) (he : P.underlying e = some (.int k)) (hc : P.cellsOf e = 1) (hv : Value.okWide P W .any base t v)
    (h : DataW.Trod enc P W 0 (fun _ => true) true t v d p) :
    ∃ a c zs, v = .slice a zs.length c ∧ Rd k W a zs ∧ (∀ n ∈ zs, (Lit.int k n).wf = true) ∧ zs.length ≤ c ∧ c ≤ maxLen ∧ Places d c ∧ (a = none → zs.length = 0 ∧ c = 0) := by
  obtain ⟨a, len, cap, rfl⟩ := okWide_slice ht hv
  obtain ⟨fuel, hf⟩ := h
  rcases open_ints ht he hc hf with ⟨hcs, hx⟩ | ⟨x, l, c, zs, hcs, _, hl, hm, hz, hx, hcell, hwz⟩
  · simp [Value.cells] at hcs
    obtain ⟨rfl, rfl, rfl⟩ := hcs
    simp at hx
    exact ⟨none, 0, [], rfl, Rd.nil _ _ _, by simp, by simp, by unfold maxLen; omega, .inl ⟨hx.1, rfl⟩, fun _ => ⟨rfl, rfl⟩⟩
  · simp [Value.cells] at hcs
    obtain ⟨rfl, rfl, rfl⟩ := hcs
    simp at hz hx
    have hlen : (zs.take len).length = len := by rw [List.length_take]; omega
    refine ⟨some x, cap, zs.take len, by rw [hlen], ?_, fun n hn => hwz n (List.mem_of_mem_take hn), by omega, hm, .inr ⟨_, _, hx.1, ?_⟩, fun h => by cases h⟩
    · intro hne
      have h0 : 0 < len := by
        rcases Nat.eq_zero_or_pos len with h | h
        · subst h; simp at hne
        · exact h
      obtain ⟨b, off, spot⟩ := x
      have hc0 := hcell 0 (by omega)
      have hspot : spot = none := by simpa [Addr.add] using World.cell?_spot hc0
      subst hspot
      refine ⟨b, off, rfl, fun j hj => ?_⟩
      have := hcell j (by omega)
      have e1 : (⟨b, off, none⟩ : Addr).add j = ⟨b, off + j, none⟩ := by unfold Addr.add; split <;> simp_all
      rw [e1] at this
      rw [this]
      have hj' : j < len := by omega
      simp [List.getD, hj']
    · simp [lits]; omega
end Go.Proofs.YtplkmkbambbemaeGreatDoor
