import Derived.Test.YtdndeegpbjlibacLawWave
import Derived.Test.YtdndeegpbjlibacWaveN
import Derived.Test.YtdndeegpbjlibacWaveO
import Derived.Test.YtdndeegpbjlibacGood
namespace Go.Proofs.Ytdndeegpbjlibac
open Go.ChangeShapes Go.WideShapes Go.ChangeAt Go.RowKit Go.Shelf

/-! WaveNear, over what WaveSays asks of Send, Hear and Near. -/

theorem Rd.takeO {k : IntKind} {w : World} {a : Option Addr} {zs : List Int} (h : Rd k w a zs) (n : Nat) : Rd k w a (zs.take n) := by
  intro hne
  have hz : zs ≠ [] := by rintro rfl; simp at hne
  obtain ⟨b, off, rfl, hc⟩ := h hz
  exact Rd.take hc n hne
theorem sendErr_bad {order : Int} (h : ordOk5 order = false) : sendErr [] order = 1 := by
  unfold sendErr
  rw [h]
  rfl
theorem bits01 {l : List Int} (h : Bits l) : ∀ x ∈ l, x = 0 ∨ x = 1 := fun x hx => by
  obtain ⟨i, hi, rfl⟩ := List.getElem_of_mem hx
  have h1 := h i
  simp only [List.getD, List.getElem?_eq_getElem hi, Option.getD_some] at h1
  omega
theorem bits01_take {l : List Int} (h : ∀ x ∈ l, x = 0 ∨ x = 1) (n : Nat) : ∀ x ∈ l.take n, x = 0 ∨ x = 1 := fun x hx => h x (List.mem_of_mem_take hx)
theorem bytes01 {l : List Int} (h : ∀ x ∈ l, x = 0 ∨ x = 1) : Bytes l := fun x hx => by
  have := h x hx
  omega
theorem err01 {l : List Int} (h : ∀ x ∈ l, x = 0 ∨ x = 1) (hl : l.length ≤ 4096) : errOf l = 0 := by
  refine err_none (fun j hj => ?_) (by omega)
  have e : l.getD j 0 = l[j] := by simp [List.getD, hj]
  have := h l[j] (List.getElem_mem hj)
  omega
theorem sendErr_ok {l : List Int} {m : Nat} (h : errOf l = 0) (hm : ordOk5 (m : Int) = true) (hl : l.length % m = 0) : sendErr l m = 0 := by
  unfold sendErr
  rw [if_pos h, hm, Int.toNat_natCast, decide_eq_true hl]
  rfl
theorem all_inSq {l : List (Int × Int)} (h : PtsIn 1000 l) : l.all inSq = true := List.all_eq_true.2 fun p hp => by
  obtain ⟨i, hi, rfl⟩ := List.getElem_of_mem hp
  have := h i
  have e : l.getD i (0, 0) = l[i] := by simp [List.getD, hi]
  rw [e] at this
  exact decide_eq_true this
set_option maxRecDepth 100000 in
theorem hearErr_ok {l : List (Int × Int)} {m : Nat} (hm : ordOk5 (m : Int) = true) (hl : l.length * m ≤ 4096) (h : PtsIn 1000 l) : hearErr l m = 0 := by
  have h4 : (l.length : Int) * (m : Int) ≤ 4096 := by exact_mod_cast hl
  unfold hearErr hearsOk
  rw [hm, decide_eq_true h4, all_inSq h]
  rfl
theorem sentM_in (h : Nat) (b : List Int) (order n : Nat) (hh : h ≤ 3) : PtsIn 1000 (sentM h b order n) := fun i => by
  by_cases hi : i < n
  · rw [sentM_at b hi]; exact ptM_bd h _ hh
  · have e : (sentM h b order n).getD i (0, 0) = (0, 0) := by simp [sentM, List.getD, hi]
    rw [e]; simp

set_option maxRecDepth 100000 in
set_option maxHeartbeats 4000000 in
theorem wnear_any (hW : WaveLaws) (b : List Int) (ps : List (Int × Int)) (order : Int) (a a2 : Option Addr) (c c2 : Nat) (w : World) (hb : Rd .u8 w a b) (hbc : b.length ≤ c) (hcm : c ≤ maxLen) (hy : Bytes b) (hp : Pts w a2 ps) (hpz : ps.length ≤ 8796093022208) (ho : I64w order) :
    Calls Try.prog 4 #[.slice a b.length c, .int .i64 order, .slice a2 ps.length c2] w fun e w' => e = .returned (.bool true) ∧ Below w.heap.size w w' := by
  have hz : b.length ≤ maxLen := Nat.le_trans hbc hcm
  have hz' : b.length ≤ 9223372036854775807 := by unfold maxLen at hz; omega
  go_enter Try.func4, Try.ntmps4
  go_upto_region 1 with fail
  go_cut [37] from 28 (fun t wx => t = .bool (!ordOk5 order) ∧ w = wx)
  case first =>
    by_cases o2 : order = 2
    · subst o2
      go_wp2
      go_meet
      exact ⟨rfl, rfl⟩
    · have q2 : (order != 2) = true := by simpa using o2
      by_cases o4 : order = 4
      · subst o4
        go_wp2
        go_meet
        exact ⟨rfl, rfl⟩
      · have q4 : (order != 4) = true := by simpa using o4
        by_cases o6 : order = 6
        · subst o6
          go_wp2
          go_meet
          exact ⟨rfl, rfl⟩
        · have q6 : (order != 6) = true := by simpa using o6
          have HV := hid (show false = ordOk5 order from (decide_eq_false (by omega)).symm)
          clear o2 o4 o6
          go_wp2
          go_meet
          exact ⟨by rw [← HV.out]; rfl, rfl⟩
  case rest =>
  obtain ⟨rfl, rfl⟩ := hcut
  cases hG : ordOk5 order with
  | false =>
    have hs : Calls Try.prog 5 #[.slice none 0 0, .int .i64 order] w _ := hW.send [] none 0 order w (Rd.nil _ _ _) (Nat.le_refl _) (by unfold maxLen; omega) (fun x hx => by simp at hx) ho
    rw [sendErr_bad hG] at hs
    clear hG
    go_wp2_with fail
    refine hs.mono ?_
    rintro e w1 ⟨a3, k3, c3, rfl, hb1, _, hS1⟩
    obtain rfl := hS1 (by decide)
    clear hS1
    go_wp2
    go_ret
    exact ⟨rfl, hb1⟩
  | true =>
    have h3 : order = 2 ∨ order = 4 ∨ order = 6 := of_decide_eq_true hG
    obtain ⟨m, rfl⟩ : ∃ m : Nat, order = (m : Int) := ⟨order.toNat, by omega⟩
    have hm : m = 2 ∨ m = 4 ∨ m = 6 := by omega
    have HG := hid hG
    have hgood := good_any b 4096 a c w hb hz hy (by omega)
    have hgl := goodTo_length b 4096
    have hgb := bits01 (goodTo_bits b 4096)
    obtain ⟨B, eB⟩ : ∃ B, B = goodTo b 4096 := ⟨_, rfl⟩
    rw [← eB] at hgood hgl hgb
    have hBl : B.length ≤ 4096 := by omega
    clear eB hgl hG h3
    have HM := hid hm
    have hm1 : 2 ≤ m ∧ m ≤ 6 := by omega
    clear hm
    go_wp2_with fail
    refine hgood.mono ?_
    rintro e w1 ⟨v, rfl, hown, hb1⟩
    obtain ⟨a3, c3, rfl, hg3, hc3, hm3⟩ := hown.shape
    have hrB := hown.rd
    obtain ⟨L, eL⟩ : ∃ L, L = B.length := ⟨_, rfl⟩
    rw [← eL] at hBl hc3
    rw [← eL]
    have HL := hid eL
    obtain ⟨K, eK⟩ : ∃ K, K = L / m := ⟨_, rfl⟩
    have hquo : (L : Int).tdiv (m : Int) = (K : Int) := by rw [Int.tdiv_eq_ediv_of_nonneg (by omega), eK]; simp
    have hquo' : (L : Int) / (m : Int) = (K : Int) := by rw [eK]; simp
    have hKm : K * m ≤ L := by rw [eK]; exact Nat.div_mul_le_self _ _
    obtain ⟨n, en⟩ : ∃ n, n = K * m := ⟨_, rfl⟩
    have hmul : (K : Int) * (m : Int) = (n : Int) := by rw [en]; simp
    rw [← en] at hKm
    have hne : ¬ (m : Int) = 0 := by omega
    have hnb : ((m : Int) == 0) = false := by simpa using hne
    have HN := hid en
    clear eL eK en hown hgood
    unfold maxLen at hm3
    have hK4 : K ≤ 4096 := Nat.le_trans (by rw [HN.out] at hKm; exact Nat.le_trans (Nat.le_mul_of_pos_right _ (by omega)) hKm) hBl
    have hn4 : n ≤ 4096 := by omega
    go_upto_region 5 with fail
    go_cut [9] from 28 (fun t wx => t = .int .i64 n ∧ w1 = wx)
    case first =>
      go_wp2
      go_meet
      exact ⟨rfl, rfl⟩
    case rest =>
    obtain ⟨rfl, rfl⟩ := hcut
    clear hquo hquo' hne hnb hmul
    go_upto_region 6 with fail
    go_cut [0] from 28 (fun t wx => t = .slice a3 n n ∧ w1 = wx)
    case first =>
      by_cases h0 : n = 0
      · subst h0
        go_wp2
        go_meet
        exact ⟨rfl, rfl⟩
      · obtain ⟨g, rfl⟩ := hg3 (by intro e; have := HL.out; rw [e] at this; simp at this; omega)
        have hn0 : (n == 0) = false := by simpa using h0
        go_wp2
        go_meet
        exact ⟨rfl, rfl⟩
    case rest =>
    obtain ⟨rfl, rfl⟩ := hcut
    have htl : (B.take n).length = n := by rw [List.length_take, ← HL.out]; omega
    have htr := hrB.takeO n
    have ht01 := bits01_take hgb n
    obtain ⟨B', eB'⟩ : ∃ B', B' = B.take n := ⟨_, rfl⟩
    rw [← eB'] at htl htr ht01
    have hmod : B'.length % m = 0 := by rw [htl, HN.out]; exact Nat.mul_mod_left _ _
    have hdiv : B'.length / m = K := by rw [htl, HN.out]; exact Nat.mul_div_cancel _ (by omega)
    have hse := sendErr_ok (err01 ht01 (by omega)) HG.out hmod
    have hsend := hW.send B' a3 n m w1 htr (by omega) (by unfold maxLen; omega) (bytes01 ht01) ho
    rw [hse, Int.toNat_natCast, hdiv, htl] at hsend
    have hh3 : m / 2 ≤ 3 := by omega
    have hPl := sentM_length (m / 2) B' m K
    have hPi := sentM_in (m / 2) B' m K hh3
    obtain ⟨PS, ePS⟩ : ∃ PS, PS = sentM (m / 2) B' m K := ⟨_, rfl⟩
    rw [← ePS] at hsend hPl hPi
    have HPS := hid ePS
    have HTL := hid htl
    clear ePS hse hmod hdiv eB' hgb hrB hg3 hBl hc3 hm3 HL htl
    go_wp2_with fail
    refine hsend.mono ?_
    rintro e w2 ⟨a4, k4, c4, rfl, hb2, hS, _⟩
    obtain ⟨ek4, hpts⟩ := hS (by trivial)
    obtain rfl := ek4.symm
    clear hS hsend
    have hKn : PS.length * m = n := by rw [hPl]; exact HN.out.symm
    have hhe := hearErr_ok HG.out (by rw [hKn]; exact hn4) hPi
    have hhear := fun w hpw => hW.hear PS a4 c4 m w hpw (by omega) ho
    have hnear := fun w hpw => hW.near PS a4 c4 m w hpw (by omega) ho
    rw [hhe, Int.toNat_natCast, hKn] at hhear hnear
    simp only [hPl] at hhear hnear
    have hnl : nearM (m / 2) m PS K = B' := by
      rw [HPS.out, near_all (by have := HM.out; omega) (by omega) hh3 (HTL.out.trans HN.out) ht01 K (Nat.le_refl _), ← HN.out, ← HTL.out, List.take_length]
    have hsg := fun i hi => sent_sign (h := m / 2) (order := m) (n := K) (b := B') (by have := HM.out; omega) (by omega) hh3 (HTL.out.trans HN.out) ht01 (i := i) hi
    rw [← HPS.out] at hsg
    have hSl := heardM_length (m / 2) m PS K (by omega)
    rw [hnl] at hnear
    rw [← HN.out] at hSl
    obtain ⟨S, eS⟩ : ∃ S, S = heardM (m / 2) m PS K := ⟨_, rfl⟩
    rw [← eS] at hhear hsg hSl
    have HSL := hid hSl
    have HSG := hid hsg
    clear eS hSl hsg hnl hhe hKn hPi hPl
    go_wp2_with fail
    refine (hhear w2 hpts).mono ?_
    rintro e w3 ⟨a5, k5, c5, rfl, hb3, hS, _⟩
    obtain ⟨ek5, hrS⟩ := hS (by trivial)
    obtain rfl := ek5.symm
    clear hS hhear
    go_wp2_with fail
    refine (hnear w3 (hpts.below hb3)).mono ?_
    rintro e w4 ⟨a6, k6, c6, rfl, hb4, hS, _⟩
    obtain ⟨ek6, hrN, -, -⟩ := hS (by trivial)
    obtain rfl := ek6.symm
    clear hS hnear
    have hb24 := bthen hb2 (bthen hb3 hb4)
    have hsb := same_bits B' B' a6 a3 c6 n w4 hrN (htr.below hb24) (by rw [HTL.out]; unfold maxLen; omega) (by rw [HTL.out]; unfold maxLen; omega)
    rw [HTL.out, decide_eq_true rfl] at hsb
    have hnn : (n != n) = false := by simp
    have hbw4 := bthen hb1 hb24
    clear hb1 hb2 hpts
    go_wp2_with fail
    refine hsb.mono ?_
    rintro e w5 ⟨rfl, hb5⟩
    have hrS5 := (hrS.below hb4).below hb5
    have hrB5 := htr.below (bthen hb24 hb5)
    have hbw5 := bthen hbw4 hb5
    clear hsb hrS htr hrN hb3 hb4 hb24 hb5 hbw4 hnn
    go_wp2
    go_loopw [16] (fun q wr => ∃ i : Nat, i ≤ n ∧ q = .int .i64 i ∧ Below w5.heap.size w5 wr) (fun q _ => n - (intOf q).toNat)
    case atStart => exact ⟨0, Nat.zero_le _, rfl, Below.refl _ _⟩
    case round =>
      obtain ⟨i, hi, rfl, hbel⟩ := hrel
      by_cases hlt : i < n
      · obtain ⟨gS, oS, rfl, hcS⟩ := (hrS5.below hbel).at (i := i) (by rw [HSL.out]; exact hlt)
        obtain ⟨gB, oB, rfl, hcB⟩ := (hrB5.below hbel).at (i := i) (by rw [HTL.out]; exact hlt)
        have hxS := hcS i (by rw [HSL.out]; exact hlt)
        have hxB := hcB i (by rw [HTL.out]; exact hlt)
        have hsg := HSG.out i (by rw [HTL.out]; exact hlt)
        have h01 := ht01 _ (getD_mem (l := B') (k := i) (by rw [HTL.out]; exact hlt))
        clear hcS hcB
        obtain ⟨x, ex⟩ : ∃ x, x = S.getD i 0 := ⟨_, rfl⟩
        obtain ⟨y, ey⟩ : ∃ y, y = B'.getD i 0 := ⟨_, rfl⟩
        rw [← ex] at hxS hsg
        rw [← ey] at hxB hsg h01
        have HI := hid hlt
        clear ex ey ht01
        have hx0 : (x == 0) = false := by
          rw [beq_eq_false_iff_ne]
          rcases h01 with h | h
          · have := hsg.2 h; omega
          · have := hsg.1 h; omega
        have hxy : (decide (x < 0) != (y == 1)) = false := by
          rcases h01 with h | h
          · have := hsg.2 h
            rw [decide_eq_false (by omega), h]; rfl
          · have := hsg.1 h
            rw [decide_eq_true this, h]; rfl
        clear hsg h01
        have hmix : Try.prog.follows .mixedOrders = true := by kernel_rfl
        go_upto_region 15 with fail
        refine wp_mono (region_known3 18 [(107, .slice (some ⟨gS, oS, none⟩) n c5), (108, .int .i64 i), (109, .pointer (some ⟨gS, oS + i, none⟩)), (110, .int .i64 x), (111, .bool (x == 0)), (112, .bool false), (113, .slice (some ⟨gS, oS, none⟩) n c5), (114, .int .i64 i), (115, .pointer (some ⟨gS, oS + i, none⟩)), (116, .int .i64 x), (117, .bool (decide (x < 0))),
            (118, .slice (some ⟨gB, oB, none⟩) n n), (119, .int .i64 i), (120, .pointer (some ⟨gB, oB + i, none⟩)), (121, .int .u8 y), (122, .bool (y == 1)), (123, .bool (decide (x < 0) != (y == 1))), (124, .bool false)]
            [[12], [16], [107, 108], [109], [110], [111], [12, 112], [16, 112], [113, 114, 112], [115, 112], [116, 112], [0, 112], [16, 112], [118, 119, 112], [120, 112], [121, 112], [117, 122, 112], [112, 123]] wr hmix rfl rfl (show ([107, 108, 109, 110, 111, 112, 113, 114, 115, 116, 117, 118, 119, 120, 121, 122, 123, 124] : List Nat).Nodup by decide) rfl (by kernel_rfl) (by kernel_rfl) rfl (fun i' hi' ac wc hbc hr Q K hK => by
            have h18 : i' = 0 ∨ i' = 1 ∨ i' = 2 ∨ i' = 3 ∨ i' = 4 ∨ i' = 5 ∨ i' = 6 ∨ i' = 7 ∨ i' = 8 ∨ i' = 9 ∨ i' = 10 ∨ i' = 11 ∨ i' = 12 ∨ i' = 13 ∨ i' = 14 ∨ i' = 15 ∨ i' = 16 ∨ i' = 17 := by omega
            have qS := (hbc.cell (World.block_lt_of_cell? wr _ hxS)).trans hxS
            have qB := (hbc.cell (World.block_lt_of_cell? wr _ hxB)).trans hxB
            rcases h18 with rfl | rfl | rfl | rfl | rfl | rfl | rfl | rfl | rfl | rfl | rfl | rfl | rfl | rfl | rfl | rfl | rfl | rfl
            · exact op_value rfl rfl (run_moveQ wc rfl (hr 12 (by decide))) (hK wc hbc)
            · exact op_value rfl rfl (run_moveQ wc rfl (hr 16 (by decide))) (hK wc hbc)
            · exact op_value rfl rfl (run_idxI wc rfl (hr 107 (by decide)) (hr 108 (by decide)) HI.out) (hK wc hbc)
            · exact op_value rfl rfl (run_loadI wc rfl (hr 109 (by decide)) qS) (hK wc hbc)
            · exact op_value rfl rfl (run_eqlI wc rfl (hr 110 (by decide)) rfl) (hK wc hbc)
            · exact op_value rfl rfl (run_moveQ wc rfl ((hr 111 (by decide)).trans (by rw [← hx0]; rfl))) (hK wc hbc)
            · exact op_valueG rfl rfl rfl rfl (hr 112 (by decide)) (run_moveQ wc rfl (hr 12 (by decide))) (hK wc hbc)
            · exact op_valueG rfl rfl rfl rfl (hr 112 (by decide)) (run_moveQ wc rfl (hr 16 (by decide))) (hK wc hbc)
            · exact op_valueG rfl rfl rfl rfl (hr 112 (by decide)) (run_idxI wc rfl (hr 113 (by decide)) (hr 114 (by decide)) HI.out) (hK wc hbc)
            · exact op_valueG rfl rfl rfl rfl (hr 112 (by decide)) (run_loadI wc rfl (hr 115 (by decide)) qS) (hK wc hbc)
            · exact op_valueG rfl rfl rfl rfl (hr 112 (by decide)) (run_lssI wc rfl (hr 116 (by decide)) rfl) (hK wc hbc)
            · exact op_valueG rfl rfl rfl rfl (hr 112 (by decide)) (run_moveQ wc rfl (hr 0 (by decide))) (hK wc hbc)
            · exact op_valueG rfl rfl rfl rfl (hr 112 (by decide)) (run_moveQ wc rfl (hr 16 (by decide))) (hK wc hbc)
            · exact op_valueG rfl rfl rfl rfl (hr 112 (by decide)) (run_idxB wc rfl (hr 118 (by decide)) (hr 119 (by decide)) HI.out) (hK wc hbc)
            · exact op_valueG rfl rfl rfl rfl (hr 112 (by decide)) (run_loadB wc rfl (hr 120 (by decide)) qB) (hK wc hbc)
            · exact op_valueG rfl rfl rfl rfl (hr 112 (by decide)) (run_eqlB wc rfl (hr 121 (by decide)) rfl) (hK wc hbc)
            · exact op_valueG rfl rfl rfl rfl (hr 112 (by decide)) (run_neqT wc rfl (hr 117 (by decide)) (hr 122 (by decide))) (hK wc hbc)
            · exact op_value rfl rfl (run_pickQ wc rfl (hr 112 (by decide)) ((hr 123 (by decide)).trans (by rw [← hxy]; rfl))) (hK wc hbc))) ?_
        rintro e a' w' ⟨rfl, rfl, hbw⟩
        have hbel' : Below w5.heap.size w5 w' := hbel.trans (hbw.mono hbel.size)
        dsimp only [setAll, List.set]
        clear hbel hxS hxB hx0 hxy
        go_wp2
        go_roundw
        case rel =>
          have := HI.out
          first | exact ⟨i + 1, HI.out, by go_num, hbel'⟩ | ((repeat apply Exists.intro); exact ⟨⟨i + 1, HI.out, by go_num, hbel'⟩, rfl⟩)
        case measure => simp [intOf]; have := HI.out; omega
      · have hbw := bthen hbw5 hbel
        have hhear := fun w hpw => hW.hear ps a2 c2 m w hpw hpz ho
        have hnear := fun w hpw => hW.near ps a2 c2 m w hpw hpz ho
        rw [Int.toNat_natCast] at hhear hnear
        obtain ⟨E, eE⟩ : ∃ E, E = hearErr ps m := ⟨_, rfl⟩
        rw [← eE] at hhear hnear
        have HE := hid eE
        clear eE hrS5 hrB5 HSG HSL HTL HPS hbw5 hbel ht01
        go_wp2_with fail
        refine (hhear wr (hp.below hbw)).mono ?_
        rintro e w6 ⟨a7, k7, c7, rfl, hb6, hH0, hH1⟩
        have hbw6 := bthen hbw hb6
        go_wp2_with fail
        refine (hnear w6 (hp.below hbw6)).mono ?_
        rintro e w7 ⟨a8, k8, c8, rfl, hb7, hN0, hN1⟩
        have hbw7 := bthen hbw6 hb7
        clear hhear hnear
        cases hok : hearsOk ps m with
        | false =>
          obtain rfl : E = 1 := by rw [HE.out]; unfold hearErr; rw [hok]; rfl
          obtain rfl := hH1 (by decide)
          obtain rfl := hN1 (by decide)
          clear hH0 hH1 hN0 hN1 hok HE
          go_wp2
          go_ret
          exact ⟨rfl, hbw7⟩
        | true =>
          obtain rfl : E = 0 := by rw [HE.out]; unfold hearErr; rw [hok]; rfl
          obtain ⟨ek7, hrH⟩ := hH0 rfl
          obtain ⟨ek8, hrD, hkc, hcx⟩ := hN0 rfl
          have hall : (ordOk5 (m : Int) = true ∧ (ps.length : Int) * m ≤ 4096) ∧ ps.all inSq = true := by
            unfold hearsOk at hok
            rw [Bool.and_eq_true, Bool.and_eq_true, decide_eq_true_eq] at hok
            exact hok
          have hin := pts_in hall.2
          have h4 := hall.1.2
          have hmul : ps.length * m ≤ 4096 := by exact_mod_cast h4
          obtain ⟨q, eq⟩ : ∃ q, q = ps.length * m := ⟨_, rfl⟩
          have hDl := nearM_length (m / 2) m ps ps.length (Nat.le_refl _)
          have hHl := heardM_length (m / 2) m ps ps.length (Nat.le_refl _)
          have hD01 := nearM_bits (m / 2) m ps ps.length
          have hDc := fun i (hi : i < ps.length) => nearM_chunk (h := m / 2) (order := m) hi
          have hDa := fun i k (hi : i < ps.length) (hk : k < m) => nearM_at (h := m / 2) hi hk
          have hHa := fun i k (hi : i < ps.length) (hk : k < m) => heardM_at (h := m / 2) hi hk
          obtain ⟨D, eD⟩ : ∃ D, D = nearM (m / 2) m ps ps.length := ⟨_, rfl⟩
          obtain ⟨H, eH⟩ : ∃ H, H = heardM (m / 2) m ps ps.length := ⟨_, rfl⟩
          rw [← eD] at hrD hDl hD01 hDc hDa
          rw [← eH] at hrH hHl hHa
          rw [← eq] at hDl hHl hmul ek7 ek8
          obtain rfl := ek7.symm
          obtain rfl := ek8.symm
          have hdm : D.length % m = 0 := by rw [hDl, eq]; exact Nat.mul_mod_left _ _
          have hdd : D.length / m = ps.length := by rw [hDl, eq]; exact Nat.mul_div_cancel _ (by omega)
          have hse := sendErr_ok (err01 hD01 (by omega)) HG.out hdm
          have hsend := hW.send D a8 c8 m w7 hrD (by omega) hcx (bytes01 hD01) ho
          rw [hse, Int.toNat_natCast, hdd, hDl] at hsend
          have HQ : Hid (∀ i, i < ps.length → (sentM (m / 2) D m ps.length).getD i (0, 0) = ptM (m / 2) (nearAt (m / 2) m (ps.getD i (0, 0)))) := fun i hi => by rw [sentM_at D hi, hDc i hi]
          have HQL := hid (sentM_length (m / 2) D m ps.length)
          obtain ⟨QS, eQ⟩ : ∃ QS, QS = sentM (m / 2) D m ps.length := ⟨_, rfl⟩
          rw [← eQ] at hsend HQ HQL
          have HDL := hid hDl
          have HHL := hid hHl
          have HDA := hid hDa
          have HHA := hid hHa
          have HQN := hid eq
          have hcon := fun w => constellation_any m (m / 2) w (by have := HM.out; omega) (by omega) hh3
          have hN4 : ps.length ≤ 4096 := by
            rw [eq] at hmul
            exact Nat.le_trans (Nat.le_mul_of_pos_right ps.length (show 0 < m by omega)) hmul
          clear hH0 hH1 hN0 hN1 hok HE hall h4 eq eD eH eQ hDl hHl hDc hDa hHa hdm hdd hse
          go_wp2_with fail
          refine hsend.mono ?_
          rintro e w8 ⟨a9, k9, c9, rfl, hb8, hS0, _⟩
          obtain ⟨ek9, hptQ⟩ := hS0 (by trivial)
          obtain rfl := ek9.symm
          clear hS0 hsend
          go_wp2_with fail
          refine (hcon w8).mono ?_
          rintro e w9 ⟨v22, v23, vs, rfl, -, -, hown8, hb9⟩
          clear hcon
          have hl8 : ((wordsM m).map fun l => (sideR l 0 (m / 2), sideR l 1 (m / 2))).length = 2 ^ m := by rw [List.length_map, wordsM_length]
          have hp1 : 1 ≤ 2 ^ m := Nat.one_le_two_pow
          have hp6 : 2 ^ m ≤ 64 := Nat.le_trans (Nat.pow_le_pow_right (by decide) hm1.2) (by decide)
          obtain ⟨aP, cP, e8, hc8, hm8⟩ := hown8.shape
          subst e8
          have hptsP := hown8.pts
          obtain ⟨nL, enL⟩ : ∃ nL, nL = 2 ^ m := ⟨_, rfl⟩
          rw [← enL] at hl8 hp1 hp6
          rw [hl8]
          have HNL := hid enL
          clear enL hown8
          obtain ⟨gP, oP, rfl, hcp⟩ := hptsP.at (i := 0) (by omega)
          clear hcp
          have hbw9 := bthen (bthen hbw7 hb8) hb9
          have hrH9 := ((hrH.below hb7).below hb8).below hb9
          have hrD9 := (hrD.below hb8).below hb9
          have hptQ9 := hptQ.below hb9
          have hp9 := hp.below hbw9
          clear hrH hrD hptQ hp hb6 hb7 hb8 hb9 hbw hbw6 hbw7
          have HH9 := hrH9
          have hmix : Try.prog.follows .mixedOrders = true := by kernel_rfl
          have hFE : Enters Try.prog 18 := enters_of Try.func18 (by kernel_rfl) rfl
          have hq6 : q ≤ 4096 := hmul
          clear hmul hcx hkc
          go_wp2
          go_loopw [24] (fun r wr => ∃ i : Nat, i ≤ ps.length ∧ r = .int .i64 i ∧ Below w9.heap.size w9 wr) (fun r _ => ps.length - (intOf r).toNat)
          case atStart => exact ⟨0, Nat.zero_le _, rfl, Below.refl _ _⟩
          case round =>
            obtain ⟨i, hi, rfl, hbel⟩ := hrel
            by_cases hlt : i < ps.length
            · have HIN := hid hlt
              have hpb := hin i
              have himq : i * m + m ≤ q := by rw [HQN.out, ← Nat.succ_mul]; exact Nat.mul_le_mul_right m hlt
              obtain ⟨ga, oa, rfl, hca⟩ := (hp9.below hbel).at hlt
              obtain ⟨gQ, oQ, rfl, hcq⟩ := (hptQ9.below hbel).at (i := i) (by rw [HQL.out]; exact hlt)
              obtain ⟨gH, oH, rfl, hch⟩ := (hrH9.below hbel).at (i := i * m) (by rw [HHL.out]; omega)
              obtain ⟨gD, oD, rfl, hcd⟩ := (hrD9.below hbel).at (i := i * m) (by rw [HDL.out]; omega)
              clear hca hcq hch hcd
              have HQI := hid (HQ.out i hlt)
              have hxi := HHA.out i
              have hyi := HDA.out i
              obtain ⟨p, ep⟩ : ∃ p, p = ps.getD i (0, 0) := ⟨_, rfl⟩
              rw [← ep] at hpb HQI hxi hyi
              have HXI := hid hxi
              have HYI := hid hyi
              have HP := hid ep
              obtain ⟨im, eim⟩ : ∃ im, im = i * m := ⟨_, rfl⟩
              have him : (i : Int) * (m : Int) = (im : Int) := by rw [eim]; simp
              rw [← eim] at himq
              have HIM := hid eim
              clear ep hxi hyi eim
              go_wp2
              go_loopw [25] (fun r ws => ∃ k : Nat, k ≤ nL ∧ r = .int .i64 k ∧ Below w9.heap.size w9 ws) (fun r _ => nL - (intOf r).toNat)
              case atStart => exact ⟨0, Nat.zero_le _, rfl, hbel⟩
              case round =>
                clear hbel
                obtain ⟨k, hk, rfl, hbel⟩ := hrel
                by_cases hkl : k < nL
                · have hkl' : k < (wordsM m).length := by rw [wordsM_length]; have := HNL.out; omega
                  obtain ⟨ga', oa', ea, hca⟩ := (hp9.below hbel).at HIN.out
                  simp at ea
                  obtain ⟨rfl, rfl⟩ := ea
                  have hpi := hca i HIN.out
                  rw [← HP.out] at hpi
                  obtain ⟨gQ', oQ', eQ, hcq⟩ := (hptQ9.below hbel).at (i := i) (by rw [HQL.out]; exact HIN.out)
                  simp at eQ
                  obtain ⟨rfl, rfl⟩ := eQ
                  have hpq := hcq i (by rw [HQL.out]; exact HIN.out)
                  rw [HQI.out] at hpq
                  obtain ⟨gP', oP', eP, hcp⟩ := (hptsP.below hbel).at (i := k) (by rw [hl8]; exact hkl)
                  simp at eP
                  obtain ⟨rfl, rfl⟩ := eP
                  have hpk := hcp k (by rw [hl8]; exact hkl)
                  have epk : ((wordsM m).map fun l => (sideR l 0 (m / 2), sideR l 1 (m / 2))).getD k (0, 0) = ptM (m / 2) ((wordsM m).getD k []) := by
                    simp [List.getD, hkl', ptM]
                  rw [epk] at hpk
                  have hqk := ptM_bd (m / 2) ((wordsM m).getD k []) hh3
                  have hqq := ptM_bd (m / 2) (nearAt (m / 2) m p) hh3
                  have hle : farM p (ptM (m / 2) (nearAt (m / 2) m p)) ≤ farM p (ptM (m / 2) ((wordsM m).getD k [])) := near_le (m / 2) m p (2 ^ m) k (by rw [← HNL.out]; exact hkl)
                  obtain ⟨pk, epk'⟩ : ∃ pk, pk = ptM (m / 2) ((wordsM m).getD k []) := ⟨_, rfl⟩
                  obtain ⟨pq, epq'⟩ : ∃ pq, pq = ptM (m / 2) (nearAt (m / 2) m p) := ⟨_, rfl⟩
                  rw [← epk'] at hpk hqk hle
                  rw [← epq'] at hpq hqq hle
                  have hfk := fun w => rfar_any p pk w hpb hqk
                  have hfq := fun w => rfar_any p pq w hpb hqq
                  obtain ⟨dk, edk⟩ : ∃ dk, dk = farM p pk := ⟨_, rfl⟩
                  obtain ⟨dq, edq⟩ : ∃ dq, dq = farM p pq := ⟨_, rfl⟩
                  rw [← edk] at hfk hle
                  rw [← edq] at hfq hle
                  have hdec : decide (dk < dq) = false := decide_eq_false (by omega)
                  clear hca hcq hcp epk epk' epq' edk edq hle hqk hqq
                  go_upto_region 29 with fail
                  refine wp_mono (region_known3 19 [(170, .slice (some ⟨ga, oa, none⟩) ps.length c2), (171, .int .i64 i), (172, .pointer (some ⟨ga, oa + i * 2, none⟩)), (173, .agg #[.int .i64 p.1, .int .i64 p.2]), (174, .slice (some ⟨gP, oP, none⟩) nL cP), (175, .int .i64 k), (176, .pointer (some ⟨gP, oP + k * 2, none⟩)), (177, .agg #[.int .i64 pk.1, .int .i64 pk.2]), (178, .int .i64 dk),
                      (179, .slice (some ⟨ga, oa, none⟩) ps.length c2), (180, .int .i64 i), (181, .pointer (some ⟨ga, oa + i * 2, none⟩)), (182, .agg #[.int .i64 p.1, .int .i64 p.2]), (183, .slice (some ⟨gQ, oQ, none⟩) ps.length c9), (184, .int .i64 i), (185, .pointer (some ⟨gQ, oQ + i * 2, none⟩)), (186, .agg #[.int .i64 pq.1, .int .i64 pq.2]), (187, .int .i64 dq), (188, .bool (decide (dk < dq)))]
                      [[2], [24], [170, 171], [172], [23], [25], [174, 175], [176], [173, 177], [2], [24], [179, 180], [181], [20], [24], [183, 184], [185], [182, 186], [178, 187]] wr hmix rfl rfl (show ([170, 171, 172, 173, 174, 175, 176, 177, 178, 179, 180, 181, 182, 183, 184, 185, 186, 187, 188] : List Nat).Nodup by decide) rfl (by kernel_rfl) (by kernel_rfl) rfl (fun i' hi' ac wc hbc hr Q K hK => by
                      have h19 : i' = 0 ∨ i' = 1 ∨ i' = 2 ∨ i' = 3 ∨ i' = 4 ∨ i' = 5 ∨ i' = 6 ∨ i' = 7 ∨ i' = 8 ∨ i' = 9 ∨ i' = 10 ∨ i' = 11 ∨ i' = 12 ∨ i' = 13 ∨ i' = 14 ∨ i' = 15 ∨ i' = 16 ∨ i' = 17 ∨ i' = 18 := by omega
                      have qi : wc.cell? ⟨ga, oa + i * 2, none⟩ = some (.int .i64 p.1) ∧ wc.cell? ⟨ga, oa + i * 2 + 1, none⟩ = some (.int .i64 p.2) := ⟨(hbc.cell (World.block_lt_of_cell? wr _ hpi.1)).trans hpi.1, (hbc.cell (World.block_lt_of_cell? wr _ hpi.2)).trans hpi.2⟩
                      rcases h19 with rfl | rfl | rfl | rfl | rfl | rfl | rfl | rfl | rfl | rfl | rfl | rfl | rfl | rfl | rfl | rfl | rfl | rfl | rfl
                      · exact op_value rfl rfl (run_moveQ wc rfl (hr 2 (by decide))) (hK wc hbc)
                      · exact op_value rfl rfl (run_moveQ wc rfl (hr 24 (by decide))) (hK wc hbc)
                      · exact op_value rfl rfl (run_idxP wc rfl (hr 170 (by decide)) (hr 171 (by decide)) HIN.out) (hK wc hbc)
                      · exact op_value rfl rfl (run_loadP wc rfl (hr 172 (by decide)) qi) (hK wc hbc)
                      · exact op_value rfl rfl (run_moveQ wc rfl (hr 23 (by decide))) (hK wc hbc)
                      · exact op_value rfl rfl (run_moveQ wc rfl (hr 25 (by decide))) (hK wc hbc)
                      · exact op_value rfl rfl (run_idxP wc rfl (hr 174 (by decide)) (hr 175 (by decide)) hkl) (hK wc hbc)
                      · exact op_value rfl rfl (run_loadP wc rfl (hr 176 (by decide)) ⟨(hbc.cell (World.block_lt_of_cell? wr _ hpk.1)).trans hpk.1, (hbc.cell (World.block_lt_of_cell? wr _ hpk.2)).trans hpk.2⟩) (hK wc hbc)
                      · refine op_call2 rfl rfl rfl hFE (hr 173 (by decide)) (hr 177 (by decide)) (hfk wc) fun e w' hr' => ?_
                        obtain ⟨rfl, hb'⟩ := hr'
                        exact ⟨_, rfl, hK w' (bthen hbc hb')⟩
                      · exact op_value rfl rfl (run_moveQ wc rfl (hr 2 (by decide))) (hK wc hbc)
                      · exact op_value rfl rfl (run_moveQ wc rfl (hr 24 (by decide))) (hK wc hbc)
                      · exact op_value rfl rfl (run_idxP wc rfl (hr 179 (by decide)) (hr 180 (by decide)) HIN.out) (hK wc hbc)
                      · exact op_value rfl rfl (run_loadP wc rfl (hr 181 (by decide)) qi) (hK wc hbc)
                      · exact op_value rfl rfl (run_moveQ wc rfl (hr 20 (by decide))) (hK wc hbc)
                      · exact op_value rfl rfl (run_moveQ wc rfl (hr 24 (by decide))) (hK wc hbc)
                      · exact op_value rfl rfl (run_idxP wc rfl (hr 183 (by decide)) (hr 184 (by decide)) HIN.out) (hK wc hbc)
                      · exact op_value rfl rfl (run_loadP wc rfl (hr 185 (by decide)) ⟨(hbc.cell (World.block_lt_of_cell? wr _ hpq.1)).trans hpq.1, (hbc.cell (World.block_lt_of_cell? wr _ hpq.2)).trans hpq.2⟩) (hK wc hbc)
                      · refine op_call2 rfl rfl rfl hFE (hr 182 (by decide)) (hr 186 (by decide)) (hfq wc) fun e w' hr' => ?_
                        obtain ⟨rfl, hb'⟩ := hr'
                        exact ⟨_, rfl, hK w' (bthen hbc hb')⟩
                      · exact op_value rfl rfl (run_lssI wc rfl (hr 178 (by decide)) (hr 187 (by decide))) (hK wc hbc))) ?_
                  rintro e a' w' ⟨rfl, rfl, hbw⟩
                  have hbel' : Below w9.heap.size w9 w' := hbel.trans (hbw.mono hbel.size)
                  have HKL := hid hkl
                  dsimp only [setAll, List.set]
                  rw [hdec]
                  clear hbel hpi hpk hpq hfk hfq hdec
                  go_wp2
                  go_roundw
                  case rel =>
                    have := HKL.out
                    first | exact ⟨k + 1, by omega, by go_num, hbel'⟩ | ((repeat apply Exists.intro); exact ⟨⟨k + 1, by omega, by go_num, hbel'⟩, rfl⟩)
                  case measure => simp [intOf]; have := HKL.out; omega
                · go_wp2
                  go_loopw [26, 27] (fun r _ ws => ∃ j : Nat, j ≤ m ∧ r = .int .i64 j ∧ Below w9.heap.size w9 ws) (fun r _ _ => m - (intOf r).toNat)
                  case atStart => exact ⟨0, Nat.zero_le _, rfl, hbel⟩
                  case round =>
                    clear hbel
                    obtain ⟨j, hj, rfl, hbel⟩ := hrel
                    by_cases hjl : j < m
                    · obtain ⟨gH', oH', eH', hch⟩ := (hrH9.below hbel).at (i := im) (by rw [HHL.out]; omega)
                      simp at eH'
                      obtain ⟨rfl, rfl⟩ := eH'
                      obtain ⟨gD', oD', eD', hcd⟩ := (hrD9.below hbel).at (i := im) (by rw [HDL.out]; omega)
                      simp at eD'
                      obtain ⟨rfl, rfl⟩ := eD'
                      have hxc := hch (im + j) (by rw [HHL.out]; omega)
                      have hyc := hcd (im + j) (by rw [HDL.out]; omega)
                      have ex := HXI.out j HIN.out hjl
                      have ey := HYI.out j HIN.out hjl
                      rw [← HIM.out] at ex ey
                      rw [ex] at hxc
                      rw [ey] at hyc
                      have hs1 := sign_one (h := m / 2) (p := p) hjl
                      have hs0 := sign_nought (h := m / 2) (p := p) hjl
                      have h01 : (nearAt (m / 2) m p).getD j 0 = 0 ∨ (nearAt (m / 2) m p).getD j 0 = 1 := words_bits (words_at (nearTo_lt (m / 2) m p (2 ^ m) Nat.one_le_two_pow)) _ (getD_mem (l := nearAt (m / 2) m p) (k := j) (by rw [nearAt_length]; exact hjl))
                      obtain ⟨x, ex'⟩ : ∃ x, x = heardAt5 (m / 2) m p j := ⟨_, rfl⟩
                      obtain ⟨y, ey'⟩ : ∃ y, y = (nearAt (m / 2) m p).getD j 0 := ⟨_, rfl⟩
                      rw [← ex'] at hxc hs1 hs0
                      rw [← ey'] at hyc hs1 hs0 h01
                      obtain ⟨t, et⟩ : ∃ t, t = im + j := ⟨_, rfl⟩
                      have hadd : (im : Int) + (j : Int) = (t : Int) := by rw [et]; simp
                      have htq : t < q := by omega
                      have ht4 : t ≤ 4096 := by omega
                      have him4 : im ≤ 4096 := by omega
                      rw [← et] at hxc hyc
                      have HJ := hid hjl
                      clear hch hcd ex ey ex' ey' et
                      rcases Int.lt_trichotomy x 0 with hx | hx | hx
                      · obtain rfl : y = 1 := by
                          rcases h01 with h | h
                          · have := hs0 h; omega
                          · exact h
                        have hx' : ¬ 0 < x := by omega
                        clear hs0 hs1 h01
                        go_wp2
                        go_roundw
                        case rel =>
                          have := HJ.out
                          first | exact ⟨j + 1, by omega, by go_num, hbel⟩ | ((repeat apply Exists.intro); exact ⟨⟨j + 1, by omega, by go_num, hbel⟩, rfl⟩)
                        case measure => simp [intOf]; have := HJ.out; omega
                      · subst hx
                        clear hs0 hs1 h01
                        go_wp2
                        go_roundw
                        case rel =>
                          have := HJ.out
                          first | exact ⟨j + 1, by omega, by go_num, hbel⟩ | ((repeat apply Exists.intro); exact ⟨⟨j + 1, by omega, by go_num, hbel⟩, rfl⟩)
                        case measure => simp [intOf]; have := HJ.out; omega
                      · obtain rfl : y = 0 := by
                          rcases h01 with h | h
                          · exact h
                          · have := hs1 h; omega
                        have hx' : ¬ x < 0 := by omega
                        clear hs0 hs1 h01
                        go_wp2
                        go_roundw
                        case rel =>
                          have := HJ.out
                          first | exact ⟨j + 1, by omega, by go_num, hbel⟩ | ((repeat apply Exists.intro); exact ⟨⟨j + 1, by omega, by go_num, hbel⟩, rfl⟩)
                        case measure => simp [intOf]; have := HJ.out; omega
                    · go_wp2
                      go_roundw
                      case rel =>
                        have := HIN.out
                        first | exact ⟨i + 1, by omega, by go_num, hbel⟩ | ((repeat apply Exists.intro); exact ⟨⟨i + 1, by omega, by go_num, hbel⟩, rfl⟩)
                      case measure => simp [intOf]; have := HIN.out; omega
            · go_wp2
              go_ret
              exact ⟨rfl, bthen hbw9 hbel⟩
end Go.Proofs.Ytdndeegpbjlibac
