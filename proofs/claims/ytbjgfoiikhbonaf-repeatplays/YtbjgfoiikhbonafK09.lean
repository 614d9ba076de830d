import Derived.Test.YtbjgfoiikhbonafK08
set_option linter.unusedVariables false
set_option linter.unusedSimpArgs false
namespace Go.Proofs.Ytbjgfoiikhbonaf
open Go.ChangeShapes Go.WideShapes Go.ChangeAt Go.RowKit
set_option maxHeartbeats 4000000 in
set_option maxRecDepth 100000 in
theorem deleteSp_any {w : World} {a : Option Addr} {n c j : Nat} {xs : List Value} (h : w.ownsRow 0 114 2 (.slice a n c) n xs) (hone : ∀ u ∈ xs, u.oneCell' = true) (hj : j ≤ n) :
    Calls Try.prog 58 #[.slice a n c, .int .i64 (0 : Int), .int .i64 (j : Int)] w fun e w' => e = .returned (.slice a (n - j) c) ∧ w'.ownsRow 0 114 2 (.slice a (n - j) c) (n - j) (xs.drop (j * 2)) ∧ Kept (Value.slice a n c).ownBlock.toList w w' := by
  by_cases h0 : j = 0
  · subst h0
    have hcall : Calls Try.prog 58 #[.slice a n c, .int .i64 (0 : Int), .int .i64 ((0 : Nat) : Int)] w fun e w' => e = .returned (.slice a n c) ∧ w' = w := by
      obtain ⟨x, cc, e, hn, hc, _⟩ := row_shape h
      simp only [Value.slice.injEq] at e
      obtain ⟨rfl, -, rfl⟩ := e
      have hc' : c ≤ 9223372036854775807 := by unfold maxLen at hc; omega
      clear h hc
      have hcn : ¬ (c < n) := by omega
      cases a with
      | none =>
        go_enter Try.func58, Try.ntmps58
        go_wp2
        all_goals (go_ret; exact ⟨rfl, rfl⟩)
      | some x =>
        obtain ⟨b, o, s⟩ := x
        go_enter Try.func58, Try.ntmps58
        go_wp2
        all_goals (go_ret; exact ⟨rfl, rfl⟩)
    refine hcall.mono ?_
    rintro e w' ⟨rfl, rfl⟩
    refine ⟨by simp, ?_, Kept.refl _ _⟩
    simpa using h
  · obtain ⟨x, cc, e, hn, hc, hx⟩ := row_shape h
    simp only [Value.slice.injEq] at e
    obtain ⟨rfl, -, rfl⟩ := e
    cases a with
    | none =>
      rcases h.2 with ⟨h', h'0⟩ | ⟨g', cap, cur, h', _⟩
      · omega
      · simp at h'
    | some ad =>
      obtain ⟨g, rfl, -⟩ := hx ad rfl
      obtain ⟨cur, hA, -, -, -, hcl, hct, hxl⟩ := row_at h
      obtain ⟨i0, hi0, hz0, hz1, hz2⟩ := info_parts Try.infoSp
      obtain ⟨news, hnews⟩ : ∃ news, news = xs.drop (j * 2) := ⟨_, rfl⟩
      have hlen : news.length = (n - j) * 2 := by rw [hnews, List.length_drop, hxl, ← Nat.sub_mul]
      have hat : ∀ t, t < news.length → news[t]? = cur[j * 2 + t]? := fun t ht => by
        rw [hnews, List.getElem?_drop, ← hct, List.getElem?_take_of_lt (by omega)]
      have h1c : ∀ u ∈ news, u.oneCell' = true := by
        intro u hu
        exact hone u (by rw [hnews] at hu; exact List.mem_of_mem_drop hu)
      have hcK : (n - j) * 2 + j * 2 = n * 2 := by rw [← Nat.add_mul]; congr 1; omega
      have hnK : n * 2 ≤ cur.length := by rw [hcl]; exact Nat.mul_le_mul_right _ hn
      have hic : (0 : Nat) ≤ c := Nat.zero_le _
      have hjc : j ≤ c := by omega
      have hc' : c ≤ 9223372036854775807 := by unfold maxLen at hc; omega
      obtain ⟨A, hAd, hsrc⟩ : ∃ A : Addr, (if c = j then some (⟨g, 0, none⟩ : Addr) else some ⟨g, j * 2, none⟩) = some A ∧ Hid (∀ t u, news[t]? = some u → w.drew.cell? (A.add t) = some u) := by
        by_cases e : c = j
        · refine ⟨⟨g, 0, none⟩, by simp [e], fun t u hu => ?_⟩
          have h0 : news.length = 0 := by rw [hlen]; have : n - j = 0 := by omega
                                          rw [this, Nat.zero_mul]
          rw [List.length_eq_zero_iff.1 h0] at hu
          simp at hu
        · exact ⟨⟨g, j * 2, none⟩, by simp [e], (show At w.drew g 114 cur from hA).src _ hat⟩
      have hdl : ((Builtin.zeroCells (Value.agg #[.int .i64 0, .int .i64 0]).cells j).toList).length = j * 2 := by rw [Array.length_toList, size_zeroCells]; rfl
      obtain ⟨row1, hrow1⟩ : ∃ row1, row1 = splice cur 0 news := ⟨_, rfl⟩
      have hl1 : row1.length = cur.length := by rw [hrow1]; exact length_splice _ _ _ (by rw [hlen]; omega)
      obtain ⟨row2, hrow2⟩ : ∃ row2, row2 = splice row1 ((n - j) * 2) (Builtin.zeroCells (Value.agg #[.int .i64 0, .int .i64 0]).cells j).toList := ⟨_, rfl⟩
      have hl2 : row2.length = cur.length := by rw [hrow2]; exact (length_splice _ _ _ (by rw [hdl, hl1]; omega)).trans hl1
      have hr1 : ∀ ty m c', m = n - j → (Builtin.append_ #[105, 105] ty #[.slice (some ⟨g, 0, none⟩) 0 c, .slice (some A) m c']).run Try.prog w.drew = .ok (.slice (some ⟨g, 0, none⟩) (n - j) c) (w.drew.setRow g row1.toArray) := by
        rintro ty m c' rfl
        have := run_append_room (P := Try.prog) w.drew 105 ty 114 i0 Try.underlying105 hi0 g 0 c cur.toArray hA A (n - j) c' news (by rw [hz1]; exact hlen) hsrc.out h1c (by omega) (by simp only [Nat.zero_mul, Nat.zero_add, List.size_toArray]; omega)
        rw [this, hrow1]
        simp [splice]
      have hA1 : At (w.drew.setRow g row1.toArray) g 114 row1 := At.set (T := 114) (cur := cur) hA
      have hr2 : ∀ ty m c', m = j → (Builtin.clear_ #[105] ty #[.slice (some ⟨g, (n - j) * 2, none⟩) m c']).run Try.prog (w.drew.setRow g row1.toArray) = .ok (.tuple #[]) ((w.drew.setRow g row1.toArray).setRow g row2.toArray) := by
        rintro ty m c' rfl
        rw [hrow2]
        exact run_clearK _ 105 114 ty 114 i0 _ Try.underlying105 hi0 hz0 g _ m c' row1 hA1 (by omega) (by rw [hl1]; show _ + m * 2 ≤ _; omega) (fun v hv => by
          have := zero_mem hv
          simp [Value.cells] at this
          rcases this with rfl <;> rfl)
      have hA2 : At ((w.drew.setRow g row1.toArray).setRow g row2.toArray) g 114 row2 := hA1.set
      have hk : Kept [g] w ((w.drew.setRow g row1.toArray).setRow g row2.toArray) := ((Kept.refl _ w).drew.trans (kept_setRow _ g _)).trans (kept_setRow _ g _)
      have ht2 : row2.take ((n - j) * 2) = news := by
        rw [hrow2, hrow1]
        unfold splice
        rw [List.take_append_of_le_length (by simp; omega), List.take_take]
        simp [← hlen]
      have hres : ((w.drew.setRow g row1.toArray).setRow g row2.toArray).ownsRow 0 114 2 (.slice (some ⟨g, 0, none⟩) (n - j) c) (n - j) news := hA2.row hlen (by omega) hc (by rw [hl2, hcl]) ht2
      subst hnews
      obtain ⟨W1, hW1⟩ : ∃ W1, W1 = w.drew.setRow g row1.toArray := ⟨_, rfl⟩
      rw [← hW1] at hr1 hr2 hk hres
      have hR1 := hid hr1
      have hR2 := hid hr2
      have hRes := hid hres
      have hK := hid hk
      clear hr1 hr2 hres hk h hA hA1 hA2 hcl hct hxl hlen hat h1c hsrc hdl hl1 hl2 ht2 hrow1 hrow2 hnK hcK hx hone hW1
      go_enter Try.func58, Try.ntmps58
      go_wp2_with fail
      go_region_law (refine step_bi2 rfl .append (.tmp 22) (.tmp 25) 105 105 rfl (.slice (some ⟨g, 0, none⟩) 0 c) (.slice (some A) (n - j) (c - j)) (by simp [Act.eval, Act.put]) (by simp [Act.eval, Act.put]) (bi_append (hR1.out _ _ _ rfl)) ?_)
      have hnj : n - (n - j) = j := by omega
      have hne : ¬ (c = n - j) := by omega
      have hle : n - j ≤ n := by omega
      have hcast : ((n - j : Nat) : Int) ≤ (n : Int) := by omega
      obtain ⟨W2, hW2⟩ : ∃ W2, W2 = W1.setRow g row2.toArray := ⟨_, rfl⟩
      have hcl : ∀ ty, (Builtin.clear_ #[105] ty #[.slice (some ⟨g, (n - j) * 2, none⟩) j (c - (n - j))]).run Try.prog W1 = .ok (.tuple #[]) W2 := fun ty => by rw [hW2]; exact hR2.out _ _ _ rfl
      rw [← hW2] at hRes hK
      clear hW2
      go_wp2
      all_goals (go_ret; exact ⟨rfl, hRes.out, hK.out⟩)
set_option maxHeartbeats 4000000 in
set_option maxRecDepth 100000 in
theorem deleteTk_any {w : World} {a : Option Addr} {n c j : Nat} {xs : List Value} (h : w.ownsRow 0 120 3 (.slice a n c) n xs) (hone : ∀ u ∈ xs, u.oneCell' = true) (hj : j ≤ n) :
    Calls Try.prog 64 #[.slice a n c, .int .i64 (0 : Int), .int .i64 (j : Int)] w fun e w' => e = .returned (.slice a (n - j) c) ∧ w'.ownsRow 0 120 3 (.slice a (n - j) c) (n - j) (xs.drop (j * 3)) ∧ Kept (Value.slice a n c).ownBlock.toList w w' := by
  by_cases h0 : j = 0
  · subst h0
    have hcall : Calls Try.prog 64 #[.slice a n c, .int .i64 (0 : Int), .int .i64 ((0 : Nat) : Int)] w fun e w' => e = .returned (.slice a n c) ∧ w' = w := by
      obtain ⟨x, cc, e, hn, hc, _⟩ := row_shape h
      simp only [Value.slice.injEq] at e
      obtain ⟨rfl, -, rfl⟩ := e
      have hc' : c ≤ 9223372036854775807 := by unfold maxLen at hc; omega
      clear h hc
      have hcn : ¬ (c < n) := by omega
      cases a with
      | none =>
        go_enter Try.func64, Try.ntmps64
        go_wp2
        all_goals (go_ret; exact ⟨rfl, rfl⟩)
      | some x =>
        obtain ⟨b, o, s⟩ := x
        go_enter Try.func64, Try.ntmps64
        go_wp2
        all_goals (go_ret; exact ⟨rfl, rfl⟩)
    refine hcall.mono ?_
    rintro e w' ⟨rfl, rfl⟩
    refine ⟨by simp, ?_, Kept.refl _ _⟩
    simpa using h
  · obtain ⟨x, cc, e, hn, hc, hx⟩ := row_shape h
    simp only [Value.slice.injEq] at e
    obtain ⟨rfl, -, rfl⟩ := e
    cases a with
    | none =>
      rcases h.2 with ⟨h', h'0⟩ | ⟨g', cap, cur, h', _⟩
      · omega
      · simp at h'
    | some ad =>
      obtain ⟨g, rfl, -⟩ := hx ad rfl
      obtain ⟨cur, hA, -, -, -, hcl, hct, hxl⟩ := row_at h
      obtain ⟨i0, hi0, hz0, hz1, hz2⟩ := info_parts Try.infoTk
      obtain ⟨news, hnews⟩ : ∃ news, news = xs.drop (j * 3) := ⟨_, rfl⟩
      have hlen : news.length = (n - j) * 3 := by rw [hnews, List.length_drop, hxl, ← Nat.sub_mul]
      have hat : ∀ t, t < news.length → news[t]? = cur[j * 3 + t]? := fun t ht => by
        rw [hnews, List.getElem?_drop, ← hct, List.getElem?_take_of_lt (by omega)]
      have h1c : ∀ u ∈ news, u.oneCell' = true := by
        intro u hu
        exact hone u (by rw [hnews] at hu; exact List.mem_of_mem_drop hu)
      have hcK : (n - j) * 3 + j * 3 = n * 3 := by rw [← Nat.add_mul]; congr 1; omega
      have hnK : n * 3 ≤ cur.length := by rw [hcl]; exact Nat.mul_le_mul_right _ hn
      have hic : (0 : Nat) ≤ c := Nat.zero_le _
      have hjc : j ≤ c := by omega
      have hc' : c ≤ 9223372036854775807 := by unfold maxLen at hc; omega
      obtain ⟨A, hAd, hsrc⟩ : ∃ A : Addr, (if c = j then some (⟨g, 0, none⟩ : Addr) else some ⟨g, j * 3, none⟩) = some A ∧ Hid (∀ t u, news[t]? = some u → w.drew.cell? (A.add t) = some u) := by
        by_cases e : c = j
        · refine ⟨⟨g, 0, none⟩, by simp [e], fun t u hu => ?_⟩
          have h0 : news.length = 0 := by rw [hlen]; have : n - j = 0 := by omega
                                          rw [this, Nat.zero_mul]
          rw [List.length_eq_zero_iff.1 h0] at hu
          simp at hu
        · exact ⟨⟨g, j * 3, none⟩, by simp [e], (show At w.drew g 120 cur from hA).src _ hat⟩
      have hdl : ((Builtin.zeroCells (Value.agg #[.slice none 0 0, .slice none 0 0, .int .i64 0]).cells j).toList).length = j * 3 := by rw [Array.length_toList, size_zeroCells]; rfl
      obtain ⟨row1, hrow1⟩ : ∃ row1, row1 = splice cur 0 news := ⟨_, rfl⟩
      have hl1 : row1.length = cur.length := by rw [hrow1]; exact length_splice _ _ _ (by rw [hlen]; omega)
      obtain ⟨row2, hrow2⟩ : ∃ row2, row2 = splice row1 ((n - j) * 3) (Builtin.zeroCells (Value.agg #[.slice none 0 0, .slice none 0 0, .int .i64 0]).cells j).toList := ⟨_, rfl⟩
      have hl2 : row2.length = cur.length := by rw [hrow2]; exact (length_splice _ _ _ (by rw [hdl, hl1]; omega)).trans hl1
      have hr1 : ∀ ty m c', m = n - j → (Builtin.append_ #[101, 101] ty #[.slice (some ⟨g, 0, none⟩) 0 c, .slice (some A) m c']).run Try.prog w.drew = .ok (.slice (some ⟨g, 0, none⟩) (n - j) c) (w.drew.setRow g row1.toArray) := by
        rintro ty m c' rfl
        have := run_append_room (P := Try.prog) w.drew 101 ty 120 i0 Try.underlying101 hi0 g 0 c cur.toArray hA A (n - j) c' news (by rw [hz1]; exact hlen) hsrc.out h1c (by omega) (by simp only [Nat.zero_mul, Nat.zero_add, List.size_toArray]; omega)
        rw [this, hrow1]
        simp [splice]
      have hA1 : At (w.drew.setRow g row1.toArray) g 120 row1 := At.set (T := 120) (cur := cur) hA
      have hr2 : ∀ ty m c', m = j → (Builtin.clear_ #[101] ty #[.slice (some ⟨g, (n - j) * 3, none⟩) m c']).run Try.prog (w.drew.setRow g row1.toArray) = .ok (.tuple #[]) ((w.drew.setRow g row1.toArray).setRow g row2.toArray) := by
        rintro ty m c' rfl
        rw [hrow2]
        exact run_clearK _ 101 120 ty 120 i0 _ Try.underlying101 hi0 hz0 g _ m c' row1 hA1 (by omega) (by rw [hl1]; show _ + m * 3 ≤ _; omega) (fun v hv => by
          have := zero_mem hv
          simp [Value.cells] at this
          rcases this with rfl | rfl <;> rfl)
      have hA2 : At ((w.drew.setRow g row1.toArray).setRow g row2.toArray) g 120 row2 := hA1.set
      have hk : Kept [g] w ((w.drew.setRow g row1.toArray).setRow g row2.toArray) := ((Kept.refl _ w).drew.trans (kept_setRow _ g _)).trans (kept_setRow _ g _)
      have ht2 : row2.take ((n - j) * 3) = news := by
        rw [hrow2, hrow1]
        unfold splice
        rw [List.take_append_of_le_length (by simp; omega), List.take_take]
        simp [← hlen]
      have hres : ((w.drew.setRow g row1.toArray).setRow g row2.toArray).ownsRow 0 120 3 (.slice (some ⟨g, 0, none⟩) (n - j) c) (n - j) news := hA2.row hlen (by omega) hc (by rw [hl2, hcl]) ht2
      subst hnews
      obtain ⟨W1, hW1⟩ : ∃ W1, W1 = w.drew.setRow g row1.toArray := ⟨_, rfl⟩
      rw [← hW1] at hr1 hr2 hk hres
      have hR1 := hid hr1
      have hR2 := hid hr2
      have hRes := hid hres
      have hK := hid hk
      clear hr1 hr2 hres hk h hA hA1 hA2 hcl hct hxl hlen hat h1c hsrc hdl hl1 hl2 ht2 hrow1 hrow2 hnK hcK hx hone hW1
      go_enter Try.func64, Try.ntmps64
      go_wp2_with fail
      go_region_law (refine step_bi2 rfl .append (.tmp 22) (.tmp 25) 101 101 rfl (.slice (some ⟨g, 0, none⟩) 0 c) (.slice (some A) (n - j) (c - j)) (by simp [Act.eval, Act.put]) (by simp [Act.eval, Act.put]) (bi_append (hR1.out _ _ _ rfl)) ?_)
      have hnj : n - (n - j) = j := by omega
      have hne : ¬ (c = n - j) := by omega
      have hle : n - j ≤ n := by omega
      have hcast : ((n - j : Nat) : Int) ≤ (n : Int) := by omega
      obtain ⟨W2, hW2⟩ : ∃ W2, W2 = W1.setRow g row2.toArray := ⟨_, rfl⟩
      have hcl : ∀ ty, (Builtin.clear_ #[101] ty #[.slice (some ⟨g, (n - j) * 3, none⟩) j (c - (n - j))]).run Try.prog W1 = .ok (.tuple #[]) W2 := fun ty => by rw [hW2]; exact hR2.out _ _ _ rfl
      rw [← hW2] at hRes hK
      clear hW2
      go_wp2
      all_goals (go_ret; exact ⟨rfl, hRes.out, hK.out⟩)
set_option maxHeartbeats 4000000 in
set_option maxRecDepth 100000 in
theorem deleteSd_any {w : World} {a : Option Addr} {n c j : Nat} {xs : List Value} (h : w.ownsRow 0 107 4 (.slice a n c) n xs) (hone : ∀ u ∈ xs, u.oneCell' = true) (hj : j ≤ n) :
    Calls Try.prog 67 #[.slice a n c, .int .i64 (0 : Int), .int .i64 (j : Int)] w fun e w' => e = .returned (.slice a (n - j) c) ∧ w'.ownsRow 0 107 4 (.slice a (n - j) c) (n - j) (xs.drop (j * 4)) ∧ Kept (Value.slice a n c).ownBlock.toList w w' := by
  by_cases h0 : j = 0
  · subst h0
    have hcall : Calls Try.prog 67 #[.slice a n c, .int .i64 (0 : Int), .int .i64 ((0 : Nat) : Int)] w fun e w' => e = .returned (.slice a n c) ∧ w' = w := by
      obtain ⟨x, cc, e, hn, hc, _⟩ := row_shape h
      simp only [Value.slice.injEq] at e
      obtain ⟨rfl, -, rfl⟩ := e
      have hc' : c ≤ 9223372036854775807 := by unfold maxLen at hc; omega
      clear h hc
      have hcn : ¬ (c < n) := by omega
      cases a with
      | none =>
        go_enter Try.func67, Try.ntmps67
        go_wp2
        all_goals (go_ret; exact ⟨rfl, rfl⟩)
      | some x =>
        obtain ⟨b, o, s⟩ := x
        go_enter Try.func67, Try.ntmps67
        go_wp2
        all_goals (go_ret; exact ⟨rfl, rfl⟩)
    refine hcall.mono ?_
    rintro e w' ⟨rfl, rfl⟩
    refine ⟨by simp, ?_, Kept.refl _ _⟩
    simpa using h
  · obtain ⟨x, cc, e, hn, hc, hx⟩ := row_shape h
    simp only [Value.slice.injEq] at e
    obtain ⟨rfl, -, rfl⟩ := e
    cases a with
    | none =>
      rcases h.2 with ⟨h', h'0⟩ | ⟨g', cap, cur, h', _⟩
      · omega
      · simp at h'
    | some ad =>
      obtain ⟨g, rfl, -⟩ := hx ad rfl
      obtain ⟨cur, hA, -, -, -, hcl, hct, hxl⟩ := row_at h
      obtain ⟨i0, hi0, hz0, hz1, hz2⟩ := info_parts Try.infoSd
      obtain ⟨news, hnews⟩ : ∃ news, news = xs.drop (j * 4) := ⟨_, rfl⟩
      have hlen : news.length = (n - j) * 4 := by rw [hnews, List.length_drop, hxl, ← Nat.sub_mul]
      have hat : ∀ t, t < news.length → news[t]? = cur[j * 4 + t]? := fun t ht => by
        rw [hnews, List.getElem?_drop, ← hct, List.getElem?_take_of_lt (by omega)]
      have h1c : ∀ u ∈ news, u.oneCell' = true := by
        intro u hu
        exact hone u (by rw [hnews] at hu; exact List.mem_of_mem_drop hu)
      have hcK : (n - j) * 4 + j * 4 = n * 4 := by rw [← Nat.add_mul]; congr 1; omega
      have hnK : n * 4 ≤ cur.length := by rw [hcl]; exact Nat.mul_le_mul_right _ hn
      have hic : (0 : Nat) ≤ c := Nat.zero_le _
      have hjc : j ≤ c := by omega
      have hc' : c ≤ 9223372036854775807 := by unfold maxLen at hc; omega
      obtain ⟨A, hAd, hsrc⟩ : ∃ A : Addr, (if c = j then some (⟨g, 0, none⟩ : Addr) else some ⟨g, j * 4, none⟩) = some A ∧ Hid (∀ t u, news[t]? = some u → w.drew.cell? (A.add t) = some u) := by
        by_cases e : c = j
        · refine ⟨⟨g, 0, none⟩, by simp [e], fun t u hu => ?_⟩
          have h0 : news.length = 0 := by rw [hlen]; have : n - j = 0 := by omega
                                          rw [this, Nat.zero_mul]
          rw [List.length_eq_zero_iff.1 h0] at hu
          simp at hu
        · exact ⟨⟨g, j * 4, none⟩, by simp [e], (show At w.drew g 107 cur from hA).src _ hat⟩
      have hdl : ((Builtin.zeroCells (Value.agg #[.string { data := #[] }, .int .i64 0, .slice none 0 0, .bool false]).cells j).toList).length = j * 4 := by rw [Array.length_toList, size_zeroCells]; rfl
      obtain ⟨row1, hrow1⟩ : ∃ row1, row1 = splice cur 0 news := ⟨_, rfl⟩
      have hl1 : row1.length = cur.length := by rw [hrow1]; exact length_splice _ _ _ (by rw [hlen]; omega)
      obtain ⟨row2, hrow2⟩ : ∃ row2, row2 = splice row1 ((n - j) * 4) (Builtin.zeroCells (Value.agg #[.string { data := #[] }, .int .i64 0, .slice none 0 0, .bool false]).cells j).toList := ⟨_, rfl⟩
      have hl2 : row2.length = cur.length := by rw [hrow2]; exact (length_splice _ _ _ (by rw [hdl, hl1]; omega)).trans hl1
      have hr1 : ∀ ty m c', m = n - j → (Builtin.append_ #[98, 98] ty #[.slice (some ⟨g, 0, none⟩) 0 c, .slice (some A) m c']).run Try.prog w.drew = .ok (.slice (some ⟨g, 0, none⟩) (n - j) c) (w.drew.setRow g row1.toArray) := by
        rintro ty m c' rfl
        have := run_append_room (P := Try.prog) w.drew 98 ty 107 i0 Try.underlying98 hi0 g 0 c cur.toArray hA A (n - j) c' news (by rw [hz1]; exact hlen) hsrc.out h1c (by omega) (by simp only [Nat.zero_mul, Nat.zero_add, List.size_toArray]; omega)
        rw [this, hrow1]
        simp [splice]
      have hA1 : At (w.drew.setRow g row1.toArray) g 107 row1 := At.set (T := 107) (cur := cur) hA
      have hr2 : ∀ ty m c', m = j → (Builtin.clear_ #[98] ty #[.slice (some ⟨g, (n - j) * 4, none⟩) m c']).run Try.prog (w.drew.setRow g row1.toArray) = .ok (.tuple #[]) ((w.drew.setRow g row1.toArray).setRow g row2.toArray) := by
        rintro ty m c' rfl
        rw [hrow2]
        exact run_clearK _ 98 107 ty 107 i0 _ Try.underlying98 hi0 hz0 g _ m c' row1 hA1 (by omega) (by rw [hl1]; show _ + m * 4 ≤ _; omega) (fun v hv => by
          have := zero_mem hv
          simp [Value.cells] at this
          rcases this with rfl | rfl | rfl | rfl <;> rfl)
      have hA2 : At ((w.drew.setRow g row1.toArray).setRow g row2.toArray) g 107 row2 := hA1.set
      have hk : Kept [g] w ((w.drew.setRow g row1.toArray).setRow g row2.toArray) := ((Kept.refl _ w).drew.trans (kept_setRow _ g _)).trans (kept_setRow _ g _)
      have ht2 : row2.take ((n - j) * 4) = news := by
        rw [hrow2, hrow1]
        unfold splice
        rw [List.take_append_of_le_length (by simp; omega), List.take_take]
        simp [← hlen]
      have hres : ((w.drew.setRow g row1.toArray).setRow g row2.toArray).ownsRow 0 107 4 (.slice (some ⟨g, 0, none⟩) (n - j) c) (n - j) news := hA2.row hlen (by omega) hc (by rw [hl2, hcl]) ht2
      subst hnews
      obtain ⟨W1, hW1⟩ : ∃ W1, W1 = w.drew.setRow g row1.toArray := ⟨_, rfl⟩
      rw [← hW1] at hr1 hr2 hk hres
      have hR1 := hid hr1
      have hR2 := hid hr2
      have hRes := hid hres
      have hK := hid hk
      clear hr1 hr2 hres hk h hA hA1 hA2 hcl hct hxl hlen hat h1c hsrc hdl hl1 hl2 ht2 hrow1 hrow2 hnK hcK hx hone hW1
      go_enter Try.func67, Try.ntmps67
      go_wp2_with fail
      go_region_law (refine step_bi2 rfl .append (.tmp 22) (.tmp 25) 98 98 rfl (.slice (some ⟨g, 0, none⟩) 0 c) (.slice (some A) (n - j) (c - j)) (by simp [Act.eval, Act.put]) (by simp [Act.eval, Act.put]) (bi_append (hR1.out _ _ _ rfl)) ?_)
      have hnj : n - (n - j) = j := by omega
      have hne : ¬ (c = n - j) := by omega
      have hle : n - j ≤ n := by omega
      have hcast : ((n - j : Nat) : Int) ≤ (n : Int) := by omega
      obtain ⟨W2, hW2⟩ : ∃ W2, W2 = W1.setRow g row2.toArray := ⟨_, rfl⟩
      have hcl : ∀ ty, (Builtin.clear_ #[98] ty #[.slice (some ⟨g, (n - j) * 4, none⟩) j (c - (n - j))]).run Try.prog W1 = .ok (.tuple #[]) W2 := fun ty => by rw [hW2]; exact hR2.out _ _ _ rfl
      rw [← hW2] at hRes hK
      clear hW2
      go_wp2
      all_goals (go_ret; exact ⟨rfl, hRes.out, hK.out⟩)
end Go.Proofs.Ytbjgfoiikhbonaf
