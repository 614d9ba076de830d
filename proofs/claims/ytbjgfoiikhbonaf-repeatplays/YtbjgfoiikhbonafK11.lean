import Derived.Test.YtbjgfoiikhbonafK10
set_option linter.unusedVariables false
set_option linter.unusedSimpArgs false
namespace Go.Proofs.Ytbjgfoiikhbonaf
open Go.ChangeShapes Go.WideShapes Go.ChangeAt Go.RowKit
theorem insert_any {w : World} {a : Option Addr} {n c gx i : Nat} {xs : List Value} {p q : Int} (h : w.ownsRow 0 114 2 (.slice a n c) n xs) (hone : ∀ u ∈ xs, u.oneCell' = true) (hb : n ≤ 4000) (hX : At w gx 114 [.int .i64 p, .int .i64 q]) (hne : ∀ y, a = some y → gx ≠ y.block) (hi : i ≤ n) :
    Calls Try.prog 69 #[.slice a n c, .int .i64 (i : Int), .slice (some ⟨gx, 0, none⟩) 1 1] w (SpPost w a (n + 1) (xs.take (i * 2) ++ ([.int .i64 p, .int .i64 q] ++ xs.drop (i * 2))) (Value.slice a n c).ownBlock.toList) := by
  by_cases e : i = n
  · subst e
    have hl := h.1
    have := insert_end h hb hX
    rw [List.take_of_length_le (by omega), List.drop_eq_nil_of_le (by omega), List.append_nil]
    exact this
  · obtain ⟨g, rfl⟩ := row_some h (by omega)
    by_cases hr : n + 1 ≤ c
    · exact insert_shift h hone hb hX (hne _ rfl) (by omega) hr
    · exact insert_grow h hone hb hX (hne _ rfl) (by omega) (by omega)
theorem lands_same {w : World} {g m d : Nat} : Lands w (some ⟨g, 0, none⟩) (.slice (some ⟨g, 0, none⟩) m d) := fun g' hg' => by
  simp [Value.ownBlock] at hg'
  subst hg'
  exact .inl ⟨0, rfl⟩
set_option maxHeartbeats 1000000 in
set_option maxRecDepth 100000 in
theorem replace_same {w : World} {a : Option Addr} {n c gx i : Nat} {xs : List Value} {p q : Int} (h : w.ownsRow 0 114 2 (.slice a n c) n xs) (hone : ∀ u ∈ xs, u.oneCell' = true) (hb : n ≤ 4000) (hX : At w gx 114 [.int .i64 p, .int .i64 q]) (hne : ∀ y, a = some y → gx ≠ y.block) (hi : i ≤ n) :
    Calls Try.prog 68 #[.slice a n c, .int .i64 (i : Int), .int .i64 (i : Int), .slice (some ⟨gx, 0, none⟩) 1 1] w (SpPost w a (n + 1) (xs.take (i * 2) ++ ([.int .i64 p, .int .i64 q] ++ xs.drop (i * 2))) (Value.slice a n c).ownBlock.toList) := by
  have hins := insert_any h hone hb hX hne hi
  obtain ⟨x, cc, e, hn, hc, hx⟩ := row_shape h
  simp only [Value.slice.injEq] at e
  obtain ⟨rfl, -, rfl⟩ := e
  have hc' : c ≤ 9223372036854775807 := by unfold maxLen at hc; omega
  have hic : i ≤ c := by omega
  obtain ⟨Post, hP⟩ : ∃ Post, Post = SpPost w a (n + 1) (xs.take (i * 2) ++ ([.int .i64 p, .int .i64 q] ++ xs.drop (i * 2))) (Value.slice a n c).ownBlock.toList := ⟨_, rfl⟩
  have hret : ∀ e w', Post e w' → ∃ v', e = .returned v' := fun e w' h => by
    rw [hP] at h
    obtain ⟨v', h1, -⟩ := h
    exact ⟨v', h1⟩
  rw [← hP] at hins ⊢
  clear h hone hX hne hx hP
  cases a with
  | none =>
    go_enter Try.func68, Try.ntmps68
    go_wp2_with (go_at_call 69; refine hins.mono ?_; intro e w1 hp; obtain ⟨v', rfl⟩ := hret _ _ hp)
    all_goals exact hp
  | some y =>
    obtain ⟨b, o, s⟩ := y
    go_enter Try.func68, Try.ntmps68
    go_wp2_with (go_at_call 69; refine hins.mono ?_; intro e w1 hp; obtain ⟨v', rfl⟩ := hret _ _ hp)
    all_goals exact hp
set_option maxHeartbeats 1000000 in
set_option maxRecDepth 100000 in
theorem replace_end {w : World} {g n c gx i : Nat} {xs : List Value} {p q : Int} (h : w.ownsRow 0 114 2 (.slice (some ⟨g, 0, none⟩) n c) n xs) (hX : At w gx 114 [.int .i64 p, .int .i64 q]) (hb : n ≤ 4000) (hi : i < n) :
    Calls Try.prog 68 #[.slice (some ⟨g, 0, none⟩) n c, .int .i64 (i : Int), .int .i64 (n : Int), .slice (some ⟨gx, 0, none⟩) 1 1] w (SpPost w (some ⟨g, 0, none⟩) (i + 1) (xs.take (i * 2) ++ [.int .i64 p, .int .i64 q]) [g]) := by
  obtain ⟨cur, hA, -, hn, hc, hcl, hct, hxl⟩ := row_at h
  obtain ⟨i0, hi0, hz0, hz1, hz2⟩ := info_parts Try.infoSp
  have hc' : c ≤ 9223372036854775807 := by unfold maxLen at hc; omega
  obtain ⟨X, hXe⟩ : ∃ X, X = [Value.int .i64 p, Value.int .i64 q] := ⟨_, rfl⟩
  have hXl : X.length = 2 := by rw [hXe]; rfl
  have hX1 : ∀ u ∈ X, u.oneCell' = true := by rw [hXe]; exact one_int2
  rw [← hXe] at hX ⊢
  have htl : (xs.take (i * 2)).length = i * 2 := by rw [List.length_take, hxl]; omega
  have hf1 : i * 2 + X.length ≤ cur.length := by rw [hcl, hXl]; omega
  obtain ⟨row1, hrow1⟩ : ∃ row1, row1 = splice cur (i * 2) X := ⟨_, rfl⟩
  have hl1 : row1.length = cur.length := by rw [hrow1]; exact length_splice _ _ _ hf1
  obtain ⟨W1, hW1⟩ : ∃ W1, W1 = w.setRow g row1.toArray := ⟨_, rfl⟩
  have hr1 : (Builtin.append_ #[105, 104] 105 #[.slice (some ⟨g, 0, none⟩) i c, .slice (some ⟨gx, 0, none⟩) 1 1]).run Try.prog w = .ok (.slice (some ⟨g, 0, none⟩) (i + 1) c) W1 := by
    have := run_append_room (P := Try.prog) w 105 105 114 i0 Try.underlying105 hi0 g i c cur.toArray hA ⟨gx, 0, none⟩ 1 1 X (by rw [hz1, hXl]) (hX.src 0 (fun j _ => by rw [Nat.zero_add])) hX1 (by omega) (by rw [hz1]; simpa using hf1)
    rw [run_append_ty w Try.underlying105 Try.underlying104 hi0, this, hW1, hrow1, hz1]
    simp [splice]
  have hA1 : At W1 g 114 row1 := by rw [hW1]; exact hA.set
  have hk1 : Kept [g] w W1 := by rw [hW1]; exact kept_setRow _ _ _
  have hlen : (xs.take (i * 2) ++ X).length = (i + 1) * 2 := by rw [List.length_append, htl, hXl]; omega
  have ht1 : row1.take ((i + 1) * 2) = xs.take (i * 2) ++ X := by
    refine List.ext_getElem? fun t => ?_
    by_cases ht : t < (i + 1) * 2
    · rw [List.getElem?_take_of_lt ht, hrow1, splice_at hf1, hXl]
      by_cases h1 : t < i * 2
      · rw [if_neg (by omega), List.getElem?_append_left (by omega), List.getElem?_take_of_lt h1, ← hct, List.getElem?_take_of_lt (by omega)]
      · rw [if_pos (by omega), List.getElem?_append_right (by omega), htl]
    · rw [List.getElem?_eq_none (by rw [List.length_take]; omega), List.getElem?_eq_none (by rw [hlen]; omega)]
  by_cases he : i + 1 < n
  · have hzl : (Builtin.zeroCells (Value.agg #[.int .i64 0, .int .i64 0]).cells (n - (i + 1))).toList.length = (n - (i + 1)) * 2 := by rw [Array.length_toList, size_zeroCells]; rfl
    have hf2 : (i + 1) * 2 + (n - (i + 1)) * 2 ≤ row1.length := by rw [hl1, hcl]; omega
    obtain ⟨row2, hrow2⟩ : ∃ row2, row2 = splice row1 ((i + 1) * 2) (Builtin.zeroCells (Value.agg #[.int .i64 0, .int .i64 0]).cells (n - (i + 1))).toList := ⟨_, rfl⟩
    have hl2 : row2.length = cur.length := by rw [hrow2]; exact (length_splice _ _ _ (by rw [hzl]; exact hf2)).trans hl1
    obtain ⟨W2, hW2⟩ : ∃ W2, W2 = W1.setRow g row2.toArray := ⟨_, rfl⟩
    have hr2 : ∀ ty, (Builtin.clear_ #[105] ty #[.slice (some ⟨g, (i + 1) * 2, none⟩) (n - (i + 1)) (c - (i + 1))]).run Try.prog W1 = .ok (.tuple #[]) W2 := by
      intro ty
      rw [hW2, hrow2]
      exact run_clearK _ 105 114 ty 114 i0 _ Try.underlying105 hi0 hz0 g _ _ _ row1 hA1 (by omega) hf2 (fun v hv => by
        have := zero_mem hv
        simp [Value.cells] at this
        subst this
        rfl)
    have hres : SpPost w (some ⟨g, 0, none⟩) (i + 1) (xs.take (i * 2) ++ X) [g] (.returned (.slice (some ⟨g, 0, none⟩) (i + 1) c)) W2 := by
      refine ⟨_, rfl, At.row (T := 114) (cur := row2) (by rw [hW2]; exact hA1.set) hlen (by omega) hc (by rw [hl2, hcl]) ?_, lands_same, by rw [hW2]; exact hk1.trans (kept_setRow _ _ _)⟩
      rw [hrow2, splice_take (by rw [hzl]; exact hf2) _ (Nat.le_refl _), ht1]
    have hR1 := hid hr1
    have hR2 := hid hr2
    have hRes := hid hres
    have hz : ¬ ((i : Int) = (n : Int)) := by omega
    have hic : i ≤ c := by omega
    have hin : i ≤ n := by omega
    have hlt : (i : Int) + 1 < (n : Int) := by omega
    have hle : (i : Int) + 1 ≤ (n : Int) := by omega
    have hcx : ¬ (c = i + 1) := by omega
    have hsub : ((i : Int) + 1).toNat = i + 1 := by omega
    clear h hX hA hA1 hr1 hr2 hres hk1 hrow1 hrow2 hl1 hl2 hf1 hf2 hzl hlen ht1 htl hcl hct hxl hXe hXl hX1 hW1 hW2 hi0 hz0 hz1 hz2
    go_enter Try.func68, Try.ntmps68
    go_upto_region 6 with (at_builtin; refine wpList_bi2 _ rfl .append _ _ 105 104 rfl _ _ rfl rfl (bi_append hR1.out) ?_)
    have hcl := hR2.out
    go_wp2
    all_goals (go_ret; exact hRes.out)
  · have hres : SpPost w (some ⟨g, 0, none⟩) (i + 1) (xs.take (i * 2) ++ X) [g] (.returned (.slice (some ⟨g, 0, none⟩) (i + 1) c)) W1 := ⟨_, rfl, hA1.row hlen (by omega) hc (by rw [hl1, hcl]) ht1, lands_same, hk1⟩
    have hR1 := hid hr1
    have hRes := hid hres
    have hz : ¬ ((i : Int) = (n : Int)) := by omega
    have hic : i ≤ c := by omega
    have hin : i ≤ n := by omega
    have hlt : ¬ ((i : Int) + 1 < (n : Int)) := by omega
    clear h hX hA hA1 hr1 hres hk1 hrow1 hl1 hf1 hlen ht1 htl hcl hct hxl hXe hXl hX1 hW1 hi0 hz0 hz1 hz2
    go_enter Try.func68, Try.ntmps68
    go_upto_region 6 with (at_builtin; refine wpList_bi2 _ rfl .append _ _ 105 104 rfl _ _ rfl rfl (bi_append hR1.out) ?_)
    go_wp2
    all_goals (go_ret; exact hRes.out)
end Go.Proofs.Ytbjgfoiikhbonaf
namespace Go.Proofs.Ytbjgfoiikhbonaf
open Go.ChangeShapes Go.WideShapes Go.ChangeAt Go.RowKit
set_option maxHeartbeats 2000000 in
set_option maxRecDepth 100000 in
theorem replace_mid {w : World} {g n c gx i j : Nat} {xs : List Value} {p q : Int} (h : w.ownsRow 0 114 2 (.slice (some ⟨g, 0, none⟩) n c) n xs) (hone : ∀ u ∈ xs, u.oneCell' = true) (hX : At w gx 114 [.int .i64 p, .int .i64 q]) (_hne : gx ≠ g) (hb : n ≤ 4000) (hi : i < j) (hj : j < n) :
    Calls Try.prog 68 #[.slice (some ⟨g, 0, none⟩) n c, .int .i64 (i : Int), .int .i64 (j : Int), .slice (some ⟨gx, 0, none⟩) 1 1] w (SpPost w (some ⟨g, 0, none⟩) (i + 1 + (n - j)) (xs.take (i * 2) ++ ([.int .i64 p, .int .i64 q] ++ xs.drop (j * 2))) [g]) := by
  obtain ⟨cur, hA, -, hn, hc, hcl, hct, hxl⟩ := row_at h
  obtain ⟨i0, hi0, hz0, hz1, hz2⟩ := info_parts Try.infoSp
  have hc' : c ≤ 9223372036854775807 := by unfold maxLen at hc; omega
  obtain ⟨X, hXe⟩ : ∃ X, X = [Value.int .i64 p, Value.int .i64 q] := ⟨_, rfl⟩
  have hXl : X.length = 2 := by rw [hXe]; rfl
  have hX1 : ∀ u ∈ X, u.oneCell' = true := by rw [hXe]; exact one_int2
  rw [← hXe] at hX ⊢
  obtain ⟨T, hT⟩ : ∃ T, T = i + 1 + (n - j) := ⟨_, rfl⟩
  rw [← hT]
  have hTn : T ≤ n := by omega
  have htl : (xs.take (i * 2)).length = i * 2 := by rw [List.length_take, hxl]; omega
  have hdl : (xs.drop (j * 2)).length = (n - j) * 2 := by rw [List.length_drop, hxl]; omega
  have hf1 : i * 2 + X.length ≤ cur.length := by rw [hcl, hXl]; omega
  obtain ⟨row1, hrow1⟩ : ∃ row1, row1 = splice cur (i * 2) X := ⟨_, rfl⟩
  have hl1 : row1.length = cur.length := by rw [hrow1]; exact length_splice _ _ _ hf1
  obtain ⟨W1, hW1⟩ : ∃ W1, W1 = w.drew.setRow g row1.toArray := ⟨_, rfl⟩
  have hr1 : ∀ ty, (Builtin.copy_ #[105, 104] ty #[.slice (some ⟨g, i * 2, none⟩) (T - i) (c - i), .slice (some ⟨gx, 0, none⟩) 1 1]).run Try.prog w.drew = .ok (goInt 1) W1 := by
    intro ty
    have hmin : Nat.min 1 (T - i) = 1 := Nat.min_eq_left (by omega)
    have := run_copyK (P := Try.prog) w.drew 105 104 ty 114 114 2 g (i * 2) (T - i) (c - i) ⟨gx, 0, none⟩ 1 1 cur X Try.underlying105 Try.szSp hA (by rw [hmin, hXl]) (At.src (w := w.drew) hX 0 (fun j _ => by rw [Nat.zero_add])) hf1 hX1
    rw [hmin, ← hrow1, ← hW1] at this
    exact this
  have hA1 : At W1 g 114 row1 := by rw [hW1]; exact At.set (w := w.drew) hA
  have hat : ∀ t, t < (xs.drop (j * 2)).length → (xs.drop (j * 2))[t]? = row1[j * 2 + t]? := fun t ht => by
    rw [List.getElem?_drop, hrow1, splice_at hf1, hXl, if_neg (by omega), ← hct, List.getElem?_take_of_lt (by omega)]
  have hf2 : (i + 1) * 2 + (xs.drop (j * 2)).length ≤ row1.length := by rw [hl1, hcl, hdl]; omega
  obtain ⟨row2, hrow2⟩ : ∃ row2, row2 = splice row1 ((i + 1) * 2) (xs.drop (j * 2)) := ⟨_, rfl⟩
  have hl2 : row2.length = cur.length := by rw [hrow2]; exact (length_splice _ _ _ hf2).trans hl1
  obtain ⟨W2, hW2⟩ : ∃ W2, W2 = W1.drew.setRow g row2.toArray := ⟨_, rfl⟩
  have hr2 : ∀ ty, (Builtin.copy_ #[105, 105] ty #[.slice (some ⟨g, (i + 1) * 2, none⟩) (T - (i + 1)) (c - (i + 1)), .slice (some ⟨g, j * 2, none⟩) (n - j) (c - j)]).run Try.prog W1.drew = .ok (goInt ((n - j : Nat) : Int)) W2 := by
    intro ty
    have hmin : Nat.min (n - j) (T - (i + 1)) = n - j := Nat.min_eq_left (by omega)
    have := run_copyK (P := Try.prog) W1.drew 105 105 ty 114 114 2 g ((i + 1) * 2) (T - (i + 1)) (c - (i + 1)) ⟨g, j * 2, none⟩ (n - j) (c - j) row1 (xs.drop (j * 2)) Try.underlying105 Try.szSp hA1 (by rw [hmin, hdl]) (At.src (w := W1.drew) hA1 _ hat) hf2 (fun v hv => hone v (List.mem_of_mem_drop hv))
    rw [hmin, ← hrow2, ← hW2] at this
    exact this
  have hA2 : At W2 g 114 row2 := by rw [hW2]; exact At.set (w := W1.drew) hA1
  have hk2 : Kept [g] w W2 := by
    rw [hW2, hW1]
    exact (((Kept.refl _ w).drew.trans (kept_setRow _ g _)).trans (Kept.refl _ _).drew).trans (kept_setRow _ g _)
  have hlen : (xs.take (i * 2) ++ (X ++ xs.drop (j * 2))).length = T * 2 := by
    simp only [List.length_append, htl, hdl, hXl]
    omega
  have ht2 : row2.take (T * 2) = xs.take (i * 2) ++ (X ++ xs.drop (j * 2)) := by
    refine List.ext_getElem? fun t => ?_
    by_cases ht : t < T * 2
    · rw [List.getElem?_take_of_lt ht, hrow2, splice_at hf2, hrow1, splice_at hf1, hXl, hdl]
      by_cases h1 : t < i * 2
      · rw [if_neg (by omega), if_neg (by omega), List.getElem?_append_left (by omega), List.getElem?_take_of_lt h1, ← hct, List.getElem?_take_of_lt (by omega)]
      · rw [List.getElem?_append_right (by omega), htl]
        by_cases h2 : t < i * 2 + 2
        · rw [if_neg (by omega), if_pos ⟨by omega, h2⟩, List.getElem?_append_left (by omega)]
        · rw [if_pos (by omega), List.getElem?_append_right (by omega), hXl]
          congr 1
          omega
    · rw [List.getElem?_eq_none (by rw [List.length_take]; omega), List.getElem?_eq_none (by rw [hlen]; omega)]
  obtain ⟨W3, hr3, hres⟩ : ∃ W3, (∀ ty (a' : Option Addr), (¬ (c = T) → a' = some ⟨g, T * 2, none⟩) → (Builtin.clear_ #[105] ty #[.slice a' (n - T) (c - T)]).run Try.prog W2 = .ok (.tuple #[]) W3) ∧ SpPost w (some ⟨g, 0, none⟩) T (xs.take (i * 2) ++ (X ++ xs.drop (j * 2))) [g] (.returned (.slice (some ⟨g, 0, none⟩) T c)) W3 := by
    by_cases he : n - T = 0
    · refine ⟨W2, fun ty a' _ => by rw [he]; exact run_clear0 _ _ _ _ Try.underlying105 _ _, _, rfl, hA2.row hlen (by omega) hc (by rw [hl2, hcl]) ht2, lands_same, hk2⟩
    · have hzl : (Builtin.zeroCells (Value.agg #[.int .i64 0, .int .i64 0]).cells (n - T)).toList.length = (n - T) * 2 := by rw [Array.length_toList, size_zeroCells]; rfl
      have hf3 : T * 2 + (n - T) * 2 ≤ row2.length := by rw [hl2, hcl]; omega
      refine ⟨W2.setRow g (splice row2 (T * 2) (Builtin.zeroCells (Value.agg #[.int .i64 0, .int .i64 0]).cells (n - T)).toList).toArray, fun ty a' ha' => ?_, _, rfl, ?_, lands_same, hk2.trans (kept_setRow _ _ _)⟩
      · rw [ha' (by omega)]
        exact run_clearK _ 105 114 ty 114 i0 _ Try.underlying105 hi0 hz0 g _ _ _ row2 hA2 (by omega) hf3 (fun v hv => by
          have := zero_mem hv
          simp [Value.cells] at this
          subst this
          rfl)
      · refine At.row (T := 114) hA2.set hlen (by omega) hc ?_ ?_
        · rw [length_splice _ _ _ (by rw [hzl]; exact hf3), hl2, hcl]
        · rw [splice_take (by rw [hzl]; exact hf3) _ (Nat.le_refl _), ht2]
  have hR1 := hid hr1
  have hR2 := hid hr2
  have hR3 := hid hr3
  have hRes := hid hres
  have hw1 : IntKind.i64.wrap ((i : Int) + 1) = (i : Int) + 1 := by rw [IntKind.wrap_i64]; omega
  have hw2 : IntKind.i64.wrap ((i : Int) + 1 + ((n - j : Nat) : Int)) = (T : Int) := by rw [IntKind.wrap_i64]; omega
  have hz : ¬ ((i : Int) = (j : Int)) := by omega
  have hz2' : ¬ ((j : Int) = (n : Int)) := by omega
  have hij : i ≤ j := by omega
  have hjc : j ≤ c := by omega
  have hjn : j ≤ n := by omega
  have hic : i ≤ c := by omega
  have hcj : ¬ (c = j) := by omega
  have hci : ¬ (c = i) := by omega
  have hci1 : ¬ (c = i + 1) := by omega
  have hTc : ¬ ((c : Int) < (T : Int)) := by omega
  have hTc2 : T ≤ c := by omega
  have hiT : i ≤ T := by omega
  have hi1T : (i : Int) + 1 ≤ (T : Int) := by omega
  have hb0 : (0 : Int) ≤ (i : Int) + 1 := by omega
  have htn : ((i : Int) + 1).toNat = i + 1 := by omega
  have hlej : (i : Int) + 1 ≤ (j : Int) := by omega
  clear h hX hone hA hA1 hA2 hr1 hr2 hr3 hres hk2 hrow1 hrow2 hl1 hl2 hf1 hf2 hlen ht2 htl hdl hat hcl hct hxl hXe hXl hX1 hW1 hW2 hi0 hz0 hz1 hz2 hT
  go_enter Try.func68, Try.ntmps68
  go_upto_region 9 with fail
  go_region
  have hcp1 := hR1.out
  go_upto_region 18 with fail
  clear hcp1
  go_region_law (refine step_bi2 rfl .copy _ _ 105 105 rfl (.slice (some ⟨g, (i + 1) * 2, none⟩) (T - (i + 1)) (c - (i + 1))) (.slice (some ⟨g, j * 2, none⟩) (n - j) (c - j)) (by simp [Act.eval, Act.put]) (by simp [Act.eval, Act.put]) (bi_copy (hR2.out _)) ?_)
  by_cases hcT : c = T
  · have hnT : n = T := by omega
    subst hnT
    subst hcT
    have hcl : ∀ ty, (Builtin.clear_ #[105] ty #[.slice (some ⟨g, 0, none⟩) 0 0]).run Try.prog W2 = .ok (.tuple #[]) W3 := fun ty => by
      have := hR3.out ty (some ⟨g, 0, none⟩) (fun h => absurd rfl h)
      rwa [Nat.sub_self] at this
    go_wp2
    all_goals (go_ret; exact hRes.out)
  · have hcl : ∀ ty, (Builtin.clear_ #[105] ty #[.slice (some ⟨g, T * 2, none⟩) (n - T) (c - T)]).run Try.prog W2 = .ok (.tuple #[]) W3 := fun ty => hR3.out ty _ (fun _ => rfl)
    go_wp2
    all_goals (go_ret; exact hRes.out)
theorem replace_any {w : World} {a : Option Addr} {n c gx i j : Nat} {xs : List Value} {p q : Int} (h : w.ownsRow 0 114 2 (.slice a n c) n xs) (hone : ∀ u ∈ xs, u.oneCell' = true) (hb : n ≤ 4000) (hX : At w gx 114 [.int .i64 p, .int .i64 q]) (hne : ∀ y, a = some y → gx ≠ y.block) (hi : i ≤ j) (hj : j ≤ n) :
    Calls Try.prog 68 #[.slice a n c, .int .i64 (i : Int), .int .i64 (j : Int), .slice (some ⟨gx, 0, none⟩) 1 1] w (SpPost w a (i + 1 + (n - j)) (xs.take (i * 2) ++ ([.int .i64 p, .int .i64 q] ++ xs.drop (j * 2))) (Value.slice a n c).ownBlock.toList) := by
  by_cases e : i = j
  · subst e
    rw [show i + 1 + (n - i) = n + 1 by omega]
    exact replace_same h hone hb hX hne hj
  · obtain ⟨g, rfl⟩ := row_some h (by omega)
    by_cases e2 : j = n
    · subst e2
      have hl := h.1
      rw [Nat.sub_self, Nat.add_zero, List.drop_eq_nil_of_le (by omega), List.append_nil]
      exact replace_end h hX hb (by omega)
    · exact replace_mid h hone hX (hne _ rfl) hb (by omega) (by omega)
end Go.Proofs.Ytbjgfoiikhbonaf
