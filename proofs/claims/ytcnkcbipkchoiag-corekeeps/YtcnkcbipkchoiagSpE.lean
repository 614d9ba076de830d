import Derived.Test.YtcnkcbipkchoiagSpD
namespace Go.Proofs.Ytcnkcbipkchoiag
open Go.ChangeShapes Go.WideShapes Go.ChangeAt Go.RowKit

/-! slices.Replace by one span. -/

theorem insert_any {w : World} {a : Option Addr} {n c gx i : Nat} {xs : List Value} {p q : Int} (h : w.ownsRow 0 172 2 (.slice a n c) n xs) (hone : ∀ u ∈ xs, u.oneCell' = true) (hb : n ≤ 4000) (hX : At w gx 172 [.int .i64 p, .int .i64 q]) (hne : ∀ y, a = some y → gx ≠ y.block) (hi : i ≤ n) :
    Calls Try.prog 158 #[.slice a n c, .int .i64 (i : Int), .slice (some ⟨gx, 0, none⟩) 1 1] w (SpPost w a (n + 1) (xs.take (i * 2) ++ ([.int .i64 p, .int .i64 q] ++ xs.drop (i * 2))) (Value.slice a n c).ownBlock.toList) := by
  by_cases e : i = n
  · subst e
    have hl := h.1
    have := insert_end h hb hX
    rw [List.take_of_length_le (by omega), List.drop_eq_nil_of_le (by omega), List.append_nil]
    exact this
  · obtain ⟨g, rfl⟩ := row_some h (by omega)
    by_cases hr : n + 1 ≤ c
    · exact insert_shift h hone hb hX (hne _ rfl) (by omega) hr
    · exact insert_grow h hone hb hX (hne _ rfl) (by omega) (by omega)

theorem lands_same {w : World} {g m d : Nat} : Lands w (some ⟨g, 0, none⟩) (.slice (some ⟨g, 0, none⟩) m d) := fun g' hg' => by
  simp [Value.ownBlock] at hg'
  subst hg'
  exact .inl ⟨0, rfl⟩

set_option maxHeartbeats 1000000 in
set_option maxRecDepth 100000 in
theorem replace_same {w : World} {a : Option Addr} {n c gx i : Nat} {xs : List Value} {p q : Int} (h : w.ownsRow 0 172 2 (.slice a n c) n xs) (hone : ∀ u ∈ xs, u.oneCell' = true) (hb : n ≤ 4000) (hX : At w gx 172 [.int .i64 p, .int .i64 q]) (hne : ∀ y, a = some y → gx ≠ y.block) (hi : i ≤ n) :
    Calls Try.prog 144 #[.slice a n c, .int .i64 (i : Int), .int .i64 (i : Int), .slice (some ⟨gx, 0, none⟩) 1 1] w (SpPost w a (n + 1) (xs.take (i * 2) ++ ([.int .i64 p, .int .i64 q] ++ xs.drop (i * 2))) (Value.slice a n c).ownBlock.toList) := by
  have hins := insert_any h hone hb hX hne hi
  obtain ⟨x, cc, e, hn, hc, hx⟩ := row_shape h
  simp only [Value.slice.injEq] at e
  obtain ⟨rfl, -, rfl⟩ := e
  have hc' : c ≤ 9223372036854775807 := by unfold maxLen at hc; omega
  have hic : i ≤ c := by omega
  obtain ⟨Post, hP⟩ : ∃ Post, Post = SpPost w a (n + 1) (xs.take (i * 2) ++ ([.int .i64 p, .int .i64 q] ++ xs.drop (i * 2))) (Value.slice a n c).ownBlock.toList := ⟨_, rfl⟩
  have hret : ∀ e w', Post e w' → ∃ v', e = .returned v' := fun e w' h => by
    rw [hP] at h
    obtain ⟨v', h1, -⟩ := h
    exact ⟨v', h1⟩
  rw [← hP] at hins ⊢
  clear h hone hX hne hx hP
  cases a with
  | none =>
    go_enter Try.func144, Try.ntmps144
    go_wp2_with (go_at_call 158; refine hins.mono ?_; intro e w1 hp; obtain ⟨v', rfl⟩ := hret _ _ hp)
    all_goals exact hp
  | some y =>
    obtain ⟨b, o, s⟩ := y
    go_enter Try.func144, Try.ntmps144
    go_wp2_with (go_at_call 158; refine hins.mono ?_; intro e w1 hp; obtain ⟨v', rfl⟩ := hret _ _ hp)
    all_goals exact hp

set_option maxHeartbeats 1000000 in
set_option maxRecDepth 100000 in
theorem replace_end {w : World} {g n c gx i : Nat} {xs : List Value} {p q : Int} (h : w.ownsRow 0 172 2 (.slice (some ⟨g, 0, none⟩) n c) n xs) (hX : At w gx 172 [.int .i64 p, .int .i64 q]) (hb : n ≤ 4000) (hi : i < n) :
    Calls Try.prog 144 #[.slice (some ⟨g, 0, none⟩) n c, .int .i64 (i : Int), .int .i64 (n : Int), .slice (some ⟨gx, 0, none⟩) 1 1] w (SpPost w (some ⟨g, 0, none⟩) (i + 1) (xs.take (i * 2) ++ [.int .i64 p, .int .i64 q]) [g]) := by
  obtain ⟨cur, hA, -, hn, hc, hcl, hct, hxl⟩ := row_at h
  obtain ⟨i0, hi0, hz0, hz1, hz2⟩ := info_parts Try.infoSp
  have hc' : c ≤ 9223372036854775807 := by unfold maxLen at hc; omega
  obtain ⟨X, hXe⟩ : ∃ X, X = [Value.int .i64 p, Value.int .i64 q] := ⟨_, rfl⟩
  have hXl : X.length = 2 := by rw [hXe]; rfl
  have hX1 : ∀ u ∈ X, u.oneCell' = true := by rw [hXe]; exact one_int2
  rw [← hXe] at hX ⊢
  have htl : (xs.take (i * 2)).length = i * 2 := by rw [List.length_take, hxl]; omega
  have hf1 : i * 2 + X.length ≤ cur.length := by rw [hcl, hXl]; omega
  obtain ⟨row1, hrow1⟩ : ∃ row1, row1 = splice cur (i * 2) X := ⟨_, rfl⟩
  have hl1 : row1.length = cur.length := by rw [hrow1]; exact length_splice _ _ _ hf1
  obtain ⟨W1, hW1⟩ : ∃ W1, W1 = w.setRow g row1.toArray := ⟨_, rfl⟩
  have hr1 : (Builtin.append_ #[166, 165] 166 #[.slice (some ⟨g, 0, none⟩) i c, .slice (some ⟨gx, 0, none⟩) 1 1]).run Try.prog w = .ok (.slice (some ⟨g, 0, none⟩) (i + 1) c) W1 := by
    have := run_append_room (P := Try.prog) w 166 166 172 i0 Try.underlying166 hi0 g i c cur.toArray hA ⟨gx, 0, none⟩ 1 1 X (by rw [hz1, hXl]) (hX.src 0 (fun j _ => by rw [Nat.zero_add])) hX1 (by omega) (by rw [hz1]; simpa using hf1)
    rw [run_append_ty w Try.underlying166 Try.underlying165 hi0, this, hW1, hrow1, hz1]
    simp [splice]
  have hA1 : At W1 g 172 row1 := by rw [hW1]; exact hA.set
  have hk1 : Kept [g] w W1 := by rw [hW1]; exact kept_setRow _ _ _
  have hlen : (xs.take (i * 2) ++ X).length = (i + 1) * 2 := by rw [List.length_append, htl, hXl]; omega
  have ht1 : row1.take ((i + 1) * 2) = xs.take (i * 2) ++ X := by
    refine List.ext_getElem? fun t => ?_
    by_cases ht : t < (i + 1) * 2
    · rw [List.getElem?_take_of_lt ht, hrow1, splice_at hf1, hXl]
      by_cases h1 : t < i * 2
      · rw [if_neg (by omega), List.getElem?_append_left (by omega), List.getElem?_take_of_lt h1, ← hct, List.getElem?_take_of_lt (by omega)]
      · rw [if_pos (by omega), List.getElem?_append_right (by omega), htl]
    · rw [List.getElem?_eq_none (by rw [List.length_take]; omega), List.getElem?_eq_none (by rw [hlen]; omega)]
  by_cases he : i + 1 < n
  · have hzl : (Builtin.zeroCells (Value.agg #[.int .i64 0, .int .i64 0]).cells (n - (i + 1))).toList.length = (n - (i + 1)) * 2 := by rw [Array.length_toList, size_zeroCells]; rfl
    have hf2 : (i + 1) * 2 + (n - (i + 1)) * 2 ≤ row1.length := by rw [hl1, hcl]; omega
    obtain ⟨row2, hrow2⟩ : ∃ row2, row2 = splice row1 ((i + 1) * 2) (Builtin.zeroCells (Value.agg #[.int .i64 0, .int .i64 0]).cells (n - (i + 1))).toList := ⟨_, rfl⟩
    have hl2 : row2.length = cur.length := by rw [hrow2]; exact (length_splice _ _ _ (by rw [hzl]; exact hf2)).trans hl1
    obtain ⟨W2, hW2⟩ : ∃ W2, W2 = W1.setRow g row2.toArray := ⟨_, rfl⟩
    have hr2 : ∀ ty, (Builtin.clear_ #[166] ty #[.slice (some ⟨g, (i + 1) * 2, none⟩) (n - (i + 1)) (c - (i + 1))]).run Try.prog W1 = .ok (.tuple #[]) W2 := by
      intro ty
      rw [hW2, hrow2]
      exact run_clearK _ 166 172 ty 172 i0 _ Try.underlying166 hi0 hz0 g _ _ _ row1 hA1 (by omega) hf2 (fun v hv => by
        have := zero_mem hv
        simp [Value.cells] at this
        subst this
        rfl)
    have hres : SpPost w (some ⟨g, 0, none⟩) (i + 1) (xs.take (i * 2) ++ X) [g] (.returned (.slice (some ⟨g, 0, none⟩) (i + 1) c)) W2 := by
      refine ⟨_, rfl, At.row (T := 172) (cur := row2) (by rw [hW2]; exact hA1.set) hlen (by omega) hc (by rw [hl2, hcl]) ?_, lands_same, by rw [hW2]; exact hk1.trans (kept_setRow _ _ _)⟩
      rw [hrow2, splice_take (by rw [hzl]; exact hf2) _ (Nat.le_refl _), ht1]
    have hR1 := hid hr1
    have hR2 := hid hr2
    have hRes := hid hres
    have hz : ¬ ((i : Int) = (n : Int)) := by omega
    have hic : i ≤ c := by omega
    have hin : i ≤ n := by omega
    have hlt : (i : Int) + 1 < (n : Int) := by omega
    have hle : (i : Int) + 1 ≤ (n : Int) := by omega
    have hcx : ¬ (c = i + 1) := by omega
    have hsub : ((i : Int) + 1).toNat = i + 1 := by omega
    clear h hX hA hA1 hr1 hr2 hres hk1 hrow1 hrow2 hl1 hl2 hf1 hf2 hzl hlen ht1 htl hcl hct hxl hXe hXl hX1 hW1 hW2 hi0 hz0 hz1 hz2
    go_enter Try.func144, Try.ntmps144
    go_upto_region 6 with (at_builtin; refine wpList_bi2 _ rfl .append _ _ 166 165 rfl _ _ rfl rfl (bi_append hR1.out) ?_)
    have hcl := hR2.out
    go_wp2
    all_goals (go_ret; exact hRes.out)
  · have hres : SpPost w (some ⟨g, 0, none⟩) (i + 1) (xs.take (i * 2) ++ X) [g] (.returned (.slice (some ⟨g, 0, none⟩) (i + 1) c)) W1 := ⟨_, rfl, hA1.row hlen (by omega) hc (by rw [hl1, hcl]) ht1, lands_same, hk1⟩
    have hR1 := hid hr1
    have hRes := hid hres
    have hz : ¬ ((i : Int) = (n : Int)) := by omega
    have hic : i ≤ c := by omega
    have hin : i ≤ n := by omega
    have hlt : ¬ ((i : Int) + 1 < (n : Int)) := by omega
    clear h hX hA hA1 hr1 hres hk1 hrow1 hl1 hf1 hlen ht1 htl hcl hct hxl hXe hXl hX1 hW1 hi0 hz0 hz1 hz2
    go_enter Try.func144, Try.ntmps144
    go_upto_region 6 with (at_builtin; refine wpList_bi2 _ rfl .append _ _ 166 165 rfl _ _ rfl rfl (bi_append hR1.out) ?_)
    go_wp2
    all_goals (go_ret; exact hRes.out)

end Go.Proofs.Ytcnkcbipkchoiag
