import Derived.Test.YtbjgfoiikhbonafK09
import Derived.Lib.AppendZerosOnto
set_option linter.unusedVariables false
set_option linter.unusedSimpArgs false
namespace Go.Proofs.Ytbjgfoiikhbonaf
open Go.ChangeShapes Go.WideShapes Go.ChangeAt Go.RowKit
theorem run_append_ty {P : Program} (w : World) {t t' ty e e' : TypeId} {i : TypeInfo} (ht : P.underlying t = some (.slice e)) (ht' : P.underlying t' = some (.slice e')) (hi : P.info? e = some i) (a b : Option Addr) (n c m d : Nat) : (Builtin.append_ #[t, t'] ty #[.slice a n c, .slice b m d]).run P w = (Builtin.append_ #[t, t] ty #[.slice a n c, .slice b m d]).run P w := by
  simp [Builtin.append_, run_underlying ht, run_underlying ht', sizeOf, typeInfo, hi]
theorem Try.szSp : (Try.prog.info? 114).map (·.size) = some 2 := by kernel_rfl
/-- Where a slice of spans ended up. -/
def Lands (w : World) (a : Option Addr) (v : Value) : Prop := ∀ g, v.ownBlock = some g → (∃ o, a = some ⟨g, o, none⟩) ∨ w.heap.size ≤ g
/-- What an operation on spans hands back. -/
def SpPost (w : World) (a : Option Addr) (n' : Nat) (ys : List Value) (S : List Nat) : Ending → World → Prop := fun e w' => ∃ v', e = .returned v' ∧ w'.ownsRow 0 114 2 v' n' ys ∧ Lands w a v' ∧ Kept S w w'
set_option maxHeartbeats 1000000 in
set_option maxRecDepth 100000 in
theorem insert_end {w : World} {a : Option Addr} {n c gx : Nat} {xs : List Value} {p q : Int} (h : w.ownsRow 0 114 2 (.slice a n c) n xs) (hb : n ≤ 4000) (hX : At w gx 114 [.int .i64 p, .int .i64 q]) :
    Calls Try.prog 69 #[.slice a n c, .int .i64 (n : Int), .slice (some ⟨gx, 0, none⟩) 1 1] w (SpPost w a (n + 1) (xs ++ [.int .i64 p, .int .i64 q]) (Value.slice a n c).ownBlock.toList) := by
  obtain ⟨x, cc, e, hn, hc, hx⟩ := row_shape h
  simp only [Value.slice.injEq] at e
  obtain ⟨rfl, -, rfl⟩ := e
  obtain ⟨i0, hi0, hz0, hz1, hz2⟩ := info_parts Try.infoSp
  have hc' : c ≤ 9223372036854775807 := by unfold maxLen at hc; omega
  have hr := run_append_own_at (P := Try.prog) w 0 105 105 114 i0 _ 2 16 Try.underlying105 hi0 hz0 hz1 hz2 rfl (by decide) (.slice a n c) n xs h ⟨gx, 0, none⟩ 1 1 [.int .i64 p, .int .i64 q] rfl (hX.src 0 (fun j _ => by rw [Nat.zero_add])) (by intro u hu; simp at hu; rcases hu with rfl | rfl <;> rfl) (by unfold maxLen; omega) (by omega) (Nat.zero_le _)
  obtain ⟨v', w', hr, h1, h2, -, h3⟩ := hr
  rw [← run_append_ty w Try.underlying105 Try.underlying104 hi0] at hr
  have hL : Lands w a v' := fun g hg => by
    rcases h3 with h3 | h3
    · rw [h3] at hg
      cases a with
      | none => simp [Value.ownBlock] at hg
      | some y => obtain ⟨g', rfl, h4⟩ := hx y rfl
                  rw [h4] at hg
                  cases hg
                  exact .inl ⟨0, rfl⟩
    · rw [h3] at hg
      cases hg
      exact .inr (Nat.le_refl _)
  have hR := hid hr
  have hres := hid (show SpPost w a (n + 1) (xs ++ [.int .i64 p, .int .i64 q]) (Value.slice a n c).ownBlock.toList (.returned v') w' from ⟨v', rfl, h1, hL, Kept.grownR h2⟩)
  clear h hX hx h1 h2 h3 hr hL
  cases a with
  | none =>
    go_enter Try.func69, Try.ntmps69
    go_wp2_with (at_builtin; refine wpList_bi2 _ rfl .append _ _ 105 104 rfl _ _ rfl rfl (bi_append hR.out) ?_)
    all_goals (go_ret; exact hres.out)
  | some x =>
    obtain ⟨b, o, s⟩ := x
    go_enter Try.func69, Try.ntmps69
    go_wp2_with (at_builtin; refine wpList_bi2 _ rfl .append _ _ 105 104 rfl _ _ rfl rfl (bi_append hR.out) ?_)
    all_goals (go_ret; exact hres.out)
theorem At.shape {w : World} {b : Nat} {T : TypeId} {cur : List Value} (h : At w b T cur) : w.shape? b = some (T, cur.length) := by
  unfold At at h
  simp [World.shape?, h]
theorem splice_take {cur : List Value} {o : Nat} {cs : List Value} (h : o + cs.length ≤ cur.length) (m : Nat) (hm : m ≤ o) : (splice cur o cs).take m = cur.take m := by
  unfold splice
  rw [List.take_append_of_le_length (by rw [List.length_take]; omega), List.take_take, Nat.min_eq_left hm]
theorem splice_at {cur : List Value} {o : Nat} {cs : List Value} (h : o + cs.length ≤ cur.length) (t : Nat) : (splice cur o cs)[t]? = if o ≤ t ∧ t < o + cs.length then cs[t - o]? else cur[t]? := by
  unfold splice
  by_cases h1 : t < o
  · rw [List.getElem?_append_left (by rw [List.length_take]; omega), List.getElem?_take_of_lt h1, if_neg (by omega)]
  · have e : (cur.take o).length = o := by rw [List.length_take]; omega
    rw [List.getElem?_append_right (by omega), e]
    by_cases h2 : t < o + cs.length
    · rw [List.getElem?_append_left (by omega), if_pos ⟨by omega, h2⟩]
    · rw [List.getElem?_append_right (by omega), List.getElem?_drop, if_neg (by omega)]
      congr 1
      omega
theorem one_int2 {p q : Int} : ∀ u ∈ [Value.int .i64 p, Value.int .i64 q], u.oneCell' = true := by
  intro u hu
  simp at hu
  rcases hu with rfl | rfl <;> rfl
theorem row_some {w : World} {a : Option Addr} {n c k : Nat} {T : TypeId} {xs : List Value} (h : w.ownsRow 0 T k (.slice a n c) n xs) (h0 : 0 < n) : ∃ g, a = some ⟨g, 0, none⟩ := by
  cases a with
  | none =>
    rcases h.2 with ⟨_, h'0⟩ | ⟨g', cap, cur, h', _⟩
    · omega
    · simp at h'
  | some ad =>
    obtain ⟨x, cc, e, hn, hc, hx⟩ := row_shape h
    simp only [Value.slice.injEq] at e
    obtain ⟨rfl, -, rfl⟩ := e
    obtain ⟨g, rfl, -⟩ := hx ad rfl
    exact ⟨g, rfl⟩
set_option maxHeartbeats 1000000 in
set_option maxRecDepth 100000 in
theorem insert_shift {w : World} {g n c gx i : Nat} {xs : List Value} {p q : Int} (h : w.ownsRow 0 114 2 (.slice (some ⟨g, 0, none⟩) n c) n xs) (hone : ∀ u ∈ xs, u.oneCell' = true) (hb : n ≤ 4000) (hX : At w gx 114 [.int .i64 p, .int .i64 q]) (hne : gx ≠ g) (hi : i < n) (hroom : n + 1 ≤ c) :
    Calls Try.prog 69 #[.slice (some ⟨g, 0, none⟩) n c, .int .i64 (i : Int), .slice (some ⟨gx, 0, none⟩) 1 1] w (SpPost w (some ⟨g, 0, none⟩) (n + 1) (xs.take (i * 2) ++ ([.int .i64 p, .int .i64 q] ++ xs.drop (i * 2))) [g]) := by
  obtain ⟨cur, hA, -, hn, hc, hcl, hct, hxl⟩ := row_at h
  obtain ⟨i0, hi0, hz0, hz1, hz2⟩ := info_parts Try.infoSp
  have hc' : c ≤ 9223372036854775807 := by unfold maxLen at hc; omega
  obtain ⟨X, hXe⟩ : ∃ X, X = [Value.int .i64 p, Value.int .i64 q] := ⟨_, rfl⟩
  have hXl : X.length = 2 := by rw [hXe]; rfl
  have hX1 : ∀ u ∈ X, u.oneCell' = true := by rw [hXe]; exact one_int2
  rw [← hXe] at hX ⊢
  have hdl : (xs.drop (i * 2)).length = (n - i) * 2 := by rw [List.length_drop, hxl]; omega
  have hat : ∀ t, t < (xs.drop (i * 2)).length → (xs.drop (i * 2))[t]? = cur[i * 2 + t]? := fun t ht => by
    rw [List.getElem?_drop, ← hct, List.getElem?_take_of_lt (by omega)]
  obtain ⟨row1, hrow1⟩ : ∃ row1, row1 = splice cur ((i + 1) * 2) (xs.drop (i * 2)) := ⟨_, rfl⟩
  have hf1 : (i + 1) * 2 + (xs.drop (i * 2)).length ≤ cur.length := by rw [hdl, hcl]; omega
  have hl1 : row1.length = cur.length := by rw [hrow1]; exact length_splice _ _ _ hf1
  have hf2 : i * 2 + X.length ≤ row1.length := by rw [hl1, hXl, hcl]; omega
  obtain ⟨row2, hrow2⟩ : ∃ row2, row2 = splice row1 (i * 2) X := ⟨_, rfl⟩
  have hl2 : row2.length = cur.length := by rw [hrow2]; exact (length_splice _ _ _ hf2).trans hl1
  have hA0 : At w.drew g 114 cur := hA
  have hr1 : ∀ ty (A B : Addr) (dl sl dc sc : Nat), A = ⟨g, (i + 1) * 2, none⟩ → B = ⟨g, i * 2, none⟩ → dl = n - i → sl = n + 1 - i → (Builtin.copy_ #[105, 105] ty #[.slice (some A) dl dc, .slice (some B) sl sc]).run Try.prog w.drew = .ok (goInt ((n - i : Nat) : Int)) (w.drew.setRow g row1.toArray) := by
    rintro ty A B dl sl dc sc rfl rfl rfl rfl
    have hmin : Nat.min (n + 1 - i) (n - i) = n - i := Nat.min_eq_right (by omega)
    have := run_copyK (P := Try.prog) w.drew 105 105 ty 114 114 2 g ((i + 1) * 2) (n - i) dc ⟨g, i * 2, none⟩ (n + 1 - i) sc cur (xs.drop (i * 2)) Try.underlying105 Try.szSp hA0 (by rw [hmin, hdl]) (hA0.src _ hat) hf1 (fun v hv => hone v (List.mem_of_mem_drop hv))
    rw [hmin, ← hrow1] at this
    exact this
  have hA1 : At (w.drew.setRow g row1.toArray) g 114 row1 := hA0.set
  have hX2 : At (w.drew.setRow g row1.toArray) gx 114 X := At.other (w := w.drew) hX hne _
  obtain ⟨W1, hW1⟩ : ∃ W1, W1 = w.drew.setRow g row1.toArray := ⟨_, rfl⟩
  have hr2 : ∀ ty (A : Addr) (dl dc : Nat), A = ⟨g, i * 2, none⟩ → dl = n + 1 - i → (Builtin.copy_ #[105, 104] ty #[.slice (some A) dl dc, .slice (some ⟨gx, 0, none⟩) 1 1]).run Try.prog W1 = .ok (goInt 1) (W1.setRow g row2.toArray) := by
    rintro ty A dl dc rfl rfl
    rw [hW1]
    have hmin : Nat.min 1 (n + 1 - i) = 1 := Nat.min_eq_left (by omega)
    have := run_copyK (P := Try.prog) _ 105 104 ty 114 114 2 g (i * 2) (n + 1 - i) dc ⟨gx, 0, none⟩ 1 1 row1 X Try.underlying105 Try.szSp hA1 (by rw [hmin, hXl]) (hX2.src 0 (fun j _ => by rw [Nat.zero_add])) hf2 hX1
    rw [hmin, ← hrow2] at this
    exact this
  have hov : ∀ lb cb, (callFunc 70 #[.slice (some ⟨gx, 0, none⟩) 1 1, .slice (some ⟨g, (i + 1) * 2, none⟩) lb cb]).run Try.prog w = .ok (.value (.bool false)) w := fun lb cb => by
    rw [run_callFunc_extern Try.func70 (by kernel_rfl) (by kernel_rfl) (by kernel_rfl) (e := Extern.SlicesOverlaps.overlaps #[104, 104] #[4]) (by kernel_rfl),
      Lib.run_overlaps_apart w 104 4 114 Try.underlying104 2 Try.sizeOf114 ⟨gx, 0, none⟩ ⟨g, (i + 1) * 2, none⟩ 1 1 lb cb hne _ _ _ _ hX.shape hA.shape (by rw [hcl]; omega) (hX.free 0) (hX.free _)]
    rfl
  have hk : Kept [g] w (W1.setRow g row2.toArray) := by
    rw [hW1]
    exact ((Kept.refl _ w).drew.trans (kept_setRow _ g _)).trans (kept_setRow _ g _)
  have hres : (W1.setRow g row2.toArray).ownsRow 0 114 2 (.slice (some ⟨g, 0, none⟩) (n + 1) c) (n + 1) (xs.take (i * 2) ++ (X ++ xs.drop (i * 2))) := by
    have hlen : (xs.take (i * 2) ++ (X ++ xs.drop (i * 2))).length = (n + 1) * 2 := by
      simp only [List.length_append, List.length_take, hdl, hXl, hxl]
      omega
    refine At.row (T := 114) (cur := row2) (by rw [hW1]; exact hA1.set) hlen hroom hc (by rw [hl2, hcl]) ?_
    refine List.ext_getElem? fun t => ?_
    by_cases ht : t < (n + 1) * 2
    · rw [List.getElem?_take_of_lt ht, hrow2, splice_at hf2, hrow1, splice_at hf1, hXl, hdl]
      by_cases h1 : t < i * 2
      · rw [if_neg (by omega), if_neg (by omega), List.getElem?_append_left (by rw [List.length_take, hxl]; omega), List.getElem?_take_of_lt h1, ← hct, List.getElem?_take_of_lt (by omega)]
      · have e1 : (xs.take (i * 2)).length = i * 2 := by rw [List.length_take, hxl]; omega
        rw [List.getElem?_append_right (by omega), e1]
        by_cases h2 : t < i * 2 + 2
        · rw [if_pos ⟨by omega, h2⟩, List.getElem?_append_left (by omega)]
        · rw [if_neg (by omega), if_pos (by omega), List.getElem?_append_right (by omega), hXl]
          congr 1
          omega
    · rw [List.getElem?_eq_none (by rw [List.length_take]; omega), List.getElem?_eq_none (by rw [hlen]; omega)]
  rw [← hW1] at hr1
  have hR1 := hid hr1
  obtain ⟨W2, hW2⟩ : ∃ W2, W2 = W1.setRow g row2.toArray := ⟨_, rfl⟩
  rw [← hW2] at hr2 hres hk
  have hR2 := hid hr2
  have hOv := hid hov
  have hRes := hid (show SpPost w (some ⟨g, 0, none⟩) (n + 1) (xs.take (i * 2) ++ (X ++ xs.drop (i * 2))) [g] (.returned (.slice (some ⟨g, 0, none⟩) (n + 1) c)) W2 from ⟨_, rfl, hres, fun g' hg' => by simp [Value.ownBlock] at hg'; subst hg'; exact .inl ⟨0, rfl⟩, hk⟩)
  have hz1 : ¬ ((i : Int) = (n : Int)) := by omega
  have hin : i ≤ n + 1 := by omega
  have hci : ¬ (c = i) := by omega
  have hci1 : ¬ (c = i + 1) := by omega
  have hcn : ¬ ((c : Int) < (n : Int) + 1) := by omega
  have hw1 : IntKind.i64.wrap ((i : Int) + 1) = (i : Int) + 1 := by rw [IntKind.wrap_i64]; omega
  have hb1 : (0 : Int) ≤ (i : Int) + 1 := by omega
  have htn : ((i : Int) + 1).toNat = i + 1 := by omega
  have hb2 : (i : Int) + 1 ≤ (n : Int) + 1 := by omega
  have hb3 : (i : Int) ≤ (n : Int) + 1 := by omega
  clear h hX hone hA hA0 hA1 hX2 hr1 hr2 hk hres hrow1 hrow2 hl1 hl2 hf1 hf2 hdl hat hcl hct hxl hXe hXl hX1 hW1 hW2 hi0 hz0 hz2
  go_enter Try.func69, Try.ntmps69
  go_wp2_with (simp only [hov])
  go_region_law (refine step_bi2 rfl .copy _ _ 105 105 rfl (.slice (some ⟨g, (i + 1) * 2, none⟩) (n - i) (c - (i + 1))) (.slice (some ⟨g, i * 2, none⟩) (n + 1 - i) (c - i)) (by simp [Act.eval, Act.put]) (by simp [Act.eval, Act.put]) (bi_copy (hR1.out _ _ _ _ _ _ _ rfl rfl rfl rfl)) ?_)
  have hcp2 : ∀ ty, (Builtin.copy_ #[105, 104] ty #[.slice (some ⟨g, i * 2, none⟩) (n + 1 - i) (c - i), .slice (some ⟨gx, 0, none⟩) 1 1]).run Try.prog W1 = .ok (goInt 1) W2 := fun ty => hR2.out _ _ _ _ rfl rfl
  go_wp2
  all_goals (go_ret; exact hRes.out)
end Go.Proofs.Ytbjgfoiikhbonaf
namespace Go.Proofs.Ytbjgfoiikhbonaf
open Go.ChangeShapes Go.WideShapes Go.ChangeAt Go.RowKit
theorem cat3_toArray (a : List Value) (b c : Array Value) : a.toArray ++ b ++ c = (a ++ b.toList ++ c.toList).toArray := by
  apply Array.ext'
  simp
theorem at_alloc (w : World) (T : TypeId) (cur : List Value) : At (w.alloc (.cells cur.toArray T)) w.heap.size T cur := heap_alloc_new w (.cells cur.toArray T)
set_option maxHeartbeats 1000000 in
set_option maxRecDepth 100000 in
theorem insert_grow {w : World} {g n c gx i : Nat} {xs : List Value} {p q : Int} (h : w.ownsRow 0 114 2 (.slice (some ⟨g, 0, none⟩) n c) n xs) (hone : ∀ u ∈ xs, u.oneCell' = true) (hb : n ≤ 4000) (hX : At w gx 114 [.int .i64 p, .int .i64 q]) (_hne : gx ≠ g) (hi : i < n) (hroom : c < n + 1) :
    Calls Try.prog 69 #[.slice (some ⟨g, 0, none⟩) n c, .int .i64 (i : Int), .slice (some ⟨gx, 0, none⟩) 1 1] w (SpPost w (some ⟨g, 0, none⟩) (n + 1) (xs.take (i * 2) ++ ([.int .i64 p, .int .i64 q] ++ xs.drop (i * 2))) [g]) := by
  obtain ⟨cur, hA, -, hn, hc, hcl, hct, hxl⟩ := row_at h
  obtain ⟨i0, hi0, hz0, hz1, hz2⟩ := info_parts Try.infoSp
  obtain rfl : c = n := by omega
  have hc' : c ≤ 9223372036854775807 := by unfold maxLen at hc; omega
  obtain ⟨X, hXe⟩ : ∃ X, X = [Value.int .i64 p, Value.int .i64 q] := ⟨_, rfl⟩
  have hXl : X.length = 2 := by rw [hXe]; rfl
  have hX1 : ∀ u ∈ X, u.oneCell' = true := by rw [hXe]; exact one_int2
  rw [← hXe] at hX ⊢
  have hdl : (xs.drop (i * 2)).length = (c - i) * 2 := by rw [List.length_drop, hxl]; omega
  have htl : (xs.take (i * 2)).length = i * 2 := by rw [List.length_take, hxl]; omega
  have hat : ∀ t, t < (xs.drop (i * 2)).length → (xs.drop (i * 2))[t]? = cur[i * 2 + t]? := fun t ht => by
    rw [List.getElem?_drop, ← hct, List.getElem?_take_of_lt (by omega)]
  obtain ⟨G, hG⟩ : ∃ G, G = grownCap w (c + 1) c 114 := ⟨_, rfl⟩
  have hGn : c + 1 ≤ G := by rw [hG]; exact grownCap_ge w _ _ _
  have hGm : G ≤ maxLen := by rw [hG]; exact grownCap_le_maxLen w _ _ _ (by unfold maxLen; omega)
  have hG63 : G ≤ 9223372036854775807 := by unfold maxLen at hGm; omega
  obtain ⟨Z1, hZ1⟩ : ∃ Z1, Z1 = (Builtin.zeroCells (Value.agg #[.int .i64 0, .int .i64 0]).cells (c + 1 - i)).toList := ⟨_, rfl⟩
  obtain ⟨Z2, hZ2⟩ : ∃ Z2, Z2 = (Builtin.zeroCells (Value.agg #[.int .i64 0, .int .i64 0]).cells (G - (c + 1))).toList := ⟨_, rfl⟩
  have hZl1 : Z1.length = (c + 1 - i) * 2 := by rw [hZ1, Array.length_toList, size_zeroCells]; rfl
  have hZl2 : Z2.length = (G - (c + 1)) * 2 := by rw [hZ2, Array.length_toList, size_zeroCells]; rfl
  obtain ⟨row1, hrow1⟩ : ∃ row1, row1 = xs.take (i * 2) ++ Z1 ++ Z2 := ⟨_, rfl⟩
  have hl1 : row1.length = G * 2 := by
    rw [hrow1]
    simp only [List.length_append, htl, hZl1, hZl2]
    omega
  obtain ⟨W1, hW1⟩ : ∃ W1, W1 = w.drew.alloc (.cells row1.toArray 114) := ⟨_, rfl⟩
  have hik : i + (c + 1 - i) = c + 1 := by omega
  have hr0 : ∀ (N : Int), N = ((c + 1 - i : Nat) : Int) → (Builtin.append_ #[105, 3] 105 #[.slice (some ⟨g, 0, none⟩) i c, .int .i64 N]).run Try.prog w = .ok (.slice (some ⟨w.heap.size, 0, none⟩) (c + 1) G) W1 := by
    rintro N rfl
    have hold : (Builtin.firstCells i0.size i (.slice (some ⟨g, 0, none⟩) i c)).run Try.prog w.drew = .ok (xs.take (i * 2)).toArray w.drew := by
      rw [hz1]
      exact run_firstCells_some w.drew 2 i ⟨g, 0, none⟩ i c (xs.take (i * 2)) htl ((show At w.drew g 114 cur from hA).src 0 (fun j hj => by
        rw [Nat.zero_add, List.getElem?_take_of_lt (by omega), ← hct, List.getElem?_take_of_lt (by omega)]))
    have := Lib.run_append_grow_zeros w 105 3 105 114 i0 _ .i64 .i64 Try.underlying105 Try.underlying3 hi0 hz0 (some ⟨g, 0, none⟩) i c (xs.take (i * 2)) hold (c + 1 - i) (by omega) (by omega) (by omega) (by omega) (by rw [hz2]; omega) (by rw [hz2, hik]; exact growslice_fits (by omega) (by omega))
    rw [hik, ← hG] at this
    rw [this, hW1, hrow1, hZ1, hZ2, cat3_toArray]
  have hA1 : At W1 w.heap.size 114 row1 := by rw [hW1]; exact at_alloc w.drew _ _
  have hk1 : Kept [] w W1 := by rw [hW1]; exact (Kept.refl _ w).drew.trans (Kept.alloc (Kept.refl _ _) _)
  have hX2 : At W1 gx 114 X := hX.kept hk1 (by simp)
  have hC1 : At W1 g 114 cur := hA.kept hk1 (by simp)
  have hgN : g ≠ w.heap.size := Nat.ne_of_lt hA.lt
  have hf2 : i * 2 + X.length ≤ row1.length := by rw [hl1, hXl]; omega
  obtain ⟨row2, hrow2⟩ : ∃ row2, row2 = splice row1 (i * 2) X := ⟨_, rfl⟩
  have hl2 : row2.length = G * 2 := by rw [hrow2]; exact (length_splice _ _ _ hf2).trans hl1
  obtain ⟨W2, hW2⟩ : ∃ W2, W2 = W1.setRow w.heap.size row2.toArray := ⟨_, rfl⟩
  have hr1 : ∀ ty, (Builtin.copy_ #[105, 104] ty #[.slice (some ⟨w.heap.size, i * 2, none⟩) (c + 1 - i) (G - i), .slice (some ⟨gx, 0, none⟩) 1 1]).run Try.prog W1 = .ok (goInt 1) W2 := by
    intro ty
    have hmin : Nat.min 1 (c + 1 - i) = 1 := Nat.min_eq_left (by omega)
    have := run_copyK (P := Try.prog) W1 105 104 ty 114 114 2 w.heap.size (i * 2) (c + 1 - i) (G - i) ⟨gx, 0, none⟩ 1 1 row1 X Try.underlying105 Try.szSp hA1 (by rw [hmin, hXl]) (hX2.src 0 (fun j _ => by rw [Nat.zero_add])) hf2 hX1
    rw [hmin, ← hrow2, ← hW2] at this
    exact this
  have hA2 : At W2 w.heap.size 114 row2 := by rw [hW2]; exact hA1.set
  have hC2 : At W2.drew g 114 cur := by
    show At W2 g _ cur
    rw [hW2]
    exact hC1.other hgN _
  have hf3 : (i + 1) * 2 + (xs.drop (i * 2)).length ≤ row2.length := by rw [hl2, hdl]; omega
  obtain ⟨row3, hrow3⟩ : ∃ row3, row3 = splice row2 ((i + 1) * 2) (xs.drop (i * 2)) := ⟨_, rfl⟩
  have hl3 : row3.length = G * 2 := by rw [hrow3]; exact (length_splice _ _ _ hf3).trans hl2
  obtain ⟨W3, hW3⟩ : ∃ W3, W3 = W2.drew.setRow w.heap.size row3.toArray := ⟨_, rfl⟩
  have hr2 : ∀ ty, (Builtin.copy_ #[105, 105] ty #[.slice (some ⟨w.heap.size, (i + 1) * 2, none⟩) (c - i) (G - (i + 1)), .slice (some ⟨g, i * 2, none⟩) (c - i) (c - i)]).run Try.prog W2.drew = .ok (goInt ((c - i : Nat) : Int)) W3 := by
    intro ty
    have hmin : Nat.min (c - i) (c - i) = c - i := Nat.min_self _
    have := run_copyK (P := Try.prog) W2.drew 105 105 ty 114 114 2 w.heap.size ((i + 1) * 2) (c - i) (G - (i + 1)) ⟨g, i * 2, none⟩ (c - i) (c - i) row2 (xs.drop (i * 2)) Try.underlying105 Try.szSp hA2 (by rw [hmin, hdl]) (hC2.src _ hat) hf3 (fun v hv => hone v (List.mem_of_mem_drop hv))
    rw [hmin, ← hrow3, ← hW3] at this
    exact this
  have hk : Kept [g] w W3 := by
    have h2 : Kept [w.heap.size] W1 W3 := by
      rw [hW3, hW2]
      exact ((kept_setRow W1 _ _).trans (Kept.refl _ _).drew).trans (kept_setRow _ _ _)
    refine ⟨h2.os.trans hk1.os, h2.tape.trans hk1.tape, h2.output.trans hk1.output, Nat.le_trans hk1.size h2.size, fun k hk _ => ?_⟩
    rw [h2.block k (Nat.lt_of_lt_of_le hk hk1.size) (by simp; omega), hk1.block k hk (by simp)]
  have hres : W3.ownsRow 0 114 2 (.slice (some ⟨w.heap.size, 0, none⟩) (c + 1) G) (c + 1) (xs.take (i * 2) ++ (X ++ xs.drop (i * 2))) := by
    have hlen : (xs.take (i * 2) ++ (X ++ xs.drop (i * 2))).length = (c + 1) * 2 := by
      simp only [List.length_append, htl, hdl, hXl]
      omega
    have hA3 : At W3 w.heap.size 114 row3 := by rw [hW3]; exact At.set (w := W2.drew) hA2
    refine At.row (T := 114) (cur := row3) hA3 hlen hGn hGm hl3 ?_
    refine List.ext_getElem? fun t => ?_
    by_cases ht : t < (c + 1) * 2
    · rw [List.getElem?_take_of_lt ht, hrow3, splice_at hf3, hrow2, splice_at hf2, hXl, hdl]
      by_cases h1 : t < i * 2
      · rw [if_neg (by omega), if_neg (by omega), List.getElem?_append_left (by omega), hrow1, List.append_assoc, List.getElem?_append_left (by omega)]
      · rw [List.getElem?_append_right (by omega), htl]
        by_cases h2 : t < i * 2 + 2
        · rw [if_neg (by omega), if_pos ⟨by omega, h2⟩, List.getElem?_append_left (by omega)]
        · rw [if_pos (by omega), List.getElem?_append_right (by omega), hXl]
          congr 1
          omega
    · rw [List.getElem?_eq_none (by rw [List.length_take]; omega), List.getElem?_eq_none (by rw [hlen]; omega)]
  have hR0 := hid hr0
  have hR1 := hid hr1
  have hR2 := hid hr2
  have hRes := hid (show SpPost w (some ⟨g, 0, none⟩) (c + 1) (xs.take (i * 2) ++ (X ++ xs.drop (i * 2))) [g] (.returned (.slice (some ⟨w.heap.size, 0, none⟩) (c + 1) G)) W3 from ⟨_, rfl, hres, fun g' hg' => by simp [Value.ownBlock] at hg'; subst hg'; exact .inr (Nat.le_refl _), hk⟩)
  have hz1' : ¬ ((i : Int) = (c : Int)) := by omega
  have hin : i ≤ c := by omega
  have hci : ¬ (c = i) := by omega
  have hGi : ¬ (G = i) := by omega
  have hGi1 : ¬ (G = i + 1) := by omega
  have hw1 : IntKind.i64.wrap ((i : Int) + 1) = (i : Int) + 1 := by rw [IntKind.wrap_i64]; omega
  have hw2 : IntKind.i64.wrap ((c : Int) + 1) = (c : Int) + 1 := by rw [IntKind.wrap_i64]; omega
  have hw3 : IntKind.i64.wrap ((c : Int) + 1 - (i : Int)) = (c : Int) + 1 - (i : Int) := by rw [IntKind.wrap_i64]; omega
  have hb1 : (0 : Int) ≤ (i : Int) + 1 := by omega
  have htn : ((i : Int) + 1).toNat = i + 1 := by omega
  have hb2 : (i : Int) + 1 ≤ (c : Int) + 1 := by omega
  have hb3 : (i : Int) ≤ (c : Int) + 1 := by omega
  obtain ⟨N, hN⟩ : ∃ N, N = w.heap.size := ⟨_, rfl⟩
  rw [← hN] at hR0 hR1 hR2 hRes
  clear h hX hone hA hA1 hX2 hC1 hC2 hA2 hr0 hr1 hr2 hk hk1 hres hrow1 hrow2 hrow3 hl1 hl2 hl3 hf2 hf3 hdl htl hat hcl hct hxl hXe hXl hX1 hW1 hW2 hW3 hi0 hz0 hz1 hz2 hG hZ1 hZ2 hZl1 hZl2 hgN hN
  go_enter Try.func69, Try.ntmps69
  go_upto_region 10 with (at_builtin; refine wpList_bi2 _ rfl .append _ _ 105 3 rfl _ _ rfl rfl (bi_append (hR0.out _ (by omega))) ?_)
  have hcp1 := hR1.out
  go_upto_region 11 with fail
  go_region_law (refine step_bi2 rfl .copy _ _ 105 105 rfl (.slice (some ⟨N, (i + 1) * 2, none⟩) (c - i) (G - (i + 1))) (.slice (some ⟨g, i * 2, none⟩) (c - i) (c - i)) (by simp [Act.eval, Act.put]) (by simp [Act.eval, Act.put]) (bi_copy (hR2.out _)) ?_)
  go_wp2
  all_goals (go_ret; exact hRes.out)
end Go.Proofs.Ytbjgfoiikhbonaf
