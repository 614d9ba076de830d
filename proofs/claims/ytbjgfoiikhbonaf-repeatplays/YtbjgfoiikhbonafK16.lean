import Derived.Test.YtbjgfoiikhbonafK15
import Derived.Deep.RegionHeld3
set_option linter.unusedVariables false
set_option linter.unusedSimpArgs false
namespace Go.Proofs.Ytbjgfoiikhbonaf
open Go.ChangeShapes Go.WideShapes Go.ChangeAt Go.RowKit
theorem tmod64 {n : Int} (h : 0 ≤ n) : n.tmod 64 = n % 64 := Int.tmod_eq_emod_of_nonneg h
theorem checkWindow_any (k : Int) (w : World) : Calls Try.prog 35 #[.int .i64 k] w fun e w' => e = .returned (.int .i64 (if k < 1 ∨ 32 < k then 1 else 0)) ∧ w' = w := by
  obtain ⟨V, hV⟩ : ∃ V, V = (if k < 1 ∨ 32 < k then (1 : Int) else 0) := ⟨_, rfl⟩
  rw [← hV]
  by_cases h1 : k < 1
  · have hv := hid (show V = 1 by rw [hV, if_pos (.inl h1)])
    clear hV
    go_enter Try.func35, Try.ntmps35
    go_wp2
    all_goals (go_ret; exact ⟨by rw [hv.out]; rfl, rfl⟩)
  · by_cases h2 : 32 < k
    · have hv := hid (show V = 1 by rw [hV, if_pos (.inr h2)])
      clear hV
      go_enter Try.func35, Try.ntmps35
      go_wp2
      all_goals (go_ret; exact ⟨by rw [hv.out]; rfl, rfl⟩)
    · have hv := hid (show V = 0 by rw [hV, if_neg (by omega)])
      clear hV
      go_enter Try.func35, Try.ntmps35
      go_wp2
      all_goals (go_ret; exact ⟨by rw [hv.out]; rfl, rfl⟩)
theorem isNumber_any (k : Int) (w : World) : Calls Try.prog 59 #[.int .i64 k] w fun e w' => e = .returned (.bool (decide (0 ≤ k ∧ k ≤ 63))) ∧ w' = w := by
  obtain ⟨V, hV⟩ : ∃ V, V = decide (0 ≤ k ∧ k ≤ 63) := ⟨_, rfl⟩
  rw [← hV]
  by_cases h1 : 0 ≤ k
  · by_cases h2 : k < 64
    · have hv := hid (show V = true by rw [hV]; exact decide_eq_true ⟨h1, by omega⟩)
      clear hV
      go_enter Try.func59, Try.ntmps59
      go_wp2
      all_goals (go_ret; exact ⟨by rw [hv.out]; rfl, rfl⟩)
    · have hv := hid (show V = false by rw [hV]; exact decide_eq_false (by omega))
      clear hV
      go_enter Try.func59, Try.ntmps59
      go_wp2
      all_goals (go_ret; exact ⟨by rw [hv.out]; rfl, rfl⟩)
  · have hv := hid (show V = false by rw [hV]; exact decide_eq_false (by omega))
    clear hV
    go_enter Try.func59, Try.ntmps59
    go_wp2
    all_goals (go_ret; exact ⟨by rw [hv.out]; rfl, rfl⟩)
theorem ahead_any {k : Int} {beg : Nat} (w : World) (h1 : 0 ≤ k) (h2 : k ≤ 63) : Calls Try.prog 40 #[.int .i64 k, .int .i64 ((beg % 64 : Nat) : Int)] w fun e w' => e = .returned (.int .i64 ((aheadN k beg : Nat) : Int)) ∧ w' = w := by
  have hb : beg % 64 < 64 := Nat.mod_lt _ (by omega)
  have hv := hid (show ((aheadN k beg : Nat) : Int) = (k - ((beg % 64 : Nat) : Int)) % 64 by unfold aheadN; omega)
  generalize ((aheadN k beg : Nat) : Int) = V at *
  generalize beg % 64 = B at *
  have hw1 : IntKind.i64.wrap (k - (B : Int)) = k - (B : Int) := by rw [IntKind.wrap_i64]; omega
  have hw2 : IntKind.i64.wrap (k - (B : Int) + 64) = k - (B : Int) + 64 := by rw [IntKind.wrap_i64]; omega
  have ht : (k - (B : Int) + 64).tmod 64 = (k - (B : Int) + 64) % 64 := tmod64 (by omega)
  have hw3 : IntKind.i64.wrap ((k - (B : Int) + 64) % 64) = (k - (B : Int) + 64) % 64 := by rw [IntKind.wrap_i64]; omega
  go_enter Try.func40, Try.ntmps40
  go_wp2
  all_goals (go_ret; exact ⟨by rw [hv.out]; rfl, rfl⟩)
theorem behind_any {n k : Nat} (w : World) (h1 : n < 64) (h2 : k ≤ 4000) : Calls Try.prog 53 #[.int .i64 (n : Int), .int .i64 (k : Int)] w fun e w' => e = .returned (.int .i64 (((n + k) % 64 : Nat) : Int)) ∧ w' = w := by
  have hv := hid (show (((n + k) % 64 : Nat) : Int) = ((n : Int) + (k : Int)) % 64 by omega)
  generalize (((n + k) % 64 : Nat) : Int) = V at *
  have hw1 : IntKind.i64.wrap ((n : Int) + (k : Int)) = (n : Int) + (k : Int) := by rw [IntKind.wrap_i64]; omega
  have ht : ((n : Int) + (k : Int)).tmod 64 = ((n : Int) + (k : Int)) % 64 := tmod64 (by omega)
  have hw3 : IntKind.i64.wrap (((n : Int) + (k : Int)) % 64) = ((n : Int) + (k : Int)) % 64 := by rw [IntKind.wrap_i64]; omega
  go_enter Try.func53, Try.ntmps53
  go_wp2
  all_goals (go_ret; exact ⟨by rw [hv.out]; rfl, rfl⟩)
def cellsUn (us : List UnP) : List Value := us.flatMap UnP.cells
theorem cellsUn_len (us : List UnP) : (cellsUn us).length = us.length * 4 := by
  induction us with
  | nil => rfl
  | cons x us ih =>
    have e : cellsUn (x :: us) = x.cells ++ cellsUn us := rfl
    rw [e, List.length_append, ih, List.length_cons]
    show 4 + _ = _
    omega
theorem cellsUn_app (l r : List UnP) : cellsUn (l ++ r) = cellsUn l ++ cellsUn r := by simp [cellsUn]
theorem cellsUn_at (us : List UnP) : ∀ i k, i < us.length → k < 4 → (cellsUn us)[i * 4 + k]? = (us.getD i .zero).cells[k]? := by
  induction us with
  | nil => intro i k h; simp at h
  | cons x us ih =>
    intro i k h hk
    have e : cellsUn (x :: us) = x.cells ++ cellsUn us := rfl
    have h4 : x.cells.length = 4 := rfl
    cases i with
    | zero => rw [e, List.getElem?_append_left (by omega), Nat.zero_mul, Nat.zero_add]; rfl
    | succ i =>
      have := ih i k (by simpa using h) hk
      rw [e, List.getElem?_append_right (by omega), h4, show (i + 1) * 4 + k - 4 = i * 4 + k by omega, this]
      rfl
theorem cellsUn_drop (us : List UnP) : ∀ i, (cellsUn us).drop (i * 4) = cellsUn (us.drop i) := by
  induction us with
  | nil => intro i; simp [cellsUn]
  | cons x us ih =>
    intro i
    cases i with
    | zero => simp
    | succ i =>
      have e : cellsUn (x :: us) = x.cells ++ cellsUn us := rfl
      rw [e, List.drop_succ_cons, ← ih i, show (i + 1) * 4 = x.cells.length + i * 4 by show _ = 4 + _; omega, List.drop_append, Nat.add_sub_cancel_left, List.drop_eq_nil_of_le (by omega), List.nil_append]
/-- One cell of a unit is written. -/
theorem cellsUn_set {us : List UnP} {i f : Nat} {v : Value} {x' : UnP} (hi : i < us.length) (hf : f < 4) (he : (us.getD i .zero).cells.set f v = x'.cells) : (cellsUn us).set (i * 4 + f) v = cellsUn (us.set i x') := by
  refine List.ext_getElem? fun t => ?_
  rw [List.getElem?_set, cellsUn_len]
  by_cases ht : t < us.length * 4
  · have e1 := cellsUn_at (us.set i x') (t / 4) (t % 4) (by rw [List.length_set]; omega) (by omega)
    have e2 := cellsUn_at us (t / 4) (t % 4) (by omega) (by omega)
    rw [show t / 4 * 4 + t % 4 = t by omega] at e1 e2
    rw [e1, e2]
    by_cases hti : t / 4 = i
    · have e3 : (us.set i x').getD (t / 4) .zero = x' := by rw [hti, List.getD_eq_getElem?_getD, List.getElem?_set_self hi]; rfl
      rw [e3, ← he, List.getElem?_set, hti]
      by_cases htf : t = i * 4 + f
      · rw [if_pos htf.symm, if_pos (by omega), if_pos (by omega), if_pos (by show f < 4; omega)]
      · rw [if_neg (fun e => htf e.symm), if_neg (by omega)]
    · have e3 : (us.set i x').getD (t / 4) .zero = us.getD (t / 4) .zero := by rw [List.getD_eq_getElem?_getD, List.getElem?_set_ne (fun e => hti e.symm), ← List.getD_eq_getElem?_getD]
      rw [e3, if_neg (by omega)]
  · rw [if_neg (by omega), List.getElem?_eq_none (by rw [cellsUn_len]; omega), List.getElem?_eq_none (by rw [cellsUn_len, List.length_set]; omega)]
/-- The sender and its units. -/
structure PSnd (w : World) (b win bg : Nat) (ua : Option Addr) (c : Nat) (us : List UnP) : Prop where
  hd : At w b 100 [.int .i64 (win : Int), .int .i64 (bg : Int), .slice ua us.length c]
  own : w.ownsRow 0 107 4 (.slice ua us.length c) us.length (cellsUn us)
  ag : ∀ i, i < us.length → OwnSp w (us.getD i .zero).av (us.getD i .zero).al
  nb : ∀ y, ua = some y → y.block ≠ b
  na : ∀ i, i < us.length → ∀ g, (us.getD i .zero).av.ownBlock = some g → g ≠ b ∧ ∀ y, ua = some y → g ≠ y.block
  nn : ∀ i j, i < us.length → j < us.length → ∀ g, (us.getD i .zero).av.ownBlock = some g → (us.getD j .zero).av.ownBlock = some g → i = j
def sndF (b : Nat) (ua : Option Addr) (us : List UnP) : List Nat := b :: ((ua.map (·.block)).toList ++ us.filterMap (·.av.ownBlock))
theorem sndF_b (b : Nat) (ua : Option Addr) (us : List UnP) : b ∈ sndF b ua us := List.mem_cons_self
theorem sndF_u {b : Nat} {ua : Option Addr} {us : List UnP} {y : Addr} (h : ua = some y) : y.block ∈ sndF b ua us := by
  subst h
  simp [sndF]
theorem getD_memU {us : List UnP} {i : Nat} (h : i < us.length) : us.getD i .zero ∈ us := by
  rw [List.getD_eq_getElem?_getD, List.getElem?_eq_getElem h]
  exact List.getElem_mem h
theorem sndF_a {b : Nat} {ua : Option Addr} {us : List UnP} {i g : Nat} (hi : i < us.length) (h : (us.getD i .zero).av.ownBlock = some g) : g ∈ sndF b ua us := by
  unfold sndF
  refine List.mem_cons_of_mem _ (List.mem_append_right _ (List.mem_filterMap.2 ⟨_, getD_memU hi, h⟩))
theorem sndF_mem {b x : Nat} {ua : Option Addr} {us : List UnP} (h : x ∈ sndF b ua us) : x = b ∨ (∃ y, ua = some y ∧ x = y.block) ∨ ∃ i, i < us.length ∧ (us.getD i .zero).av.ownBlock = some x := by
  unfold sndF at h
  rw [List.mem_cons, List.mem_append] at h
  rcases h with h | h | h
  · exact .inl h
  · cases ua with
    | none => simp at h
    | some y => exact .inr (.inl ⟨y, rfl, by simpa using h⟩)
  · obtain ⟨u, hu, e⟩ := List.mem_filterMap.1 h
    obtain ⟨i, hi, rfl⟩ := List.mem_iff_getElem.1 hu
    refine .inr (.inr ⟨i, hi, ?_⟩)
    rw [List.getD_eq_getElem?_getD, List.getElem?_eq_getElem hi]
    exact e
theorem PSnd.addr {w : World} {b win bg : Nat} {ua : Option Addr} {c : Nat} {us : List UnP} (h : PSnd w b win bg ua c us) {y : Addr} (hy : ua = some y) : ∃ g, y = ⟨g, 0, none⟩ ∧ g < w.heap.size := by
  obtain ⟨a', c', e, _, _, hx⟩ := row_shape h.own
  simp only [Value.slice.injEq] at e
  obtain ⟨rfl, -, rfl⟩ := e
  obtain ⟨g, rfl, h2⟩ := hx y hy
  exact ⟨g, rfl, (World.ownsRow.lt h.own g h2).2⟩
theorem PSnd.lt {w : World} {b win bg : Nat} {ua : Option Addr} {c : Nat} {us : List UnP} (h : PSnd w b win bg ua c us) : ∀ x ∈ sndF b ua us, x < w.heap.size := fun x hx => by
  rcases sndF_mem hx with rfl | ⟨y, hy, rfl⟩ | ⟨i, hi, e⟩
  · exact h.hd.lt
  · obtain ⟨g, rfl, hg⟩ := h.addr hy
    exact hg
  · exact (h.ag i hi).lt e
theorem PSnd.kept {w w' : World} {b win bg : Nat} {ua : Option Addr} {c : Nat} {us : List UnP} {T : List Nat} (h : PSnd w b win bg ua c us) (hk : Kept T w w') (hd : ∀ x ∈ sndF b ua us, x ∉ T) : PSnd w' b win bg ua c us := by
  refine ⟨h.hd.kept hk (hd _ (sndF_b _ _ _)), keptRow h.own hk (fun g hg => ?_), fun i hi => (h.ag i hi).kept hk (fun g hg => hd _ (sndF_a hi hg)), h.nb, h.na, h.nn⟩
  cases ua with
  | none => simp [Value.ownBlock] at hg
  | some y =>
    obtain ⟨g', rfl, _⟩ := h.addr rfl
    simp [Value.ownBlock] at hg
    subst hg
    exact hd _ (sndF_u (y := ⟨g', 0, none⟩) rfl)
theorem PSnd.un {w : World} {b win bg : Nat} {ua : Option Addr} {c : Nat} {us : List UnP} (h : PSnd w b win bg ua c us) {i : Nat} (hi : i < us.length) : ∃ g, ua = some ⟨g, 0, none⟩ ∧ g ≠ b ∧ UnAt w g (i * 4) (us.getD i .zero) := by
  obtain ⟨g, rfl⟩ := row_some h.own (by omega)
  obtain ⟨cur, hA, -, -, -, -, hct, hxl⟩ := row_at h.own
  have hat : ∀ k, k < 4 → w.cell? ⟨g, i * 4 + k, none⟩ = (us.getD i .zero).cells[k]? := fun k hk => by
    rw [hA.cell, ← cellsUn_at us i k hi hk, ← hct, List.getElem?_take_of_lt (by omega)]
  exact ⟨g, rfl, h.nb _ rfl, hat 0 (by omega), hat 1 (by omega), hat 2 (by omega), hat 3 (by omega), fun j => hA.free j, h.ag i hi, fun g' hg' => (h.na i hi g' hg').2 _ rfl⟩
end Go.Proofs.Ytbjgfoiikhbonaf
namespace Go.Proofs.Ytbjgfoiikhbonaf
open Go.ChangeShapes Go.WideShapes Go.ChangeAt Go.RowKit
theorem getD_setS {us : List UnP} {i : Nat} {x : UnP} (hi : i < us.length) : (us.set i x).getD i .zero = x := by rw [List.getD_eq_getElem?_getD, List.getElem?_set_self hi]; rfl
theorem getD_setN {us : List UnP} {i j : Nat} {x : UnP} (h : i ≠ j) : (us.set i x).getD j .zero = us.getD j .zero := by rw [List.getD_eq_getElem?_getD, List.getElem?_set_ne h, ← List.getD_eq_getElem?_getD]
/-- One cell of a unit has been written. -/
theorem PSnd.upd {w w' : World} {b win bg g c i f : Nat} {us : List UnP} {S : List Nat} {v : Value} {x' : UnP} (h : PSnd w b win bg (some ⟨g, 0, none⟩) c us) (hi : i < us.length) (hf : f < 4) (hp : PtrPost w w' g (i * 4 + f) S v)
    (hS : ∀ s ∈ S, (us.getD i .zero).av.ownBlock = some s) (he : (us.getD i .zero).cells.set f v = x'.cells) (ho : OwnSp w' x'.av x'.al) (hn : ∀ g', x'.av.ownBlock = some g' → (us.getD i .zero).av.ownBlock = some g' ∨ w.heap.size ≤ g') :
    PSnd w' b win bg (some ⟨g, 0, none⟩) c (us.set i x') := by
  have hgb := h.nb _ rfl
  have hgl : g < w.heap.size := by obtain ⟨g', e, h'⟩ := h.addr rfl; cases e; exact h'
  have hbl := h.hd.lt
  have hgb' : g ≠ b := hgb
  have hbS : b ∉ g :: S := by
    rw [List.mem_cons]
    rintro (e | e)
    · exact hgb e.symm
    · exact (h.na i hi b (hS b e)).1 rfl
  obtain ⟨cur, hA, -, hnc, hcm, hcl, hct, hxl⟩ := row_at h.own
  have hA' := hp.row _ _ hA
  have hjS : ∀ j, j < us.length → j ≠ i → ∀ g', (us.getD j .zero).av.ownBlock = some g' → g' ∉ g :: S := fun j hj hji g' hg' => by
    rw [List.mem_cons]
    rintro (e | e)
    · exact (h.na j hj g' hg').2 _ rfl e
    · exact hji (h.nn j i hj hi g' hg' (hS g' e))
  refine ⟨?_, ?_, fun j hj => ?_, h.nb, fun j hj g' hg' => ?_, fun j k hj hk g' hg' hg'' => ?_⟩
  · rw [List.length_set]
    exact h.hd.kept hp.kept hbS
  · rw [List.length_set]
    refine hA'.row (by rw [cellsUn_len, List.length_set]) hnc hcm (by rw [List.length_set, hcl]) ?_
    rw [List.take_set, hct]
    exact cellsUn_set hi hf he
  · rw [List.length_set] at hj
    by_cases hji : j = i
    · subst hji; rw [getD_setS hj]; exact ho
    · rw [getD_setN (fun e => hji e.symm)]
      exact (h.ag j hj).kept hp.kept (hjS j hj hji)
  · rw [List.length_set] at hj
    by_cases hji : j = i
    · subst hji
      rw [getD_setS hj] at hg'
      rcases hn g' hg' with h1 | h1
      · exact h.na j hj g' h1
      · exact ⟨by omega, fun y hy => by cases hy; show g' ≠ g; omega⟩
    · rw [getD_setN (fun e => hji e.symm)] at hg'
      exact h.na j hj g' hg'
  · rw [List.length_set] at hj hk
    by_cases hji : j = i
    · subst hji
      by_cases hki : k = j
      · exact hki.symm
      · rw [getD_setS hj] at hg'
        rw [getD_setN (fun e => hki e.symm)] at hg''
        rcases hn g' hg' with h1 | h1
        · exact h.nn j k hj hk g' h1 hg''
        · have := (h.ag k hk).lt hg''
          omega
    · rw [getD_setN (fun e => hji e.symm)] at hg'
      by_cases hki : k = i
      · subst hki
        rw [getD_setS hk] at hg''
        rcases hn g' hg'' with h1 | h1
        · exact h.nn j k hj hk g' hg' h1
        · have := (h.ag j hj).lt hg'
          omega
      · rw [getD_setN (fun e => hki e.symm)] at hg''
        exact h.nn j k hj hk g' hg' hg''
theorem PSnd.head {w : World} {b win bg : Nat} {ua : Option Addr} {c : Nat} {us : List UnP} (h : PSnd w b win bg ua c us) : w.cell? ⟨b, 0, none⟩ = some (.int .i64 (win : Int)) ∧ w.cell? ⟨b, 1, none⟩ = some (.int .i64 (bg : Int)) ∧ w.cell? ⟨b, 2, none⟩ = some (.slice ua us.length c) := ⟨h.hd.cell 0, h.hd.cell 1, h.hd.cell 2⟩
def waitN (us : List UnP) : Nat := (us.filter fun x => !x.dn).length
theorem waitN_snoc (l : List UnP) (x : UnP) : waitN (l ++ [x]) = waitN l + (if x.dn = true then 0 else 1) := by
  unfold waitN
  rw [List.filter_append, List.length_append]
  cases h : x.dn <;> simp [h]
theorem takeU {us : List UnP} {k : Nat} (h : k < us.length) : us.take (k + 1) = us.take k ++ [us.getD k .zero] := by
  rw [List.take_add_one, List.getD_eq_getElem?_getD, List.getElem?_eq_getElem h]
  rfl
set_option maxHeartbeats 400000 in
theorem waiting_any {w : World} {b win bg : Nat} {ua : Option Addr} {c : Nat} {us : List UnP} (h : PSnd w b win bg ua c us) (hl : us.length ≤ 70368744177664) :
    Calls Try.prog 24 #[.pointer (some ⟨b, 0, none⟩)] w fun e w' => e = .returned (.int .i64 ((waitN us : Nat) : Int)) ∧ w' = w := by
  obtain ⟨-, -, c2⟩ := h.head
  obtain ⟨N, hN⟩ : ∃ N, N = us.length := ⟨_, rfl⟩
  rw [← hN] at c2 hl
  have H := hid h
  have HN := hid hN
  clear h hN
  go_enter Try.func24, Try.ntmps24
  go_wp2_with fail
  go_loopw [3, 10] (fun vc vi wr => ∃ k q : Nat, k ≤ N ∧ q ≤ k ∧ vi = .int .i64 k ∧ vc = .int .i64 (q : Int) ∧ q = waitN (us.take k) ∧ Hid (wr = w)) (fun _ vi _ => N - (intOf vi).toNat)
  case atStart => exact ⟨0, 0, by omega, by omega, rfl, rfl, rfl, hid rfl⟩
  case round =>
    obtain ⟨k, q, hk, hqk, rfl, rfl, hq, hw⟩ := hrel
    have hw := hw.out
    subst hw
    by_cases hkn : k < N
    · obtain ⟨g, rfl, -, hu⟩ := H.out.un (i := k) (by rw [← HN.out]; exact hkn)
      have c3 := hu.c3
      have ht := hid (takeU (us := us) (k := k) (by rw [← HN.out]; exact hkn))
      have HQ := hid hq
      clear hu hq
      cases hd : (us.getD k .zero).dn with
      | true =>
        rw [hd] at c3
        have HD := hid hd
        clear hd
        go_wp2_with fail
        refine ⟨⟨k + 1, q, by omega, by omega, by go_num, rfl, ?_, by first | exact hid rfl | exact hid trivial⟩, by simp [intOf]; omega⟩
        rw [ht.out, HQ.out]
        rw [waitN_snoc, HD.out]
        rfl
      | false =>
        rw [hd] at c3
        have HD := hid hd
        clear hd
        go_wp2_with fail
        refine ⟨⟨k + 1, q + 1, by omega, by omega, by go_num, by go_num, ?_, by first | exact hid rfl | exact hid trivial⟩, by simp [intOf]; omega⟩
        rw [ht.out, HQ.out]
        rw [waitN_snoc, HD.out]
        rfl
    · have HQ := hid hq
      clear hq
      go_wp2_with fail
      go_ret
      refine ⟨?_, rfl⟩
      rw [HQ.out, List.take_of_length_le (by rw [← HN.out]; omega)]
      rfl
end Go.Proofs.Ytbjgfoiikhbonaf
namespace Go.Proofs.Ytbjgfoiikhbonaf
open Go.ChangeShapes Go.WideShapes Go.ChangeAt Go.RowKit
theorem newSender_bad {k : Int} (w : World) (h : k < 1 ∨ 32 < k) : Calls Try.prog 12 #[.int .i64 k] w fun e w' => e = .returned (.tuple #[.pointer none, .int .i64 1]) ∧ w' = w := by
  have hc := checkWindow_any k w
  rw [if_pos h] at hc
  clear h
  go_enter Try.func12, Try.ntmps12
  go_wp2_with (go_at_call 35; refine hc.mono ?_; rintro e w1 ⟨rfl, rfl⟩)
  all_goals (go_ret2; exact ⟨rfl, rfl⟩)
theorem newSender_good {k : Nat} (w : World) (h1 : 1 ≤ k) (h2 : k ≤ 32) : Calls Try.prog 12 #[.int .i64 (k : Int)] w fun e w' => e = .returned (.tuple #[.pointer (some ⟨w.heap.size, 0, none⟩), .int .i64 0]) ∧ w' = w.alloc (.cells #[.int .i64 (k : Int), .int .i64 0, .slice none 0 0] 100) := by
  have hc := checkWindow_any (k : Int) w
  rw [if_neg (by omega)] at hc
  clear h1 h2
  go_enter Try.func12, Try.ntmps12
  go_wp2_with (go_at_call 35; refine hc.mono ?_; rintro e w1 ⟨rfl, rfl⟩)
  all_goals (go_ret2; exact ⟨rfl, rfl⟩)
theorem PSnd.new (w : World) (k : Nat) : PSnd (w.alloc (.cells #[.int .i64 (k : Int), .int .i64 0, .slice none 0 0] 100)) w.heap.size k 0 none 0 [] := by
  refine ⟨at_alloc w 100 [.int .i64 (k : Int), .int .i64 0, .slice none 0 0], World.ownsRow_nil _ _ _ _, ?_, ?_, ?_, ?_⟩
  · intro i hi; simp at hi
  · intro y hy; simp at hy
  · intro i hi; simp at hi
  · intro i j hi; simp at hi
end Go.Proofs.Ytbjgfoiikhbonaf
