import Derived.Test.YtbjgfoiikhbonafK38
import Derived.Test.YtbjgfoiikhbonafK07
set_option linter.unusedVariables false
set_option linter.unusedSimpArgs false
namespace Go.Proofs.Ytbjgfoiikhbonaf
open Go.ChangeShapes Go.WideShapes Go.ChangeAt Go.RowKit
structure UoP where
  text : ByteArray
  mv : Value
  ms : List Int
  dn : Bool
def UoP.zero : UoP := ⟨ByteArray.empty, .slice none 0 0, [], false⟩
def UoP.cells (x : UoP) : List Value := [.string x.text, x.mv, .bool x.dn]
/-- A unit's cells, from o on. -/
structure UoAt (w : World) (g o : Nat) (x : UoP) : Prop where
  c0 : w.cell? ⟨g, o, none⟩ = some (.string x.text)
  c1 : w.cell? ⟨g, o + 1, none⟩ = some x.mv
  c2 : w.cell? ⟨g, o + 2, none⟩ = some (.bool x.dn)
  fr : ∀ j, w.frozen? ⟨g, j, none⟩ = false
  ag : Own w 0 x.mv x.ms
  sep : ∀ g', x.mv.ownBlock = some g' → g' ≠ g
def cellsUo (us : List UoP) : List Value := us.flatMap UoP.cells
theorem cellsUo_len (us : List UoP) : (cellsUo us).length = us.length * 3 := by
  induction us with
  | nil => rfl
  | cons x us ih =>
    have e : cellsUo (x :: us) = x.cells ++ cellsUo us := rfl
    rw [e, List.length_append, ih, List.length_cons]
    show 3 + _ = _
    omega
theorem cellsUo_app (l r : List UoP) : cellsUo (l ++ r) = cellsUo l ++ cellsUo r := by simp [cellsUo]
theorem cellsUo_at (us : List UoP) : ∀ i k, i < us.length → k < 3 → (cellsUo us)[i * 3 + k]? = (us.getD i .zero).cells[k]? := by
  induction us with
  | nil => intro i k h; simp at h
  | cons x us ih =>
    intro i k h hk
    have e : cellsUo (x :: us) = x.cells ++ cellsUo us := rfl
    have h4 : x.cells.length = 3 := rfl
    cases i with
    | zero => rw [e, List.getElem?_append_left (by omega), Nat.zero_mul, Nat.zero_add]; rfl
    | succ i =>
      have := ih i k (by simpa using h) hk
      rw [e, List.getElem?_append_right (by omega), h4, show (i + 1) * 3 + k - 3 = i * 3 + k by omega, this]
      rfl
/-- One cell of a unit is written. -/
theorem cellsUo_set {us : List UoP} {i f : Nat} {v : Value} {x' : UoP} (hi : i < us.length) (hf : f < 3) (he : (us.getD i .zero).cells.set f v = x'.cells) : (cellsUo us).set (i * 3 + f) v = cellsUo (us.set i x') := by
  refine List.ext_getElem? fun t => ?_
  rw [List.getElem?_set, cellsUo_len]
  by_cases ht : t < us.length * 3
  · have e1 := cellsUo_at (us.set i x') (t / 3) (t % 3) (by rw [List.length_set]; omega) (by omega)
    have e2 := cellsUo_at us (t / 3) (t % 3) (by omega) (by omega)
    rw [show t / 3 * 3 + t % 3 = t by omega] at e1 e2
    rw [e1, e2]
    by_cases hti : t / 3 = i
    · have e3 : (us.set i x').getD (t / 3) .zero = x' := by rw [hti, List.getD_eq_getElem?_getD, List.getElem?_set_self hi]; rfl
      rw [e3, ← he, List.getElem?_set, hti]
      by_cases htf : t = i * 3 + f
      · rw [if_pos htf.symm, if_pos (by omega), if_pos (by omega), if_pos (by show f < 3; omega)]
      · rw [if_neg (fun e => htf e.symm), if_neg (by omega)]
    · have e3 : (us.set i x').getD (t / 3) .zero = us.getD (t / 3) .zero := by rw [List.getD_eq_getElem?_getD, List.getElem?_set_ne (fun e => hti e.symm), ← List.getD_eq_getElem?_getD]
      rw [e3, if_neg (by omega)]
  · rw [if_neg (by omega), List.getElem?_eq_none (by rw [cellsUo_len]; omega), List.getElem?_eq_none (by rw [cellsUo_len, List.length_set]; omega)]
/-- The sender and its units. -/
structure POut (w : World) (b win bg : Nat) (ua : Option Addr) (c : Nat) (us : List UoP) : Prop where
  hd : At w b 53 [.int .i64 (win : Int), .int .i64 (bg : Int), .slice ua us.length c]
  own : w.ownsRow 0 110 3 (.slice ua us.length c) us.length (cellsUo us)
  ag : ∀ i, i < us.length → Own w 0 (us.getD i .zero).mv (us.getD i .zero).ms
  nb : ∀ y, ua = some y → y.block ≠ b
  na : ∀ i, i < us.length → ∀ g, (us.getD i .zero).mv.ownBlock = some g → g ≠ b ∧ ∀ y, ua = some y → g ≠ y.block
  nn : ∀ i j, i < us.length → j < us.length → ∀ g, (us.getD i .zero).mv.ownBlock = some g → (us.getD j .zero).mv.ownBlock = some g → i = j
def outF (b : Nat) (ua : Option Addr) (us : List UoP) : List Nat := b :: ((ua.map (·.block)).toList ++ us.filterMap (·.mv.ownBlock))
theorem outF_b (b : Nat) (ua : Option Addr) (us : List UoP) : b ∈ outF b ua us := List.mem_cons_self
theorem outF_u {b : Nat} {ua : Option Addr} {us : List UoP} {y : Addr} (h : ua = some y) : y.block ∈ outF b ua us := by
  subst h
  simp [outF]
theorem getD_memO {us : List UoP} {i : Nat} (h : i < us.length) : us.getD i .zero ∈ us := by
  rw [List.getD_eq_getElem?_getD, List.getElem?_eq_getElem h]
  exact List.getElem_mem h
theorem outF_a {b : Nat} {ua : Option Addr} {us : List UoP} {i g : Nat} (hi : i < us.length) (h : (us.getD i .zero).mv.ownBlock = some g) : g ∈ outF b ua us := by
  unfold outF
  refine List.mem_cons_of_mem _ (List.mem_append_right _ (List.mem_filterMap.2 ⟨_, getD_memO hi, h⟩))
theorem outF_mem {b x : Nat} {ua : Option Addr} {us : List UoP} (h : x ∈ outF b ua us) : x = b ∨ (∃ y, ua = some y ∧ x = y.block) ∨ ∃ i, i < us.length ∧ (us.getD i .zero).mv.ownBlock = some x := by
  unfold outF at h
  rw [List.mem_cons, List.mem_append] at h
  rcases h with h | h | h
  · exact .inl h
  · cases ua with
    | none => simp at h
    | some y => exact .inr (.inl ⟨y, rfl, by simpa using h⟩)
  · obtain ⟨u, hu, e⟩ := List.mem_filterMap.1 h
    obtain ⟨i, hi, rfl⟩ := List.mem_iff_getElem.1 hu
    refine .inr (.inr ⟨i, hi, ?_⟩)
    rw [List.getD_eq_getElem?_getD, List.getElem?_eq_getElem hi]
    exact e
theorem POut.addr {w : World} {b win bg : Nat} {ua : Option Addr} {c : Nat} {us : List UoP} (h : POut w b win bg ua c us) {y : Addr} (hy : ua = some y) : ∃ g, y = ⟨g, 0, none⟩ ∧ g < w.heap.size := by
  obtain ⟨a', c', e, _, _, hx⟩ := row_shape h.own
  simp only [Value.slice.injEq] at e
  obtain ⟨rfl, -, rfl⟩ := e
  obtain ⟨g, rfl, h2⟩ := hx y hy
  exact ⟨g, rfl, (World.ownsRow.lt h.own g h2).2⟩
theorem POut.lt {w : World} {b win bg : Nat} {ua : Option Addr} {c : Nat} {us : List UoP} (h : POut w b win bg ua c us) : ∀ x ∈ outF b ua us, x < w.heap.size := fun x hx => by
  rcases outF_mem hx with rfl | ⟨y, hy, rfl⟩ | ⟨i, hi, e⟩
  · exact h.hd.lt
  · obtain ⟨g, rfl, hg⟩ := h.addr hy
    exact hg
  · exact (World.ownsRow.lt (h.ag i hi) _ e).2
theorem POut.kept {w w' : World} {b win bg : Nat} {ua : Option Addr} {c : Nat} {us : List UoP} {T : List Nat} (h : POut w b win bg ua c us) (hk : Kept T w w') (hd : ∀ x ∈ outF b ua us, x ∉ T) : POut w' b win bg ua c us := by
  refine ⟨h.hd.kept hk (hd _ (outF_b _ _ _)), keptRow h.own hk (fun g hg => ?_), fun i hi => keptOwn (h.ag i hi) hk (fun g hg => hd _ (outF_a hi hg)), h.nb, h.na, h.nn⟩
  cases ua with
  | none => simp [Value.ownBlock] at hg
  | some y =>
    obtain ⟨g', rfl, _⟩ := h.addr rfl
    simp [Value.ownBlock] at hg
    subst hg
    exact hd _ (outF_u (y := ⟨g', 0, none⟩) rfl)
theorem POut.un {w : World} {b win bg : Nat} {ua : Option Addr} {c : Nat} {us : List UoP} (h : POut w b win bg ua c us) {i : Nat} (hi : i < us.length) : ∃ g, ua = some ⟨g, 0, none⟩ ∧ g ≠ b ∧ UoAt w g (i * 3) (us.getD i .zero) := by
  obtain ⟨g, rfl⟩ := row_some h.own (by omega)
  obtain ⟨cur, hA, -, -, -, -, hct, hxl⟩ := row_at h.own
  have hat : ∀ k, k < 3 → w.cell? ⟨g, i * 3 + k, none⟩ = (us.getD i .zero).cells[k]? := fun k hk => by
    rw [hA.cell, ← cellsUo_at us i k hi hk, ← hct, List.getElem?_take_of_lt (by omega)]
  exact ⟨g, rfl, h.nb _ rfl, hat 0 (by omega), hat 1 (by omega), hat 2 (by omega), fun j => hA.free j, h.ag i hi, fun g' hg' => (h.na i hi g' hg').2 _ rfl⟩
theorem getD_setOS {us : List UoP} {i : Nat} {x : UoP} (hi : i < us.length) : (us.set i x).getD i .zero = x := by rw [List.getD_eq_getElem?_getD, List.getElem?_set_self hi]; rfl
theorem getD_setON {us : List UoP} {i j : Nat} {x : UoP} (h : i ≠ j) : (us.set i x).getD j .zero = us.getD j .zero := by rw [List.getD_eq_getElem?_getD, List.getElem?_set_ne h, ← List.getD_eq_getElem?_getD]
/-- One cell of a unit has been written. -/
theorem POut.upd {w w' : World} {b win bg g c i f : Nat} {us : List UoP} {S : List Nat} {v : Value} {x' : UoP} (h : POut w b win bg (some ⟨g, 0, none⟩) c us) (hi : i < us.length) (hf : f < 3) (hp : PtrPost w w' g (i * 3 + f) S v)
    (hS : ∀ s ∈ S, (us.getD i .zero).mv.ownBlock = some s) (he : (us.getD i .zero).cells.set f v = x'.cells) (ho : Own w' 0 x'.mv x'.ms) (hn : ∀ g', x'.mv.ownBlock = some g' → (us.getD i .zero).mv.ownBlock = some g' ∨ w.heap.size ≤ g') :
    POut w' b win bg (some ⟨g, 0, none⟩) c (us.set i x') := by
  have hgb := h.nb _ rfl
  have hgl : g < w.heap.size := by obtain ⟨g', e, h'⟩ := h.addr rfl; cases e; exact h'
  have hbl := h.hd.lt
  have hgb' : g ≠ b := hgb
  have hbS : b ∉ g :: S := by
    rw [List.mem_cons]
    rintro (e | e)
    · exact hgb e.symm
    · exact (h.na i hi b (hS b e)).1 rfl
  obtain ⟨cur, hA, -, hnc, hcm, hcl, hct, hxl⟩ := row_at h.own
  have hA' := hp.row _ _ hA
  have hjS : ∀ j, j < us.length → j ≠ i → ∀ g', (us.getD j .zero).mv.ownBlock = some g' → g' ∉ g :: S := fun j hj hji g' hg' => by
    rw [List.mem_cons]
    rintro (e | e)
    · exact (h.na j hj g' hg').2 _ rfl e
    · exact hji (h.nn j i hj hi g' hg' (hS g' e))
  refine ⟨?_, ?_, fun j hj => ?_, h.nb, fun j hj g' hg' => ?_, fun j k hj hk g' hg' hg'' => ?_⟩
  · rw [List.length_set]
    exact h.hd.kept hp.kept hbS
  · rw [List.length_set]
    refine hA'.row (by rw [cellsUo_len, List.length_set]) hnc hcm (by rw [List.length_set, hcl]) ?_
    rw [List.take_set, hct]
    exact cellsUo_set hi hf he
  · rw [List.length_set] at hj
    by_cases hji : j = i
    · subst hji; rw [getD_setOS hj]; exact ho
    · rw [getD_setON (fun e => hji e.symm)]
      exact keptOwn (h.ag j hj) hp.kept (hjS j hj hji)
  · rw [List.length_set] at hj
    by_cases hji : j = i
    · subst hji
      rw [getD_setOS hj] at hg'
      rcases hn g' hg' with h1 | h1
      · exact h.na j hj g' h1
      · exact ⟨by omega, fun y hy => by cases hy; show g' ≠ g; omega⟩
    · rw [getD_setON (fun e => hji e.symm)] at hg'
      exact h.na j hj g' hg'
  · rw [List.length_set] at hj hk
    by_cases hji : j = i
    · subst hji
      by_cases hki : k = j
      · exact hki.symm
      · rw [getD_setOS hj] at hg'
        rw [getD_setON (fun e => hki e.symm)] at hg''
        rcases hn g' hg' with h1 | h1
        · exact h.nn j k hj hk g' h1 hg''
        · have := (World.ownsRow.lt (h.ag k hk) _ hg'').2
          omega
    · rw [getD_setON (fun e => hji e.symm)] at hg'
      by_cases hki : k = i
      · subst hki
        rw [getD_setOS hk] at hg''
        rcases hn g' hg'' with h1 | h1
        · exact h.nn j k hj hk g' hg' h1
        · have := (World.ownsRow.lt (h.ag j hj) _ hg').2
          omega
      · rw [getD_setON (fun e => hki e.symm)] at hg''
        exact h.nn j k hj hk g' hg' hg''
theorem POut.head {w : World} {b win bg : Nat} {ua : Option Addr} {c : Nat} {us : List UoP} (h : POut w b win bg ua c us) : w.cell? ⟨b, 0, none⟩ = some (.int .i64 (win : Int)) ∧ w.cell? ⟨b, 1, none⟩ = some (.int .i64 (bg : Int)) ∧ w.cell? ⟨b, 2, none⟩ = some (.slice ua us.length c) := ⟨h.hd.cell 0, h.hd.cell 1, h.hd.cell 2⟩
def waitO (us : List UoP) : Nat := (us.filter fun x => !x.dn).length
theorem waitO_snoc (l : List UoP) (x : UoP) : waitO (l ++ [x]) = waitO l + (if x.dn = true then 0 else 1) := by
  unfold waitO
  rw [List.filter_append, List.length_append]
  cases h : x.dn <;> simp [h]
theorem takeO {us : List UoP} {k : Nat} (h : k < us.length) : us.take (k + 1) = us.take k ++ [us.getD k .zero] := by
  rw [List.take_add_one, List.getD_eq_getElem?_getD, List.getElem?_eq_getElem h]
  rfl
set_option maxHeartbeats 400000 in
theorem owaiting_any {w : World} {b win bg : Nat} {ua : Option Addr} {c : Nat} {us : List UoP} (h : POut w b win bg ua c us) (hl : us.length ≤ 70368744177664) :
    Calls Try.prog 25 #[.pointer (some ⟨b, 0, none⟩)] w fun e w' => e = .returned (.int .i64 ((waitO us : Nat) : Int)) ∧ w' = w := by
  obtain ⟨-, -, c2⟩ := h.head
  obtain ⟨N, hN⟩ : ∃ N, N = us.length := ⟨_, rfl⟩
  rw [← hN] at c2 hl
  have H := hid h
  have HN := hid hN
  clear h hN
  go_enter Try.func25, Try.ntmps25
  go_wp2_with fail
  go_loopw [3, 4] (fun vc vi wr => ∃ k q : Nat, k ≤ N ∧ q ≤ k ∧ vi = .int .i64 k ∧ vc = .int .i64 (q : Int) ∧ q = waitO (us.take k) ∧ Hid (wr = w)) (fun _ vi _ => N - (intOf vi).toNat)
  case atStart => exact ⟨0, 0, by omega, by omega, rfl, rfl, rfl, hid rfl⟩
  case round =>
    obtain ⟨k, q, hk, hqk, rfl, rfl, hq, hw⟩ := hrel
    have hw := hw.out
    subst hw
    by_cases hkn : k < N
    · obtain ⟨g, rfl, -, hu⟩ := H.out.un (i := k) (by rw [← HN.out]; exact hkn)
      have c3 := hu.c2
      have ht := hid (takeO (us := us) (k := k) (by rw [← HN.out]; exact hkn))
      have HQ := hid hq
      clear hu hq
      cases hd : (us.getD k .zero).dn with
      | true =>
        rw [hd] at c3
        have HD := hid hd
        clear hd
        go_wp2_with fail
        refine ⟨⟨k + 1, q, by omega, by omega, by go_num, rfl, ?_, by first | exact hid rfl | exact hid trivial⟩, by simp [intOf]; omega⟩
        rw [ht.out, HQ.out]
        rw [waitO_snoc, HD.out]
        rfl
      | false =>
        rw [hd] at c3
        have HD := hid hd
        clear hd
        go_wp2_with fail
        refine ⟨⟨k + 1, q + 1, by omega, by omega, by go_num, by go_num, ?_, by first | exact hid rfl | exact hid trivial⟩, by simp [intOf]; omega⟩
        rw [ht.out, HQ.out]
        rw [waitO_snoc, HD.out]
        rfl
    · have HQ := hid hq
      clear hq
      go_wp2_with fail
      go_ret
      refine ⟨?_, rfl⟩
      rw [HQ.out, List.take_of_length_le (by rw [← HN.out]; omega)]
      rfl
end Go.Proofs.Ytbjgfoiikhbonaf
namespace Go.Proofs.Ytbjgfoiikhbonaf
open Go.ChangeShapes Go.WideShapes Go.ChangeAt Go.RowKit
theorem getD_appO1 {us : List UoP} {x : UoP} {i : Nat} (h : i < us.length) : (us ++ [x]).getD i .zero = us.getD i .zero := by
  rw [List.getD_eq_getElem?_getD, List.getElem?_append_left h, ← List.getD_eq_getElem?_getD]
theorem getD_appO2 {us : List UoP} {x : UoP} : (us ++ [x]).getD us.length .zero = x := by
  rw [List.getD_eq_getElem?_getD, List.getElem?_append_right (Nat.le_refl _), Nat.sub_self]
  rfl
/-- A unit has been appended: the units lie where they lay, or in new memory. -/
theorem POut.app {w w1 : World} {b win bg : Nat} {ua ua' : Option Addr} {c c' n' : Nat} {us : List UoP} {x : UoP} (h : POut w b win bg ua c us) (hn' : n' = us.length + 1) (hk : Kept (ua.map (·.block)).toList w w1)
    (ho : w1.ownsRow 0 110 3 (.slice ua' n' c') n' (cellsUo us ++ x.cells)) (hl : ∀ y, ua' = some y → ua = some y ∨ w.heap.size ≤ y.block) (hx : Own w1 0 x.mv x.ms) (hxn : ∀ g, x.mv.ownBlock = some g → w.heap.size ≤ g ∧ ∀ y, ua' = some y → g ≠ y.block) :
    POut (w1.setCell ⟨b, 2, none⟩ (.slice ua' n' c')) b win bg ua' c' (us ++ [x]) := by
  subst hn'
  have hbS : b ∉ (ua.map (·.block)).toList := by
    cases ua with
    | none => simp
    | some y => simpa using fun e => h.nb y rfl e.symm
  have hbl := h.hd.lt
  have hb' : ∀ y, ua' = some y → y.block ≠ b := fun y hy => by
    rcases hl y hy with h1 | h1
    · exact h.nb y h1
    · omega
  have hlen : (us ++ [x]).length = us.length + 1 := by simp
  have hkb : Kept [b] w1 (w1.setCell ⟨b, 2, none⟩ (.slice ua' (us.length + 1) c')) := kept_setCell _ _ _ _
  refine ⟨?_, ?_, fun i hi => ?_, hb', fun i hi g hg => ?_, fun i j hi hj g hg hg' => ?_⟩
  · rw [hlen]
    exact (h.hd.kept hk hbS).setCell (o := 2) _
  · rw [hlen, cellsUo_app]
    have := keptRow ho hkb (fun g hg => by
      cases ua' with
      | none => simp [Value.ownBlock] at hg
      | some y =>
        simp [Value.ownBlock] at hg
        subst hg
        simpa using hb' y rfl)
    rw [show cellsUo [x] = x.cells by simp [cellsUo]]
    exact this
  · rw [hlen] at hi
    by_cases e : i = us.length
    · subst e
      rw [getD_appO2]
      refine keptOwn hx hkb (fun g hg => ?_)
      have := (hxn g hg).1
      simp
      omega
    · rw [getD_appO1 (by omega)]
      refine keptOwn (keptOwn (h.ag i (by omega)) hk (fun g hg => ?_)) hkb (fun g hg => ?_)
      · have := (h.na i (by omega) g hg).2
        cases ua with
        | none => simp
        | some y => simpa using this y rfl
      · simpa using (h.na i (by omega) g hg).1
  · rw [hlen] at hi
    by_cases e : i = us.length
    · subst e
      rw [getD_appO2] at hg
      have h5 := hxn g hg
      exact ⟨by omega, h5.2⟩
    · rw [getD_appO1 (by omega)] at hg
      refine ⟨(h.na i (by omega) g hg).1, fun y hy => ?_⟩
      rcases hl y hy with h1 | h1
      · exact (h.na i (by omega) g hg).2 y h1
      · have := (World.ownsRow.lt (h.ag i (by omega)) _ hg).2
        omega
  · rw [hlen] at hi hj
    by_cases e : i = us.length
    · subst e
      rw [getD_appO2] at hg
      by_cases e' : j = us.length
      · exact e'.symm
      · rw [getD_appO1 (by omega)] at hg'
        have h5 := (hxn g hg).1
        have := (World.ownsRow.lt (h.ag j (by omega)) _ hg').2
        omega
    · by_cases e' : j = us.length
      · subst e'
        rw [getD_appO2] at hg'
        rw [getD_appO1 (by omega)] at hg
        have h5 := (hxn g hg').1
        have := (World.ownsRow.lt (h.ag i (by omega)) _ hg).2
        omega
      · rw [getD_appO1 (by omega)] at hg hg'
        exact h.nn i j (by omega) (by omega) g hg hg'
def subErrO (us : List UoP) (s : ByteArray) : Int := if s.size = 0 then 1 else if 1500 < s.size then 2 else if 64 ≤ waitO us then 7 else 0
set_option maxRecDepth 100000 in
set_option maxHeartbeats 1000000 in
theorem osubmit_bad {w : World} {b win bg : Nat} {ua : Option Addr} {c : Nat} {us : List UoP} {s : ByteArray} (h : POut w b win bg ua c us) (hl : us.length ≤ 70368744177664) (hs : s.size ≤ manyB) (he : subErrO us s ≠ 0) :
    Calls Try.prog 15 #[.pointer (some ⟨b, 0, none⟩), .string s] w fun e w' => e = .returned (.int .i64 (subErrO us s)) ∧ w' = w := by
  have hwt := owaiting_any h (by omega)
  have hs' : s.size ≤ 140737488355328 := hs
  clear h
  by_cases q0 : s.size = 0
  · have hv := hid (show subErrO us s = 1 by unfold subErrO; rw [if_pos q0])
    have hem : s.toList.isEmpty = true := by
      rw [ByteArray.toList_eq]
      have : s.data.toList.length = 0 := by rw [Array.length_toList]; exact q0
      rw [List.eq_nil_of_length_eq_zero this]
      rfl
    generalize subErrO us s = V at *
    go_enter Try.func15, Try.ntmps15
    go_wp2_with fail
    go_ret
    exact ⟨by rw [hv.out]; rfl, rfl⟩
  · have hem : s.toList.isEmpty = false := emp_falseR q0
    by_cases q1 : 1500 < s.size
    · have hv := hid (show subErrO us s = 2 by unfold subErrO; rw [if_neg q0, if_pos q1])
      generalize subErrO us s = V at *
      go_enter Try.func15, Try.ntmps15
      go_wp2_with fail
      go_ret
      exact ⟨by rw [hv.out]; rfl, rfl⟩
    · by_cases q2 : 64 ≤ waitO us
      · have hv := hid (show subErrO us s = 7 by unfold subErrO; rw [if_neg q0, if_neg q1, if_pos q2])
        generalize subErrO us s = V at *
        generalize waitO us = q at *
        go_enter Try.func15, Try.ntmps15
        go_wp2_with (go_at_call 25; refine hwt.mono ?_; rintro e w1 ⟨rfl, rfl⟩)
        go_ret
        exact ⟨by rw [hv.out]; rfl, rfl⟩
      · exact absurd (show subErrO us s = 0 by unfold subErrO; rw [if_neg q0, if_neg q1, if_neg q2]) he
end Go.Proofs.Ytbjgfoiikhbonaf
