import Derived.Test.YtbjgfoiikhbonafK16
set_option linter.unusedVariables false
set_option linter.unusedSimpArgs false
namespace Go.Proofs.Ytbjgfoiikhbonaf
open Go.ChangeShapes Go.WideShapes Go.ChangeAt Go.RowKit
def unNew (s : ByteArray) : UnP := ⟨s, 0, .slice none 0 0, [], false⟩
theorem getD_app1 {us : List UnP} {x : UnP} {i : Nat} (h : i < us.length) : (us ++ [x]).getD i .zero = us.getD i .zero := by
  rw [List.getD_eq_getElem?_getD, List.getElem?_append_left h, ← List.getD_eq_getElem?_getD]
theorem getD_app2 {us : List UnP} {x : UnP} : (us ++ [x]).getD us.length .zero = x := by
  rw [List.getD_eq_getElem?_getD, List.getElem?_append_right (Nat.le_refl _), Nat.sub_self]
  rfl
/-- A unit has been appended: the units lie where they lay, or in new memory. -/
theorem PSnd.app {w w1 : World} {b win bg : Nat} {ua ua' : Option Addr} {c c' n' : Nat} {us : List UnP} {s : ByteArray} (h : PSnd w b win bg ua c us) (hn' : n' = us.length + 1) (hk : Kept (ua.map (·.block)).toList w w1)
    (ho : w1.ownsRow 0 107 4 (.slice ua' n' c') n' (cellsUn us ++ (unNew s).cells)) (hl : ∀ y, ua' = some y → ua = some y ∨ w.heap.size ≤ y.block) :
    PSnd (w1.setCell ⟨b, 2, none⟩ (.slice ua' n' c')) b win bg ua' c' (us ++ [unNew s]) := by
  subst hn'
  have hbS : b ∉ (ua.map (·.block)).toList := by
    cases ua with
    | none => simp
    | some y => simpa using fun e => h.nb y rfl e.symm
  have hbl := h.hd.lt
  have hb' : ∀ y, ua' = some y → y.block ≠ b := fun y hy => by
    rcases hl y hy with h1 | h1
    · exact h.nb y h1
    · omega
  have hlen : (us ++ [unNew s]).length = us.length + 1 := by simp
  have hkb : Kept [b] w1 (w1.setCell ⟨b, 2, none⟩ (.slice ua' (us.length + 1) c')) := kept_setCell _ _ _ _
  refine ⟨?_, ?_, fun i hi => ?_, hb', fun i hi g hg => ?_, fun i j hi hj g hg hg' => ?_⟩
  · rw [hlen]
    exact (h.hd.kept hk hbS).setCell (o := 2) _
  · rw [hlen, cellsUn_app]
    have := keptRow ho hkb (fun g hg => by
      cases ua' with
      | none => simp [Value.ownBlock] at hg
      | some y =>
        simp [Value.ownBlock] at hg
        subst hg
        simpa using hb' y rfl)
    rw [show cellsUn [unNew s] = (unNew s).cells by simp [cellsUn]]
    exact this
  · rw [hlen] at hi
    by_cases e : i = us.length
    · subst e
      rw [getD_app2]
      exact OwnSp.nil _
    · rw [getD_app1 (by omega)]
      refine ((h.ag i (by omega)).kept hk (fun g hg => ?_)).kept hkb (fun g hg => ?_)
      · have := (h.na i (by omega) g hg).2
        cases ua with
        | none => simp
        | some y => simpa using this y rfl
      · simpa using (h.na i (by omega) g hg).1
  · rw [hlen] at hi
    by_cases e : i = us.length
    · subst e
      rw [getD_app2] at hg
      simp [unNew, Value.ownBlock] at hg
    · rw [getD_app1 (by omega)] at hg
      refine ⟨(h.na i (by omega) g hg).1, fun y hy => ?_⟩
      rcases hl y hy with h1 | h1
      · exact (h.na i (by omega) g hg).2 y h1
      · have := (h.ag i (by omega)).lt hg
        omega
  · rw [hlen] at hi hj
    by_cases e : i = us.length
    · subst e
      rw [getD_app2] at hg
      simp [unNew, Value.ownBlock] at hg
    · by_cases e' : j = us.length
      · subst e'
        rw [getD_app2] at hg'
        simp [unNew, Value.ownBlock] at hg'
      · rw [getD_app1 (by omega)] at hg hg'
        exact h.nn i j (by omega) (by omega) g hg hg'
def SubPost (w : World) (b win bg : Nat) (ua : Option Addr) (us : List UnP) (s : ByteArray) : Ending → World → Prop := fun e w' => e = .returned (.int .i64 0) ∧ Kept (sndF b ua us) w w' ∧ ∃ ua' c', PSnd w' b win bg ua' c' (us ++ [unNew s]) ∧ ∀ y, ua' = some y → ua = some y ∨ w.heap.size ≤ y.block
set_option maxRecDepth 100000 in
set_option maxHeartbeats 1000000 in
theorem submit_good {w : World} {b win bg : Nat} {ua : Option Addr} {c : Nat} {us : List UnP} {s : ByteArray} (h : PSnd w b win bg ua c us) (hl : us.length ≤ 1000000) (h0 : 0 < s.size) (h1 : s.size ≤ 1500) (h2 : waitN us < 64) :
    Calls Try.prog 14 #[.pointer (some ⟨b, 0, none⟩), .string s] w (SubPost w b win bg ua us s) := by
  obtain ⟨-, -, c2⟩ := h.head
  have hwt := waiting_any h (by omega)
  have hf2 := h.hd.free 2
  have hbl := h.hd.lt
  obtain ⟨i0, hi0, hz0, hz1, hz2⟩ := info_parts Try.infoSd
  have hs0 : s.toList.isEmpty = false := emp_falseR (by omega)
  have hA := at_alloc w 107 [.string s, .int .i64 0, .slice none 0 0, .bool false]
  have hown : (w.alloc (.cells #[.string s, .int .i64 0, .slice none 0 0, .bool false] 107)).ownsRow 0 107 4 (.slice ua us.length c) us.length (cellsUn us) := World.ownsRow.alloc h.own _
  have hsrc : ∀ (k : Nat) u, (unNew s).cells[k]? = some u → (w.alloc (.cells #[.string s, .int .i64 0, .slice none 0 0, .bool false] 107)).cell? ⟨w.heap.size, k, none⟩ = some u := fun k u hu => by rw [hA.cell]; exact hu
  have hone : ∀ u ∈ (unNew s).cells, u.oneCell' = true := by
    intro u hu
    simp [unNew, UnP.cells] at hu
    rcases hu with rfl | rfl | rfl | rfl <;> rfl
  have hadr : ∀ y, ua = some y → ∃ g, y = ⟨g, 0, none⟩ := fun y hy => by obtain ⟨g, e, _⟩ := h.addr hy; exact ⟨g, e⟩
  have hF : ∀ v' w', w'.ownsRow 0 107 4 v' (us.length + 1) (cellsUn us ++ (unNew s).cells) → (w.alloc (.cells #[.string s, .int .i64 0, .slice none 0 0, .bool false] 107)).grownBy w' (Value.slice ua us.length c).ownBlock → (v'.ownBlock = (Value.slice ua us.length c).ownBlock ∨ v'.ownBlock = some (w.alloc (.cells #[.string s, .int .i64 0, .slice none 0 0, .bool false] 107)).heap.size) →
      ∃ ua' c', v' = .slice ua' (us.length + 1) c' ∧ w'.cell? ⟨b, 2, none⟩ = some (.slice ua us.length c) ∧ w'.frozen? ⟨b, 2, none⟩ = false ∧ SubPost w b win bg ua us s (.returned (.int .i64 0)) (w'.setCell ⟨b, 2, none⟩ (.slice ua' (us.length + 1) c')) := fun v' w' g1 g2 g3 => by
    obtain ⟨ua', c', rfl, -, -, hx⟩ := row_shape g1
    have hob : (Value.slice ua us.length c).ownBlock.toList = (ua.map (·.block)).toList := by
      cases ua with
      | none => rfl
      | some y => rfl
    have hk : Kept (ua.map (·.block)).toList w w' := by
      rw [← hob]
      exact ((Kept.refl _ w).alloc _).trans (Kept.grownR g2)
    have hbS : b ∉ (ua.map (·.block)).toList := by
      cases ua with
      | none => simp
      | some y => simpa using fun e => h.nb y rfl e.symm
    have hl' : ∀ y, ua' = some y → ua = some y ∨ w.heap.size ≤ y.block := fun y hy => by
      obtain ⟨g, rfl, h5⟩ := hx y hy
      rcases g3 with g3 | g3
      · rw [h5] at g3
        cases ua with
        | none => simp [Value.ownBlock] at g3
        | some y' =>
          obtain ⟨g', rfl⟩ := hadr y' rfl
          simp [Value.ownBlock] at g3
          subst g3
          exact .inl rfl
      · rw [h5] at g3
        simp at g3
        exact .inr (by show w.heap.size ≤ g; omega)
    refine ⟨ua', c', rfl, keptCellQ hk c2 hbS, keptFree hk hf2 hbl hbS, rfl, ?_, ua', c', h.app rfl hk g1 hl', hl'⟩
    refine (hk.wider (fun x hx' => ?_)).trans ((kept_setCell w' b 2 _).wider (fun x hx' => ?_))
    · exact List.mem_cons_of_mem _ (List.mem_append_left _ hx')
    · rw [List.mem_singleton] at hx'
      rw [hx']
      exact sndF_b _ _ _
  have d2 : decide (1500 < (s.size : Int)) = false := decide_eq_false (by omega)
  have d3 : decide ((64 : Int) ≤ ((waitN us : Nat) : Int)) = false := decide_eq_false (by omega)
  have HF := hid hF
  have HS := hid hsrc
  have HO := hid hown
  have HON := hid hone
  generalize waitN us = q at *
  obtain ⟨N, hN⟩ : ∃ N, N = us.length := ⟨_, rfl⟩
  rw [← hN] at c2
  rw [← hN] at HF HO hl
  have hlm : N + 1 ≤ maxLen := by unfold maxLen; omega
  have hln : (N + 1) * 56 ≤ 140737488355328 := by omega
  have HLM := hid hlm
  have HLN := hid hln
  have HI := hid hi0
  have HZ0 := hid hz0
  have HZ1 := hid hz1
  have HZ2 := hid hz2
  clear h hF hsrc hown hone hA hN hadr hlm hln hi0 hz0 hz1 hz2
  go_enter Try.func14, Try.ntmps14
  go_wp2_with (first
    | (go_at_call 24; refine hwt.mono ?_; rintro e w1 ⟨rfl, rfl⟩)
    | (at_builtin; refine wpList_pushR 0 _ Try.underlying98 HI.out HZ0.out HZ1.out HZ2.out rfl (by decide) HO.out rfl _ _ rfl rfl rfl rfl HS.out HON.out HLM.out HLN.out (Nat.zero_le _) ?_; intro v7 w7 ho7 hg7 hl7; obtain ⟨ua', c', rfl, k2, kf, hp7⟩ := HF.out _ _ ho7 hg7 hl7; have HP7 := hid hp7; clear ho7 hg7 hl7 hp7))
  all_goals (go_ret; exact HP7.out)
end Go.Proofs.Ytbjgfoiikhbonaf
namespace Go.Proofs.Ytbjgfoiikhbonaf
open Go.ChangeShapes Go.WideShapes Go.ChangeAt Go.RowKit
/-- How many units ahead hold p. -/
def lead (p : UnP → Bool) (us : List UnP) : Nat := (us.takeWhile p).length
theorem lead_le (p : UnP → Bool) (us : List UnP) : lead p us ≤ us.length := by
  induction us with
  | nil => exact Nat.le_refl _
  | cons x us ih =>
    unfold lead at *
    rw [List.takeWhile_cons]
    split
    · simp only [List.length_cons]; omega
    · simp
theorem lead_in {p : UnP → Bool} : ∀ {us : List UnP} {k : Nat}, k < lead p us → p (us.getD k .zero) = true
  | [], k, h => by simp [lead] at h
  | x :: us, k, h => by
    unfold lead at h
    rw [List.takeWhile_cons] at h
    split at h
    · rename_i hp
      cases k with
      | zero => exact hp
      | succ k => exact lead_in (us := us) (k := k) (by unfold lead; simpa using h)
    · simp at h
theorem lead_at {p : UnP → Bool} : ∀ {us : List UnP}, lead p us < us.length → p (us.getD (lead p us) .zero) = false
  | [], h => by simp at h
  | x :: us, h => by
    unfold lead at *
    rw [List.takeWhile_cons] at h ⊢
    split at h
    · rename_i hp
      rw [if_pos hp]
      simp only [List.length_cons] at h ⊢
      exact lead_at (us := us) (by unfold lead; omega)
    · rename_i hp
      rw [if_neg hp]
      simpa using hp
theorem lead_eq {p : UnP → Bool} {us : List UnP} {k : Nat} (h1 : k ≤ us.length) (h2 : ∀ j, j < k → p (us.getD j .zero) = true) (h3 : k < us.length → p (us.getD k .zero) = false) : lead p us = k := by
  rcases Nat.lt_trichotomy (lead p us) k with h | h | h
  · have h4 := lead_at (p := p) (us := us) (by omega)
    rw [h2 _ h] at h4
    cases h4
  · exact h
  · have h4 := lead_in h
    rw [h3 (by have := lead_le p us; omega)] at h4
    cases h4
def sentP (x : UnP) : Bool := decide (0 < x.sent)
set_option maxHeartbeats 400000 in
theorem begun_any {w : World} {b win bg : Nat} {ua : Option Addr} {c : Nat} {us : List UnP} (h : PSnd w b win bg ua c us) (hl : us.length ≤ 70368744177664) :
    Calls Try.prog 65 #[.pointer (some ⟨b, 0, none⟩)] w fun e w' => e = .returned (.int .i64 ((lead sentP us : Nat) : Int)) ∧ w' = w := by
  obtain ⟨-, -, c2⟩ := h.head
  obtain ⟨N, hN⟩ : ∃ N, N = us.length := ⟨_, rfl⟩
  rw [← hN] at c2 hl
  have H := hid h
  have HN := hid hN
  clear h hN
  go_enter Try.func65, Try.ntmps65
  go_wp2_with fail
  go_loopw [3] (fun vc wr => ∃ k : Nat, k ≤ N ∧ vc = .int .i64 k ∧ Hid (∀ j, j < k → sentP (us.getD j .zero) = true) ∧ Hid (wr = w)) (fun vc _ => N - (intOf vc).toNat)
  case atStart => exact ⟨0, by omega, rfl, hid (fun j hj => by omega), hid rfl⟩
  case round =>
    obtain ⟨k, hk, rfl, HJ, hw⟩ := hrel
    have hw := hw.out
    subst hw
    by_cases hkn : k < N
    · obtain ⟨g, rfl, -, hu⟩ := H.out.un (i := k) (by rw [← HN.out]; exact hkn)
      have c1 := hu.c1
      have HS := hid (show sentP (us.getD k .zero) = decide (0 < (us.getD k .zero).sent) from rfl)
      clear hu
      generalize (us.getD k .zero).sent = st at *
      have d2 : decide ((k : Int) < (N : Int)) = true := decide_eq_true (by omega)
      by_cases hs : 0 < st
      · have d1 : decide ((0 : Int) < (st : Int)) = true := decide_eq_true (by omega)
        go_wp2_with fail
        refine ⟨⟨k + 1, by omega, by go_num, hid (fun j hj => ?_), by first | exact hid rfl | exact hid trivial⟩, by simp [intOf]; omega⟩
        rcases Nat.lt_or_ge j k with h' | h'
        · exact HJ.out j h'
        · rw [show j = k by omega, HS.out]
          exact decide_eq_true hs
      · have d1 : decide ((0 : Int) < (st : Int)) = false := decide_eq_false (by omega)
        have HL := hid (lead_eq (p := sentP) (us := us) (k := k) (by rw [← HN.out]; exact hk) HJ.out (fun _ => by rw [HS.out]; exact decide_eq_false hs))
        go_wp2_with fail
        go_ret
        exact ⟨by rw [HL.out]; rfl, rfl⟩
    · have hkN : k = N := by omega
      subst hkN
      have HL := hid (lead_eq (p := sentP) (us := us) (k := k) (by rw [← HN.out]; exact hk) HJ.out (fun h' => by rw [← HN.out] at h'; omega))
      clear hkn
      go_wp2_with fail
      go_ret
      exact ⟨by rw [HL.out]; rfl, rfl⟩
theorem getD_dropU {us : List UnP} {k i : Nat} : (us.drop k).getD i .zero = us.getD (k + i) .zero := by
  rw [List.getD_eq_getElem?_getD, List.getElem?_drop, ← List.getD_eq_getElem?_getD]
/-- The first units have gone. -/
theorem PSnd.drop {w w1 : World} {b win bg bg' c n' k : Nat} {ua : Option Addr} {us : List UnP} (h : PSnd w b win bg ua c us) (hk : k ≤ us.length) (hn' : n' = us.length - k) (hkp : Kept (ua.map (·.block)).toList w w1)
    (ho : w1.ownsRow 0 107 4 (.slice ua n' c) n' ((cellsUn us).drop (k * 4))) :
    PSnd ((w1.setCell ⟨b, 2, none⟩ (.slice ua n' c)).setCell ⟨b, 1, none⟩ (.int .i64 (bg' : Int))) b win bg' ua c (us.drop k) := by
  subst hn'
  have hbS : b ∉ (ua.map (·.block)).toList := by
    cases ua with
    | none => simp
    | some y => simpa using fun e => h.nb y rfl e.symm
  have hlen : (us.drop k).length = us.length - k := by simp
  have hkb : Kept [b] w1 ((w1.setCell ⟨b, 2, none⟩ (.slice ua (us.length - k) c)).setCell ⟨b, 1, none⟩ (.int .i64 (bg' : Int))) := ((Kept.refl _ _).setCell (by simp) _).setCell (by simp) _
  refine ⟨?_, ?_, fun i hi => ?_, h.nb, fun i hi g hg => ?_, fun i j hi hj g hg hg' => ?_⟩
  · rw [hlen]
    exact ((h.hd.kept hkp hbS).setCell (o := 2) (.slice ua (us.length - k) c)).setCell (o := 1) (.int .i64 (bg' : Int))
  · rw [hlen, ← cellsUn_drop]
    exact keptRow ho hkb (fun g hg => by
      cases ua with
      | none => simp [Value.ownBlock] at hg
      | some y =>
        simp [Value.ownBlock] at hg
        subst hg
        simpa using h.nb y rfl)
  · rw [hlen] at hi
    rw [getD_dropU]
    refine ((h.ag (k + i) (by omega)).kept hkp (fun g hg => ?_)).kept hkb (fun g hg => ?_)
    · have := (h.na (k + i) (by omega) g hg).2
      cases ua with
      | none => simp
      | some y => simpa using this y rfl
    · simpa using (h.na (k + i) (by omega) g hg).1
  · rw [hlen] at hi
    rw [getD_dropU] at hg
    exact h.na (k + i) (by omega) g hg
  · rw [hlen] at hi hj
    rw [getD_dropU] at hg hg'
    have := h.nn (k + i) (k + j) (by omega) (by omega) g hg hg'
    omega
def GoPost (w : World) (b win bg : Nat) (ua : Option Addr) (c : Nat) (us : List UnP) (k : Nat) : Ending → World → Prop := fun e w' => e = .returned (.tuple #[]) ∧ Kept (sndF b ua us) w w' ∧ PSnd w' b win ((bg + k) % 64) ua c (us.drop k)
theorem cellsUn_one {w : World} {b win bg : Nat} {ua : Option Addr} {c : Nat} {us : List UnP} (h : PSnd w b win bg ua c us) : ∀ u ∈ cellsUn us, u.oneCell' = true := by
  intro u hu
  simp only [cellsUn, List.mem_flatMap] at hu
  obtain ⟨x, hx, hu⟩ := hu
  obtain ⟨i, hi, rfl⟩ := List.mem_iff_getElem.1 hx
  have hag := h.ag i hi
  rw [List.getD_eq_getElem?_getD, List.getElem?_eq_getElem hi] at hag
  obtain ⟨a', c', e, -⟩ := hag.shape
  simp only [Option.getD_some] at e
  simp [UnP.cells] at hu
  rcases hu with rfl | rfl | rfl | rfl
  · rfl
  · rfl
  · rw [e]; rfl
  · rfl
set_option maxRecDepth 100000 in
set_option maxHeartbeats 1000000 in
theorem goOn_any {w : World} {b win bg : Nat} {ua : Option Addr} {c : Nat} {us : List UnP} (h : PSnd w b win bg ua c us) (hl : us.length ≤ 4000) (hbg : bg < 64) :
    Calls Try.prog 51 #[.pointer (some ⟨b, 0, none⟩)] w (GoPost w b win bg ua c us (lead (·.dn) us)) := by
  obtain ⟨-, c1, c2⟩ := h.head
  obtain ⟨N, hN⟩ : ∃ N, N = us.length := ⟨_, rfl⟩
  rw [← hN] at c2 hl
  have H := hid h
  have HN := hid hN
  have C2 := hid c2
  clear h hN
  go_enter Try.func51, Try.ntmps51
  go_wp2_with fail
  go_loopw [2] (fun vc wr => ∃ k : Nat, k ≤ N ∧ vc = .int .i64 k ∧ Hid (∀ j, j < k → (us.getD j .zero).dn = true) ∧ Hid (wr = w)) (fun vc _ => N - (intOf vc).toNat)
  case atStart => exact ⟨0, by omega, rfl, hid (fun j hj => by omega), hid rfl⟩
  case round =>
    obtain ⟨k, hk, rfl, HJ, hw⟩ := hrel
    have hw := hw.out
    subst hw
    go_upto_region 1 with fail
    go_cut [19] from 3 to 21 (fun t wx => t = .bool (decide (k < N ∧ (us.getD k .zero).dn = true)) ∧ wx = wr)
    case first =>
      by_cases hkn : k < N
      · obtain ⟨g, rfl, -, hu⟩ := H.out.un (i := k) (by rw [← HN.out]; exact hkn)
        have c3 := hu.c3
        clear hu
        have d2 : decide ((k : Int) < (N : Int)) = true := decide_eq_true (by omega)
        generalize (us.getD k .zero).dn = D at *
        have hd := hid (show decide (k < N ∧ D = true) = D by simp [hkn])
        go_wp2
        go_meet
        exact ⟨by rw [hd.out], rfl⟩
      · have hkN : k = N := by omega
        subst hkN
        have hd := hid (show decide (k < k ∧ (us.getD k .zero).dn = true) = false from decide_eq_false (fun h => hkn h.1))
        clear hkn
        go_wp2
        go_meet
        exact ⟨by rw [hd.out], rfl⟩
    case rest =>
      obtain ⟨rfl, hwx⟩ := hcut
      subst hwx
      by_cases hgo : k < N ∧ (us.getD k .zero).dn = true
      · have hd : decide (k < N ∧ (us.getD k .zero).dn = true) = true := decide_eq_true hgo
        rw [hd]
        have HG := hid hgo
        have hkN : k < N := hgo.1
        clear hgo hd
        go_wp2_with fail
        refine ⟨⟨k + 1, by omega, by go_num, hid (fun j hj => ?_), by first | exact hid rfl | exact hid trivial⟩, by simp [intOf]; omega⟩
        rcases Nat.lt_or_ge j k with h' | h'
        · exact HJ.out j h'
        · rw [show j = k by omega]
          exact HG.out.2
      · have hd : decide (k < N ∧ (us.getD k .zero).dn = true) = false := decide_eq_false hgo
        rw [hd]
        have HL := hid (lead_eq (p := (·.dn)) (us := us) (k := k) (by rw [← HN.out]; exact hk) HJ.out (fun h' => by
          rw [← HN.out] at h'
          exact Bool.eq_false_iff.2 fun h2 => hgo ⟨h', h2⟩))
        have hdel := deleteSd_any H.out.own (cellsUn_one H.out) (j := k) (by rw [← HN.out]; exact hk)
        have hob : (Value.slice ua us.length c).ownBlock.toList = (ua.map (·.block)).toList := by
          cases ua with
          | none => rfl
          | some y => rfl
        rw [hob, ← HN.out] at hdel
        have hbS : b ∉ (ua.map (·.block)).toList := by
          cases ua with
          | none => simp
          | some y => simpa using fun e => H.out.nb y rfl e.symm
        have hbl := H.out.hd.lt
        have hf1 := H.out.hd.free 1
        have hf2 := H.out.hd.free 2
        have hF : ∀ w1, Kept (ua.map (·.block)).toList wc w1 → w1.cell? ⟨b, 1, none⟩ = some (.int .i64 (bg : Int)) ∧ w1.cell? ⟨b, 2, none⟩ = some (.slice ua N c) ∧ w1.frozen? ⟨b, 1, none⟩ = false ∧ w1.frozen? ⟨b, 2, none⟩ = false := fun w1 hk1 => ⟨keptCellQ hk1 c1 hbS, keptCellQ hk1 C2.out hbS, keptFree hk1 hf1 hbl hbS, keptFree hk1 hf2 hbl hbS⟩
        have hbh := fun W => behind_any (n := bg) (k := k) W hbg (by omega)
        have HF := hid hF
        have HBS := hid hbS
        generalize hM : (bg + k) % 64 = M at *
        have HM := hid hM
        clear hgo hd hF hob hf1 hf2 hM
        go_wp2_with (first
          | (go_at_call 67; refine hdel.mono ?_; rintro e w1 ⟨rfl, ho1, hk1⟩; obtain ⟨s1, s2, s3, s4⟩ := HF.out _ hk1; have HO1 := hid ho1; have HK1 := hid hk1; clear ho1 hk1)
          | (go_at_call 53; refine (hbh _).mono ?_; rintro e w2 ⟨rfl, rfl⟩))
        go_end0
        refine ⟨rfl, ?_, ?_⟩
        · refine (HK1.out.wider (fun x hx => ?_)).trans (Kept.wider (((Kept.refl [b] _).setCell (by simp) _).setCell (by simp) _) (fun x hx => ?_))
          · exact List.mem_cons_of_mem _ (List.mem_append_left _ hx)
          · rw [List.mem_singleton] at hx
            rw [hx]
            exact sndF_b _ _ _
        · rw [HL.out, HM.out]
          exact H.out.drop (by rw [← HN.out]; exact hk) (by rw [HN.out]) HK1.out HO1.out
end Go.Proofs.Ytbjgfoiikhbonaf
