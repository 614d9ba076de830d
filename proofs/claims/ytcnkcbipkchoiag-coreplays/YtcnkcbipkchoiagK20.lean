import Derived.Test.YtcnkcbipkchoiagK16
import Derived.Test.YtcnkcbipkchoiagK18
import Derived.Test.YtcnkcbipkchoiagK19
namespace Go.Proofs.Ytcnkcbipkchoiag
open Go.ChangeShapes Go.WideShapes Go.ChangeAt Go.RowKit
def shutN (k : Int) (i : Nat) (ls : List LnM) : List LnM := shutL k (ls.take i) ++ ls.drop i
theorem shutN_zero (k : Int) (ls : List LnM) : shutN k 0 ls = ls := by simp [shutN, shutL]
theorem shutN_len (k : Int) (i : Nat) (ls : List LnM) : (shutN k i ls).length = ls.length := by
  unfold shutN
  rw [List.length_append, shutL_len, ← List.length_append, List.take_append_drop]
theorem shutN_all {k : Int} {i : Nat} {ls : List LnM} (h : ls.length ≤ i) : shutN k i ls = shutL k ls := by
  unfold shutN
  rw [List.take_of_length_le h, List.drop_eq_nil_of_le h, List.append_nil]
theorem shutN_get {k : Int} {i j : Nat} {ls : List LnM} (hj : j < ls.length) : (shutN k i ls).getD j .zero = if j < i ∧ (ls.getD j .zero).who = k then { ls.getD j .zero with shut := true } else ls.getD j .zero := by
  unfold shutN
  by_cases h : j < i
  · have h2 : j < (ls.take i).length := by rw [List.length_take]; omega
    rw [List.getD_eq_getElem?_getD, List.getElem?_append_left (by rw [shutL_len]; exact h2), ← List.getD_eq_getElem?_getD, shutL_at h2]
    have e : (ls.take i).getD j .zero = ls.getD j .zero := by rw [List.getD_eq_getElem?_getD, List.getElem?_take_of_lt h, ← List.getD_eq_getElem?_getD]
    rw [e]
    by_cases hw : (ls.getD j .zero).who = k
    · rw [if_pos hw, if_pos ⟨h, hw⟩]
    · rw [if_neg hw, if_neg (fun h => hw h.2)]
  · have h2 : (shutL k (ls.take i)).length ≤ j := by rw [shutL_len, List.length_take]; omega
    rw [if_neg (fun h' => h h'.1), List.getD_eq_getElem?_getD, List.getElem?_append_right h2, List.getElem?_drop, shutL_len, List.length_take, show i + (j - min i ls.length) = j by omega, ← List.getD_eq_getElem?_getD]
theorem ext_getD {a b : List LnM} (hl : a.length = b.length) (h : ∀ j, j < a.length → a.getD j .zero = b.getD j .zero) : a = b := by
  refine List.ext_getElem hl fun j h1 h2 => ?_
  have := h j h1
  rwa [List.getD_eq_getElem?_getD, List.getD_eq_getElem?_getD, List.getElem?_eq_getElem h1, List.getElem?_eq_getElem h2] at this
theorem shutN_hit {k : Int} {i : Nat} {ls : List LnM} (hi : i < ls.length) (hw : (ls.getD i .zero).who = k) : shutN k (i + 1) ls = (shutN k i ls).set i { ls.getD i .zero with shut := true } := by
  refine ext_getD (by rw [List.length_set, shutN_len, shutN_len]) fun j hj => ?_
  rw [shutN_len] at hj
  rw [shutN_get hj]
  by_cases e : i = j
  · subst e
    rw [getD_setLS (by rw [shutN_len]; exact hi), if_pos ⟨by omega, hw⟩]
  · rw [getD_setLN e, shutN_get hj]
    by_cases h : (ls.getD j .zero).who = k
    · by_cases h2 : j < i
      · rw [if_pos ⟨by omega, h⟩, if_pos ⟨h2, h⟩]
      · rw [if_neg (fun h => by omega), if_neg (fun h => by omega)]
    · rw [if_neg (fun h' => h h'.2), if_neg (fun h' => h h'.2)]
theorem shutN_miss {k : Int} {i : Nat} {ls : List LnM} (hw : (ls.getD i .zero).who ≠ k) : shutN k (i + 1) ls = shutN k i ls := by
  refine ext_getD (by rw [shutN_len, shutN_len]) fun j hj => ?_
  rw [shutN_len] at hj
  rw [shutN_get hj, shutN_get hj]
  by_cases h : (ls.getD j .zero).who = k
  · have : j ≠ i := fun e => hw (by rw [← e]; exact h)
    by_cases h2 : j < i
    · rw [if_pos ⟨by omega, h⟩, if_pos ⟨h2, h⟩]
    · rw [if_neg (fun h => by omega), if_neg (fun h => by omega)]
  · rw [if_neg (fun h' => h h'.2), if_neg (fun h' => h h'.2)]
set_option maxRecDepth 100000 in
set_option maxHeartbeats 4000000 in
theorem rleave_any {w : World} {r : Nat} {F : List Nat} {m : CoM} {n : Nat} {k : Int} (h : RCo w r F m n) (hn : n ≤ manyN) : Calls Try.prog 67 #[ptrV r, .int .i64 k] w (StepR w r F (m.leave k) n) := by
  obtain ⟨la, lc, pe, rfl, h⟩ := h
  have hkn := rknows_any h k
  cases hp : m.per k with
  | none =>
    rw [hp] at hkn
    have hj : m.leave k = ⟨m, 12⟩ := by unfold CoM.leave; rw [hp]
    rw [hj]
    have HP := hid (StepR.bad (E := 12) h (Kept.refl _ w))
    generalize StepR w r (rfF r la) ⟨m, 12⟩ n = P at *
    clear h hp hj
    unfold ptrV at *
    go_enter Try.func67, Try.ntmps67
    go_wp2_with (go_at_call 76; refine hkn.mono ?_; rintro e w1 ⟨rfl, rfl⟩)
    exact HP.out
  | some p =>
    rw [hp] at hkn
    obtain ⟨q1, q2, q3, q4, q5, q6, q7⟩ := h.ok.pr k p hp
    obtain ⟨kn, ek⟩ : ∃ kn : Nat, k = (kn : Int) := ⟨k.toNat, by omega⟩
    have hk17 : kn < 17 := by omega
    have hC := h.pec hk17
    have hr := h.rl kn (by omega) (by omega)
    rw [← ek, hp] at hr
    have c1 := hC.c1
    have f1 := hC.fr (1 + kn * 5 + 1)
    rw [hr.2.1] at c1
    by_cases hs : p.st = 0
    · rw [hs] at c1
      have hj : m.leave k = ⟨m, 9⟩ := by unfold CoM.leave; rw [hp]; simp [tNot, hs]
      rw [hj]
      have HP := hid (StepR.bad (E := 9) h (Kept.refl _ w))
      generalize StepR w r (rfF r la) ⟨m, 9⟩ n = P at *
      replace c1 : w.cell? ⟨r, 1 + kn * 5 + 1, none⟩ = some (.bool false) := c1
      subst ek
      clear h hp hj hC hr
      unfold ptrV at *
      go_enter Try.func67, Try.ntmps67
      go_wp2_with (go_at_call 76; refine hkn.mono ?_; rintro e w1 ⟨rfl, rfl⟩)
      exact HP.out
    · replace c1 : w.cell? ⟨r, 1 + kn * 5 + 1, none⟩ = some (.bool true) := by rw [c1]; simp [hs]
      have hok := h.ok.leave k
      have hj : m.leave k = ⟨{ m.put (kn : Int) ⟨p.quota, 0, 0⟩ with loans := shutL (kn : Int) m.loans }, 0⟩ := by
        have ht : tNot 0 p = true := by simp [tNot, hs]
        unfold CoM.leave
        rw [hp]
        simp only [ht, if_true]
        rw [ek]
      have hd := h.hd
      rw [← updPe_self pe kn] at hd
      have d1 := hd.field (f := 1) (v := .bool false) (x := ⟨(pe kn).jo, false, (pe kn).sl, (pe kn).ce, (pe kn).qu⟩) hk17 (by omega) rfl (PeP.fields (by simp) (by simp) (by simp) (by simp) (by simp))
      have hlen := h.ok.len
      have hk0 : Kept (rfF r la) w (w.setCell ⟨r, 1 + kn * 5 + 1, none⟩ (.bool false)) := Kept.setCell (p := ⟨r, 1 + kn * 5 + 1, none⟩) (Kept.refl _ w) (rfF_r r la) _
      have hln0 : (w.setCell ⟨r, 1 + kn * 5 + 1, none⟩ (.bool false)).ownsRow 0 147 5 (.slice la m.loans.length lc) m.loans.length (cellsLo m.loans) := keptRow h.ln (kept_setCell w r _ _) (fun g hg => by
        cases la with
        | none => simp [Value.ownBlock] at hg
        | some y =>
          obtain ⟨g', rfl, _⟩ := h.addr rfl
          simp [Value.ownBlock] at hg
          subst hg
          simpa using h.nb _ rfl)
      have HX : Hid (∀ wr, FnA 67 87 wr r (rcF (m.unit : Int) (updPe pe kn ⟨(pe kn).jo, false, (pe kn).sl, (pe kn).ce, (pe kn).qu⟩) (.slice la m.loans.length lc)) → wr.ownsRow 0 147 5 (.slice la m.loans.length lc) m.loans.length (cellsLo (shutL (kn : Int) m.loans)) → Kept (rfF r la) w wr → StepR w r (rfF r la) (m.leave k) n (.returned (.int .i64 0)) wr) := hid fun wr x1 x2 x3 => by
        rw [hj] at hok ⊢
        refine ⟨rfl, x3, _, ⟨la, lc, updPe pe kn ⟨(pe kn).jo, false, (pe kn).sl, (pe kn).ce, (pe kn).qu⟩, rfl, ?_, ?_, h.nb, fun j h1 h2 => ?_, hok⟩, fun _ hx => .inl hx⟩
        · show FnA _ 87 wr r (rcF (m.unit : Int) _ (.slice la (shutL (kn : Int) m.loans).length lc))
          rw [shutL_len]
          exact x1
        · show wr.ownsRow 0 _ 5 (.slice la (shutL (kn : Int) m.loans).length lc) (shutL (kn : Int) m.loans).length _
          rw [shutL_len]
          exact x2
        · show PeOk (if (j : Int) = (kn : Int) then _ else _) (updPe pe kn _ j)
          unfold updPe
          by_cases e : j = kn
          · rw [if_pos (by omega), if_pos e]
            exact ⟨hr.1, rfl, hr.2.2.1, fun h => absurd rfl h⟩
          · rw [if_neg (by omega), if_neg e]
            exact h.rl j h1 h2
      have hnb := h.nb
      generalize StepR w r (rfF r la) (m.leave k) n = P at *
      generalize hup : updPe pe kn ⟨(pe kn).jo, false, (pe kn).sl, (pe kn).ce, (pe kn).qu⟩ = pe' at *
      have hadr : ∀ y, la = some y → ∃ g, y = ⟨g, 0, none⟩ := fun y hy => by obtain ⟨g, e, _⟩ := h.addr hy; exact ⟨g, e⟩
      have HNB := hid hnb
      have HD0 := hid (⟨d1, hln0, hk0⟩ : FnA 67 87 (w.setCell ⟨r, 1 + kn * 5 + 1, none⟩ (.bool false)) r (rcF (m.unit : Int) pe' (.slice la m.loans.length lc)) ∧ (w.setCell ⟨r, 1 + kn * 5 + 1, none⟩ (.bool false)).ownsRow 0 147 5 (.slice la m.loans.length lc) m.loans.length (cellsLo m.loans) ∧ Kept (rfF r la) w (w.setCell ⟨r, 1 + kn * 5 + 1, none⟩ (.bool false)))
      have hmany : m.loans.length ≤ 8796093022208 := by unfold manyN at hn; omega
      subst ek
      clear h hp hj hC hr hd d1 hln0 hk0 hok hup hnb hlen hn q7
      generalize m.loans = ls at *
      generalize m.unit = U at *
      generalize hLL : ls.length = LL at *
      have HLL := hid hLL
      clear hLL
      unfold ptrV at *
      go_enter Try.func67, Try.ntmps67
      go_wp2_with (go_at_call 76; refine hkn.mono ?_; rintro e w1 ⟨rfl, rfl⟩)
      go_loopw [5] (fun vi wr => ∃ i : Nat, i ≤ LL ∧ vi = .int .i64 (i : Int) ∧ Hid (FnA 67 87 wr r (rcF (U : Int) pe' (.slice la LL lc)) ∧ wr.ownsRow 0 147 5 (.slice la LL lc) LL (cellsLo (shutN (kn : Int) i ls)) ∧ Kept (rfF r la) w1 wr)) (fun vi _ => LL - (intOf vi).toNat)
      case atStart =>
        refine ⟨0, by omega, rfl, hid ?_⟩
        rw [shutN_zero]
        exact HD0.out
      case round =>
        clear HD0 hkn c1 f1
        obtain ⟨i, hi, rfl, HI⟩ := hrel
        obtain ⟨hfn, hrow, hkp⟩ := HI.out
        have c86 : wr.cell? ⟨r, 86, none⟩ = some (.slice la LL lc) := hfn.cell (j := 86) (by omega)
        by_cases hlt : i < LL
        · have hsl : (shutN (kn : Int) i ls).length = LL := by rw [shutN_len]; exact HLL.out
          obtain ⟨g, rfl, hC⟩ := rowLo_at hrow hsl.symm (i := i) (by rw [hsl]; exact hlt)
          have hgt : (shutN (kn : Int) i ls).getD i .zero = ls.getD i .zero := by rw [shutN_get (by rw [HLL.out]; exact hlt), if_neg (fun h => by omega)]
          rw [hgt] at hC
          have c0 := hC.c0
          have c4 := hC.c4
          have f4 := hC.fr (i * 5 + 4)
          have hgr : ¬ g = r := HNB.out _ rfl
          by_cases hw : (ls.getD i .zero).who = (kn : Int)
          · have e := shutN_hit (k := (kn : Int)) (i := i) (by rw [HLL.out]; exact hlt) hw
            have HPP : Hid (FnA 67 87 (wr.setCell ⟨g, i * 5 + 4, none⟩ (.bool true)) r (rcF (U : Int) pe' (.slice (some ⟨g, 0, none⟩) LL lc)) ∧ (wr.setCell ⟨g, i * 5 + 4, none⟩ (.bool true)).ownsRow 0 147 5 (.slice (some ⟨g, 0, none⟩) LL lc) LL (cellsLo (shutN (kn : Int) (i + 1) ls)) ∧ Kept (rfF r (some ⟨g, 0, none⟩)) w1 (wr.setCell ⟨g, i * 5 + 4, none⟩ (.bool true))) := hid (by
              refine ⟨At.setOther hfn _ _ (fun e => hgr e.symm), ?_, Kept.setCell (p := ⟨g, i * 5 + 4, none⟩) hkp (rfF_l (y := ⟨g, 0, none⟩) rfl) _⟩
              rw [e]
              exact rowLo_set hrow hsl.symm (by rw [hsl]; exact hlt) (by omega) (by rw [hgt]; rfl))
            rw [hw] at c0
            generalize ls.getD i .zero = x at *
            clear HI hfn hrow hkp hC e hgt hsl hw
            go_wp2_with fail
            go_roundw
            case rel => exact ⟨i + 1, by omega, by go_num, HPP⟩
            case measure => simp [intOf]; omega
          · have e := shutN_miss (k := (kn : Int)) (i := i) hw
            have HPP := HI
            rw [← e] at HPP
            generalize ls.getD i .zero = x at *
            clear HI hfn hrow hkp hC e hgt hsl
            go_wp2_with fail
            go_roundw
            case rel => exact ⟨i + 1, by omega, by go_num, HPP⟩
            case measure => simp [intOf]; omega
        · rw [shutN_all (by have := HLL.out; omega)] at hrow
          have hPP := HX.out wr hfn hrow hkp
          clear HI hfn hrow hkp HX
          go_wp2_with fail
          exact hPP
end Go.Proofs.Ytcnkcbipkchoiag
