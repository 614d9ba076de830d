import Derived.Test.YtplkmkbambbemadGreatDoorK04
import Derived.Test.YtplkmkbambbemadGreatDoorK02
import Derived.Maps.AppendAt
import Derived.Test.YtplkmkbambbemadGreatDoorK03
import Derived.Deep.SlicePairs
import Derived.Test.YtplkmkbambbemadGreatDoorK10
namespace Go.Proofs.YtplkmkbambbemadGreatDoor
open Go.ChangeShapes Go.WideShapes Go.ChangeAt Go.RowKit
/-- 'append(out, y)' of numbers as a step of a region that draws its order. -/
theorem step_pushI {W : World} {ops : Array Oper} {o : Oper} {a : Act} {K : Act → World → Prop} {Q : Exit → Act → World → Prop} {E : Prop} {v : Value} {L : List Int} (B : Nat) (w00 : World) (g : Nat) (y : Int) (hown : OwnI W B v L) (hgd : o.guard = none) (s x : Operand)
    (ho : o.op = .call { callee := .builtin .append, args := #[s, x], argTypes := #[23, 23] }) (hs : a.eval s = v) (hx : a.eval x = .slice (some ⟨g, 0, none⟩) 1 1) (hcell : W.cell? ⟨g, 0, none⟩ = some (.int .i64 y)) (hlen : L.length < 8796093022208) (hbel : Below B w00 W) (hB : B ≤ W.heap.size)
    (h : ∀ v' w', OwnI w' B v' (L ++ [y]) → Below B w00 w' → K (a.put o.dst v') w') : if Region.wanted o (yielded ops a.tmps) = true then Oper.wp Tryz.prog o a W K Q else E := by
  have hw : Region.wanted o (yielded ops a.tmps) = true := by simp [Region.wanted, hgd]
  rw [if_pos hw]
  obtain ⟨i0, hi, hz0, hz1, hz2⟩ := info_parts Tryz.info3
  refine wp_append_own W s x 23 ho B 3 i0 (.int .i64 0) 1 8 Tryz.underlying23 hi hz0 hz1 hz2 rfl (by decide) v _ _ hs hown ⟨g, 0, none⟩ 1 1 [.int .i64 y] hx rfl ?_ ?_ ?_ ?_ hB ?_
  · intro j u hj
    match j, hj with
    | 0, hj =>
      simp at hj
      subst hj
      simpa [Addr.add] using hcell
  · intro u hu; simp at hu; subst hu; rfl
  · unfold maxLen; omega
  · omega
  · intro v' w' h1 h2 _
    exact h v' w' (OwnI.snoc h1) (hbel.grown h2 hB (ownI_blocks hown))
theorem OwnI.cast {w : World} {B : Nat} {v : Value} {L L' : List Int} (h : OwnI w B v L) (e : L = L') : OwnI w B v L' := e ▸ h
theorem take_push {L : List Int} {i : Nat} (h : i < L.length) {x : Int} (hx : x = L.getD i 0) : L.take i ++ [x] = L.take (i + 1) := by
  rw [List.take_succ_eq_append_getElem h, hx]
  simp [List.getD, h]
/-- Numbers within a bound. -/
def Within (l : List Int) (K : Nat) : Prop := ∀ j, -(K : Int) ≤ l.getD j 0 ∧ l.getD j 0 ≤ K
theorem fI_bd {K : Nat} {a b : Int} (ha : -(K : Int) ≤ a ∧ a ≤ K) (hb : -(K : Int) ≤ b ∧ b ≤ K) : -(K : Int) ≤ fI a b ∧ fI a b ≤ K := by
  unfold fI absI
  split <;> split <;> split <;> omega
theorem gI_bd {K : Nat} {x a b : Int} (ha : -(K : Int) ≤ a ∧ a ≤ K) (hb : -(K : Int) ≤ b ∧ b ≤ K) : -((2 * K : Nat) : Int) ≤ gI x a b ∧ gI x a b ≤ (2 * K : Nat) := by
  unfold gI
  split <;> omega
theorem fL_length {a b : List Int} {h : Nat} (ha : a.length = h) (hb : b.length = h) : (fL a b).length = h := by simp [fL, ha, hb]
theorem fL_at {a b : List Int} {h : Nat} (ha : a.length = h) (hb : b.length = h) {j : Nat} (hj : j < h) : (fL a b).getD j 0 = fI (a.getD j 0) (b.getD j 0) := by
  simp [fL, List.getD, ha, hb, hj]
theorem gL_length : ∀ {x a b : List Int} {h : Nat}, x.length = h → a.length = h → b.length = h → (gL x a b).length = h
  | [], [], [], _, h, _, _ => h
  | [], _ :: _, _, _, h1, h2, _ => by subst h1; simp at h2
  | [], [], _ :: _, _, h1, _, h2 => by subst h1; simp at h2
  | _ :: _, [], _, _, h1, h2, _ => by subst h1; simp at h2
  | _ :: _, _ :: _, [], _, h1, _, h2 => by subst h1; simp at h2
  | x :: xs, a :: al, b :: bl, h, h1, h2, h3 => by
    subst h1
    have := gL_length (x := xs) (a := al) (b := bl) (h := xs.length) rfl (by simpa using h2) (by simpa using h3)
    simp [gL, this]
theorem gL_at : ∀ {x a b : List Int} {h : Nat}, x.length = h → a.length = h → b.length = h → ∀ {j : Nat}, j < h → (gL x a b).getD j 0 = gI (x.getD j 0) (a.getD j 0) (b.getD j 0)
  | [], _, _, _, h1, _, _, j, hj => by subst h1; simp at hj
  | _ :: _, [], _, _, h1, h2, _, _, _ => by subst h1; simp at h2
  | _ :: _, _ :: _, [], _, h1, _, h2, _, _ => by subst h1; simp at h2
  | x :: xs, a :: al, b :: bl, h, h1, h2, h3, 0, _ => by simp [gL]
  | x :: xs, a :: al, b :: bl, h, h1, h2, h3, j + 1, hj => by
    subst h1
    have := gL_at (x := xs) (a := al) (b := bl) (h := xs.length) rfl (by simpa using h2) (by simpa using h3) (j := j) (by simpa using hj)
    simpa [gL] using this
theorem getD_out {l : List Int} {j : Nat} (h : l.length ≤ j) : l.getD j 0 = 0 := by simp [List.getD, h]
theorem within_f {a b : List Int} {h K : Nat} (ha : a.length = h) (hb : b.length = h) (wa : Within a K) (wb : Within b K) : Within (fL a b) K := fun j => by
  rcases Nat.lt_or_ge j h with hj | hj
  · rw [fL_at ha hb hj]; exact fI_bd (wa j) (wb j)
  · rw [getD_out (by rw [fL_length ha hb]; exact hj)]; omega
theorem within_g {x a b : List Int} {h K : Nat} (hx : x.length = h) (ha : a.length = h) (hb : b.length = h) (wa : Within a K) (wb : Within b K) : Within (gL x a b) (2 * K) := fun j => by
  rcases Nat.lt_or_ge j h with hj | hj
  · rw [gL_at hx ha hb hj]; exact gI_bd (wa j) (wb j)
  · rw [getD_out (by rw [gL_length hx ha hb]; exact hj)]; omega
theorem getD_take {l : List Int} {h j : Nat} (hj : j < h) : (l.take h).getD j 0 = l.getD j 0 := by simp [List.getD, hj]
theorem getD_drop {l : List Int} {h j : Nat} : (l.drop h).getD j 0 = l.getD (h + j) 0 := by simp [List.getD]
theorem Within.take {l : List Int} {K : Nat} (h : Within l K) (n : Nat) : Within (l.take n) K := fun j => by
  rcases Nat.lt_or_ge j n with hj | hj
  · rw [getD_take hj]; exact h j
  · rw [getD_out (by simp; omega)]; omega
theorem Within.drop {l : List Int} {K : Nat} (h : Within l K) (n : Nat) : Within (l.drop n) K := fun j => by
  rw [getD_drop]; exact h _
set_option maxRecDepth 100000 in
set_option maxHeartbeats 4000000 in
theorem rsight_f (m : Nat) (ih : ∀ (l f : List Int) (a b : Option Addr) (n t c cf K : Nat) (w : World), Rd .i64 w a l → Rd .u8 w b f → l.length = n → n = 2 ^ m → n ≤ 512 → f.length = t → t < n → t ≤ cf → AllBits f → Within l K → K * n ≤ 1152921504606846976 →
      Calls Tryz.prog 121 #[.slice a n c, .slice b t cf] w fun e w' => e = .returned (.int .i64 (sightM m l f)) ∧ Below w.heap.size w w')
    (l f : List Int) (a b : Option Addr) (n h t c cf K : Nat) (w : World) (ha : Rd .i64 w a l) (hf : Rd .u8 w b f) (hl : l.length = n) (eh : h = 2 ^ m) (hnh : n = h + h) (h5 : n ≤ 512) (hft : f.length = t) (hth : t < h) (hcf : t ≤ cf) (bf : AllBits f) (hK : Within l K) (hKn : K * n ≤ 1152921504606846976) :
    Calls Tryz.prog 121 #[.slice a n c, .slice b t cf] w fun e w' => e = .returned (.int .i64 (sightM m (fL (l.take h) (l.drop h)) f)) ∧ Below w.heap.size w w' := by
  have h0 : 1 ≤ h := by omega
  have hK1 : K ≤ 1152921504606846976 := Nat.le_trans (Nat.le_mul_of_pos_right K (by omega)) hKn
  have hKh : K * h ≤ 1152921504606846976 := Nat.le_trans (Nat.mul_le_mul_left K (by omega)) hKn
  obtain ⟨b1, o1, rfl, hc1⟩ := ha.at (i := 0) (by omega)
  have l1 : (l.take h).length = h := by rw [List.length_take]; omega
  have l2 : (l.drop h).length = h := by rw [List.length_drop]; omega
  obtain ⟨L, eL⟩ : ∃ L, L = fL (l.take h) (l.drop h) := ⟨_, rfl⟩
  have LL := hid (show L.length = h by rw [eL]; exact fL_length l1 l2)
  have LA : Hid (∀ j, j < h → L.getD j 0 = fI (l.getD j 0) (l.getD (h + j) 0)) := by
    intro j hj
    rw [eL, fL_at l1 l2 hj, getD_take hj, getD_drop]
  have LW : Hid (Within L K) := by unfold Hid; rw [eL]; exact within_f l1 l2 (hK.take h) (hK.drop h)
  rw [← eL]
  have hq : (n : Int).tdiv 2 = (h : Int) := by rw [Int.tdiv_eq_ediv_of_nonneg (by omega)]; omega
  have hn1 : ((n : Int) == 1) = false := by simp; omega
  have hle : h ≤ n := by omega
  have HL := hid hl
  have HN := hid hnh
  have HE := hid eh
  have HF := hid hft
  have hn2 : h < n := by omega
  clear hl hnh eh hft l1 l2 eL hKn
  go_enter Tryz.func121, Tryz.ntmps121
  go_wp2
  go_loopw [6, 7] (fun v q wr => ∃ i : Nat, i ≤ h ∧ q = .int .i64 i ∧ OwnI wr w.heap.size v (L.take i) ∧ Below w.heap.size w wr) (fun _ q _ => h - (intOf q).toNat)
  case atStart => exact ⟨0, Nat.zero_le _, rfl, OwnI.nil _ _, Below.refl _ _⟩
  case round =>
    obtain ⟨i, hi, rfl, hown, hbel⟩ := hrel
    by_cases hlt : i < h
    · have g1 := (hbel.cell (World.block_lt_of_cell? w _ (hc1 i (by rw [HL.out]; omega)))).trans (hc1 i (by rw [HL.out]; omega))
      have g2 := (hbel.cell (World.block_lt_of_cell? w _ (hc1 (i + h) (by rw [HL.out, HN.out]; omega)))).trans (hc1 (i + h) (by rw [HL.out, HN.out]; omega))
      have b1' := hK i
      have b2' := hK (i + h)
      have HV := hid (LA.out i hlt)
      rw [Nat.add_comm h i] at HV
      have hil : i + h < n := by rw [HN.out]; omega
      have hin : i < n := by omega
      have HTL : Hid ((L.take i).length < 8796093022208) := by unfold Hid; rw [List.length_take]; omega
      have HI : Hid (i < L.length) := by unfold Hid; rw [LL.out]; exact hlt
      generalize l.getD i 0 = x at *
      generalize l.getD (i + h) 0 = y at *
      have hsz := hbel.size
      clear hc1
      by_cases cx : x < 0
      · by_cases cy : y < 0
        · by_cases cz : -y < -x
          · have HW : Hid (-y = L.getD i 0) := by unfold Hid; rw [HV.out]; unfold fI absI; (repeat' split) <;> omega
            clear HV
            go_wp2_with fail
            go_quiet (fail)
            have hown0 : OwnI (wr.drewN nq) w.heap.size u6 (L.take i) := hown
            have hbel0 := below_drewN hbel nq
            generalize wr.drewN nq = wq at *
            clear hown hbel g1 g2
            go_wp2_with (first | (at_builtin; refine wpList_pushI w.heap.size w _ hown0 rfl _ _ rfl rfl rfl HTL.out hbel0 hbel0.size ?_))
            intro v' w1 hown' hbel'
            replace hown' := hown'.cast (take_push HI.out (by first | exact HW.out | (rw [← HW.out]; omega)))
            clear hown0 hbel0
            go_wp2
            go_roundw
            case rel => exact ⟨i + 1, by omega, by go_num, hown', hbel'⟩
            case measure => simp [intOf]; omega
          · have HW : Hid (-x = L.getD i 0) := by unfold Hid; rw [HV.out]; unfold fI absI; (repeat' split) <;> omega
            clear HV
            go_wp2_with fail
            go_quiet (fail)
            have hown0 : OwnI (wr.drewN nq) w.heap.size u6 (L.take i) := hown
            have hbel0 := below_drewN hbel nq
            generalize wr.drewN nq = wq at *
            clear hown hbel g1 g2
            go_wp2_with (first | (at_builtin; refine wpList_pushI w.heap.size w _ hown0 rfl _ _ rfl rfl rfl HTL.out hbel0 hbel0.size ?_))
            intro v' w1 hown' hbel'
            replace hown' := hown'.cast (take_push HI.out (by first | exact HW.out | (rw [← HW.out]; omega)))
            clear hown0 hbel0
            go_wp2
            go_roundw
            case rel => exact ⟨i + 1, by omega, by go_num, hown', hbel'⟩
            case measure => simp [intOf]; omega
        · by_cases cz : y < -x
          · have HW : Hid (-(y) = L.getD i 0) := by unfold Hid; rw [HV.out]; unfold fI absI; (repeat' split) <;> omega
            clear HV
            go_wp2_with fail
            go_quiet (fail)
            have hown0 : OwnI (wr.drewN nq) w.heap.size u6 (L.take i) := hown
            have hbel0 := below_drewN hbel nq
            generalize wr.drewN nq = wq at *
            clear hown hbel g1 g2
            go_wp2_with (first | (at_builtin; refine wpList_pushI w.heap.size w _ hown0 rfl _ _ rfl rfl rfl HTL.out hbel0 hbel0.size ?_))
            intro v' w1 hown' hbel'
            replace hown' := hown'.cast (take_push HI.out (by first | exact HW.out | (rw [← HW.out]; omega)))
            clear hown0 hbel0
            go_wp2
            go_roundw
            case rel => exact ⟨i + 1, by omega, by go_num, hown', hbel'⟩
            case measure => simp [intOf]; omega
          · have HW : Hid (-(-x) = L.getD i 0) := by unfold Hid; rw [HV.out]; unfold fI absI; (repeat' split) <;> omega
            clear HV
            go_wp2_with fail
            go_quiet (fail)
            have hown0 : OwnI (wr.drewN nq) w.heap.size u6 (L.take i) := hown
            have hbel0 := below_drewN hbel nq
            generalize wr.drewN nq = wq at *
            clear hown hbel g1 g2
            go_wp2_with (first | (at_builtin; refine wpList_pushI w.heap.size w _ hown0 rfl _ _ rfl rfl rfl HTL.out hbel0 hbel0.size ?_))
            intro v' w1 hown' hbel'
            replace hown' := hown'.cast (take_push HI.out (by first | exact HW.out | (rw [← HW.out]; omega)))
            clear hown0 hbel0
            go_wp2
            go_roundw
            case rel => exact ⟨i + 1, by omega, by go_num, hown', hbel'⟩
            case measure => simp [intOf]; omega
      · by_cases cy : y < 0
        · by_cases cz : -y < x
          · have HW : Hid (-(-y) = L.getD i 0) := by unfold Hid; rw [HV.out]; unfold fI absI; (repeat' split) <;> omega
            clear HV
            go_wp2_with fail
            go_quiet (fail)
            have hown0 : OwnI (wr.drewN nq) w.heap.size u6 (L.take i) := hown
            have hbel0 := below_drewN hbel nq
            generalize wr.drewN nq = wq at *
            clear hown hbel g1 g2
            go_wp2_with (first | (at_builtin; refine wpList_pushI w.heap.size w _ hown0 rfl _ _ rfl rfl rfl HTL.out hbel0 hbel0.size ?_))
            intro v' w1 hown' hbel'
            replace hown' := hown'.cast (take_push HI.out (by first | exact HW.out | (rw [← HW.out]; omega)))
            clear hown0 hbel0
            go_wp2
            go_roundw
            case rel => exact ⟨i + 1, by omega, by go_num, hown', hbel'⟩
            case measure => simp [intOf]; omega
          · have HW : Hid (-(x) = L.getD i 0) := by unfold Hid; rw [HV.out]; unfold fI absI; (repeat' split) <;> omega
            clear HV
            go_wp2_with fail
            go_quiet (fail)
            have hown0 : OwnI (wr.drewN nq) w.heap.size u6 (L.take i) := hown
            have hbel0 := below_drewN hbel nq
            generalize wr.drewN nq = wq at *
            clear hown hbel g1 g2
            go_wp2_with (first | (at_builtin; refine wpList_pushI w.heap.size w _ hown0 rfl _ _ rfl rfl rfl HTL.out hbel0 hbel0.size ?_))
            intro v' w1 hown' hbel'
            replace hown' := hown'.cast (take_push HI.out (by first | exact HW.out | (rw [← HW.out]; omega)))
            clear hown0 hbel0
            go_wp2
            go_roundw
            case rel => exact ⟨i + 1, by omega, by go_num, hown', hbel'⟩
            case measure => simp [intOf]; omega
        · by_cases cz : y < x
          · have HW : Hid (y = L.getD i 0) := by unfold Hid; rw [HV.out]; unfold fI absI; (repeat' split) <;> omega
            clear HV
            go_wp2_with fail
            go_quiet (fail)
            have hown0 : OwnI (wr.drewN nq) w.heap.size u6 (L.take i) := hown
            have hbel0 := below_drewN hbel nq
            generalize wr.drewN nq = wq at *
            clear hown hbel g1 g2
            go_wp2_with (first | (at_builtin; refine wpList_pushI w.heap.size w _ hown0 rfl _ _ rfl rfl rfl HTL.out hbel0 hbel0.size ?_))
            intro v' w1 hown' hbel'
            replace hown' := hown'.cast (take_push HI.out (by first | exact HW.out | (rw [← HW.out]; omega)))
            clear hown0 hbel0
            go_wp2
            go_roundw
            case rel => exact ⟨i + 1, by omega, by go_num, hown', hbel'⟩
            case measure => simp [intOf]; omega
          · have HW : Hid (x = L.getD i 0) := by unfold Hid; rw [HV.out]; unfold fI absI; (repeat' split) <;> omega
            clear HV
            go_wp2_with fail
            go_quiet (fail)
            have hown0 : OwnI (wr.drewN nq) w.heap.size u6 (L.take i) := hown
            have hbel0 := below_drewN hbel nq
            generalize wr.drewN nq = wq at *
            clear hown hbel g1 g2
            go_wp2_with (first | (at_builtin; refine wpList_pushI w.heap.size w _ hown0 rfl _ _ rfl rfl rfl HTL.out hbel0 hbel0.size ?_))
            intro v' w1 hown' hbel'
            replace hown' := hown'.cast (take_push HI.out (by first | exact HW.out | (rw [← HW.out]; omega)))
            clear hown0 hbel0
            go_wp2
            go_roundw
            case rel => exact ⟨i + 1, by omega, by go_num, hown', hbel'⟩
            case measure => simp [intOf]; omega
    · obtain rfl : i = h := by omega
      have HTA : Hid (L.take i = L) := by unfold Hid; exact List.take_of_length_le (by rw [LL.out]; omega)
      rw [HTA.out] at hown
      obtain ⟨a3, c3, rfl, -, -, hr3, -⟩ := hown.slice LL.out
      go_wp2_with fail
      refine (ih L f _ _ i t c3 cf K _ hr3 (hf.below hbel) LL.out HE.out (by omega) HF.out hth hcf bf LW.out hKh).mono ?_
      rintro e w2 ⟨rfl, hb2⟩
      go_wp2
      go_ret
      exact ⟨rfl, hbel.trans (hb2.mono hbel.size)⟩
end Go.Proofs.YtplkmkbambbemadGreatDoor
namespace Go.Proofs.YtplkmkbambbemadGreatDoor
open Go.ChangeShapes Go.WideShapes Go.ChangeAt Go.RowKit
theorem Own.slice {w : World} {B : Nat} {v : Value} {L : List Int} {k : Nat} (h : Own w B v L) (hk : L.length = k) : ∃ a c, v = .slice a k c ∧ k ≤ c ∧ c ≤ maxLen ∧ Rd .u8 w a L ∧ (∀ g o, a = some ⟨g, o, none⟩ → B ≤ g) := by
  obtain ⟨a, c, rfl, -, h1, h2⟩ := h.shape
  subst hk
  refine ⟨a, c, rfl, h1, h2, h.rd, ?_⟩
  rintro g o rfl
  exact own_blocks h g rfl
set_option maxRecDepth 100000 in
set_option maxHeartbeats 4000000 in
theorem rsight_g (m : Nat) (ih : ∀ (l f : List Int) (a b : Option Addr) (n t c cf K : Nat) (w : World), Rd .i64 w a l → Rd .u8 w b f → l.length = n → n = 2 ^ m → n ≤ 512 → f.length = t → t < n → t ≤ cf → AllBits f → Within l K → K * n ≤ 1152921504606846976 →
      Calls Tryz.prog 121 #[.slice a n c, .slice b t cf] w fun e w' => e = .returned (.int .i64 (sightM m l f)) ∧ Below w.heap.size w w')
    (l f : List Int) (a b : Option Addr) (n h t c cf K : Nat) (w : World) (ha : Rd .i64 w a l) (hf : Rd .u8 w b f) (hl : l.length = n) (eh : h = 2 ^ m) (hnh : n = h + h) (h5 : n ≤ 512) (hft : f.length = t) (hth : h ≤ t) (htn : t < n) (hcf : t ≤ cf) (bf : AllBits f) (hK : Within l K) (hKn : K * n ≤ 1152921504606846976) :
    Calls Tryz.prog 121 #[.slice a n c, .slice b t cf] w fun e w' => e = .returned (.int .i64 (sightM m (gL (turnM m (f.take h)) (l.take h) (l.drop h)) (f.drop h))) ∧ Below w.heap.size w w' := by
  have h0 : 1 ≤ h := by rw [eh]; exact Nat.one_le_two_pow
  have hK1 : K ≤ 1152921504606846976 := Nat.le_trans (Nat.le_mul_of_pos_right K (by omega)) hKn
  have hKh : 2 * K * h ≤ 1152921504606846976 := by
    have e : 2 * K * h = K * n := by rw [hnh, Nat.mul_add, Nat.mul_assoc]; omega
    rw [e]; exact hKn
  obtain ⟨b1, o1, rfl, hc1⟩ := ha.at (i := 0) (by omega)
  obtain ⟨b2, o2, rfl, hc2⟩ := hf.at (i := 0) (by omega)
  have l1 : (l.take h).length = h := by rw [List.length_take]; omega
  have l2 : (l.drop h).length = h := by rw [List.length_drop]; omega
  have f1 : (f.take h).length = h := by rw [List.length_take]; omega
  have f2 := hid (show (f.drop h).length = t - h by rw [List.length_drop]; omega)
  have bf1 : AllBits (f.take h) := fun y hy => bf y (List.mem_of_mem_take hy)
  have bf2 : AllBits (f.drop h) := fun y hy => bf y (List.mem_of_mem_drop hy)
  have rF1 := Rd.take hc2 h
  have rF2 := Rd.drop hc2 h
  obtain ⟨X, eX⟩ : ∃ X, X = turnM m (f.take h) := ⟨_, rfl⟩
  have lX : X.length = h := by rw [eX, turn_length m _ (f1.trans eh), eh]
  have LX := hid lX
  obtain ⟨G, eG⟩ : ∃ G, G = gL X (l.take h) (l.drop h) := ⟨_, rfl⟩
  have LL := hid (show G.length = h by rw [eG]; exact gL_length lX l1 l2)
  have LA : Hid (∀ j, j < h → G.getD j 0 = gI (X.getD j 0) (l.getD j 0) (l.getD (h + j) 0)) := by
    intro j hj
    rw [eG, gL_at lX l1 l2 hj, getD_take hj, getD_drop]
  have LW : Hid (Within G (2 * K)) := by unfold Hid; rw [eG]; exact within_g lX l1 l2 (hK.take h) (hK.drop h)
  rw [← eX, ← eG]
  have hTu := rturn_any m (f.take h) (some ⟨b2, o2, none⟩) h cf w rF1 f1 eh (by omega) (by omega) bf1
  rw [← eX] at hTu
  have hq : (n : Int).tdiv 2 = (h : Int) := by rw [Int.tdiv_eq_ediv_of_nonneg (by omega)]; omega
  have hn1 : ((n : Int) == 1) = false := by simp; omega
  have hle : h ≤ n := by omega
  have hlf : h ≤ cf := by omega
  have HL := hid hl
  have HN := hid hnh
  have HE := hid eh
  have HF := hid hft
  have hn2 : h < n := by omega
  have hnt : ¬ t < h := by omega
  have HTH : Hid (t - h < h) := by unfold Hid; omega
  have HTC : Hid (t - h ≤ cf - h) := by unfold Hid; omega
  clear hl hnh eh hft l1 l2 eG eX hKn f1 lX rF1 bf1
  go_enter Tryz.func121, Tryz.ntmps121
  go_wp2_with fail
  refine hTu.mono ?_
  rintro e w1 ⟨v1, rfl, hown1, hbel1⟩
  obtain ⟨a3, c3, rfl, hc3, hc3m, hrX, -⟩ := hown1.slice LX.out
  clear hown1 hTu
  go_wp2
  go_loopw [6, 12] (fun v q wr => ∃ i : Nat, i ≤ h ∧ q = .int .i64 i ∧ OwnI wr w1.heap.size v (G.take i) ∧ Below w1.heap.size w1 wr) (fun _ q _ => h - (intOf q).toNat)
  case atStart => exact ⟨0, Nat.zero_le _, rfl, OwnI.nil _ _, Below.refl _ _⟩
  case round =>
    obtain ⟨i, hi, rfl, hown, hbel⟩ := hrel
    have hbw := bthen hbel1 hbel
    by_cases hlt : i < h
    · have g1 := (hbw.cell (World.block_lt_of_cell? w _ (hc1 i (by rw [HL.out]; omega)))).trans (hc1 i (by rw [HL.out]; omega))
      have g2 := (hbw.cell (World.block_lt_of_cell? w _ (hc1 (i + h) (by rw [HL.out, HN.out]; omega)))).trans (hc1 (i + h) (by rw [HL.out, HN.out]; omega))
      obtain ⟨b4, o4, rfl, hc4⟩ := (hrX.below hbel).at (i := i) (by rw [LX.out]; exact hlt)
      have g4 := hc4 i (by rw [LX.out]; exact hlt)
      have b1' := hK i
      have b2' := hK (i + h)
      have HV := hid (LA.out i hlt)
      rw [Nat.add_comm h i] at HV
      obtain ⟨s, es⟩ : ∃ s, s = i + h := ⟨_, rfl⟩
      rw [← es] at g2 b2' HV
      have hil : s < n := by rw [HN.out]; omega
      have hwi : IntKind.i64.wrap ((i : Int) + (h : Int)) = (s : Int) := by rw [IntKind.wrap_i64]; omega
      have hili : (s : Int) < (n : Int) := by omega
      clear es
      have hin : i < n := by omega
      have HTL : Hid ((G.take i).length < 8796093022208) := by unfold Hid; rw [List.length_take]; omega
      have HI : Hid (i < G.length) := by unfold Hid; rw [LL.out]; exact hlt
      generalize l.getD i 0 = x at *
      generalize l.getD s 0 = y at *
      generalize X.getD i 0 = z at *
      have hsz := hbel.size
      clear hc1 hc2 hc4
      by_cases cz : z = 1
      · have HW : Hid (y - x = G.getD i 0) := by unfold Hid; rw [HV.out, gI, if_pos cz]
        have dz : (z == 1) = true := by simpa using cz
        have hws : IntKind.i64.wrap (y - x) = y - x := by rw [IntKind.wrap_i64]; omega
        clear HV cz
        go_wp2_with fail
        go_region_law (refine step_pushI w1.heap.size w1 wr.heap.size (y - x) (show OwnI (wr.alloc (.cells #[.int .i64 (y - x)] 3)).drew _ _ _ from World.ownsRow.alloc hown _) rfl (.tmp 80) (.tmp 92) rfl rfl rfl (cell_one _ _ _) HTL.out (hbel.alloc hsz _).drew (by simp; omega) ?_; intro v' w2 hown' hbel')
        all_goals
          replace hown' := hown'.cast (take_push HI.out HW.out)
          clear hown hbel
          go_wp2
          go_roundw
          case rel => exact ⟨i + 1, by omega, by go_num, hown', hbel'⟩
          case measure => simp [intOf]; omega
      · have HW : Hid (y + x = G.getD i 0) := by unfold Hid; rw [HV.out, gI, if_neg cz]
        have dz : (z == 1) = false := by simpa using cz
        have hws : IntKind.i64.wrap (y + x) = y + x := by rw [IntKind.wrap_i64]; omega
        clear HV cz
        go_wp2_with fail
        go_region_law (refine step_pushI w1.heap.size w1 wr.heap.size (y + x) (show OwnI (wr.alloc (.cells #[.int .i64 (y + x)] 3)).drew _ _ _ from World.ownsRow.alloc hown _) rfl (.tmp 94) (.tmp 106) rfl rfl rfl (cell_one _ _ _) HTL.out (hbel.alloc hsz _).drew (by simp; omega) ?_; intro v' w2 hown' hbel')
        all_goals
          replace hown' := hown'.cast (take_push HI.out HW.out)
          clear hown hbel
          go_wp2
          go_roundw
          case rel => exact ⟨i + 1, by omega, by go_num, hown', hbel'⟩
          case measure => simp [intOf]; omega
    · obtain rfl : i = h := by omega
      have HTA : Hid (G.take i = G) := by unfold Hid; exact List.take_of_length_le (by rw [LL.out]; omega)
      rw [HTA.out] at hown
      obtain ⟨a5, c5, rfl, -, -, hr5, -⟩ := hown.slice LL.out
      clear hc1 hc2 LA
      by_cases hci : cf = i
      · obtain rfl : t = i := by omega
        subst hci
        have HD : Hid (f.drop cf = []) := by unfold Hid; exact List.eq_nil_of_length_eq_zero (by rw [f2.out]; omega)
        have ih0 := ih G (f.drop cf) a5 (some ⟨b2, o2, none⟩) cf 0 c5 0 (2 * K) wr hr5 (by rw [HD.out]; exact Rd.nil _ _ _) LL.out HE.out (by omega) (by rw [HD.out]; rfl) (by omega) (Nat.le_refl _) bf2 LW.out hKh
        go_wp2_with fail
        refine ih0.mono ?_
        rintro e w2 ⟨rfl, hb2⟩
        go_wp2
        go_ret
        exact ⟨rfl, hbw.trans (hb2.mono hbw.size)⟩
      · have ih0 := ih G (f.drop i) a5 (some ⟨b2, o2 + i, none⟩) i (t - i) c5 (cf - i) (2 * K) wr hr5 (rF2.below hbw) LL.out HE.out (by omega) f2.out HTH.out HTC.out bf2 LW.out hKh
        go_wp2_with fail
        refine ih0.mono ?_
        rintro e w2 ⟨rfl, hb2⟩
        go_wp2
        go_ret
        exact ⟨rfl, hbw.trans (hb2.mono hbw.size)⟩
set_option maxRecDepth 100000 in
set_option maxHeartbeats 1000000 in
theorem rsight_any : ∀ (m : Nat) (l f : List Int) (a b : Option Addr) (n t c cf K : Nat) (w : World), Rd .i64 w a l → Rd .u8 w b f → l.length = n → n = 2 ^ m → n ≤ 512 → f.length = t → t < n → t ≤ cf → AllBits f → Within l K → K * n ≤ 1152921504606846976 →
      Calls Tryz.prog 121 #[.slice a n c, .slice b t cf] w fun e w' => e = .returned (.int .i64 (sightM m l f)) ∧ Below w.heap.size w w'
  | 0, l, f, a, b, n, t, c, cf, K, w, ha, hf, hl, hn, h5, hft, htn, hcf, bf, hK, hKn => by
    obtain rfl : n = 1 := hn
    obtain ⟨b1, o1, rfl, hc1⟩ := ha.at (i := 0) (by omega)
    have g1 := hc1 0 (by omega)
    rw [Nat.add_zero] at g1
    rw [sightM]
    clear hl hft hc1
    go_enter Tryz.func121, Tryz.ntmps121
    go_wp2
    go_ret
    exact ⟨rfl, Below.refl _ _⟩
  | m + 1, l, f, a, b, n, t, c, cf, K, w, ha, hf, hl, hn, h5, hft, htn, hcf, bf, hK, hKn => by
    have hnh : n = 2 ^ m + 2 ^ m := by rw [hn, Nat.pow_succ]; omega
    rw [sightM, hft]
    by_cases hth : t < 2 ^ m
    · rw [if_pos hth]
      exact rsight_f m (rsight_any m) l f a b n (2 ^ m) t c cf K w ha hf hl rfl hnh h5 hft hth hcf bf hK hKn
    · rw [if_neg hth]
      exact rsight_g m (rsight_any m) l f a b n (2 ^ m) t c cf K w ha hf hl rfl hnh h5 hft (by omega) htn hcf bf hK hKn
end Go.Proofs.YtplkmkbambbemadGreatDoor
namespace Go.Proofs.YtplkmkbambbemadGreatDoor
open Go.ChangeShapes Go.WideShapes Go.ChangeAt Go.RowKit
def Apart (v u : Value) : Prop := ∀ k, v.ownBlock = some k → u.ownBlock ≠ some k
theorem Apart.symm {v u : Value} (h : Apart v u) : Apart u v := fun k hk hv => h k hv hk
theorem Own.grow {w w' : World} {B : Nat} {u : Value} {M : List Int} {row : Option Nat} (h : Own w B u M) (hg : w.grownBy w' row) (hr : ∀ k, row = some k → u.ownBlock ≠ some k) : Own w' B u M := by
  refine ⟨h.1, ?_⟩
  rcases h.2 with h' | ⟨g, cap, cur, h1, h2, h3, h4⟩
  · exact .inl h'
  · have hlt : g < w.heap.size := by
      rcases Nat.lt_or_ge g w.heap.size with hl | hl
      · exact hl
      · rw [Array.getElem?_eq_none hl] at h3; cases h3
    refine .inr ⟨g, cap, cur, h1, h2, (hg.block g hlt (fun e => hr g e.symm ?_)).trans h3, h4⟩
    rw [h1]; rfl
/-- 'out = append(out, y)' beside another list of one's own. -/
theorem wpList_pushA {ops : Array Oper} {rest : List Oper} {o : Oper} {a : Act} {Q : Exit → Act → World → Prop} {w0 : World} {v u : Value} {L M : List Int} (B : Nat) (w00 : World) (y : Int) (hown : Own w0 B v L) (hoth : Own w0 B u M) (hap : Apart v u) (hgd : o.guard = none) (s x : Operand)
    (ho : o.op = .call { callee := .builtin .append, args := #[s, x], argTypes := #[22, 22] }) (hs : a.eval s = v)
    (hx : a.eval x = .slice (some ⟨w0.heap.size, 0, none⟩) 1 1) (hlen : L.length < 70368744177664) (hbel : Below B w00 w0) (hB : B ≤ w0.heap.size)
    (h : ∀ v' w', Own w' B v' (L ++ [y]) → Own w' B u M → Apart v' u → Below B w00 w' → wpList Tryz.prog ops Q rest (a.put o.dst v') w') : wpList Tryz.prog ops Q (o :: rest) a (w0.alloc (.cells #[.int .u8 y] 5)) := by
  obtain ⟨i0, hi, hz0, hz1, hz2⟩ := info_parts Tryz.info5
  refine wpList_append_own_at _ hgd s x 22 ho B 5 i0 (.int .u8 0) 1 1 Tryz.underlying22 hi hz0 hz1 hz2 rfl (by decide) v _ _ hs (World.ownsRow.alloc hown _) ⟨w0.heap.size, 0, none⟩ 1 1 [.int .u8 y] hx rfl (cell_one_new _ _ _) ?_ ?_ ?_ ?_ ?_
  · intro u hu; simp at hu; subst hu; rfl
  · unfold maxLen; omega
  · omega
  · simp; omega
  · intro v' w' h1 h2 _ h4
    have hoth1 : Own (w0.alloc (.cells #[.int .u8 y] 5)) B u M := World.ownsRow.alloc hoth _
    refine h v' w' (Own.snoc h1) (hoth1.grow h2 (fun k hk => hap k hk)) ?_ ((hbel.alloc hB _).grown h2 (by simp; omega) (own_blocks hown))
    intro k hk
    rcases h4 with h4 | h4
    · exact hap k (h4.symm.trans hk)
    · intro hu
      have hlt := (hoth.lt k hu).2
      have : k = (w0.alloc (.cells #[.int .u8 y] 5)).heap.size := Option.some.inj (hk.symm.trans h4)
      simp at this
      omega
/-- Which places are open. -/
def openM (n k : Nat) : List Bool := (List.range n).map (isPlace n k)
theorem open_at {n k i : Nat} (h : i < n) : (openM n k).getD i false = isPlace n k i := by simp [openM, List.getD, h]
def readTo (n k : Nat) (U : List Int) (i : Nat) : List Int := readM ((List.range i).filter (isPlace n k)) U
theorem readTo_length (n k : Nat) (U : List Int) (i : Nat) : (readTo n k U i).length = cntM (isPlace n k) i := by simp [readTo, readM, cntM]
theorem readTo_yes {n k i : Nat} {U : List Int} (h : isPlace n k i = true) : readTo n k U (i + 1) = readTo n k U i ++ [U.getD i 0] := by
  unfold readTo readM
  rw [List.range_succ, List.filter_append, List.map_append]
  simp [h]
theorem readTo_no {n k i : Nat} {U : List Int} (h : isPlace n k i = false) : readTo n k U (i + 1) = readTo n k U i := by
  unfold readTo readM
  rw [List.range_succ, List.filter_append, List.map_append]
  simp [h]
theorem cnt_le (q : Nat → Bool) (i : Nat) : cntM q i ≤ i := by
  unfold cntM
  have := List.length_filter_le q (List.range i)
  simpa using this
set_option maxRecDepth 100000 in
set_option maxHeartbeats 4000000 in
theorem rfound_any (m : Nat) (l : List Int) (a : Option Addr) (n k c : Nat) (w : World) (ha : Rd .i64 w a l) (hl : l.length = n) (hn : n = 2 ^ m) (h5 : n ≤ 512) (hk : k ≤ n) (hK : Within l 100000) :
    Calls Tryz.prog 89 #[.slice a n c, .int .i64 k] w fun e w' => ∃ v, e = .returned v ∧ Own w' w.heap.size v (readM (placesM n k) (decP m l (openM n k))) ∧ Below w.heap.size w w' := by
  obtain ⟨U, eU⟩ : ∃ U, U = decP m l (openM n k) := ⟨_, rfl⟩
  have LU := hid (show U.length = n by rw [eU, decP_length, hn])
  have bU : AllBits U := by rw [eU]; exact decP_bits m l _
  have HS : Hid (∀ i, i < n → U.getD i 0 = if isPlace n k i && decide (sightM m l (U.take i) < 0) then 1 else 0) := by
    intro i hi
    have := decP_sight m l (openM n k) i (by omega)
    rw [open_at hi, ← eU] at this
    exact this
  rw [← eU]
  have HL := hid hl
  have HN := hid hn
  have HP := hid (places_length hk)
  have HPI := hid ((ints_length (placesM n k)).trans HP.out)
  clear hl hn eU
  go_enter Tryz.func89, Tryz.ntmps89
  go_wp2_with fail
  refine (rplaces_any n k _ h5).mono ?_
  rintro e w1 ⟨v1, rfl, hown1, hbel1⟩
  obtain ⟨aP, cP, rfl, hcP, hcPm, hrP, -⟩ := hown1.slice HPI.out
  clear hown1
  unfold maxLen at hcPm
  go_wp2
  go_loopw [6, 7, 8] (fun v6 v7 q wr => ∃ i : Nat, i ≤ n ∧ q = .int .i64 i ∧ Own wr w1.heap.size v6 (U.take i) ∧ Own wr w1.heap.size v7 (readTo n k U i) ∧ Apart v6 v7 ∧ Below w1.heap.size w1 wr) (fun _ _ q _ => n - (intOf q).toNat)
  case atStart => exact ⟨0, Nat.zero_le _, rfl, Own.nil _ _, Own.nil _ _, (fun k hk => by cases hk), Below.refl _ _⟩
  case round =>
    obtain ⟨i, hi, rfl, ho6, ho7, hap, hbel⟩ := hrel
    have hbw := bthen hbel1 hbel
    have hsz := hbel.size
    by_cases hlt : i < n
    · have LT := hid (show (U.take i).length = i by rw [List.length_take, LU.out]; omega)
      have LR := hid (readTo_length n k U i)
      have hcl := cnt_le (isPlace n k) i
      obtain ⟨a6, c6, rfl, hc6, hc6m, hr6, -⟩ := ho6.slice LT.out
      obtain ⟨a7, c7, rfl, hc7, hc7m, hr7, -⟩ := ho7.slice LR.out
      have HUi := hid (HS.out i hlt)
      have HI : Hid (i < U.length) := by unfold Hid; rw [LU.out]; exact hlt
      have HL6 : Hid ((U.take i).length < 70368744177664) := by unfold Hid; rw [LT.out]; omega
      have HL7 : Hid ((readTo n k U i).length < 70368744177664) := by unfold Hid; rw [LR.out]; omega
      cases hq : isPlace n k i with
      | true =>
        have hpl := place_at (isPlace n k) hlt hq
        have hck : cntM (isPlace n k) i < k := by have := hpl.1; have e := HP.out; unfold placesM at e; omega
        obtain ⟨b2, o2, rfl, hc2⟩ := (hrP.below hbel).at (i := cntM (isPlace n k) i) (by rw [HPI.out]; exact hck)
        have g2 := hc2 (cntM (isPlace n k) i) (by rw [HPI.out]; exact hck)
        rw [ints_at] at g2
        have e2 : (placesM n k).getD (cntM (isPlace n k) i) 0 = i := hpl.2
        rw [e2] at g2
        have HY := hid (readTo_yes (U := U) hq)
        rw [hq] at HUi
        have bUt : AllBits (U.take i) := fun y hy => bU y (List.mem_of_mem_take hy)
        have hsi := fun w' (h' : Below wr.heap.size wr w') => rsight_any m l (U.take i) a a6 n i c c6 100000 w' (ha.below (bthen hbw h')) (hr6.below h') HL.out HN.out h5 LT.out hlt hc6 bUt hK (by omega)
        have hsi0 := hsi wr (Below.refl _ _)
        clear hsi hc2 hpl e2
        generalize cntM (isPlace n k) i = t at *
        generalize sightM m l (U.take i) = z at *
        have hti : ((i : Int) == (i : Int)) = true := by simp
        by_cases hz : z < 0
        · have HV : Hid (1 = U.getD i 0) := by unfold Hid; rw [HUi.out]; simp [hz]
          clear HUi
          go_wp2_with fail
          refine hsi0.mono ?_
          rintro e w2 ⟨rfl, hb2⟩
          have ho6' := ho6.below hb2
          have ho7' := ho7.below hb2
          have hbel' := hbel.trans (hb2.mono hsz)
          have hsz' := hbel'.size
          clear ho6 ho7 hr6 hr7
          go_wp2_with (first | (at_builtin; refine wpList_pushA w1.heap.size w1 1 ho6' ho7' hap rfl (.tmp 42) (.tmp 44) rfl rfl rfl HL6.out hbel' hsz' ?_))
          intro v6 w3 ho6'' ho7'' hap' hbel''
          replace ho6'' : Own w3 w1.heap.size v6 (U.take (i + 1)) := take_push HI.out HV.out ▸ ho6''
          have hsz'' := hbel''.size
          clear ho6' ho7' hap
          go_wp2_with (first | (at_builtin; refine wpList_pushA w1.heap.size w1 1 ho7'' ho6'' hap'.symm rfl (.tmp 47) (.tmp 49) rfl rfl rfl HL7.out hbel'' hsz'' ?_))
          intro v7 w4 ho7n ho6n hapn hbeln
          rw [HV.out, ← HY.out] at ho7n
          go_wp2
          go_roundw
          case rel => exact ⟨i + 1, by omega, by go_num, ho6n, ho7n, hapn.symm, hbeln⟩
          case measure => simp [intOf]; omega
        · have HV : Hid (0 = U.getD i 0) := by unfold Hid; rw [HUi.out]; simp [hz]
          clear HUi
          go_wp2_with fail
          refine hsi0.mono ?_
          rintro e w2 ⟨rfl, hb2⟩
          have ho6' := ho6.below hb2
          have ho7' := ho7.below hb2
          have hbel' := hbel.trans (hb2.mono hsz)
          have hsz' := hbel'.size
          clear ho6 ho7 hr6 hr7
          go_wp2_with (first | (at_builtin; refine wpList_pushA w1.heap.size w1 0 ho6' ho7' hap rfl (.tmp 42) (.tmp 44) rfl rfl rfl HL6.out hbel' hsz' ?_))
          intro v6 w3 ho6'' ho7'' hap' hbel''
          replace ho6'' : Own w3 w1.heap.size v6 (U.take (i + 1)) := take_push HI.out HV.out ▸ ho6''
          have hsz'' := hbel''.size
          clear ho6' ho7' hap
          go_wp2_with (first | (at_builtin; refine wpList_pushA w1.heap.size w1 0 ho7'' ho6'' hap'.symm rfl (.tmp 47) (.tmp 49) rfl rfl rfl HL7.out hbel'' hsz'' ?_))
          intro v7 w4 ho7n ho6n hapn hbeln
          rw [HV.out, ← HY.out] at ho7n
          go_wp2
          go_roundw
          case rel => exact ⟨i + 1, by omega, by go_num, ho6n, ho7n, hapn.symm, hbeln⟩
          case measure => simp [intOf]; omega
      | false =>
        have hpn := place_not (isPlace n k) hlt hq
        have HY := hid (readTo_no (U := U) hq)
        rw [hq] at HUi
        have HV : Hid (0 = U.getD i 0) := by unfold Hid; rw [HUi.out]; simp
        by_cases hck : cntM (isPlace n k) i < k
        · have hne : (placesM n k).getD (cntM (isPlace n k) i) 0 ≠ i := hpn (by have e := HP.out; unfold placesM at e; omega)
          obtain ⟨b2, o2, rfl, hc2⟩ := (hrP.below hbel).at (i := cntM (isPlace n k) i) (by rw [HPI.out]; exact hck)
          have g2 := hc2 (cntM (isPlace n k) i) (by rw [HPI.out]; exact hck)
          rw [ints_at] at g2
          clear hc2 hpn
          generalize (placesM n k).getD (cntM (isPlace n k) i) 0 = pt at *
          generalize cntM (isPlace n k) i = t at *
          have hti : ((pt : Int) == (i : Int)) = false := by simp; omega
          clear hne
          clear HUi
          go_wp2_with (first | (at_builtin; refine wpList_pushA w1.heap.size w1 0 ho6 ho7 hap rfl (.tmp 42) (.tmp 44) rfl rfl rfl HL6.out hbel hsz ?_))
          intro v6 w3 ho6n ho7n hapn hbeln
          replace ho6n : Own w3 w1.heap.size v6 (U.take (i + 1)) := take_push HI.out HV.out ▸ ho6n
          rw [← HY.out] at ho7n
          go_wp2
          go_roundw
          case rel => exact ⟨i + 1, by omega, by go_num, ho6n, ho7n, hapn, hbeln⟩
          case measure => simp [intOf]; omega
        · clear hpn
          generalize cntM (isPlace n k) i = t at *
          clear HUi
          go_wp2_with (first | (at_builtin; refine wpList_pushA w1.heap.size w1 0 ho6 ho7 hap rfl (.tmp 42) (.tmp 44) rfl rfl rfl HL6.out hbel hsz ?_))
          intro v6 w3 ho6n ho7n hapn hbeln
          replace ho6n : Own w3 w1.heap.size v6 (U.take (i + 1)) := take_push HI.out HV.out ▸ ho6n
          rw [← HY.out] at ho7n
          go_wp2
          go_roundw
          case rel => exact ⟨i + 1, by omega, by go_num, ho6n, ho7n, hapn, hbeln⟩
          case measure => simp [intOf]; omega
    · obtain rfl : i = n := by omega
      go_wp2
      go_ret
      exact ⟨_, rfl, ho7.mono hbel1.size, hbw⟩
end Go.Proofs.YtplkmkbambbemadGreatDoor
namespace Go.Proofs.YtplkmkbambbemadGreatDoor
open Go.ChangeShapes Go.WideShapes Go.ChangeAt Go.RowKit
/-- n pairs from a on: the i-th is the numbers X i (at A i, with C i places) and the number V i. -/
def PairsAt (k : IntKind) (w : World) (a : Option Addr) (n : Nat) (A : Nat → Option Addr) (C : Nat → Nat) (X : Nat → List Int) (V : Nat → Int) : Prop :=
  0 < n → ∃ b off, a = some ⟨b, off, none⟩ ∧ ∀ i, i < n → w.cell? ⟨b, off + i * 2, none⟩ = some (.slice (A i) (X i).length (C i)) ∧ w.cell? ⟨b, off + i * 2 + 1, none⟩ = some (.int k (V i)) ∧ Rd k w (A i) (X i) ∧ (X i).length ≤ C i ∧ C i ≤ maxLen
theorem PairsAt.below {k : IntKind} {w w' : World} {a : Option Addr} {n : Nat} {A : Nat → Option Addr} {C : Nat → Nat} {X : Nat → List Int} {V : Nat → Int} (h : PairsAt k w a n A C X V) (hb : Below w.heap.size w w') : PairsAt k w' a n A C X V := by
  intro hn
  obtain ⟨b, off, rfl, hc⟩ := h hn
  refine ⟨b, off, rfl, fun i hi => ?_⟩
  obtain ⟨h1, h2, h3, h4, h5⟩ := hc i hi
  exact ⟨(hb.cell (World.block_lt_of_cell? w _ h1)).trans h1, (hb.cell (World.block_lt_of_cell? w _ h2)).trans h2, h3.below hb, h4, h5⟩
theorem PairsAt.first {k : IntKind} {w : World} {b off : Nat} {n : Nat} {A : Nat → Option Addr} {C : Nat → Nat} {X : Nat → List Int} {V : Nat → Int} (h : PairsAt k w (some ⟨b, off, none⟩) n A C X V) {i : Nat} (hi : i < n) : b < w.heap.size := by
  obtain ⟨b', off', e, hc⟩ := h (by omega)
  simp at e
  obtain ⟨rfl, rfl⟩ := e
  exact World.block_lt_of_cell? w _ (hc i hi).1
end Go.Proofs.YtplkmkbambbemadGreatDoor
