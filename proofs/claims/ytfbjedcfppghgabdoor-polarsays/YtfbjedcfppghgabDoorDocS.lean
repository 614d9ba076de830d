import Derived.Test.YtfbjedcfppghgabDoorDocQ
import Derived.Test.YtfbjedcfppghgabDoorPush
namespace Go.Proofs.YtfbjedcfppghgabDoor
open Go.ChangeShapes Go.WideShapes Go.ChangeAt Go.RowKit

/-! THE DOCUMENT'S Sight. -/

/-- 'append(out, y)' of numbers as a step of a region that draws its order. -/
theorem step_pushI {W : World} {ops : Array Oper} {o : Oper} {a : Act} {K : Act → World → Prop} {Q : Exit → Act → World → Prop} {E : Prop} {v : Value} {L : List Int} (B : Nat) (w00 : World) (g : Nat) (y : Int) (hown : OwnI W B v L) (hgd : o.guard = none) (s x : Operand)
    (ho : o.op = .call { callee := .builtin .append, args := #[s, x], argTypes := #[23, 23] }) (hs : a.eval s = v) (hx : a.eval x = .slice (some ⟨g, 0, none⟩) 1 1) (hcell : W.cell? ⟨g, 0, none⟩ = some (.int .i64 y)) (hlen : L.length < 8796093022208) (hbel : Below B w00 W) (hB : B ≤ W.heap.size)
    (h : ∀ v' w', OwnI w' B v' (L ++ [y]) → Below B w00 w' → K (a.put o.dst v') w') : if Region.wanted o (yielded ops a.tmps) = true then Oper.wp Tryd.prog o a W K Q else E := by
  have hw : Region.wanted o (yielded ops a.tmps) = true := by simp [Region.wanted, hgd]
  rw [if_pos hw]
  obtain ⟨i0, hi, hz0, hz1, hz2⟩ := info_parts Tryd.info3
  refine wp_append_own W s x 23 ho B 3 i0 (.int .i64 0) 1 8 Tryd.underlying23 hi hz0 hz1 hz2 rfl (by decide) v _ _ hs hown ⟨g, 0, none⟩ 1 1 [.int .i64 y] hx rfl ?_ ?_ ?_ ?_ hB ?_
  · intro j u hj
    match j, hj with
    | 0, hj =>
      simp at hj
      subst hj
      simpa [Addr.add] using hcell
  · intro u hu; simp at hu; subst hu; rfl
  · unfold maxLen; omega
  · omega
  · intro v' w' h1 h2 _
    exact h v' w' (OwnI.snoc h1) (hbel.grown h2 hB (ownI_blocks hown))

theorem OwnI.cast {w : World} {B : Nat} {v : Value} {L L' : List Int} (h : OwnI w B v L) (e : L = L') : OwnI w B v L' := e ▸ h
theorem take_push {L : List Int} {i : Nat} (h : i < L.length) {x : Int} (hx : x = L.getD i 0) : L.take i ++ [x] = L.take (i + 1) := by
  rw [List.take_succ_eq_append_getElem h, hx]
  simp [List.getD, h]

/-- Numbers within a bound. -/
def Within (l : List Int) (K : Nat) : Prop := ∀ j, -(K : Int) ≤ l.getD j 0 ∧ l.getD j 0 ≤ K
theorem fI_bd {K : Nat} {a b : Int} (ha : -(K : Int) ≤ a ∧ a ≤ K) (hb : -(K : Int) ≤ b ∧ b ≤ K) : -(K : Int) ≤ fI a b ∧ fI a b ≤ K := by
  unfold fI absI
  split <;> split <;> split <;> omega
theorem gI_bd {K : Nat} {x a b : Int} (ha : -(K : Int) ≤ a ∧ a ≤ K) (hb : -(K : Int) ≤ b ∧ b ≤ K) : -((2 * K : Nat) : Int) ≤ gI x a b ∧ gI x a b ≤ (2 * K : Nat) := by
  unfold gI
  split <;> omega
theorem fL_length {a b : List Int} {h : Nat} (ha : a.length = h) (hb : b.length = h) : (fL a b).length = h := by simp [fL, ha, hb]
theorem fL_at {a b : List Int} {h : Nat} (ha : a.length = h) (hb : b.length = h) {j : Nat} (hj : j < h) : (fL a b).getD j 0 = fI (a.getD j 0) (b.getD j 0) := by
  simp [fL, List.getD, ha, hb, hj]
theorem gL_length : ∀ {x a b : List Int} {h : Nat}, x.length = h → a.length = h → b.length = h → (gL x a b).length = h
  | [], [], [], _, h, _, _ => h
  | [], _ :: _, _, _, h1, h2, _ => by subst h1; simp at h2
  | [], [], _ :: _, _, h1, _, h2 => by subst h1; simp at h2
  | _ :: _, [], _, _, h1, h2, _ => by subst h1; simp at h2
  | _ :: _, _ :: _, [], _, h1, _, h2 => by subst h1; simp at h2
  | x :: xs, a :: al, b :: bl, h, h1, h2, h3 => by
    subst h1
    have := gL_length (x := xs) (a := al) (b := bl) (h := xs.length) rfl (by simpa using h2) (by simpa using h3)
    simp [gL, this]
theorem gL_at : ∀ {x a b : List Int} {h : Nat}, x.length = h → a.length = h → b.length = h → ∀ {j : Nat}, j < h → (gL x a b).getD j 0 = gI (x.getD j 0) (a.getD j 0) (b.getD j 0)
  | [], _, _, _, h1, _, _, j, hj => by subst h1; simp at hj
  | _ :: _, [], _, _, h1, h2, _, _, _ => by subst h1; simp at h2
  | _ :: _, _ :: _, [], _, h1, _, h2, _, _ => by subst h1; simp at h2
  | x :: xs, a :: al, b :: bl, h, h1, h2, h3, 0, _ => by simp [gL]
  | x :: xs, a :: al, b :: bl, h, h1, h2, h3, j + 1, hj => by
    subst h1
    have := gL_at (x := xs) (a := al) (b := bl) (h := xs.length) rfl (by simpa using h2) (by simpa using h3) (j := j) (by simpa using hj)
    simpa [gL] using this
theorem getD_out {l : List Int} {j : Nat} (h : l.length ≤ j) : l.getD j 0 = 0 := by simp [List.getD, h]
theorem within_f {a b : List Int} {h K : Nat} (ha : a.length = h) (hb : b.length = h) (wa : Within a K) (wb : Within b K) : Within (fL a b) K := fun j => by
  rcases Nat.lt_or_ge j h with hj | hj
  · rw [fL_at ha hb hj]; exact fI_bd (wa j) (wb j)
  · rw [getD_out (by rw [fL_length ha hb]; exact hj)]; omega
theorem within_g {x a b : List Int} {h K : Nat} (hx : x.length = h) (ha : a.length = h) (hb : b.length = h) (wa : Within a K) (wb : Within b K) : Within (gL x a b) (2 * K) := fun j => by
  rcases Nat.lt_or_ge j h with hj | hj
  · rw [gL_at hx ha hb hj]; exact gI_bd (wa j) (wb j)
  · rw [getD_out (by rw [gL_length hx ha hb]; exact hj)]; omega
theorem getD_take {l : List Int} {h j : Nat} (hj : j < h) : (l.take h).getD j 0 = l.getD j 0 := by simp [List.getD, hj]
theorem getD_drop {l : List Int} {h j : Nat} : (l.drop h).getD j 0 = l.getD (h + j) 0 := by simp [List.getD]
theorem Within.take {l : List Int} {K : Nat} (h : Within l K) (n : Nat) : Within (l.take n) K := fun j => by
  rcases Nat.lt_or_ge j n with hj | hj
  · rw [getD_take hj]; exact h j
  · rw [getD_out (by simp; omega)]; omega
theorem Within.drop {l : List Int} {K : Nat} (h : Within l K) (n : Nat) : Within (l.drop n) K := fun j => by
  rw [getD_drop]; exact h _

set_option maxRecDepth 100000 in
set_option maxHeartbeats 4000000 in
theorem rsight_f (m : Nat) (ih : ∀ (l f : List Int) (a b : Option Addr) (n t c cf K : Nat) (w : World), Rd .i64 w a l → Rd .u8 w b f → l.length = n → n = 2 ^ m → n ≤ 512 → f.length = t → t < n → t ≤ cf → AllBits f → Within l K → K * n ≤ 1152921504606846976 →
      Calls Tryd.prog 42 #[.slice a n c, .slice b t cf] w fun e w' => e = .returned (.int .i64 (sightM m l f)) ∧ Below w.heap.size w w')
    (l f : List Int) (a b : Option Addr) (n h t c cf K : Nat) (w : World) (ha : Rd .i64 w a l) (hf : Rd .u8 w b f) (hl : l.length = n) (eh : h = 2 ^ m) (hnh : n = h + h) (h5 : n ≤ 512) (hft : f.length = t) (hth : t < h) (hcf : t ≤ cf) (bf : AllBits f) (hK : Within l K) (hKn : K * n ≤ 1152921504606846976) :
    Calls Tryd.prog 42 #[.slice a n c, .slice b t cf] w fun e w' => e = .returned (.int .i64 (sightM m (fL (l.take h) (l.drop h)) f)) ∧ Below w.heap.size w w' := by
  have h0 : 1 ≤ h := by omega
  have hK1 : K ≤ 1152921504606846976 := Nat.le_trans (Nat.le_mul_of_pos_right K (by omega)) hKn
  have hKh : K * h ≤ 1152921504606846976 := Nat.le_trans (Nat.mul_le_mul_left K (by omega)) hKn
  obtain ⟨b1, o1, rfl, hc1⟩ := ha.at (i := 0) (by omega)
  have l1 : (l.take h).length = h := by rw [List.length_take]; omega
  have l2 : (l.drop h).length = h := by rw [List.length_drop]; omega
  obtain ⟨L, eL⟩ : ∃ L, L = fL (l.take h) (l.drop h) := ⟨_, rfl⟩
  have LL := hid (show L.length = h by rw [eL]; exact fL_length l1 l2)
  have LA : Hid (∀ j, j < h → L.getD j 0 = fI (l.getD j 0) (l.getD (h + j) 0)) := by
    intro j hj
    rw [eL, fL_at l1 l2 hj, getD_take hj, getD_drop]
  have LW : Hid (Within L K) := by unfold Hid; rw [eL]; exact within_f l1 l2 (hK.take h) (hK.drop h)
  rw [← eL]
  have hq : (n : Int).tdiv 2 = (h : Int) := by rw [Int.tdiv_eq_ediv_of_nonneg (by omega)]; omega
  have hn1 : ((n : Int) == 1) = false := by simp; omega
  have hle : h ≤ n := by omega
  have HL := hid hl
  have HN := hid hnh
  have HE := hid eh
  have HF := hid hft
  have hn2 : h < n := by omega
  clear hl hnh eh hft l1 l2 eL hKn
  go_enter Tryd.func42, Tryd.ntmps42
  go_wp2
  go_loopw [6, 7] (fun v q wr => ∃ i : Nat, i ≤ h ∧ q = .int .i64 i ∧ OwnI wr w.heap.size v (L.take i) ∧ Below w.heap.size w wr) (fun _ q _ => h - (intOf q).toNat)
  case atStart => exact ⟨0, Nat.zero_le _, rfl, OwnI.nil _ _, Below.refl _ _⟩
  case round =>
    obtain ⟨i, hi, rfl, hown, hbel⟩ := hrel
    by_cases hlt : i < h
    · have g1 := (hbel.cell (World.block_lt_of_cell? w _ (hc1 i (by rw [HL.out]; omega)))).trans (hc1 i (by rw [HL.out]; omega))
      have g2 := (hbel.cell (World.block_lt_of_cell? w _ (hc1 (i + h) (by rw [HL.out, HN.out]; omega)))).trans (hc1 (i + h) (by rw [HL.out, HN.out]; omega))
      have b1' := hK i
      have b2' := hK (i + h)
      have HV := hid (LA.out i hlt)
      rw [Nat.add_comm h i] at HV
      have hil : i + h < n := by rw [HN.out]; omega
      have hin : i < n := by omega
      have HTL : Hid ((L.take i).length < 8796093022208) := by unfold Hid; rw [List.length_take]; omega
      have HI : Hid (i < L.length) := by unfold Hid; rw [LL.out]; exact hlt
      generalize l.getD i 0 = x at *
      generalize l.getD (i + h) 0 = y at *
      have hsz := hbel.size
      clear hc1
      by_cases cx : x < 0
      · by_cases cy : y < 0
        · by_cases cz : -y < -x
          · have HW : Hid (-y = L.getD i 0) := by unfold Hid; rw [HV.out]; unfold fI absI; (repeat' split) <;> omega
            clear HV
            go_wp2_with fail
            go_quiet (fail)
            have hown0 : OwnI (wr.drewN nq) w.heap.size u6 (L.take i) := hown
            have hbel0 := below_drewN hbel nq
            generalize wr.drewN nq = wq at *
            clear hown hbel g1 g2
            go_wp2_with (first | (at_builtin; refine wpList_pushI w.heap.size w _ hown0 rfl _ _ rfl rfl rfl HTL.out hbel0 hbel0.size ?_))
            intro v' w1 hown' hbel'
            replace hown' := hown'.cast (take_push HI.out (by first | exact HW.out | (rw [← HW.out]; omega)))
            clear hown0 hbel0
            go_wp2
            go_roundw
            case rel => exact ⟨i + 1, by omega, by go_num, hown', hbel'⟩
            case measure => simp [intOf]; omega
          · have HW : Hid (-x = L.getD i 0) := by unfold Hid; rw [HV.out]; unfold fI absI; (repeat' split) <;> omega
            clear HV
            go_wp2_with fail
            go_quiet (fail)
            have hown0 : OwnI (wr.drewN nq) w.heap.size u6 (L.take i) := hown
            have hbel0 := below_drewN hbel nq
            generalize wr.drewN nq = wq at *
            clear hown hbel g1 g2
            go_wp2_with (first | (at_builtin; refine wpList_pushI w.heap.size w _ hown0 rfl _ _ rfl rfl rfl HTL.out hbel0 hbel0.size ?_))
            intro v' w1 hown' hbel'
            replace hown' := hown'.cast (take_push HI.out (by first | exact HW.out | (rw [← HW.out]; omega)))
            clear hown0 hbel0
            go_wp2
            go_roundw
            case rel => exact ⟨i + 1, by omega, by go_num, hown', hbel'⟩
            case measure => simp [intOf]; omega
        · by_cases cz : y < -x
          · have HW : Hid (-(y) = L.getD i 0) := by unfold Hid; rw [HV.out]; unfold fI absI; (repeat' split) <;> omega
            clear HV
            go_wp2_with fail
            go_quiet (fail)
            have hown0 : OwnI (wr.drewN nq) w.heap.size u6 (L.take i) := hown
            have hbel0 := below_drewN hbel nq
            generalize wr.drewN nq = wq at *
            clear hown hbel g1 g2
            go_wp2_with (first | (at_builtin; refine wpList_pushI w.heap.size w _ hown0 rfl _ _ rfl rfl rfl HTL.out hbel0 hbel0.size ?_))
            intro v' w1 hown' hbel'
            replace hown' := hown'.cast (take_push HI.out (by first | exact HW.out | (rw [← HW.out]; omega)))
            clear hown0 hbel0
            go_wp2
            go_roundw
            case rel => exact ⟨i + 1, by omega, by go_num, hown', hbel'⟩
            case measure => simp [intOf]; omega
          · have HW : Hid (-(-x) = L.getD i 0) := by unfold Hid; rw [HV.out]; unfold fI absI; (repeat' split) <;> omega
            clear HV
            go_wp2_with fail
            go_quiet (fail)
            have hown0 : OwnI (wr.drewN nq) w.heap.size u6 (L.take i) := hown
            have hbel0 := below_drewN hbel nq
            generalize wr.drewN nq = wq at *
            clear hown hbel g1 g2
            go_wp2_with (first | (at_builtin; refine wpList_pushI w.heap.size w _ hown0 rfl _ _ rfl rfl rfl HTL.out hbel0 hbel0.size ?_))
            intro v' w1 hown' hbel'
            replace hown' := hown'.cast (take_push HI.out (by first | exact HW.out | (rw [← HW.out]; omega)))
            clear hown0 hbel0
            go_wp2
            go_roundw
            case rel => exact ⟨i + 1, by omega, by go_num, hown', hbel'⟩
            case measure => simp [intOf]; omega
      · by_cases cy : y < 0
        · by_cases cz : -y < x
          · have HW : Hid (-(-y) = L.getD i 0) := by unfold Hid; rw [HV.out]; unfold fI absI; (repeat' split) <;> omega
            clear HV
            go_wp2_with fail
            go_quiet (fail)
            have hown0 : OwnI (wr.drewN nq) w.heap.size u6 (L.take i) := hown
            have hbel0 := below_drewN hbel nq
            generalize wr.drewN nq = wq at *
            clear hown hbel g1 g2
            go_wp2_with (first | (at_builtin; refine wpList_pushI w.heap.size w _ hown0 rfl _ _ rfl rfl rfl HTL.out hbel0 hbel0.size ?_))
            intro v' w1 hown' hbel'
            replace hown' := hown'.cast (take_push HI.out (by first | exact HW.out | (rw [← HW.out]; omega)))
            clear hown0 hbel0
            go_wp2
            go_roundw
            case rel => exact ⟨i + 1, by omega, by go_num, hown', hbel'⟩
            case measure => simp [intOf]; omega
          · have HW : Hid (-(x) = L.getD i 0) := by unfold Hid; rw [HV.out]; unfold fI absI; (repeat' split) <;> omega
            clear HV
            go_wp2_with fail
            go_quiet (fail)
            have hown0 : OwnI (wr.drewN nq) w.heap.size u6 (L.take i) := hown
            have hbel0 := below_drewN hbel nq
            generalize wr.drewN nq = wq at *
            clear hown hbel g1 g2
            go_wp2_with (first | (at_builtin; refine wpList_pushI w.heap.size w _ hown0 rfl _ _ rfl rfl rfl HTL.out hbel0 hbel0.size ?_))
            intro v' w1 hown' hbel'
            replace hown' := hown'.cast (take_push HI.out (by first | exact HW.out | (rw [← HW.out]; omega)))
            clear hown0 hbel0
            go_wp2
            go_roundw
            case rel => exact ⟨i + 1, by omega, by go_num, hown', hbel'⟩
            case measure => simp [intOf]; omega
        · by_cases cz : y < x
          · have HW : Hid (y = L.getD i 0) := by unfold Hid; rw [HV.out]; unfold fI absI; (repeat' split) <;> omega
            clear HV
            go_wp2_with fail
            go_quiet (fail)
            have hown0 : OwnI (wr.drewN nq) w.heap.size u6 (L.take i) := hown
            have hbel0 := below_drewN hbel nq
            generalize wr.drewN nq = wq at *
            clear hown hbel g1 g2
            go_wp2_with (first | (at_builtin; refine wpList_pushI w.heap.size w _ hown0 rfl _ _ rfl rfl rfl HTL.out hbel0 hbel0.size ?_))
            intro v' w1 hown' hbel'
            replace hown' := hown'.cast (take_push HI.out (by first | exact HW.out | (rw [← HW.out]; omega)))
            clear hown0 hbel0
            go_wp2
            go_roundw
            case rel => exact ⟨i + 1, by omega, by go_num, hown', hbel'⟩
            case measure => simp [intOf]; omega
          · have HW : Hid (x = L.getD i 0) := by unfold Hid; rw [HV.out]; unfold fI absI; (repeat' split) <;> omega
            clear HV
            go_wp2_with fail
            go_quiet (fail)
            have hown0 : OwnI (wr.drewN nq) w.heap.size u6 (L.take i) := hown
            have hbel0 := below_drewN hbel nq
            generalize wr.drewN nq = wq at *
            clear hown hbel g1 g2
            go_wp2_with (first | (at_builtin; refine wpList_pushI w.heap.size w _ hown0 rfl _ _ rfl rfl rfl HTL.out hbel0 hbel0.size ?_))
            intro v' w1 hown' hbel'
            replace hown' := hown'.cast (take_push HI.out (by first | exact HW.out | (rw [← HW.out]; omega)))
            clear hown0 hbel0
            go_wp2
            go_roundw
            case rel => exact ⟨i + 1, by omega, by go_num, hown', hbel'⟩
            case measure => simp [intOf]; omega
    · obtain rfl : i = h := by omega
      have HTA : Hid (L.take i = L) := by unfold Hid; exact List.take_of_length_le (by rw [LL.out]; omega)
      rw [HTA.out] at hown
      obtain ⟨a3, c3, rfl, -, -, hr3, -⟩ := hown.slice LL.out
      go_wp2_with fail
      refine (ih L f _ _ i t c3 cf K _ hr3 (hf.below hbel) LL.out HE.out (by omega) HF.out hth hcf bf LW.out hKh).mono ?_
      rintro e w2 ⟨rfl, hb2⟩
      go_wp2
      go_ret
      exact ⟨rfl, hbel.trans (hb2.mono hbel.size)⟩
end Go.Proofs.YtfbjedcfppghgabDoor
