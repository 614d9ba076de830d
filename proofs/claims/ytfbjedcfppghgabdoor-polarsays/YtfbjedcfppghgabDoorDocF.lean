import Derived.Test.YtfbjedcfppghgabDoorDocG
import Derived.Maps.AppendAt
namespace Go.Proofs.YtfbjedcfppghgabDoor
open Go.ChangeShapes Go.WideShapes Go.ChangeAt Go.RowKit

/-! THE DOCUMENT'S Found: two lists that grow beside each other. -/

def Apart (v u : Value) : Prop := ∀ k, v.ownBlock = some k → u.ownBlock ≠ some k
theorem Apart.symm {v u : Value} (h : Apart v u) : Apart u v := fun k hk hv => h k hv hk
theorem Own.grow {w w' : World} {B : Nat} {u : Value} {M : List Int} {row : Option Nat} (h : Own w B u M) (hg : w.grownBy w' row) (hr : ∀ k, row = some k → u.ownBlock ≠ some k) : Own w' B u M := by
  refine ⟨h.1, ?_⟩
  rcases h.2 with h' | ⟨g, cap, cur, h1, h2, h3, h4⟩
  · exact .inl h'
  · have hlt : g < w.heap.size := by
      rcases Nat.lt_or_ge g w.heap.size with hl | hl
      · exact hl
      · rw [Array.getElem?_eq_none hl] at h3; cases h3
    refine .inr ⟨g, cap, cur, h1, h2, (hg.block g hlt (fun e => hr g e.symm ?_)).trans h3, h4⟩
    rw [h1]; rfl

/-- 'out = append(out, y)' beside another list of one's own. -/
theorem wpList_pushA {ops : Array Oper} {rest : List Oper} {o : Oper} {a : Act} {Q : Exit → Act → World → Prop} {w0 : World} {v u : Value} {L M : List Int} (B : Nat) (w00 : World) (y : Int) (hown : Own w0 B v L) (hoth : Own w0 B u M) (hap : Apart v u) (hgd : o.guard = none) (s x : Operand)
    (ho : o.op = .call { callee := .builtin .append, args := #[s, x], argTypes := #[22, 22] }) (hs : a.eval s = v)
    (hx : a.eval x = .slice (some ⟨w0.heap.size, 0, none⟩) 1 1) (hlen : L.length < 70368744177664) (hbel : Below B w00 w0) (hB : B ≤ w0.heap.size)
    (h : ∀ v' w', Own w' B v' (L ++ [y]) → Own w' B u M → Apart v' u → Below B w00 w' → wpList Tryd.prog ops Q rest (a.put o.dst v') w') : wpList Tryd.prog ops Q (o :: rest) a (w0.alloc (.cells #[.int .u8 y] 5)) := by
  obtain ⟨i0, hi, hz0, hz1, hz2⟩ := info_parts Tryd.info5
  refine wpList_append_own_at _ hgd s x 22 ho B 5 i0 (.int .u8 0) 1 1 Tryd.underlying22 hi hz0 hz1 hz2 rfl (by decide) v _ _ hs (World.ownsRow.alloc hown _) ⟨w0.heap.size, 0, none⟩ 1 1 [.int .u8 y] hx rfl (cell_one_new _ _ _) ?_ ?_ ?_ ?_ ?_
  · intro u hu; simp at hu; subst hu; rfl
  · unfold maxLen; omega
  · omega
  · simp; omega
  · intro v' w' h1 h2 _ h4
    have hoth1 : Own (w0.alloc (.cells #[.int .u8 y] 5)) B u M := World.ownsRow.alloc hoth _
    refine h v' w' (Own.snoc h1) (hoth1.grow h2 (fun k hk => hap k hk)) ?_ ((hbel.alloc hB _).grown h2 (by simp; omega) (own_blocks hown))
    intro k hk
    rcases h4 with h4 | h4
    · exact hap k (h4.symm.trans hk)
    · intro hu
      have hlt := (hoth.lt k hu).2
      have : k = (w0.alloc (.cells #[.int .u8 y] 5)).heap.size := Option.some.inj (hk.symm.trans h4)
      simp at this
      omega

/-- Which places are open. -/
def openM (n k : Nat) : List Bool := (List.range n).map (isPlace n k)
theorem open_at {n k i : Nat} (h : i < n) : (openM n k).getD i false = isPlace n k i := by simp [openM, List.getD, h]
def readTo (n k : Nat) (U : List Int) (i : Nat) : List Int := readM ((List.range i).filter (isPlace n k)) U
theorem readTo_length (n k : Nat) (U : List Int) (i : Nat) : (readTo n k U i).length = cntM (isPlace n k) i := by simp [readTo, readM, cntM]
theorem readTo_yes {n k i : Nat} {U : List Int} (h : isPlace n k i = true) : readTo n k U (i + 1) = readTo n k U i ++ [U.getD i 0] := by
  unfold readTo readM
  rw [List.range_succ, List.filter_append, List.map_append]
  simp [h]
theorem readTo_no {n k i : Nat} {U : List Int} (h : isPlace n k i = false) : readTo n k U (i + 1) = readTo n k U i := by
  unfold readTo readM
  rw [List.range_succ, List.filter_append, List.map_append]
  simp [h]
theorem cnt_le (q : Nat → Bool) (i : Nat) : cntM q i ≤ i := by
  unfold cntM
  have := List.length_filter_le q (List.range i)
  simpa using this

set_option maxRecDepth 100000 in
set_option maxHeartbeats 4000000 in
theorem rfound_any (m : Nat) (l : List Int) (a : Option Addr) (n k c : Nat) (w : World) (ha : Rd .i64 w a l) (hl : l.length = n) (hn : n = 2 ^ m) (h5 : n ≤ 512) (hk : k ≤ n) (hK : Within l 100000) :
    Calls Tryd.prog 29 #[.slice a n c, .int .i64 k] w fun e w' => ∃ v, e = .returned v ∧ Own w' w.heap.size v (readM (placesM n k) (decP m l (openM n k))) ∧ Below w.heap.size w w' := by
  obtain ⟨U, eU⟩ : ∃ U, U = decP m l (openM n k) := ⟨_, rfl⟩
  have LU := hid (show U.length = n by rw [eU, decP_length, hn])
  have bU : AllBits U := by rw [eU]; exact decP_bits m l _
  have HS : Hid (∀ i, i < n → U.getD i 0 = if isPlace n k i && decide (sightM m l (U.take i) < 0) then 1 else 0) := by
    intro i hi
    have := decP_sight m l (openM n k) i (by omega)
    rw [open_at hi, ← eU] at this
    exact this
  rw [← eU]
  have HL := hid hl
  have HN := hid hn
  have HP := hid (places_length hk)
  have HPI := hid ((ints_length (placesM n k)).trans HP.out)
  clear hl hn eU
  go_enter Tryd.func29, Tryd.ntmps29
  go_wp2_with fail
  refine (rplaces_any n k _ h5).mono ?_
  rintro e w1 ⟨v1, rfl, hown1, hbel1⟩
  obtain ⟨aP, cP, rfl, hcP, hcPm, hrP, -⟩ := hown1.slice HPI.out
  clear hown1
  unfold maxLen at hcPm
  go_wp2
  go_loopw [6, 7, 8] (fun v6 v7 q wr => ∃ i : Nat, i ≤ n ∧ q = .int .i64 i ∧ Own wr w1.heap.size v6 (U.take i) ∧ Own wr w1.heap.size v7 (readTo n k U i) ∧ Apart v6 v7 ∧ Below w1.heap.size w1 wr) (fun _ _ q _ => n - (intOf q).toNat)
  case atStart => exact ⟨0, Nat.zero_le _, rfl, Own.nil _ _, Own.nil _ _, (fun k hk => by cases hk), Below.refl _ _⟩
  case round =>
    obtain ⟨i, hi, rfl, ho6, ho7, hap, hbel⟩ := hrel
    have hbw := bthen hbel1 hbel
    have hsz := hbel.size
    by_cases hlt : i < n
    · have LT := hid (show (U.take i).length = i by rw [List.length_take, LU.out]; omega)
      have LR := hid (readTo_length n k U i)
      have hcl := cnt_le (isPlace n k) i
      obtain ⟨a6, c6, rfl, hc6, hc6m, hr6, -⟩ := ho6.slice LT.out
      obtain ⟨a7, c7, rfl, hc7, hc7m, hr7, -⟩ := ho7.slice LR.out
      have HUi := hid (HS.out i hlt)
      have HI : Hid (i < U.length) := by unfold Hid; rw [LU.out]; exact hlt
      have HL6 : Hid ((U.take i).length < 70368744177664) := by unfold Hid; rw [LT.out]; omega
      have HL7 : Hid ((readTo n k U i).length < 70368744177664) := by unfold Hid; rw [LR.out]; omega
      cases hq : isPlace n k i with
      | true =>
        have hpl := place_at (isPlace n k) hlt hq
        have hck : cntM (isPlace n k) i < k := by have := hpl.1; have e := HP.out; unfold placesM at e; omega
        obtain ⟨b2, o2, rfl, hc2⟩ := (hrP.below hbel).at (i := cntM (isPlace n k) i) (by rw [HPI.out]; exact hck)
        have g2 := hc2 (cntM (isPlace n k) i) (by rw [HPI.out]; exact hck)
        rw [ints_at] at g2
        have e2 : (placesM n k).getD (cntM (isPlace n k) i) 0 = i := hpl.2
        rw [e2] at g2
        have HY := hid (readTo_yes (U := U) hq)
        rw [hq] at HUi
        have bUt : AllBits (U.take i) := fun y hy => bU y (List.mem_of_mem_take hy)
        have hsi := fun w' (h' : Below wr.heap.size wr w') => rsight_any m l (U.take i) a a6 n i c c6 100000 w' (ha.below (bthen hbw h')) (hr6.below h') HL.out HN.out h5 LT.out hlt hc6 bUt hK (by omega)
        have hsi0 := hsi wr (Below.refl _ _)
        clear hsi hc2 hpl e2
        generalize cntM (isPlace n k) i = t at *
        generalize sightM m l (U.take i) = z at *
        have hti : ((i : Int) == (i : Int)) = true := by simp
        by_cases hz : z < 0
        · have HV : Hid (1 = U.getD i 0) := by unfold Hid; rw [HUi.out]; simp [hz]
          clear HUi
          go_wp2_with fail
          refine hsi0.mono ?_
          rintro e w2 ⟨rfl, hb2⟩
          have ho6' := ho6.below hb2
          have ho7' := ho7.below hb2
          have hbel' := hbel.trans (hb2.mono hsz)
          have hsz' := hbel'.size
          clear ho6 ho7 hr6 hr7
          go_wp2_with (first | (at_builtin; refine wpList_pushA w1.heap.size w1 1 ho6' ho7' hap rfl (.tmp 42) (.tmp 44) rfl rfl rfl HL6.out hbel' hsz' ?_))
          intro v6 w3 ho6'' ho7'' hap' hbel''
          replace ho6'' : Own w3 w1.heap.size v6 (U.take (i + 1)) := take_push HI.out HV.out ▸ ho6''
          have hsz'' := hbel''.size
          clear ho6' ho7' hap
          go_wp2_with (first | (at_builtin; refine wpList_pushA w1.heap.size w1 1 ho7'' ho6'' hap'.symm rfl (.tmp 47) (.tmp 49) rfl rfl rfl HL7.out hbel'' hsz'' ?_))
          intro v7 w4 ho7n ho6n hapn hbeln
          rw [HV.out, ← HY.out] at ho7n
          go_wp2
          go_roundw
          case rel => exact ⟨i + 1, by omega, by go_num, ho6n, ho7n, hapn.symm, hbeln⟩
          case measure => simp [intOf]; omega
        · have HV : Hid (0 = U.getD i 0) := by unfold Hid; rw [HUi.out]; simp [hz]
          clear HUi
          go_wp2_with fail
          refine hsi0.mono ?_
          rintro e w2 ⟨rfl, hb2⟩
          have ho6' := ho6.below hb2
          have ho7' := ho7.below hb2
          have hbel' := hbel.trans (hb2.mono hsz)
          have hsz' := hbel'.size
          clear ho6 ho7 hr6 hr7
          go_wp2_with (first | (at_builtin; refine wpList_pushA w1.heap.size w1 0 ho6' ho7' hap rfl (.tmp 42) (.tmp 44) rfl rfl rfl HL6.out hbel' hsz' ?_))
          intro v6 w3 ho6'' ho7'' hap' hbel''
          replace ho6'' : Own w3 w1.heap.size v6 (U.take (i + 1)) := take_push HI.out HV.out ▸ ho6''
          have hsz'' := hbel''.size
          clear ho6' ho7' hap
          go_wp2_with (first | (at_builtin; refine wpList_pushA w1.heap.size w1 0 ho7'' ho6'' hap'.symm rfl (.tmp 47) (.tmp 49) rfl rfl rfl HL7.out hbel'' hsz'' ?_))
          intro v7 w4 ho7n ho6n hapn hbeln
          rw [HV.out, ← HY.out] at ho7n
          go_wp2
          go_roundw
          case rel => exact ⟨i + 1, by omega, by go_num, ho6n, ho7n, hapn.symm, hbeln⟩
          case measure => simp [intOf]; omega
      | false =>
        have hpn := place_not (isPlace n k) hlt hq
        have HY := hid (readTo_no (U := U) hq)
        rw [hq] at HUi
        have HV : Hid (0 = U.getD i 0) := by unfold Hid; rw [HUi.out]; simp
        by_cases hck : cntM (isPlace n k) i < k
        · have hne : (placesM n k).getD (cntM (isPlace n k) i) 0 ≠ i := hpn (by have e := HP.out; unfold placesM at e; omega)
          obtain ⟨b2, o2, rfl, hc2⟩ := (hrP.below hbel).at (i := cntM (isPlace n k) i) (by rw [HPI.out]; exact hck)
          have g2 := hc2 (cntM (isPlace n k) i) (by rw [HPI.out]; exact hck)
          rw [ints_at] at g2
          clear hc2 hpn
          generalize (placesM n k).getD (cntM (isPlace n k) i) 0 = pt at *
          generalize cntM (isPlace n k) i = t at *
          have hti : ((pt : Int) == (i : Int)) = false := by simp; omega
          clear hne
          clear HUi
          go_wp2_with (first | (at_builtin; refine wpList_pushA w1.heap.size w1 0 ho6 ho7 hap rfl (.tmp 42) (.tmp 44) rfl rfl rfl HL6.out hbel hsz ?_))
          intro v6 w3 ho6n ho7n hapn hbeln
          replace ho6n : Own w3 w1.heap.size v6 (U.take (i + 1)) := take_push HI.out HV.out ▸ ho6n
          rw [← HY.out] at ho7n
          go_wp2
          go_roundw
          case rel => exact ⟨i + 1, by omega, by go_num, ho6n, ho7n, hapn, hbeln⟩
          case measure => simp [intOf]; omega
        · clear hpn
          generalize cntM (isPlace n k) i = t at *
          clear HUi
          go_wp2_with (first | (at_builtin; refine wpList_pushA w1.heap.size w1 0 ho6 ho7 hap rfl (.tmp 42) (.tmp 44) rfl rfl rfl HL6.out hbel hsz ?_))
          intro v6 w3 ho6n ho7n hapn hbeln
          replace ho6n : Own w3 w1.heap.size v6 (U.take (i + 1)) := take_push HI.out HV.out ▸ ho6n
          rw [← HY.out] at ho7n
          go_wp2
          go_roundw
          case rel => exact ⟨i + 1, by omega, by go_num, ho6n, ho7n, hapn, hbeln⟩
          case measure => simp [intOf]; omega
    · obtain rfl : i = n := by omega
      go_wp2
      go_ret
      exact ⟨_, rfl, ho7.mono hbel1.size, hbw⟩
end Go.Proofs.YtfbjedcfppghgabDoor
