import Derived.Test.YtmdfjhnibhmdkafDoorSt17
import Derived.Laws.ResultCell
import Derived.BigRegion
import Derived.Deep.RegionHeld3
import Derived.Deep.Cut
namespace Go.Proofs.YtmdfjhnibhmdkafDoor
open Go.ChangeShapes Go.WideShapes Go.ChangeAt Go.RowKit
theorem results_row_tmp2 {P : Program} {fn : Func} {p u x : Tmp} {ty : TypeId} (h : fn.results = #[.cell p ty, .tmp u, .tmp x]) (tmps : Array Value) (w : World) (g : Nat) (t : TypeId) (cs : Array Value) (fr : Nat × Nat) (d : TypeDesc)
    (hp : tmps.getD p undef = .pointer (some ⟨g, 0, none⟩)) (hg : w.heap[g]? = some (.cells cs t fr))
    (hu : P.underlying ty = some d) (hd : (match d with | .struct _ | .array _ _ => true | _ => false) = true) (hi : (P.info? ty).map (·.size) = some cs.size) :
    (results fn tmps).run P w = .ok (.tuple #[.agg cs, tmps.getD u undef, tmps.getD x undef]) w := by
  have hp' : tmps[p]?.getD undef = .pointer (some ⟨g, 0, none⟩) := by simpa using hp
  simp [results, h, hp', asAddr, run_loadVar_row w g t ty cs fr d hg hu hd hi]
/-- The first item of a text, and what is behind it. -/
def firstM (s : ByteArray) : Option (ItemM × ByteArray) := if s.size < 3 then none else if s.size < 3 + partN s 0 then none else if (partI s 0).ok = false then none else some (partI s 0, s.extract (3 + partN s 0) s.size)
def firstV (s : ByteArray) : Value := match firstM s with
  | none => .tuple #[.agg #[.int .i64 0, .string ByteArray.empty], .string ByteArray.empty, .int .i64 3]
  | some (I, r) => .tuple #[.agg #[.int .i64 I.ch, .string I.data], .string r, .int .i64 0]
theorem firstV_none {s : ByteArray} (h : firstM s = none) : firstV s = .tuple #[.agg #[.int .i64 0, .string ByteArray.empty], .string ByteArray.empty, .int .i64 3] := by unfold firstV; rw [h]
theorem firstV_some {s : ByteArray} {I : ItemM} {r : ByteArray} (h : firstM s = some (I, r)) : firstV s = .tuple #[.agg #[.int .i64 I.ch, .string I.data], .string r, .int .i64 0] := by unfold firstV; rw [h]
/-- Two cells of a block, and what is stored there. -/
theorem two_facts {w : World} {g : Nat} {x y : Value} {T : TypeId} (h : w.heap[g]? = some (.cells #[x, y] T (0, 0))) (u v : Value) : w.cell? ⟨g, 0, none⟩ = some x ∧ w.frozen? ⟨g, 0, none⟩ = false ∧ w.cell? ⟨g, 1, none⟩ = some y ∧ (w.setCell ⟨g, 0, none⟩ u).cell? ⟨g, 1, none⟩ = some y ∧ (w.setCell ⟨g, 0, none⟩ u).frozen? ⟨g, 1, none⟩ = false ∧
    ((w.setCell ⟨g, 0, none⟩ u).setCell ⟨g, 1, none⟩ v).heap[g]? = some (.cells #[u, v] T (0, 0)) := by
  have h1 : (w.setCell ⟨g, 0, none⟩ u).heap[g]? = some (.cells #[u, y] T (0, 0)) := heap_setCell_same w g 0 _ _ u h
  have h2 : ((w.setCell ⟨g, 0, none⟩ u).setCell ⟨g, 1, none⟩ v).heap[g]? = some (.cells #[u, v] T (0, 0)) := heap_setCell_same _ g 1 _ _ v h1
  refine ⟨by rw [cell_of_row _ _ _ _ _ _ h]; rfl, frozen_of_row _ _ _ _ _ h, by rw [cell_of_row _ _ _ _ _ _ h]; rfl, by rw [cell_of_row _ _ _ _ _ _ h1]; rfl, frozen_of_row _ _ _ _ _ h1, h2⟩
set_option maxRecDepth 100000 in
set_option maxHeartbeats 1000000 in
theorem first_any (s : ByteArray) (w : World) (hs : s.size ≤ 65535) :
    Calls Tryd.prog 29 #[.string s] w fun e w' => e = .returned (firstV s) ∧ Below w.heap.size w w' := by
  by_cases h3 : s.size < 3
  · have x3 : decide ((s.size : Int) < 3) = true := decide_eq_true (by omega)
    have HX := hid (firstV_none (s := s) (by unfold firstM; rw [if_pos h3]))
    clear h3
    go_enter Tryd.func29, Tryd.ntmps29
    go_wp2_with fail
    (try simp only [Exit.inBlock, Exit.then])
    refine bodyPost_ret (results_row_tmp2 (p := 2) (ty := 31) rfl _ _ w.heap.size 31 _ (0, 0) _ rfl (heap_alloc_new w _) Tryd.underlying31 rfl (by kernel_rfl)) rfl ?_
    rw [HX.out]
    exact ⟨rfl, (Below.refl _ w).alloc (Nat.le_refl _) _⟩
  · have x3 : decide ((s.size : Int) < 3) = false := decide_eq_false (by omega)
    have g0 : 0 < s.size := by omega
    have g1 : 1 < s.size := by omega
    have g2 : 2 < s.size := by omega
    obtain ⟨B0, eB0⟩ : ∃ B0, s[0].toNat = B0 := ⟨_, rfl⟩
    obtain ⟨B1, eB1⟩ : ∃ B1, s[1].toNat = B1 := ⟨_, rfl⟩
    obtain ⟨B2, eB2⟩ : ∃ B2, s[2].toNat = B2 := ⟨_, rfl⟩
    have hN0 := byteN_eq s 0 g0
    have hN1 := byteN_eq s 1 g1
    have hN2 := byteN_eq s 2 g2
    rw [eB0] at hN0
    rw [eB1] at hN1
    rw [eB2] at hN2
    have hB0 := byteN_lt s 0
    have hB1 := byteN_lt s 1
    have hB2 := byteN_lt s 2
    have hpn : partN s 0 = 256 * B1 + B2 := by unfold partN; rw [hN1, hN2]
    have gi0 : (0 : Int) < (s.size : Int) := by omega
    have gi1 : (1 : Int) < (s.size : Int) := by omega
    have gi2 : (2 : Int) < (s.size : Int) := by omega
    go_enter Tryd.func29, Tryd.ntmps29
    go_upto_region 3 with fail
    go_region
    go_upto_region 4 with fail
    obtain ⟨N, eN⟩ : ∃ N, N = 3 + (256 * B1 + B2) := ⟨_, rfl⟩
    have eN2 : 3 + (B1 : Int) * 256 + (B2 : Int) = (N : Int) := by omega
    rw [eN2]
    have hNp : 3 + partN s 0 = N := by omega
    have hNb : N ≤ 65538 := by omega
    have hN3 : 3 ≤ N := by omega
    clear hN1 hN2 eN2 eN hpn eB1 eB2
    by_cases hs4 : s.size < N
    · have y4 : decide ((s.size : Int) < (N : Int)) = true := decide_eq_true (by omega)
      have HX := hid (firstV_none (s := s) (by unfold firstM; rw [if_neg h3, if_pos (by rw [hNp]; exact hs4)]))
      go_wp2_with fail
      (try simp only [Exit.inBlock, Exit.then])
      refine bodyPost_ret (results_row_tmp2 (p := 2) (ty := 31) rfl _ _ w.heap.size 31 _ (0, 0) _ rfl (heap_alloc_new w _) Tryd.underlying31 rfl (by kernel_rfl)) rfl ?_
      rw [HX.out]
      exact ⟨rfl, ((Below.refl _ w).alloc (Nat.le_refl _) _).drew⟩
    · have y4 : decide ((s.size : Int) < (N : Int)) = false := decide_eq_false (by omega)
      have gs1 : (3 : Int) ≤ (N : Int) := by omega
      have gs2 : (N : Int) ≤ (s.size : Int) := by omega
      have gs3 : (0 : Int) ≤ (N : Int) := by omega
      have ePI : partI s 0 = ⟨(B0 : Int), s.extract 3 N⟩ := by unfold partI; rw [hN0, ← hNp, Nat.zero_add]
      have hci := citem_any ⟨(B0 : Int), s.extract 3 N⟩
      have HP := hid ePI
      clear ePI
      go_upto_region 6 with fail
      go_region
      go_upto_region 7 with fail
      have hA := heap_alloc_new w (.cells #[.int .i64 (B0 : Int), .string (s.extract 3 N)] 31)
      have hA : (w.alloc (.cells #[.int .i64 (B0 : Int), .string (s.extract 3 N)] 31)).drew.drew.heap[w.heap.size]? = some (.cells #[.int .i64 (B0 : Int), .string (s.extract 3 N)] 31 (0, 0)) := hA
      have hlt : w.heap.size < (w.alloc (.cells #[.int .i64 (B0 : Int), .string (s.extract 3 N)] 31)).drew.drew.heap.size := by simp
      have hbx : Below w.heap.size w (w.alloc (.cells #[.int .i64 (B0 : Int), .string (s.extract 3 N)] 31)).drew.drew := ((Below.refl _ w).alloc (Nat.le_refl _) _).drew.drew
      generalize (w.alloc (.cells #[.int .i64 (B0 : Int), .string (s.extract 3 N)] 31)).drew.drew = wx at *
      have hkp := fun (w1 : World) (h1 : Below wx.heap.size wx w1) => (h1.block w.heap.size hlt).trans hA
      have hbb := fun (w1 : World) (h1 : Below wx.heap.size wx w1) => hbx.trans (h1.mono hbx.size)
      have q0 : wx.cell? ⟨w.heap.size, 0, none⟩ = some (.int .i64 (B0 : Int)) := by rw [cell_of_row _ _ _ _ _ _ hA]; rfl
      have q1 : wx.cell? ⟨w.heap.size, 1, none⟩ = some (.string (s.extract 3 N)) := by rw [cell_of_row _ _ _ _ _ _ hA]; rfl
      cases hok : (⟨(B0 : Int), s.extract 3 N⟩ : ItemM).ok with
      | false =>
        rw [ItemM.err_bad hok] at hci
        have HX := hid (firstV_none (s := s) (by unfold firstM; rw [if_neg h3, if_neg (by rw [hNp]; exact hs4), HP.out, if_pos hok]))
        clear hok hA
        go_wp2_with (go_at_call 41; refine (hci _).mono ?_; rintro e w1 ⟨rfl, hb1⟩; have hA1 := hkp _ hb1; have hbw := hbb _ hb1; obtain ⟨c0, z0, c1, c2, z2, hA2⟩ := two_facts hA1 (.int .i64 0) (.string ByteArray.empty); have hbv : Below w.heap.size w ((w1.setCell ⟨w.heap.size, 0, none⟩ (.int .i64 0)).setCell ⟨w.heap.size, 1, none⟩ (.string ByteArray.empty)) := (hbw.setCell (p := ⟨w.heap.size, 0, none⟩) (Nat.le_refl _) _).setCell (p := ⟨w.heap.size, 1, none⟩) (Nat.le_refl _) _)
        (try simp only [Exit.inBlock, Exit.then])
        refine bodyPost_ret (results_row_tmp2 (p := 2) (ty := 31) rfl _ _ w.heap.size 31 _ (0, 0) _ rfl hA2 Tryd.underlying31 rfl (by kernel_rfl)) rfl ?_
        rw [HX.out]
        exact ⟨rfl, hbv⟩
      | true =>
        rw [ItemM.err_ok hok] at hci
        have HX := hid (firstV_some (s := s) (I := ⟨(B0 : Int), s.extract 3 N⟩) (r := s.extract N s.size) (by unfold firstM; rw [if_neg h3, if_neg (by rw [hNp]; exact hs4), HP.out, if_neg (by rw [hok]; decide), hNp]))
        clear hok hA
        go_upto_region 9 with (go_at_call 41; refine (hci _).mono ?_; rintro e w1 ⟨rfl, hb1⟩; have hA1 := hkp _ hb1; have hbw := hbb _ hb1; obtain ⟨c0, z0, c1, c2, z2, hA2⟩ := two_facts hA1 (.int .i64 (B0 : Int)) (.string (s.extract 3 N)); have hbv : Below w.heap.size w ((w1.setCell ⟨w.heap.size, 0, none⟩ (.int .i64 (B0 : Int))).setCell ⟨w.heap.size, 1, none⟩ (.string (s.extract 3 N))) := (hbw.setCell (p := ⟨w.heap.size, 0, none⟩) (Nat.le_refl _) _).setCell (p := ⟨w.heap.size, 1, none⟩) (Nat.le_refl _) _)
        go_region
        go_wp2_with fail
        (try simp only [Exit.inBlock, Exit.then])
        refine bodyPost_ret (results_row_tmp2 (p := 2) (ty := 31) rfl _ _ w.heap.size 31 _ (0, 0) _ rfl hA2 Tryd.underlying31 rfl (by kernel_rfl)) rfl ?_
        rw [HX.out]
        exact ⟨rfl, hbv.drew⟩
end Go.Proofs.YtmdfjhnibhmdkafDoor
namespace Go.Proofs.YtmdfjhnibhmdkafDoor
open Go.ChangeShapes Go.WideShapes Go.ChangeAt Go.RowKit
theorem ext_ext (s : ByteArray) (p q a b : Nat) (h : p + b ≤ q) : (s.extract p q).extract a b = s.extract (p + a) (p + b) := by
  refine ByteArray.ext ?_
  rw [ByteArray.data_extract, ByteArray.data_extract, ByteArray.data_extract, Array.extract_extract]
  congr 1
  omega
theorem ext_all (s : ByteArray) : s.extract 0 s.size = s := by
  refine ByteArray.ext ?_
  rw [ByteArray.data_extract]
  exact Array.extract_size
theorem ext_size (s : ByteArray) (p q : Nat) (h : q ≤ s.size) : (s.extract p q).size = q - p := by
  rw [ByteArray.size_extract]; omega
theorem byteN_ext (s : ByteArray) (p q j : Nat) (h : p + j < q) (hq : q ≤ s.size) : byteN (s.extract p q) j = byteN s (p + j) := by
  have h1 : j < (s.extract p q).size := by rw [ext_size s p q hq]; omega
  rw [byteN_eq _ _ h1, byteN_eq s (p + j) (by omega)]
  congr 1
  show (s.extract p q).data[j]'_ = s.data[p + j]'_
  simp only [ByteArray.data_extract, Array.getElem_extract]
theorem byteN_far (s : ByteArray) {j : Nat} (h : s.size ≤ j) : byteN s j = 0 := by
  unfold byteN
  rw [dif_neg (by omega)]
theorem emp_true {s : ByteArray} (h : s.size = 0) : s.toList.isEmpty = true := by
  rw [ByteArray.toList_eq]
  have : s.data.toList.length = 0 := by rw [Array.length_toList]; exact h
  rw [List.eq_nil_of_length_eq_zero this]
  rfl
theorem emp_false {s : ByteArray} (h : 0 < s.size) : s.toList.isEmpty = false := by
  rw [ByteArray.toList_eq]
  cases hq : s.data.toList with
  | nil =>
    have e : s.data.toList.length = s.size := by rw [Array.length_toList]; rfl
    rw [hq] at e
    simp at e
    omega
  | cons x l => rfl
def strLen : Value → Nat
  | .string s => s.size
  | _ => 0
set_option maxHeartbeats 1000000 in
theorem trimL_any (s : ByteArray) (w : World) (hs : s.size ≤ 65535) :
    Calls Tryd.prog 42 #[.string s, .int .u8 0] w fun e w' => (∃ p, p ≤ s.size ∧ e = .returned (.string (s.extract p s.size)) ∧ (∀ j, j < p → byteN s j = 0) ∧ (p = s.size ∨ byteN s p ≠ 0)) ∧ w' = w := by
  go_enter Tryd.func42, Tryd.ntmps42
  go_wp2
  go_loop [0] (fun q => ∃ p : Nat, p ≤ s.size ∧ q = .string (s.extract p s.size) ∧ Hid (∀ j, j < p → byteN s j = 0)) (fun q => strLen q)
  case atStart => exact ⟨0, by omega, by rw [ext_all], fun j hj => absurd hj (Nat.not_lt_zero _)⟩
  case round =>
    obtain ⟨p, hp, rfl, HZ⟩ := hrel
    have hus := ext_size s p s.size (Nat.le_refl _)
    obtain ⟨u, eu⟩ : ∃ u, u = s.extract p s.size := ⟨_, rfl⟩
    rw [← eu] at hus ⊢
    have HU := hid eu
    by_cases hlt : p < s.size
    · have g0 : 0 < u.size := by omega
      have gi0 : (0 : Int) < (u.size : Int) := by omega
      have x0 : decide ((0 : Int) < (u.size : Int)) = true := decide_eq_true (by omega)
      obtain ⟨B0, eB0⟩ : ∃ B0, u[0].toNat = B0 := ⟨_, rfl⟩
      have hN0 := byteN_eq u 0 g0
      rw [eB0] at hN0
      have hB0 := byteN_lt u 0
      have hbs : byteN s p = B0 := by rw [← hN0, eu, byteN_ext s p s.size 0 (by omega) (Nat.le_refl _)]; rfl
      by_cases hz : B0 = 0
      · have HE := hid (show u.extract 1 u.size = s.extract (p + 1) s.size by rw [hus, eu, ext_ext _ _ _ _ _ (by omega), show p + (s.size - p) = s.size by omega])
        have HZ2 : Hid (∀ j, j < p + 1 → byteN s j = 0) := fun j hj => by
          by_cases e : j = p
          · rw [e, hbs, hz]
          · exact HZ.out j (by omega)
        subst hz
        have HUS := hid hus
        have hu65 : u.size ≤ 65535 := by omega
        clear eu hbs HZ hus
        go_wp2
        go_round
        case rel => exact ⟨p + 1, by omega, by rw [HE.out], HZ2⟩
        case measure => rw [HE.out]; show (s.extract (p + 1) s.size).size < u.size; rw [ext_size _ _ _ (Nat.le_refl _), HUS.out]; omega
      · have xz : ((B0 : Int) == 0) = false := by simp; omega
        have HQ := hid (show byteN s p ≠ 0 by rw [hbs]; exact hz)
        have hu65 : u.size ≤ 65535 := by omega
        clear eu hbs hz hus
        go_wp2
        go_ret
        exact ⟨⟨p, hp, by rw [HU.out]; rfl, HZ.out, .inr HQ.out⟩, rfl⟩
    · have e : p = s.size := by omega
      have hz0 : u.size = 0 := by omega
      have HE := hid e
      clear eu e hus
      go_wp2
      go_ret
      exact ⟨⟨p, hp, by rw [HU.out]; rfl, HZ.out, .inl HE.out⟩, rfl⟩
set_option maxHeartbeats 1000000 in
theorem trimR_any (s : ByteArray) (w : World) (hs : s.size ≤ 65535) :
    Calls Tryd.prog 43 #[.string s, .int .u8 0] w fun e w' => (∃ m, m ≤ s.size ∧ e = .returned (.string (s.extract 0 m)) ∧ (∀ j, m ≤ j → byteN s j = 0) ∧ (m = 0 ∨ byteN s (m - 1) ≠ 0)) ∧ w' = w := by
  go_enter Tryd.func43, Tryd.ntmps43
  go_wp2
  go_loop [0] (fun q => ∃ m : Nat, m ≤ s.size ∧ q = .string (s.extract 0 m) ∧ Hid (∀ j, m ≤ j → byteN s j = 0)) (fun q => strLen q)
  case atStart => exact ⟨s.size, Nat.le_refl _, by rw [ext_all], fun j hj => byteN_far s hj⟩
  case round =>
    obtain ⟨m, hm, rfl, HZ⟩ := hrel
    have hus := ext_size s 0 m hm
    obtain ⟨u, eu⟩ : ∃ u, u = s.extract 0 m := ⟨_, rfl⟩
    rw [← eu] at hus ⊢
    have HU := hid eu
    by_cases hlt : 0 < m
    · obtain ⟨k, rfl⟩ : ∃ k, m = k + 1 := ⟨m - 1, by omega⟩
      have hsz : u.size = k + 1 := by omega
      have g0 : k < u.size := by omega
      have x0 : decide ((0 : Int) < (u.size : Int)) = true := decide_eq_true (by omega)
      obtain ⟨B0, eB0⟩ : ∃ B0, u[k].toNat = B0 := ⟨_, rfl⟩
      have hN0 := byteN_eq u k g0
      rw [eB0] at hN0
      have hB0 := byteN_lt u k
      have hbs : byteN s k = B0 := by rw [← hN0, eu, byteN_ext s 0 (k + 1) k (by omega) hm, Nat.zero_add]
      have hk1 : (u.size : Int) - 1 = (k : Int) := by omega
      have gk0 : (0 : Int) ≤ (k : Int) := by omega
      have gk1 : (k : Int) < (u.size : Int) := by omega
      have gk2 : (k : Int) ≤ (u.size : Int) := by omega
      by_cases hz : B0 = 0
      · have HE := hid (show u.extract 0 k = s.extract 0 k by rw [eu, ext_ext _ _ _ _ _ (by omega)]; simp)
        have HZ2 : Hid (∀ j, k ≤ j → byteN s j = 0) := fun j hj => by
          by_cases e : j = k
          · rw [e, hbs, hz]
          · exact HZ.out j (by omega)
        subst hz
        clear eu hbs HZ hus hlt
        go_wp2
        go_round
        case rel => exact ⟨k, by omega, by rw [HE.out], HZ2⟩
        case measure => rw [HE.out]; show (s.extract 0 k).size < u.size; rw [ext_size _ _ _ (by omega)]; omega
      · have xz : ((B0 : Int) == 0) = false := by simp; omega
        have HQ := hid (show byteN s (k + 1 - 1) ≠ 0 by rw [Nat.add_sub_cancel, hbs]; exact hz)
        clear eu hbs hz hus hlt
        go_wp2
        go_ret
        exact ⟨⟨k + 1, hm, by rw [HU.out]; rfl, HZ.out, .inr HQ.out⟩, rfl⟩
    · have e : m = 0 := by omega
      have x0 : decide ((0 : Int) < (u.size : Int)) = false := decide_eq_false (by omega)
      have HE := hid e
      clear eu e
      go_wp2
      go_ret
      exact ⟨⟨m, hm, by rw [HU.out]; rfl, HZ.out, .inl HE.out⟩, rfl⟩
theorem exR (s : ByteArray) : ∀ m, m ≤ s.size → (∀ j, m ≤ j → byteN s j = 0) → ∃ m0, m0 ≤ s.size ∧ (∀ j, m0 ≤ j → byteN s j = 0) ∧ (m0 = 0 ∨ byteN s (m0 - 1) ≠ 0)
  | 0, _, hz => ⟨0, by omega, hz, .inl rfl⟩
  | m + 1, hm, hz => by
    by_cases h : byteN s m = 0
    · refine exR s m (by omega) fun j hj => ?_
      by_cases e : j = m
      · rw [e, h]
      · exact hz j (by omega)
    · exact ⟨m + 1, hm, hz, .inr (by rw [Nat.add_sub_cancel]; exact h)⟩
theorem uniqR {s : ByteArray} {m n : Nat} (h1 : ∀ j, m ≤ j → byteN s j = 0) (h2 : m = 0 ∨ byteN s (m - 1) ≠ 0) (h3 : ∀ j, n ≤ j → byteN s j = 0) (h4 : n = 0 ∨ byteN s (n - 1) ≠ 0) : n = m := by
  rcases Nat.lt_trichotomy m n with h | h | h
  · rcases h4 with h4 | h4
    · omega
    · exact absurd (h1 (n - 1) (by omega)) h4
  · exact h.symm
  · rcases h2 with h2 | h2
    · omega
    · exact absurd (h3 (m - 1) (by omega)) h2
theorem exL (s : ByteArray) : ∀ f p, p + f = s.size → (∀ j, j < p → byteN s j = 0) → ∃ p0, p0 ≤ s.size ∧ (∀ j, j < p0 → byteN s j = 0) ∧ (p0 = s.size ∨ byteN s p0 ≠ 0)
  | 0, p, hp, hz => ⟨p, by omega, hz, .inl (by omega)⟩
  | f + 1, p, hp, hz => by
    by_cases h : byteN s p = 0
    · refine exL s f (p + 1) (by omega) fun j hj => ?_
      by_cases e : j = p
      · rw [e, h]
      · exact hz j (by omega)
    · exact ⟨p, by omega, hz, .inr h⟩
theorem uniqL {s : ByteArray} {p q : Nat} (hp : p ≤ s.size) (hq : q ≤ s.size) (h1 : ∀ j, j < p → byteN s j = 0) (h2 : p = s.size ∨ byteN s p ≠ 0) (h3 : ∀ j, j < q → byteN s j = 0) (h4 : q = s.size ∨ byteN s q ≠ 0) : q = p := by
  rcases Nat.lt_trichotomy p q with h | h | h
  · rcases h2 with h2 | h2
    · omega
    · exact absurd (h3 p h) h2
  · exact h.symm
  · rcases h4 with h4 | h4
    · omega
    · exact absurd (h1 q h) h4
set_option maxRecDepth 100000 in
set_option maxHeartbeats 1000000 in
/-- Is anything left of a text once the noughts are trimmed off? -/
theorem trim_any (s : ByteArray) (w : World) (hs : s.size ≤ 65535) :
    Calls Tryd.prog 30 #[.string s, .string { data := #[0] }] w fun e w' => ∃ r, e = .returned (.string r) ∧ (r.size = 0 ↔ ∀ j, byteN s j = 0) ∧ Below w.heap.size w w' := by
  by_cases h0 : s.size = 0
  · have hx := emp_true h0
    have HR := hid (show s.size = 0 ↔ ∀ j, byteN s j = 0 from ⟨fun _ j => byteN_far s (by omega), fun _ => h0⟩)
    clear h0
    go_enter Tryd.func30, Tryd.ntmps30
    go_wp2_with fail
    go_ret
    exact ⟨_, rfl, HR.out, Below.refl _ _⟩
  · have hx := emp_false (s := s) (by omega)
    obtain ⟨m, hm, hz, hn⟩ := exR s s.size (Nat.le_refl _) (fun j hj => byteN_far s hj)
    have hr : ∀ wz, Calls Tryd.prog 43 #[.string s, .int .u8 0] wz fun e w' => e = .returned (.string (s.extract 0 m)) ∧ w' = wz := fun wz => (trimR_any s wz hs).mono fun e w' ⟨⟨m', _, he, hz', hn'⟩, hw⟩ => ⟨by rw [he, uniqR hz hn hz' hn'], hw⟩
    have hus := ext_size s 0 m hm
    have hub : ∀ j, j < m → byteN (s.extract 0 m) j = byteN s j := fun j hj => by rw [byteN_ext s 0 m j (by omega) hm, Nat.zero_add]
    obtain ⟨u, eu⟩ : ∃ u, u = s.extract 0 m := ⟨_, rfl⟩
    rw [← eu] at hr hus hub
    obtain ⟨p, hp, hz2, hn2⟩ := exL u u.size 0 (by omega) (fun j hj => absurd hj (Nat.not_lt_zero _))
    have hl : ∀ wz, Calls Tryd.prog 42 #[.string u, .int .u8 0] wz fun e w' => e = .returned (.string (u.extract p u.size)) ∧ w' = wz := fun wz => (trimL_any u wz (by omega)).mono fun e w' ⟨⟨p', hp', he, hz', hn'⟩, hw⟩ => ⟨by rw [he, uniqL hp hp' hz2 hn2 hz' hn'], hw⟩
    have HR : Hid ((u.extract p u.size).size = 0 ↔ ∀ j, byteN s j = 0) := by
      show _ ↔ _
      rw [ext_size _ _ _ (Nat.le_refl _)]
      constructor
      · intro h j
        by_cases hj : j < m
        · rw [← hub j hj]
          exact hz2 j (by omega)
        · exact hz j (by omega)
      · intro h
        have hm0 : m = 0 := by
          rcases hn with h1 | h1
          · exact h1
          · exact absurd (h _) h1
        omega
    clear hz hn hus hub hz2 hn2 hp eu hm h0
    go_enter Tryd.func30, Tryd.ntmps30
    go_upto_region 4 with fail
    go_region_held3 (fun _ => True) (exact trivial) (first
      | (go_at_call 43; refine (hr _).mono ?_; rintro e w1 ⟨rfl, rfl⟩)
      | (go_at_call 42; refine (hl _).mono ?_; rintro e w1 ⟨rfl, rfl⟩))
    all_goals
      (try go_wp2_with fail)
      go_ret
      exact ⟨_, rfl, HR.out, (Below.refl _ w).drew⟩
end Go.Proofs.YtmdfjhnibhmdkafDoor
