import Derived.Test.YtmdfjhnibhmdkafDoorMcC
import Derived.Test.YtmdfjhnibhmdkafDoorMjF
import Derived.Laws.ResultCell
namespace Go.Proofs.YtmdfjhnibhmdkafDoor
open Go.ChangeShapes Go.WideShapes Go.ChangeAt Go.RowKit

/-! THE PROGRAM'S first: the first item of a text. -/

theorem results_row_tmp2 {P : Program} {fn : Func} {p u x : Tmp} {ty : TypeId} (h : fn.results = #[.cell p ty, .tmp u, .tmp x]) (tmps : Array Value) (w : World) (g : Nat) (t : TypeId) (cs : Array Value) (fr : Nat × Nat) (d : TypeDesc)
    (hp : tmps.getD p undef = .pointer (some ⟨g, 0, none⟩)) (hg : w.heap[g]? = some (.cells cs t fr))
    (hu : P.underlying ty = some d) (hd : (match d with | .struct _ | .array _ _ => true | _ => false) = true) (hi : (P.info? ty).map (·.size) = some cs.size) :
    (results fn tmps).run P w = .ok (.tuple #[.agg cs, tmps.getD u undef, tmps.getD x undef]) w := by
  have hp' : tmps[p]?.getD undef = .pointer (some ⟨g, 0, none⟩) := by simpa using hp
  simp [results, h, hp', asAddr, run_loadVar_row w g t ty cs fr d hg hu hd hi]

/-- The first item of a text, and what is behind it. -/
def firstM (s : ByteArray) : Option (ItemM × ByteArray) := if s.size < 3 then none else if s.size < 3 + partN s 0 then none else if (partI s 0).ok = false then none else some (partI s 0, s.extract (3 + partN s 0) s.size)
def firstV (s : ByteArray) : Value := match firstM s with
  | none => .tuple #[.agg #[.int .i64 0, .string ByteArray.empty], .string ByteArray.empty, .int .i64 3]
  | some (I, r) => .tuple #[.agg #[.int .i64 I.ch, .string I.data], .string r, .int .i64 0]
theorem firstV_none {s : ByteArray} (h : firstM s = none) : firstV s = .tuple #[.agg #[.int .i64 0, .string ByteArray.empty], .string ByteArray.empty, .int .i64 3] := by unfold firstV; rw [h]
theorem firstV_some {s : ByteArray} {I : ItemM} {r : ByteArray} (h : firstM s = some (I, r)) : firstV s = .tuple #[.agg #[.int .i64 I.ch, .string I.data], .string r, .int .i64 0] := by unfold firstV; rw [h]

/-- Two cells of a block, and what is stored there. -/
theorem two_facts {w : World} {g : Nat} {x y : Value} {T : TypeId} (h : w.heap[g]? = some (.cells #[x, y] T (0, 0))) (u v : Value) : w.cell? ⟨g, 0, none⟩ = some x ∧ w.frozen? ⟨g, 0, none⟩ = false ∧ w.cell? ⟨g, 1, none⟩ = some y ∧ (w.setCell ⟨g, 0, none⟩ u).cell? ⟨g, 1, none⟩ = some y ∧ (w.setCell ⟨g, 0, none⟩ u).frozen? ⟨g, 1, none⟩ = false ∧
    ((w.setCell ⟨g, 0, none⟩ u).setCell ⟨g, 1, none⟩ v).heap[g]? = some (.cells #[u, v] T (0, 0)) := by
  have h1 : (w.setCell ⟨g, 0, none⟩ u).heap[g]? = some (.cells #[u, y] T (0, 0)) := heap_setCell_same w g 0 _ _ u h
  have h2 : ((w.setCell ⟨g, 0, none⟩ u).setCell ⟨g, 1, none⟩ v).heap[g]? = some (.cells #[u, v] T (0, 0)) := heap_setCell_same _ g 1 _ _ v h1
  refine ⟨by rw [cell_of_row _ _ _ _ _ _ h]; rfl, frozen_of_row _ _ _ _ _ h, by rw [cell_of_row _ _ _ _ _ _ h]; rfl, by rw [cell_of_row _ _ _ _ _ _ h1]; rfl, frozen_of_row _ _ _ _ _ h1, h2⟩

set_option maxRecDepth 100000 in
set_option maxHeartbeats 1000000 in
theorem first_any (s : ByteArray) (w : World) (hs : s.size ≤ 65535) :
    Calls Tryd.prog 29 #[.string s] w fun e w' => e = .returned (firstV s) ∧ Below w.heap.size w w' := by
  by_cases h3 : s.size < 3
  · have x3 : decide ((s.size : Int) < 3) = true := decide_eq_true (by omega)
    have HX := hid (firstV_none (s := s) (by unfold firstM; rw [if_pos h3]))
    clear h3
    go_enter Tryd.func29, Tryd.ntmps29
    go_wp2_with fail
    (try simp only [Exit.inBlock, Exit.then])
    refine bodyPost_ret (results_row_tmp2 (p := 2) (ty := 31) rfl _ _ w.heap.size 31 _ (0, 0) _ rfl (heap_alloc_new w _) Tryd.underlying31 rfl (by kernel_rfl)) rfl ?_
    rw [HX.out]
    exact ⟨rfl, (Below.refl _ w).alloc (Nat.le_refl _) _⟩
  · have x3 : decide ((s.size : Int) < 3) = false := decide_eq_false (by omega)
    have g0 : 0 < s.size := by omega
    have g1 : 1 < s.size := by omega
    have g2 : 2 < s.size := by omega
    obtain ⟨B0, eB0⟩ : ∃ B0, s[0].toNat = B0 := ⟨_, rfl⟩
    obtain ⟨B1, eB1⟩ : ∃ B1, s[1].toNat = B1 := ⟨_, rfl⟩
    obtain ⟨B2, eB2⟩ : ∃ B2, s[2].toNat = B2 := ⟨_, rfl⟩
    have hN0 := byteN_eq s 0 g0
    have hN1 := byteN_eq s 1 g1
    have hN2 := byteN_eq s 2 g2
    rw [eB0] at hN0
    rw [eB1] at hN1
    rw [eB2] at hN2
    have hB0 := byteN_lt s 0
    have hB1 := byteN_lt s 1
    have hB2 := byteN_lt s 2
    have hpn : partN s 0 = 256 * B1 + B2 := by unfold partN; rw [hN1, hN2]
    have gi0 : (0 : Int) < (s.size : Int) := by omega
    have gi1 : (1 : Int) < (s.size : Int) := by omega
    have gi2 : (2 : Int) < (s.size : Int) := by omega
    go_enter Tryd.func29, Tryd.ntmps29
    go_upto_region 3 with fail
    go_region
    go_upto_region 4 with fail
    obtain ⟨N, eN⟩ : ∃ N, N = 3 + (256 * B1 + B2) := ⟨_, rfl⟩
    have eN2 : 3 + (B1 : Int) * 256 + (B2 : Int) = (N : Int) := by omega
    rw [eN2]
    have hNp : 3 + partN s 0 = N := by omega
    have hNb : N ≤ 65538 := by omega
    have hN3 : 3 ≤ N := by omega
    clear hN1 hN2 eN2 eN hpn eB1 eB2
    by_cases hs4 : s.size < N
    · have y4 : decide ((s.size : Int) < (N : Int)) = true := decide_eq_true (by omega)
      have HX := hid (firstV_none (s := s) (by unfold firstM; rw [if_neg h3, if_pos (by rw [hNp]; exact hs4)]))
      go_wp2_with fail
      (try simp only [Exit.inBlock, Exit.then])
      refine bodyPost_ret (results_row_tmp2 (p := 2) (ty := 31) rfl _ _ w.heap.size 31 _ (0, 0) _ rfl (heap_alloc_new w _) Tryd.underlying31 rfl (by kernel_rfl)) rfl ?_
      rw [HX.out]
      exact ⟨rfl, ((Below.refl _ w).alloc (Nat.le_refl _) _).drew⟩
    · have y4 : decide ((s.size : Int) < (N : Int)) = false := decide_eq_false (by omega)
      have gs1 : (3 : Int) ≤ (N : Int) := by omega
      have gs2 : (N : Int) ≤ (s.size : Int) := by omega
      have gs3 : (0 : Int) ≤ (N : Int) := by omega
      have ePI : partI s 0 = ⟨(B0 : Int), s.extract 3 N⟩ := by unfold partI; rw [hN0, ← hNp, Nat.zero_add]
      have hci := citem_any ⟨(B0 : Int), s.extract 3 N⟩
      have HP := hid ePI
      clear ePI
      go_upto_region 6 with fail
      go_region
      go_upto_region 7 with fail
      have hA := heap_alloc_new w (.cells #[.int .i64 (B0 : Int), .string (s.extract 3 N)] 31)
      have hA : (w.alloc (.cells #[.int .i64 (B0 : Int), .string (s.extract 3 N)] 31)).drew.drew.heap[w.heap.size]? = some (.cells #[.int .i64 (B0 : Int), .string (s.extract 3 N)] 31 (0, 0)) := hA
      have hlt : w.heap.size < (w.alloc (.cells #[.int .i64 (B0 : Int), .string (s.extract 3 N)] 31)).drew.drew.heap.size := by simp
      have hbx : Below w.heap.size w (w.alloc (.cells #[.int .i64 (B0 : Int), .string (s.extract 3 N)] 31)).drew.drew := ((Below.refl _ w).alloc (Nat.le_refl _) _).drew.drew
      generalize (w.alloc (.cells #[.int .i64 (B0 : Int), .string (s.extract 3 N)] 31)).drew.drew = wx at *
      have hkp := fun (w1 : World) (h1 : Below wx.heap.size wx w1) => (h1.block w.heap.size hlt).trans hA
      have hbb := fun (w1 : World) (h1 : Below wx.heap.size wx w1) => hbx.trans (h1.mono hbx.size)
      have q0 : wx.cell? ⟨w.heap.size, 0, none⟩ = some (.int .i64 (B0 : Int)) := by rw [cell_of_row _ _ _ _ _ _ hA]; rfl
      have q1 : wx.cell? ⟨w.heap.size, 1, none⟩ = some (.string (s.extract 3 N)) := by rw [cell_of_row _ _ _ _ _ _ hA]; rfl
      cases hok : (⟨(B0 : Int), s.extract 3 N⟩ : ItemM).ok with
      | false =>
        rw [ItemM.err_bad hok] at hci
        have HX := hid (firstV_none (s := s) (by unfold firstM; rw [if_neg h3, if_neg (by rw [hNp]; exact hs4), HP.out, if_pos hok]))
        clear hok hA
        go_wp2_with (go_at_call 41; refine (hci _).mono ?_; rintro e w1 ⟨rfl, hb1⟩; have hA1 := hkp _ hb1; have hbw := hbb _ hb1; obtain ⟨c0, z0, c1, c2, z2, hA2⟩ := two_facts hA1 (.int .i64 0) (.string ByteArray.empty); have hbv : Below w.heap.size w ((w1.setCell ⟨w.heap.size, 0, none⟩ (.int .i64 0)).setCell ⟨w.heap.size, 1, none⟩ (.string ByteArray.empty)) := (hbw.setCell (p := ⟨w.heap.size, 0, none⟩) (Nat.le_refl _) _).setCell (p := ⟨w.heap.size, 1, none⟩) (Nat.le_refl _) _)
        (try simp only [Exit.inBlock, Exit.then])
        refine bodyPost_ret (results_row_tmp2 (p := 2) (ty := 31) rfl _ _ w.heap.size 31 _ (0, 0) _ rfl hA2 Tryd.underlying31 rfl (by kernel_rfl)) rfl ?_
        rw [HX.out]
        exact ⟨rfl, hbv⟩
      | true =>
        rw [ItemM.err_ok hok] at hci
        have HX := hid (firstV_some (s := s) (I := ⟨(B0 : Int), s.extract 3 N⟩) (r := s.extract N s.size) (by unfold firstM; rw [if_neg h3, if_neg (by rw [hNp]; exact hs4), HP.out, if_neg (by rw [hok]; decide), hNp]))
        clear hok hA
        go_upto_region 9 with (go_at_call 41; refine (hci _).mono ?_; rintro e w1 ⟨rfl, hb1⟩; have hA1 := hkp _ hb1; have hbw := hbb _ hb1; obtain ⟨c0, z0, c1, c2, z2, hA2⟩ := two_facts hA1 (.int .i64 (B0 : Int)) (.string (s.extract 3 N)); have hbv : Below w.heap.size w ((w1.setCell ⟨w.heap.size, 0, none⟩ (.int .i64 (B0 : Int))).setCell ⟨w.heap.size, 1, none⟩ (.string (s.extract 3 N))) := (hbw.setCell (p := ⟨w.heap.size, 0, none⟩) (Nat.le_refl _) _).setCell (p := ⟨w.heap.size, 1, none⟩) (Nat.le_refl _) _)
        go_region
        go_wp2_with fail
        (try simp only [Exit.inBlock, Exit.then])
        refine bodyPost_ret (results_row_tmp2 (p := 2) (ty := 31) rfl _ _ w.heap.size 31 _ (0, 0) _ rfl hA2 Tryd.underlying31 rfl (by kernel_rfl)) rfl ?_
        rw [HX.out]
        exact ⟨rfl, hbv.drew⟩
end Go.Proofs.YtmdfjhnibhmdkafDoor
