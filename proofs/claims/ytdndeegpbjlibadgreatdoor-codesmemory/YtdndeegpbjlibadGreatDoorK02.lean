import Derived.Test.YtdndeegpbjlibadGreatDoorK01
import Derived.SizedLaws
namespace Go.Proofs.YtdndeegpbjlibadGreatDoor
open Go.ChangeShapes Go.WideShapes Go.ChangeAt Go.RowKit
open Go.ChangeMaps (open_string shut_string)

theorem Tryz.bytes5 : Tryz.prog.bytesOf 5 = 1 := by kernel_rfl
theorem Tryz.cells5 : Tryz.prog.cellsOf 5 = 1 := by kernel_rfl
theorem Tryz.own : ownKnob Tryz.prog.godebug = none := by kernel_rfl
theorem Tryz.laidOut : laidOutB Tryz.prog = true := by kernel_rfl

/-- The datum of a slice with so many places. -/
def Places {H : Type} (d : DataW H) (c : Nat) : Prop := (d = .nil ∧ c = 0) ∨ ∃ elems spare, d = .slice elems spare ∧ elems.length + spare.length = c

/-- A list of numbers that came in, as the walks are told of it. -/
theorem open_nums {H : Type} {enc : TypeId × Value → H} {P : Program} {W : World} {base : Nat} {t e : TypeId} {k : IntKind} {v : Value} {d : DataW H} {p : List MemPlace}
    (ht : P.underlying t = some (.slice e)) (he : P.underlying e = some (.int k)) (hc : P.cellsOf e = 1) (hv : Value.okWide P W .any base t v)
    (h : DataW.Trod enc P W 0 (fun _ => true) true t v d p) :
    ∃ a c zs, v = .slice a zs.length c ∧ Rd k W a zs ∧ (∀ n ∈ zs, (Lit.int k n).wf = true) ∧ zs.length ≤ c ∧ c ≤ maxLen ∧ Places d c := by
  obtain ⟨a, len, cap, rfl⟩ := okWide_slice ht hv
  obtain ⟨fuel, hf⟩ := h
  rcases open_ints ht he hc hf with ⟨hcs, hx⟩ | ⟨x, l, c, zs, hcs, _, hl, hm, hz, hx, hcell, hwz⟩
  · simp [Value.cells] at hcs
    obtain ⟨rfl, rfl, rfl⟩ := hcs
    simp at hx
    exact ⟨none, 0, [], rfl, Rd.nil _ _ _, by simp, by simp, by unfold maxLen; omega, .inl ⟨hx.1, rfl⟩⟩
  · simp [Value.cells] at hcs
    obtain ⟨rfl, rfl, rfl⟩ := hcs
    simp at hz hx
    have hlen : (zs.take len).length = len := by rw [List.length_take]; omega
    refine ⟨some x, cap, zs.take len, by rw [hlen], ?_, fun n hn => hwz n (List.mem_of_mem_take hn), by omega, hm, .inr ⟨_, _, hx.1, ?_⟩⟩
    · intro hne
      have h0 : 0 < len := by
        rcases Nat.eq_zero_or_pos len with h | h
        · subst h; simp at hne
        · exact h
      obtain ⟨b, off, spot⟩ := x
      have hc0 := hcell 0 (by omega)
      have hspot : spot = none := by simpa [Addr.add] using World.cell?_spot hc0
      subst hspot
      refine ⟨b, off, rfl, fun j hj => ?_⟩
      have := hcell j (by omega)
      have e1 : (⟨b, off, none⟩ : Addr).add j = ⟨b, off + j, none⟩ := by unfold Addr.add; split <;> simp_all
      rw [e1] at this
      rw [this]
      have hj' : j < len := by omega
      simp [List.getD, hj']
    · simp [lits]; omega

theorem bytes_of_wf {zs : List Int} (h : ∀ n ∈ zs, (Lit.int .u8 n).wf = true) : Bytes zs := fun n hn => by
  have := bounds_u8 (h n hn)
  exact ⟨this.1, by have := this.2; omega⟩

theorem places_sized {H : Type} {P : Program} {ts : List TypeId} {ds : List (DataW H)} (h : (DataW.weightsEach P ts ds).all (· ≤ reachBytes) = true) {j : Nat} {t e : TypeId} {d : DataW H} {c : Nat}
    (ht : ts[j]? = some t) (hd : ds[j]? = some d) (hu : P.underlying t = some (.slice e)) (hp : Places d c) : c * P.bytesOf e ≤ 140737488351232 := by
  rcases hp with ⟨_, rfl⟩ | ⟨elems, spare, rfl, rfl⟩
  · omega
  · exact sized_slice h ht hd hu

theorem text_sized (a : ByteArray) (h : a.data.toList.length ≤ reachBytes) : a.size ≤ 140737488355328 := by
  have e : a.data.toList.length = a.size := Array.length_toList
  rw [e] at h
  have := reachBytes_lt
  omega

end Go.Proofs.YtdndeegpbjlibadGreatDoor

namespace Go.Proofs.YtdndeegpbjlibadGreatDoor
open Go.ChangeShapes Go.WideShapes Go.ChangeAt Go.RowKit

theorem take_ext {xs ys : List Int} {k : Nat} (hl : ys.length = xs.length) (hk : k < xs.length) (h : xs.take k = ys.take k) (e : xs[k]?.getD 0 = ys[k]?.getD 0) : xs.take (k + 1) = ys.take (k + 1) := by
  rw [List.take_add_one, List.take_add_one, h]
  have h1 : xs[k]? = some xs[k] := List.getElem?_eq_getElem hk
  have h2 : ys[k]? = some (ys[k]'(by omega)) := List.getElem?_eq_getElem (by omega)
  rw [h1, h2] at e
  simp at e
  rw [h1, h2, e]

theorem take_ext' {xs ys : List Int} {k : Nat} (hl : ys.length = xs.length) (hk : k < xs.length) (h : xs.take k = ys.take k) (e : (xs[k] != ys[k]?.getD 0) = false) : xs.take (k + 1) = ys.take (k + 1) := by
  refine take_ext hl hk h ?_
  rw [List.getElem?_eq_getElem hk]
  simpa using e

theorem dec_ne {xs ys : List Int} {k : Nat} (hk : k < xs.length) (e : (xs[k] != ys[k]?.getD 0) = true) : Ending.returned (.bool false) = .returned (.bool (decide (xs = ys))) := by
  have : ¬ xs = ys := by
    intro h
    subst h
    simp [List.getElem?_eq_getElem hk] at e
  simp [this]

theorem dec_eq {xs ys : List Int} {k : Nat} (hl : ys.length = xs.length) (hk : xs.length ≤ k) (h : xs.take k = ys.take k) : Ending.returned (.bool true) = .returned (.bool (decide (xs = ys))) := by
  rw [List.take_of_length_le hk, List.take_of_length_le (by omega)] at h
  simp [h]

set_option maxHeartbeats 400000 in
theorem same_bits (xs ys : List Int) (a b : Option Addr) (ca cb : Nat) (w : World) (ha : Rd .u8 w a xs) (hb : Rd .u8 w b ys) (hx : xs.length ≤ maxLen) (hy : ys.length ≤ maxLen) :
    Calls Tryz.prog 21 #[.slice a xs.length ca, .slice b ys.length cb] w fun e w' => e = .returned (.bool (decide (xs = ys))) ∧ Below w.heap.size w w' := by
  unfold maxLen at hx hy
  by_cases hl : ys.length = xs.length
  · have hne : (((xs.length : Nat) : Int) != ((ys.length : Nat) : Int)) = false := by rw [hl]; simp
    rw [hl] at hne ⊢
    clear hy
    have HL : Hid (ys.length = xs.length) := hl
    clear hl
    go_enter Tryz.func21, Tryz.ntmps21
    go_wp2
    go_loopw [5] (fun i wr => ∃ k : Nat, k ≤ xs.length ∧ i = .int .i64 k ∧ Hid (xs.take k = ys.take k) ∧ Below w.heap.size w wr) (fun i _ => xs.length - (intOf i).toNat)
    case atStart => exact ⟨0, Nat.zero_le _, rfl, rfl, Below.refl _ _⟩
    case round =>
      obtain ⟨k, hk, rfl, htk, hbel⟩ := hrel
      by_cases hlt : k < xs.length
      · obtain ⟨b1, o1, rfl, hc1⟩ := (ha.below hbel).at hlt
        obtain ⟨b2, o2, rfl, hc2⟩ := (hb.below hbel).at (i := k) (by rw [HL.out]; exact hlt)
        have g1 := hc1 k hlt
        have g2 := hc2 k (by rw [HL.out]; exact hlt)
        clear hc1 hc2
        go_wp2_with fail
        go_quiet (fail)
        go_wp2
        · go_ret
          exact ⟨dec_ne hlt ‹_›, below_drewN hbel _⟩
        · go_roundw
          case rel => exact ⟨k + 1, by omega, by go_num, take_ext' HL.out hlt htk.out ‹_›, below_drewN hbel _⟩
          case measure => simp [intOf]; omega
      · go_wp2
        go_ret
        exact ⟨dec_eq HL.out (by omega) htk.out, hbel⟩
  · have hne : (((xs.length : Nat) : Int) != ((ys.length : Nat) : Int)) = true := by simp; omega
    have hd : decide (xs = ys) = false := by simp; intro h; subst h; exact hl rfl
    rw [hd]
    clear hl
    go_enter Tryz.func21, Tryz.ntmps21
    go_wp2
    go_ret
    exact ⟨rfl, Below.refl _ _⟩
end Go.Proofs.YtdndeegpbjlibadGreatDoor

namespace Go.Proofs.YtdndeegpbjlibadGreatDoor
open Go.ChangeShapes Go.WideShapes Go.ChangeAt Go.RowKit

end Go.Proofs.YtdndeegpbjlibadGreatDoor

namespace Go.Proofs.YtdndeegpbjlibadGreatDoor
open Go.ChangeShapes Go.WideShapes Go.ChangeAt Go.RowKit

set_option maxHeartbeats 400000 in
theorem check_any (zs : List Int) (a : Option Addr) (c : Nat) (w : World) (ha : Rd .u8 w a zs) (hz : zs.length ≤ maxLen) :
    Calls Tryz.prog 28 #[.slice a zs.length c] w fun e w' => e = .returned (.int .i64 (errOf zs)) ∧ w = w' := by
  unfold maxLen at hz
  go_enter Tryz.func28, Tryz.ntmps28
  go_wp2
  go_loop [7] (fun i => ∃ k : Nat, k ≤ zs.length ∧ i = .int .i64 k ∧ Hid (Okay zs k)) (fun i => zs.length - (intOf i).toNat)
  case atStart => exact ⟨0, Nat.zero_le _, rfl, fun j hj => by omega⟩
  case round =>
    obtain ⟨k, hk, rfl, hok⟩ := hrel
    by_cases hlt : k < zs.length
    · obtain ⟨b1, o1, rfl, hc1⟩ := ha.at hlt
      have g1 := hc1 k hlt
      clear hc1
      obtain ⟨x, hx⟩ : ∃ x, x = zs.getD k 0 := ⟨_, rfl⟩
      rw [← hx] at g1
      have HX : Hid (x = zs.getD k 0) := hx
      clear hx
      by_cases h1 : x ≤ 1
      · go_wp2
        go_round
        case rel => exact ⟨k + 1, by omega, by go_num, hok.out.succ (HX.out ▸ h1)⟩
        case measure => simp [intOf]; omega
      · go_wp2
        go_ret
        exact ⟨ret_int (err_bad (k := k) (by rw [← HX.out]; omega)).symm, rfl⟩
    · have hkl : k = zs.length := by omega
      subst hkl
      by_cases hl : 4096 < zs.length
      · go_wp2
        go_ret
        exact ⟨ret_int (err_long hok.out hl).symm, rfl⟩
      · go_wp2
        go_ret
        exact ⟨ret_int (err_none hok.out hl).symm, rfl⟩

end Go.Proofs.YtdndeegpbjlibadGreatDoor
