import Derived.Test.YtcnkcbipkchoiagU37
import Derived.Test.YtcnkcbipkchoiagU38
import Derived.Test.YtcnkcbipkchoiagU03
import Derived.Deep.RegionLaw
namespace Go.Proofs.Ytcnkcbipkchoiag
open Go.ChangeShapes Go.WideShapes Go.ChangeAt Go.RowKit
def mkG : GapM := ⟨-7, 0, 0⟩
/-- What is known of each value. -/
def um13 (gG : Nat) (B : Int) (a : Option Addr) (n c : Nat) (ss : List GapM) (N : Nat) : Nat → (Nat → Value) → World → Prop
  | 0, σ, _ => σ 0 = .pointer (some ⟨gG, 0, none⟩)
  | 1, σ, _ => σ 1 = .int .i64 B
  | 2, σ, _ => σ 2 = .pointer (some ⟨gG, 0 + 1, none⟩)
  | 3, σ, _ => σ 3 = .slice a n c
  | 4, σ, _ => σ 4 = .agg #[.int .i64 (-7), .int .i64 0, .int .i64 0]
  | 5, σ, w => ∃ g, N ≤ g ∧ σ 5 = .slice (some ⟨g, 0, none⟩) n (n + 3) ∧ ArrDGp w g (ss ++ [mkG, mkG, mkG])
  | 6, σ, _ => σ 6 = .agg #[.int .i64 B, σ 5]
  | 7, σ, w => ∃ g, N ≤ g ∧ σ 7 = .pointer (some ⟨g, 0, none⟩) ∧ w.heap[g]? = some (.cells #[.int .i64 0, .slice none 0 0] 91 (0, 0))
  | _, _, _ => True
theorem um13_mono {gG : Nat} {B : Int} {a : Option Addr} {n c : Nat} {ss : List GapM} {N : Nat} (j : Nat) (σ : Nat → Value) (w w' : World) (h : um13 gG B a n c ss N j σ w) (hg : w.grownBy w' none) : um13 gG B a n c ss N j σ w' := by
  match j, h with
  | 0, h => exact h
  | 1, h => exact h
  | 2, h => exact h
  | 3, h => exact h
  | 4, h => exact h
  | 5, ⟨g, h1, h2, h3⟩ => exact ⟨g, h1, h2, (hg.block g h3.lt (by simp)).trans h3⟩
  | 6, h => exact h
  | 7, ⟨g, h1, h2, h3⟩ => exact ⟨g, h1, h2, (hg.block g (Array.getElem?_eq_some_iff.1 h3).1 (by simp)).trans h3⟩
  | j + 8, _ => exact trivial
theorem grownU (w : World) : w.grownBy w none := ⟨rfl, rfl, rfl, Nat.le_refl _, fun _ _ _ => rfl⟩
theorem run_fdRp0 {ρ : Operand → Value} (w : World) {o : Oper} {x : Operand} {g s : Nat} (ho : o.op = .fieldAddr 91 x 0) (h : ρ x = .pointer (some ⟨g, s, none⟩)) : (execOp ρ o).run Try.prog w = .ok (.value (.pointer (some ⟨g, s, none⟩))) w := by
  unfold execOp
  simp only [ho, h]
  simp [go_sem]
theorem run_bldM {ρ : Operand → Value} (w : World) {o : Oper} (ho : o.op = .build 107 #[(0, .const (.int .i64 (-7)))]) (h : ρ (.const (.int .i64 (-7))) = .int .i64 (-7)) : (execOp ρ o).run Try.prog w = .ok (.value (.agg #[.int .i64 (-7), .int .i64 0, .int .i64 0])) w := by
  unfold execOp
  simp only [ho]
  simp [go_sem, h]
theorem run_bldRp {ρ : Operand → Value} (w : World) {o : Oper} {x y : Operand} {B : Int} {u : Option Addr} {m c : Nat} (ho : o.op = .build 91 #[(0, x), (1, y)]) (h : ρ x = .int .i64 B) (h' : ρ y = .slice u m c) : (execOp ρ o).run Try.prog w = .ok (.value (.agg #[.int .i64 B, .slice u m c])) w := by
  unfold execOp
  simp only [ho]
  simp [go_sem, h, h']
theorem run_alRp {ρ : Operand → Value} (w : World) {o : Oper} (ho : o.op = .alloc 91) : (execOp ρ o).run Try.prog w = .ok (.value (.pointer (some ⟨w.heap.size, 0, none⟩))) (w.alloc (.cells #[.int .i64 0, .slice none 0 0] 91)) := by
  unfold execOp
  simp only [ho]
  simp [go_sem]
theorem run_stRp {ρ : Operand → Value} (w : World) {o : Oper} {x y : Operand} {g : Nat} {u v : Value} {old : Array Value} (ho : o.op = .store 91 x y) (h : ρ x = .pointer (some ⟨g, 0, none⟩)) (h' : ρ y = .agg #[u, v]) (hg : w.heap[g]? = some (.cells old 91 (0, 0))) (hs : old.size = 2) (hu : u.oneCell' = true) (hv : v.oneCell' = true) : (execOp ρ o).run Try.prog w = .ok .skip (w.setRow g #[u, v]) := by
  unfold execOp
  have hr := run_storeVar_row (P := Try.prog) w g 91 91 old #[u, v] hg (by kernel_rfl) (by simp [hs]) (by simp [hu, hv])
  simp only [ho, h, h', Instr.storeAt, Instr.sureAddr, Sem.run_bind, Sem.run_pure, Result.andThen_ok, hr]
theorem below_setRowU {B : Nat} {a w : World} (h : Below B a w) {g : Nat} (hg : B ≤ g) (cs : Array Value) : Below B a (w.setRow g cs) :=
  h.trans ⟨rfl, rfl, rfl, by simp, fun k hk => setRow_other w g k cs (by omega)⟩
end Go.Proofs.Ytcnkcbipkchoiag
namespace Go.Proofs.Ytcnkcbipkchoiag
open Go.ChangeShapes Go.WideShapes Go.ChangeAt Go.RowKit
/-- The byte at a place of a text. -/
def byteAt (s : ByteArray) (j : Nat) : Int := if h : j < s.size then (s[j].toNat : Int) else 0
/-- The bit at a place of a text: the first byte's highest place first. -/
def bitAt (s : ByteArray) (i : Nat) : Int := byteAt s (i / 8) / 2 ^ (7 - i % 8) % 2
theorem byteAt_eq (s : ByteArray) (j : Nat) (h : j < s.size) : byteAt s j = (s[j].toNat : Int) := by simp [byteAt, h]
theorem byteAt_bd (s : ByteArray) (j : Nat) : 0 ≤ byteAt s j ∧ byteAt s j ≤ 255 := by
  unfold byteAt
  split
  · have := s[j].toNat_lt; omega
  · omega
theorem val_int {k : IntKind} {a b : Int} (h : a = b) : Value.int k a = Value.int k b := by rw [h]
end Go.Proofs.Ytcnkcbipkchoiag
namespace Go.Proofs.Ytcnkcbipkchoiag
open Go.ChangeShapes Go.WideShapes Go.ChangeAt Go.RowKit
/-- The first n bits of a text. -/
def unpackTo (s : ByteArray) (n : Nat) : List Int := (List.range n).map (bitAt s)
/-- What is wrong with asking for n bits of a text. -/
def unpackErr (s : ByteArray) (n : Int) : Int := if n < 0 ∨ 8 * (s.size : Int) < n then 1 else if 4096 < n then 2 else 0
def unpackL (s : ByteArray) (n : Int) : List Int := if unpackErr s n = 0 then unpackTo s n.toNat else []
theorem unpackTo_succ (s : ByteArray) (n : Nat) : unpackTo s (n + 1) = unpackTo s n ++ [bitAt s n] := by simp [unpackTo, List.range_succ]
theorem unpackTo_length (s : ByteArray) (n : Nat) : (unpackTo s n).length = n := by simp [unpackTo]
end Go.Proofs.Ytcnkcbipkchoiag
namespace Go.Proofs.Ytcnkcbipkchoiag
open Go.ChangeShapes Go.WideShapes Go.ChangeAt Go.RowKit
theorem u8_bit (x : Int) (h0 : 0 ≤ x) (h1 : x < 256) : bits .and .u8 x 1 = x % 2 := by
  rw [u8_and x 1 h0 h1 (by decide) (by decide), show (1 : Int).toNat = 1 from rfl, Nat.and_one_is_mod]
  omega
theorem div_pow_bd (x : Int) (e : Nat) (h0 : 0 ≤ x) (h1 : x < 256) : 0 ≤ x / 2 ^ e ∧ x / 2 ^ e < 256 := by
  have hp : (0 : Int) < 2 ^ e := Int.pow_pos (by decide)
  have h := Int.ediv_nonneg h0 (Int.le_of_lt hp)
  refine ⟨h, ?_⟩
  have : x / 2 ^ e ≤ x := Int.ediv_le_self _ h0
  omega
theorem unp_bit (s : ByteArray) (k : Nat) (h : k / 8 < s.size) : bits .and .u8 ((s[k / 8].toNat : Int) / 2 ^ (7 - k % 8)) 1 = bitAt s k := by
  have hb := byteAt_bd s (k / 8)
  rw [← byteAt_eq s _ h]
  have hd := div_pow_bd (byteAt s (k / 8)) (7 - k % 8) hb.1 (by omega)
  rw [u8_bit _ hd.1 hd.2]
  rfl
theorem unp_set (s : ByteArray) (N k : Nat) (h : k < N) (x : Int) (hx : x = bitAt s k) : (unpackTo s k ++ List.replicate (N - k) 0).set k x = unpackTo s (k + 1) ++ List.replicate (N - (k + 1)) 0 := by
  rw [show N - k = (N - (k + 1)) + 1 from by omega, set_fill _ _ _ _ (unpackTo_length s k), unpackTo_succ, hx]
set_option maxHeartbeats 1000000 in
theorem unpack_any (s : ByteArray) (n : Int) (w : World) (hm : s.size ≤ 140737488355328) :
    Calls Try.prog 135 #[.string s, .int .i64 n] w fun e w' => ∃ v, e = .returned (.tuple #[v, .int .i64 (unpackErr s n)]) ∧ Own w' w.heap.size v (unpackL s n) ∧ Below w.heap.size w w' := by
  by_cases h1 : n < 0
  · have he : unpackErr s n = 1 := by unfold unpackErr; rw [if_pos (.inl h1)]
    have hL : unpackL s n = [] := by unfold unpackL; rw [he]; rfl
    rw [he, hL]
    go_enter Try.func135, Try.ntmps135
    go_wp2
    go_ret2
    exact ⟨_, rfl, Own.nil _ _, Below.refl _ _⟩
  · have h1' : decide (n < 0) = false := by simpa using h1
    by_cases h2 : 8 * (s.size : Int) < n
    · have he : unpackErr s n = 1 := by unfold unpackErr; rw [if_pos (.inr h2)]
      have hL : unpackL s n = [] := by unfold unpackL; rw [he]; rfl
      rw [he, hL]
      go_enter Try.func135, Try.ntmps135
      go_wp2
      go_ret2
      exact ⟨_, rfl, Own.nil _ _, Below.refl _ _⟩
    · have h2' : decide (8 * (s.size : Int) < n) = false := by simpa using h2
      by_cases h3 : 4096 < n
      · have he : unpackErr s n = 2 := by unfold unpackErr; rw [if_neg (by omega), if_pos h3]
        have hL : unpackL s n = [] := by unfold unpackL; rw [he]; rfl
        rw [he, hL]
        go_enter Try.func135, Try.ntmps135
        go_wp2
        go_ret2
        exact ⟨_, rfl, Own.nil _ _, Below.refl _ _⟩
      · have he : unpackErr s n = 0 := by unfold unpackErr; rw [if_neg (by omega), if_neg h3]
        have hL : unpackL s n = unpackTo s n.toNat := by unfold unpackL; rw [if_pos he]
        rw [he, hL]
        clear hL he
        obtain ⟨N, rfl⟩ := Int.eq_ofNat_of_zero_le (show 0 ≤ n by omega)
        rw [Int.toNat_natCast]
        go_enter Try.func135, Try.ntmps135
        go_wp2_with (at_make; refine wpList_makeBytes w.heap.size w N rfl _ _ rfl _ _ rfl rfl rfl rfl (by omega) (Below.refl _ _) (Nat.le_refl _) ?_)
        intro w1 hown1 hbel1 hsz1
        go_wp2
        go_loopw [23] (fun i wr => ∃ k : Nat, k ≤ N ∧ i = .int .i64 k ∧ Own wr w.heap.size (.slice (some ⟨w.heap.size, 0, none⟩) N N) (unpackTo s k ++ List.replicate (N - k) 0) ∧ Below w.heap.size w wr) (fun i _ => N - (intOf i).toNat)
        case atStart => exact ⟨0, Nat.zero_le _, rfl, hown1, hbel1⟩
        case round =>
          clear hown1 hbel1
          obtain ⟨k, hk, rfl, hown, hbel⟩ := hrel
          by_cases hlt : k < N
          · have hll : (unpackTo s k ++ List.replicate (N - k) 0).length = N := hown.len
            have hc := hown.cell (i := k) (by omega)
            have hf := hown.free k
            have hi8 : (k : Int) / 8 < s.size := by omega
            clear hll
            go_wp2
            go_roundw
            case rel => exact ⟨k + 1, by omega, by go_num, unp_set s N k hlt _ (unp_bit s k (by omega)) ▸ hown.set k _, hbel.setCell (Nat.le_refl _) _⟩
            case measure => simp [intOf]; omega
          · go_wp2
            go_ret2
            obtain rfl : k = N := by omega
            rw [Nat.sub_self, List.replicate_zero, List.append_nil] at hown
            exact ⟨_, rfl, hown, hbel⟩
end Go.Proofs.Ytcnkcbipkchoiag
namespace Go.Proofs.Ytcnkcbipkchoiag
open Go.RowKit
/-- The number that t bits from place i on make, the first one the highest. -/
def num (zs : List Int) (i : Nat) : Nat → Int
  | 0 => 0
  | t + 1 => 2 * num zs i t + zs.getD (i + t) 0
def byteTo (zs : List Int) (k j : Nat) : Int := num zs (8 * j) (min 8 (k - 8 * j)) * 2 ^ (8 - min 8 (k - 8 * j))
def packTo (zs : List Int) (k : Nat) : List Int := (List.range ((zs.length + 7) / 8)).map (byteTo zs k)
def packL (zs : List Int) : List Int := (List.range ((zs.length + 7) / 8)).map fun j => num zs (8 * j) 8
theorem num_bd {zs : List Int} (h : Bits zs) (i : Nat) : ∀ t, 0 ≤ num zs i t ∧ num zs i t < 2 ^ t
  | 0 => by simp [num]
  | t + 1 => by
    have := num_bd h i t
    have := h (i + t)
    rw [num, Int.pow_succ]
    omega
theorem packTo_zero (zs : List Int) : packTo zs 0 = List.replicate ((zs.length + 7) / 8) 0 := by
  unfold packTo
  rw [List.eq_replicate_iff]
  refine ⟨by simp, fun x hx => ?_⟩
  obtain ⟨j, _, rfl⟩ := List.mem_map.1 hx
  simp [byteTo, num]
theorem num_pad (zs : List Int) (i m : Nat) (h : zs.length ≤ i + m) : ∀ d, num zs i (m + d) = num zs i m * 2 ^ d
  | 0 => by simp
  | d + 1 => by
    rw [← Nat.add_assoc, num, num_pad zs i m h d, Int.pow_succ]
    have : zs.getD (i + (m + d)) 0 = 0 := by
      rw [List.getD_eq_getElem?_getD, List.getElem?_eq_none (by omega)]; rfl
    rw [this, Int.add_zero, Int.mul_comm 2, Int.mul_assoc]
theorem packTo_all (zs : List Int) : packTo zs zs.length = packL zs := by
  unfold packTo packL
  refine List.map_congr_left fun j _ => ?_
  unfold byteTo
  by_cases h : 8 ≤ zs.length - 8 * j
  · rw [Nat.min_eq_left h]; simp
  · rw [Nat.min_eq_right (by omega)]
    have := num_pad zs (8 * j) (zs.length - 8 * j) (by omega) (8 - (zs.length - 8 * j))
    rw [← this]
    congr 1
    omega
theorem byteTo_other (zs : List Int) (k j : Nat) (h : j ≠ k / 8) : byteTo zs (k + 1) j = byteTo zs k j := by
  unfold byteTo
  have : min 8 (k + 1 - 8 * j) = min 8 (k - 8 * j) := by omega
  rw [this]
theorem byteTo_this (zs : List Int) (k : Nat) : byteTo zs (k + 1) (k / 8) = byteTo zs k (k / 8) + zs.getD k 0 * 2 ^ (7 - k % 8) := by
  unfold byteTo
  have e1 : min 8 (k + 1 - 8 * (k / 8)) = k % 8 + 1 := by omega
  have e2 : min 8 (k - 8 * (k / 8)) = k % 8 := by omega
  rw [e1, e2, num, show 8 * (k / 8) + k % 8 = k from by omega, show 8 - k % 8 = (7 - k % 8) + 1 from by omega, show 8 - (k % 8 + 1) = 7 - k % 8 from by omega, Int.pow_succ, Int.add_mul, Int.mul_comm 2, Int.mul_assoc, Int.mul_comm 2]
theorem byteTo_at (zs : List Int) (k : Nat) : byteTo zs k (k / 8) = num zs (8 * (k / 8)) (k % 8) * 2 ^ (8 - k % 8) := by
  unfold byteTo
  have e2 : min 8 (k - 8 * (k / 8)) = k % 8 := by omega
  rw [e2]
theorem packTo_getD (zs : List Int) (k j : Nat) (h : j < (zs.length + 7) / 8) : (packTo zs k).getD j 0 = byteTo zs k j := by
  simp [packTo, List.getD, h]
theorem packTo_set (zs : List Int) (k : Nat) (x : Int) (hx : x = byteTo zs (k + 1) (k / 8)) : (packTo zs k).set (k / 8) x = packTo zs (k + 1) := by
  refine List.ext_getElem (by simp [packTo]) fun j h1 h2 => ?_
  rw [List.getElem_set]
  split
  · rename_i e
    subst e
    rw [hx]
    simp [packTo]
  · rename_i e
    simp only [packTo, List.getElem_map, List.getElem_range]
    rw [byteTo_other zs k j (fun h => e h.symm)]
theorem or_add (a z m : Nat) (hz : z ≤ 1) : a * 2 ^ (m + 1) ||| z * 2 ^ m = a * 2 ^ (m + 1) + z * 2 ^ m := by
  have hlt : z * 2 ^ m < 2 ^ (m + 1) := by
    rw [Nat.pow_succ]
    have : 0 < 2 ^ m := Nat.pow_pos (by decide)
    have : z * 2 ^ m ≤ 1 * 2 ^ m := Nat.mul_le_mul_right _ hz
    omega
  rw [Nat.mul_comm a]
  exact (Nat.two_pow_add_eq_or_of_lt hlt a).symm
theorem pow_le_128 (m : Nat) (h : m ≤ 7) : (2 : Nat) ^ m ≤ 128 := by
  have := Nat.pow_le_pow_right (n := 2) (by decide) h
  simpa using this
/-- What the program lays into a byte: it is there already, or its place is free. -/
theorem or_step (zs : List Int) (k : Nat) (h : Bits zs) (p q : Int) (hp : p = byteTo zs k (k / 8)) (hq : q = zs.getD k 0 * 2 ^ (7 - k % 8)) :
    0 ≤ p ∧ p < 256 ∧ 0 ≤ q ∧ q ≤ 128 ∧ bits .or .u8 p q = byteTo zs (k + 1) (k / 8) := by
  have hb := num_bd h (8 * (k / 8)) (k % 8)
  have hz := h k
  have hr : k % 8 < 8 := Nat.mod_lt _ (by decide)
  rw [byteTo_at] at hp
  rw [byteTo_this, byteTo_at]
  obtain ⟨a, ha⟩ := Int.eq_ofNat_of_zero_le hb.1
  obtain ⟨z, hz'⟩ := Int.eq_ofNat_of_zero_le hz.1
  have hz1 : z ≤ 1 := by omega
  rw [ha] at hb hp ⊢
  rw [hz'] at hq ⊢
  obtain ⟨m, hm⟩ : ∃ m, k % 8 = 7 - m ∧ m ≤ 7 := ⟨7 - k % 8, by omega, by omega⟩
  rw [hm.1] at hb hp hq ⊢
  rw [show 8 - (7 - m) = m + 1 from by omega] at hp ⊢
  rw [show 7 - (7 - m) = m from by omega] at hq ⊢
  have hal : a < 2 ^ (7 - m) := by
    have := hb.2
    have h2 : ((2 : Int) ^ (7 - m)) = ((2 ^ (7 - m) : Nat) : Int) := by simp
    rw [h2] at this
    omega
  have hpN : p = ((a * 2 ^ (m + 1) : Nat) : Int) := by rw [hp]; simp
  have hqN : q = ((z * 2 ^ m : Nat) : Int) := by rw [hq]; simp
  have hp256 : a * 2 ^ (m + 1) < 256 := by
    have h1 : a * 2 ^ (m + 1) < 2 ^ (7 - m) * 2 ^ (m + 1) := Nat.mul_lt_mul_of_pos_right hal (Nat.pow_pos (by decide))
    rw [← Nat.pow_add, show 7 - m + (m + 1) = 8 from by omega] at h1
    simpa using h1
  have hq128 : z * 2 ^ m ≤ 128 := by
    have h1 : z * 2 ^ m ≤ 1 * 2 ^ m := Nat.mul_le_mul_right _ hz1
    have := pow_le_128 m hm.2
    omega
  refine ⟨by omega, by omega, by omega, by omega, ?_⟩
  rw [hpN, hqN, u8_or_nat _ _ hp256 (by omega), or_add a z m hz1]
  simp
end Go.Proofs.Ytcnkcbipkchoiag
namespace Go.Proofs.Ytcnkcbipkchoiag
open Go.ChangeShapes Go.WideShapes Go.ChangeAt Go.RowKit
/-- Two lists of bits, added place by place (as bytes are). -/
def addTo (xs ys : List Int) (k : Nat) : List Int := (List.range k).map fun i => (xs.getD i 0 + ys.getD i 0) % 2
theorem addTo_length (xs ys : List Int) (k : Nat) : (addTo xs ys k).length = k := by simp [addTo]
end Go.Proofs.Ytcnkcbipkchoiag
namespace Go.Proofs.Ytcnkcbipkchoiag
open Go.RowKit
/-- What is in the register ahead of the division's step: all a place up, the bit at the place W. -/
def fed (W r x : Nat) : Nat := (r * 2) ^^^ (x * 2 ^ W)
/-- One step of the register: P is the divisor, its highest place W among it. -/
def step (W P r x : Nat) : Nat := if fed W r x / 2 ^ W % 2 = 1 then fed W r x ^^^ P else fed W r x
/-- A divisor: of the degree W, with x^0. -/
structure Div (W P : Nat) : Prop where
  pos : 1 ≤ W
  top : P.testBit W = true
  low : P.testBit 0 = true
  lt : P < 2 ^ (W + 1)
theorem testBit_twice (r p : Nat) : (r * 2).testBit p = (decide (0 < p) && r.testBit (p - 1)) := by
  cases p with
  | zero => simp
  | succ p => rw [Nat.mul_comm, Nat.testBit_succ]; simp
theorem testBit_up (x W p : Nat) (hx : x ≤ 1) : (x * 2 ^ W).testBit p = (decide (p = W) && decide (x = 1)) := by
  rcases (show x = 0 ∨ x = 1 by omega) with rfl | rfl
  · simp
  · rw [Nat.one_mul, Nat.testBit_two_pow]
    simp [eq_comm]
theorem fed_bit (W r x p : Nat) (hx : x ≤ 1) : (fed W r x).testBit p = ((decide (0 < p) && r.testBit (p - 1)) ^^ (decide (p = W) && decide (x = 1))) := by
  unfold fed
  rw [Nat.testBit_xor, testBit_twice, testBit_up x W p hx]
/-- The bit that is divided out. -/
def topBit (W r x : Nat) : Bool := r.testBit (W - 1) ^^ decide (x = 1)
theorem fed_top (W r x : Nat) (hW : 1 ≤ W) (hx : x ≤ 1) : (fed W r x).testBit W = topBit W r x := by
  rw [fed_bit W r x W hx]
  have : decide (0 < W) = true := by simp; omega
  simp [topBit, this]
theorem step_bit {W P : Nat} (hD : Div W P) (r x p : Nat) (hx : x ≤ 1) : (step W P r x).testBit p = ((fed W r x).testBit p ^^ (topBit W r x && P.testBit p)) := by
  have ht := fed_top W r x hD.pos hx
  unfold step
  rw [Nat.testBit_eq_decide_div_mod_eq] at ht
  by_cases h : fed W r x / 2 ^ W % 2 = 1
  · rw [if_pos h, Nat.testBit_xor]
    have : topBit W r x = true := by rw [← ht]; simp [h]
    rw [this, Bool.true_and]
  · rw [if_neg h]
    have : topBit W r x = false := by rw [← ht]; simp [h]
    rw [this, Bool.false_and, Bool.xor_false]
theorem step_lt {W P : Nat} (hD : Div W P) (r x : Nat) (hr : r < 2 ^ W) (hx : x ≤ 1) : step W P r x < 2 ^ W := by
  apply Nat.lt_pow_two_of_testBit
  intro p hp
  rw [step_bit hD r x p hx, fed_bit W r x p hx]
  rcases Nat.eq_or_lt_of_le hp with rfl | h
  · have : decide (0 < W) = true := by have := hD.pos; simp; omega
    rw [hD.top]
    simp [topBit, this]
  · have h1 : r.testBit (p - 1) = false := Nat.testBit_lt_two_pow (Nat.lt_of_lt_of_le hr (Nat.pow_le_pow_right (by decide) (by omega)))
    have h2 : P.testBit p = false := Nat.testBit_lt_two_pow (Nat.lt_of_lt_of_le hD.lt (Nat.pow_le_pow_right (by decide) (by omega)))
    have h3 : decide (p = W) = false := by simp; omega
    simp [h1, h2, h3]
/-- The register behind bits. -/
def crc (W P : Nat) (zs : List Int) : Nat := zs.foldl (fun r x => step W P r x.toNat) 0
theorem crc_snoc (W P : Nat) (zs : List Int) (x : Int) : crc W P (zs ++ [x]) = step W P (crc W P zs) x.toNat := by simp [crc]
theorem crc_take (W P : Nat) (zs : List Int) (k : Nat) (hk : k < zs.length) : crc W P (zs.take (k + 1)) = step W P (crc W P (zs.take k)) (zs.getD k 0).toNat := by
  rw [List.take_succ_eq_append_getElem hk, crc_snoc]
  simp [List.getD, hk]
theorem crc_lt {W P : Nat} (hD : Div W P) {zs : List Int} (h : Bits zs) : ∀ k, crc W P (zs.take k) < 2 ^ W
  | 0 => by simp [crc]; exact Nat.pow_pos (by decide)
  | k + 1 => by
    by_cases hk : k < zs.length
    · rw [crc_take W P zs k hk]
      exact step_lt hD _ _ (crc_lt hD h k) (by have := h k; omega)
    · have : zs.take (k + 1) = zs.take k := by rw [List.take_of_length_le (by omega), List.take_of_length_le (by omega)]
      rw [this]; exact crc_lt hD h k
def b2i (b : Bool) : Int := if b then 1 else 0
theorem b2i_bd (b : Bool) : 0 ≤ b2i b ∧ b2i b ≤ 1 := by cases b <;> simp [b2i]
/-- The sum as a list of bits. -/
def sumTo (W P : Nat) (zs : List Int) (k : Nat) : List Int := (List.range k).map fun i => b2i ((crc W P zs).testBit (W - 1 - i))
def sumL (W P : Nat) (zs : List Int) : List Int := sumTo W P zs W
theorem sumTo_length (W P : Nat) (zs : List Int) (k : Nat) : (sumTo W P zs k).length = k := by simp [sumTo]
theorem sumL_length (W P : Nat) (zs : List Int) : (sumL W P zs).length = W := sumTo_length _ _ _ _
theorem sumTo_succ (W P : Nat) (zs : List Int) (k : Nat) : sumTo W P zs (k + 1) = sumTo W P zs k ++ [b2i ((crc W P zs).testBit (W - 1 - k))] := by simp [sumTo, List.range_succ]
end Go.Proofs.Ytcnkcbipkchoiag
namespace Go.Proofs.Ytcnkcbipkchoiag
def newX (r : Nat) : Nat := (r / 8 ^^^ r) % 2
def newY (r : Nat) : Nat := (r / 8 ^^^ r / 4 ^^^ r / 2 ^^^ r) % 2
def stepX (r : Nat) : Nat := r / 2 ||| newX r * 2 ^ 30
def stepY (r : Nat) : Nat := r / 2 ||| newY r * 2 ^ 30
def regX : Nat → Nat
  | 0 => 1
  | t + 1 => stepX (regX t)
def regY (s : Nat) : Nat → Nat
  | 0 => s
  | t + 1 => stepY (regY s t)
theorem testBit_zero' (x : Nat) : x.testBit 0 = decide (x % 2 = 1) := by simp [Nat.testBit_zero]
theorem push_lt (r x : Nat) (hr : r < 2 ^ 31) (hx : x ≤ 1) : (r / 2 ||| x * 2 ^ 30) < 2 ^ 31 := by
  apply Nat.or_lt_two_pow
  · omega
  · rcases (show x = 0 ∨ x = 1 by omega) with rfl | rfl <;> decide
theorem regX_lt : ∀ t, regX t < 2 ^ 31
  | 0 => by decide
  | t + 1 => push_lt _ _ (regX_lt t) (by unfold newX; omega)
theorem regY_lt (s : Nat) (hs : s < 2 ^ 31) : ∀ t, regY s t < 2 ^ 31
  | 0 => hs
  | t + 1 => push_lt _ _ (regY_lt s hs t) (by unfold newY; omega)
def bitX (t : Nat) : Bool := (regX t).testBit 0
def bitY (s t : Nat) : Bool := (regY s t).testBit 0
/-- The noise. -/
def noiseAt (s i : Nat) : Int := b2i (bitX (1600 + i) ^^ bitY s (1600 + i))
def noiseTo (s n : Nat) : List Int := (List.range n).map (noiseAt s)
theorem noiseTo_length (s n : Nat) : (noiseTo s n).length = n := by simp [noiseTo]
theorem noiseTo_succ (s n : Nat) : noiseTo s (n + 1) = noiseTo s n ++ [noiseAt s n] := by simp [noiseTo, List.range_succ]
end Go.Proofs.Ytcnkcbipkchoiag
namespace Go.Proofs.Ytcnkcbipkchoiag
open Go.ChangeShapes Go.WideShapes Go.ChangeAt Go.RowKit
set_option maxHeartbeats 400000 in
theorem check_any (zs : List Int) (a : Option Addr) (c : Nat) (w : World) (ha : Rd .u8 w a zs) (hz : zs.length ≤ maxLen) :
    Calls Try.prog 133 #[.slice a zs.length c] w fun e w' => e = .returned (.int .i64 (errOf zs)) ∧ w = w' := by
  unfold maxLen at hz
  go_enter Try.func133, Try.ntmps133
  go_wp2
  go_loop [7] (fun i => ∃ k : Nat, k ≤ zs.length ∧ i = .int .i64 k ∧ Hid (Okay zs k)) (fun i => zs.length - (intOf i).toNat)
  case atStart => exact ⟨0, Nat.zero_le _, rfl, fun j hj => by omega⟩
  case round =>
    obtain ⟨k, hk, rfl, hok⟩ := hrel
    by_cases hlt : k < zs.length
    · obtain ⟨b1, o1, rfl, hc1⟩ := ha.at hlt
      have g1 := hc1 k hlt
      clear hc1
      obtain ⟨x, hx⟩ : ∃ x, x = zs.getD k 0 := ⟨_, rfl⟩
      rw [← hx] at g1
      have HX : Hid (x = zs.getD k 0) := hx
      clear hx
      by_cases h1 : x ≤ 1
      · go_wp2
        go_round
        case rel => exact ⟨k + 1, by omega, by go_num, hok.out.succ (HX.out ▸ h1)⟩
        case measure => simp [intOf]; omega
      · go_wp2
        go_ret
        exact ⟨ret_int (err_bad (k := k) (by rw [← HX.out]; omega)).symm, rfl⟩
    · have hkl : k = zs.length := by omega
      subst hkl
      by_cases hl : 4096 < zs.length
      · go_wp2
        go_ret
        exact ⟨ret_int (err_long hok.out hl).symm, rfl⟩
      · go_wp2
        go_ret
        exact ⟨ret_int (err_none hok.out hl).symm, rfl⟩
end Go.Proofs.Ytcnkcbipkchoiag
