import Derived.Test.YtbmdjfolfmgmmagK02
import Derived.Test.YtbmdjfolfmgmmagK03
import Derived.Test.YtbmdjfolfmgmmagK01
import Derived.Test.YtbmdjfolfmgmmagK05
namespace Go.Proofs.Ytbmdjfolfmgmmag
open Go.ChangeShapes Go.WideShapes Go.ChangeAt Go.RowKit
theorem Own.other {w : World} {B g N c : Nat} {L : List Int} (h : Own w B (.slice (some ⟨g, 0, none⟩) N c) L) (g' i : Nat) (u : Value) (hne : g ≠ g') : Own (w.setCell ⟨g', i, none⟩ u) B (.slice (some ⟨g, 0, none⟩) N c) L :=
  ownsRow_setCell_other h (a := ⟨g', i, none⟩) (by simpa [Value.ownBlock] using hne) u
theorem seed_bit (s k : Nat) (hs : s < 2147483648) (hk : k ≤ 30) : ((s / 2 ^ k : Nat) : Int) % 2 = b2i (bitY s k) := by
  rw [bitY_first s hs k hk, Nat.testBit_eq_decide_div_mod_eq]
  have : s / 2 ^ k % 2 = 0 ∨ s / 2 ^ k % 2 = 1 := by omega
  have e : ((s / 2 ^ k : Nat) : Int) % 2 = ((s / 2 ^ k % 2 : Nat) : Int) := by omega
  rw [e]
  rcases this with h | h <;> simp [h, b2i]
theorem wrap_two (a b : Bool) : IntKind.u8.wrap (b2i a + b2i b) = b2i a + b2i b := by cases a <;> cases b <;> rfl
theorem wrap_three (a b c : Bool) : IntKind.u8.wrap (b2i a + b2i b + b2i c) = b2i a + b2i b + b2i c := by cases a <;> cases b <;> cases c <;> rfl
theorem wrap_four (a b c d : Bool) : IntKind.u8.wrap (b2i a + b2i b + b2i c + b2i d) = b2i a + b2i b + b2i c + b2i d := by cases a <;> cases b <;> cases c <;> cases d <;> rfl
theorem tmod_two (a b : Bool) : (b2i a + b2i b).tmod 2 = (b2i a + b2i b) % 2 := by cases a <;> cases b <;> rfl
theorem tmod_four (a b c d : Bool) : (b2i a + b2i b + b2i c + b2i d).tmod 2 = (b2i a + b2i b + b2i c + b2i d) % 2 := by cases a <;> cases b <;> cases c <;> cases d <;> rfl
theorem bitX_back (k : Nat) (h : 31 ≤ k) : (bitX (k - 28) ^^ bitX (k - 31)) = bitX k := by
  have := bitX_rec (k - 31)
  rw [show k - 31 + 31 = k from by omega, show k - 31 + 3 = k - 28 from by omega] at this
  exact this.symm
theorem bitY_back (s : Nat) (hs : s < 2147483648) (k : Nat) (h : 31 ≤ k) : (((bitY s (k - 28) ^^ bitY s (k - 29)) ^^ bitY s (k - 30)) ^^ bitY s (k - 31)) = bitY s k := by
  have := bitY_rec s hs (k - 31)
  rw [show k - 31 + 31 = k from by omega, show k - 31 + 3 = k - 28 from by omega, show k - 31 + 2 = k - 29 from by omega, show k - 31 + 1 = k - 30 from by omega] at this
  exact this.symm
set_option maxRecDepth 100000 in
set_option maxHeartbeats 2000000 in
theorem rnoise_any (s n : Nat) (w : World) (hs : s < 2147483648) (hn : n ≤ 4096) :
    Calls Try.prog 44 #[.int .i64 s, .int .i64 n] w fun e w' => ∃ v, e = .returned v ∧ Own w' w.heap.size v (noiseTo s n) ∧ Below w.heap.size w w' := by
  obtain ⟨N, hN⟩ : ∃ N, N = 1600 + n + 31 := ⟨_, rfl⟩
  have hN1 : 1631 + n ≤ N := by omega
  have hN2 : N ≤ 1631 + n := by omega
  clear hN
  go_enter Try.func44, Try.ntmps44
  go_wp2_with (at_make; refine wpList_makeBytes w.heap.size w N rfl (.tmp 13) (.tmp 13) rfl _ _ rfl rfl (by omega) (by omega) (by omega) (Below.refl _ _) (Nat.le_refl _) ?_)
  intro w1 hx1 hb1 hs1
  go_wp2_with (at_make; refine wpList_makeBytes w1.heap.size w1 N rfl (.tmp 17) (.tmp 17) rfl _ _ rfl rfl (by omega) (by omega) (by omega) (Below.refl _ _) (Nat.le_refl _) ?_)
  intro w2 hy2 hb2 hs2
  have hx2 := hx1.below hb2
  have hbw2 := bthen hb1 hb2
  have hy2' := hy2.mono hb1.size
  clear hx1 hb1 hy2 hb2
  have hc0 := hx2.cell (i := 0) (by simp; omega)
  have hf0 := hx2.free 0
  have hxs := hx2.set 0 1
  rw [fillTo_first N] at hxs
  have hys := hy2'.other w.heap.size 0 (.int .u8 1) (by omega)
  rw [← fillTo_zero (bitY s) N] at hys
  have hbs := hbw2.setCell (p := ⟨w.heap.size, 0, none⟩) (Nat.le_refl _) (.int .u8 1)
  have hszs : w1.heap.size < (w2.setCell ⟨w.heap.size, 0, none⟩ (.int .u8 1)).heap.size := by simpa using hs2
  clear hx2 hy2' hbw2
  go_wp2_with fail
  clear hc0 hf0
  go_loopw [0, 7] (fun sd i wr => ∃ k q : Nat, k ≤ 31 ∧ i = .int .i64 k ∧ sd = .int .i64 q ∧ q < 2147483648 ∧ Hid (q = s / 2 ^ k) ∧ Own wr w.heap.size (.slice (some ⟨w.heap.size, 0, none⟩) N N) (fillTo bitX 31 N) ∧ Own wr w.heap.size (.slice (some ⟨w1.heap.size, 0, none⟩) N N) (fillTo (bitY s) k N) ∧ Below w.heap.size w wr) (fun _ i _ => 31 - (intOf i).toNat)
  case atStart => exact ⟨0, s, by omega, rfl, rfl, hs, by unfold Hid; simp, hxs, hys, hbs⟩
  case round =>
    clear hxs hys hbs hszs
    obtain ⟨k, q, hk, rfl, rfl, hq, HQ, hx, hy, hbel⟩ := hrel
    by_cases hlt : k < 31
    · have hly : (fillTo (bitY s) k N).length = N := hy.len
      have hc := hy.cell (i := k) (by omega)
      have hf := hy.free k
      have hkN : (k : Int) < (N : Int) := by omega
      clear hly
      go_wp2
      have hset := fillTo_set (bitY s) k N ((q : Int) % 2) (by rw [HQ.out]; exact seed_bit s k hs (by omega))
      go_roundw
      case rel => exact ⟨k + 1, q / 2, by omega, by go_num, by go_num, by omega, by unfold Hid; rw [HQ.out, Nat.pow_succ, Nat.div_div_eq_div_mul], hx.other _ _ _ (by omega), hset ▸ hy.set k _, hbel.setCell hy.block.1 _⟩
      case measure => simp [intOf]; omega
    · obtain rfl : k = 31 := by omega
      clear HQ
      go_wp2_with fail
      go_loopw [8] (fun i wr => ∃ k : Nat, 31 ≤ k ∧ k ≤ N ∧ i = .int .i64 k ∧ Own wr w.heap.size (.slice (some ⟨w.heap.size, 0, none⟩) N N) (fillTo bitX k N) ∧ Own wr w.heap.size (.slice (some ⟨w1.heap.size, 0, none⟩) N N) (fillTo (bitY s) k N) ∧ Below w.heap.size w wr) (fun i _ => N - (intOf i).toNat)
      case atStart => exact ⟨31, by omega, by omega, rfl, hx, hy, hbel⟩
      case round =>
        clear hx hy hbel hk hlt
        obtain ⟨k, hk1, hk2, rfl, hx, hy, hbel⟩ := hrel
        by_cases hlt : k < N
        · have hlx : (fillTo bitX k N).length = N := hx.len
          have hc := hx.cell (i := k) (by omega)
          have hf := hx.free k
          have hc1 := hx.cell (i := k - 28) (by omega)
          have hc2 := hx.cell (i := k - 31) (by omega)
          rw [fillTo_getD _ _ _ _ (by omega) (by omega)] at hc1 hc2
          have e28 : ((k : Int) - 28).toNat = k - 28 := by omega
          have e31 : ((k : Int) - 31).toNat = k - 31 := by omega
          have l28 : (k : Int) - 28 < (N : Int) := by omega
          have l31 : (k : Int) - 31 < (N : Int) := by omega
          have p28 : 0 ≤ (k : Int) - 28 := by omega
          have p31 : 0 ≤ (k : Int) - 31 := by omega
          clear hlx
          have hwr : IntKind.u8.wrap (b2i (bitX (k - 28)) + b2i (bitX (k - 31))) = b2i (bitX (k - 28)) + b2i (bitX (k - 31)) := wrap_two _ _
          have htm : (b2i (bitX (k - 28)) + b2i (bitX (k - 31))).tmod 2 = b2i (bitX k) := by rw [tmod_two, add_mod, bitX_back k hk1]
          go_wp2_with fail
          go_region
          have hx' := (fillTo_set bitX k N _ rfl ▸ hx.set k (b2i (bitX k))).drew
          have hy' := (hy.other w.heap.size k (.int .u8 (b2i (bitX k))) (by omega)).drew
          have hbel' := (hbel.setCell (p := ⟨w.heap.size, k, none⟩) (Nat.le_refl _) (.int .u8 (b2i (bitX k)))).drew
          clear hc hf hc1 hc2 hwr htm hx hy hbel
          generalize hwn : (wr.setCell ⟨w.heap.size, k, none⟩ (.int .u8 (b2i (bitX k)))).drew = wn at *
          clear hwn
          have hc := hy'.cell (i := k) (by rw [hy'.len]; omega)
          have hf := hy'.free k
          have hc1 := hy'.cell (i := k - 28) (by rw [hy'.len]; omega)
          have hc2 := hy'.cell (i := k - 29) (by rw [hy'.len]; omega)
          have hc3 := hy'.cell (i := k - 30) (by rw [hy'.len]; omega)
          have hc4 := hy'.cell (i := k - 31) (by rw [hy'.len]; omega)
          rw [fillTo_getD _ _ _ _ (by omega) (by omega)] at hc1 hc2 hc3 hc4
          have e29 : ((k : Int) - 29).toNat = k - 29 := by omega
          have e30 : ((k : Int) - 30).toNat = k - 30 := by omega
          have l29 : (k : Int) - 29 < (N : Int) := by omega
          have l30 : (k : Int) - 30 < (N : Int) := by omega
          have p29 : 0 ≤ (k : Int) - 29 := by omega
          have p30 : 0 ≤ (k : Int) - 30 := by omega
          have hkN : (k : Int) < (N : Int) := by omega
          have w28 : IntKind.i64.wrap ((k : Int) - 28) = (k : Int) - 28 := by rw [IntKind.wrap_i64]; omega
          have w29 : IntKind.i64.wrap ((k : Int) - 29) = (k : Int) - 29 := by rw [IntKind.wrap_i64]; omega
          have w30 : IntKind.i64.wrap ((k : Int) - 30) = (k : Int) - 30 := by rw [IntKind.wrap_i64]; omega
          have w31 : IntKind.i64.wrap ((k : Int) - 31) = (k : Int) - 31 := by rw [IntKind.wrap_i64]; omega
          have hwr1 : IntKind.u8.wrap (b2i (bitY s (k - 28)) + b2i (bitY s (k - 29))) = b2i (bitY s (k - 28)) + b2i (bitY s (k - 29)) := wrap_two _ _
          have hwr2 : IntKind.u8.wrap (b2i (bitY s (k - 28)) + b2i (bitY s (k - 29)) + b2i (bitY s (k - 30))) = b2i (bitY s (k - 28)) + b2i (bitY s (k - 29)) + b2i (bitY s (k - 30)) := wrap_three _ _ _
          have hwr3 : IntKind.u8.wrap (b2i (bitY s (k - 28)) + b2i (bitY s (k - 29)) + b2i (bitY s (k - 30)) + b2i (bitY s (k - 31))) = b2i (bitY s (k - 28)) + b2i (bitY s (k - 29)) + b2i (bitY s (k - 30)) + b2i (bitY s (k - 31)) := wrap_four _ _ _ _
          have htm : (b2i (bitY s (k - 28)) + b2i (bitY s (k - 29)) + b2i (bitY s (k - 30)) + b2i (bitY s (k - 31))).tmod 2 = b2i (bitY s k) := by rw [tmod_four, add_mod4, bitY_back s hs k hk1]
          go_wp2_with fail
          go_region
          have hx2 := (hx'.other w1.heap.size k (.int .u8 (b2i (bitY s k))) (by omega)).drew
          have hy2 := (fillTo_set (bitY s) k N _ rfl ▸ hy'.set k (b2i (bitY s k))).drew
          have hbel2 := (hbel'.setCell (p := ⟨w1.heap.size, k, none⟩) hy'.block.1 (.int .u8 (b2i (bitY s k)))).drew
          clear hx' hy' hbel' hc1 hc2 hc3 hc4 hc hf
          go_wp2
          go_roundw
          case rel => exact ⟨k + 1, by omega, by omega, by go_num, hx2, hy2, hbel2⟩
          case measure => simp [intOf]; omega
        · obtain rfl : k = N := by omega
          obtain ⟨wo, rfl⟩ : ∃ wo : World, wo = wr := ⟨_, rfl⟩
          clear hk1 hk2 hlt
          go_wp2_with fail
          go_loopw [9, 10] (fun v i wr => ∃ j : Nat, j ≤ n ∧ i = .int .i64 j ∧ Own wr wo.heap.size v (noiseTo s j) ∧ Below wo.heap.size wo wr) (fun _ i _ => n - (intOf i).toNat)
          case atStart => exact ⟨0, by omega, rfl, Own.nil _ _, Below.refl _ _⟩
          case round =>
            obtain ⟨j, hj, rfl, hown, hbo⟩ := hrel
            have hsz := hbo.size
            by_cases hlt : j < n
            · have hcx := (hx.below hbo).cell (i := 1600 + j) (by rw [hx.len]; omega)
              have hcy := (hy.below hbo).cell (i := 1600 + j) (by rw [hy.len]; omega)
              rw [fillTo_getD _ _ _ _ (by omega) (by omega)] at hcx hcy
              have e1 : (1600 + (j : Int)).toNat = 1600 + j := by omega
              have l1 : 1600 + (j : Int) < (k : Int) := by omega
              have p1 : 0 ≤ 1600 + (j : Int) := by omega
              have hw1 : IntKind.i64.wrap (1600 + (j : Int)) = 1600 + (j : Int) := by rw [IntKind.wrap_i64]; omega
              have hwr : IntKind.u8.wrap (b2i (bitX (1600 + j)) + b2i (bitY s (1600 + j))) = b2i (bitX (1600 + j)) + b2i (bitY s (1600 + j)) := wrap_two _ _
              have htm : (b2i (bitX (1600 + j)) + b2i (bitY s (1600 + j))).tmod 2 = noiseAt s j := by rw [tmod_two, add_mod]; rfl
              go_wp2_with fail
              go_region_law (refine step_push wo.heap.size wo wr.heap.size (noiseAt s j) (show Own (wr.alloc (.cells #[.int .u8 (noiseAt s j)] 5)).drew _ _ _ from World.ownsRow.alloc hown _) rfl (.tmp 86) (.tmp 99) rfl rfl rfl (cell_one _ _ _) (by rw [noiseTo_length]; omega) (hbo.alloc hsz _).drew (by simp; omega) ?_; intro v' w9 hown' hbel')
              all_goals
                rw [← noiseTo_succ] at hown'
                clear hown hbo hcx hcy
                go_wp2
                go_roundw
                case rel => first | exact ⟨j + 1, by omega, by go_num, hown', hbel'⟩ | ((repeat apply Exists.intro); exact ⟨⟨j + 1, by omega, by go_num, hown', hbel'⟩, rfl⟩)
                case measure => simp [intOf]; omega
            · go_wp2
              go_ret
              obtain rfl : j = n := by omega
              exact ⟨_, rfl, hown.mono hbel.size, bthen hbel hbo⟩
end Go.Proofs.Ytbmdjfolfmgmmag
namespace Go.Proofs.Ytbmdjfolfmgmmag
open Go.ChangeShapes Go.WideShapes Go.ChangeAt Go.RowKit
theorem num_unpackG (s : ByteArray) (n j : Nat) (hj : 8 * j + 8 ≤ n) : ∀ m, m ≤ 8 → num (unpackTo s n) (8 * j) m = byteAt s j / 2 ^ (8 - m)
  | 0, _ => by
    have h : 0 ≤ byteAt s j ∧ byteAt s j < 256 := by
      unfold byteAt
      split
      · have := UInt8.toNat_lt s[j]; omega
      · omega
    rw [num]
    simp only [Nat.sub_zero, Int.reducePow]
    omega
  | m + 1, hm => by
    have ih := num_unpackG s n j hj m (by omega)
    have hb : (unpackTo s n).getD (8 * j + m) 0 = byteAt s j / 2 ^ (7 - m) % 2 := by
      have e : (unpackTo s n).getD (8 * j + m) 0 = bitAt s (8 * j + m) := by simp [unpackTo, List.getD, show 8 * j + m < n by omega]
      rw [e]
      unfold bitAt
      rw [show (8 * j + m) / 8 = j by omega, show (8 * j + m) % 8 = m by omega]
    rw [num, ih, hb]
    rcases (show m = 0 ∨ m = 1 ∨ m = 2 ∨ m = 3 ∨ m = 4 ∨ m = 5 ∨ m = 6 ∨ m = 7 by omega) with rfl | rfl | rfl | rfl | rfl | rfl | rfl | rfl <;> simp <;> omega
theorem pack_unpackG (s : ByteArray) : strOfNums (packL (unpackTo s (8 * s.size))) = s := by
  have hl : (packL (unpackTo s (8 * s.size))).length = s.size := by rw [packL_length, unpackTo_length]; omega
  have hd : (strOfNums (packL (unpackTo s (8 * s.size)))).data = s.data := by
    refine Array.ext ?_ fun j h1 h2 => ?_
    · show ((packL (unpackTo s (8 * s.size))).map fun n => UInt8.ofNat n.toNat).toArray.size = _
      rw [List.size_toArray, List.length_map, hl]
      rfl
    · show ((packL (unpackTo s (8 * s.size))).map fun n => UInt8.ofNat n.toNat).toArray[j]'_ = _
      have hj : j < s.size := h2
      have e : num (unpackTo s (8 * s.size)) (8 * j) 8 = (s[j].toNat : Int) := by
        rw [num_unpackG s _ j (by omega) 8 (Nat.le_refl _), byteAt_eq s j hj]
        simp
      simp [packL, e]
      rfl
  cases h : strOfNums (packL (unpackTo s (8 * s.size)))
  cases s
  rw [h] at hd
  simp at hd
  rw [hd]
theorem unpack_bitsG (s : ByteArray) (n : Nat) : Bits (unpackTo s n) := fun k => by
  by_cases h : k < n
  · have e : (unpackTo s n).getD k 0 = bitAt s k := by simp [unpackTo, List.getD, h]
    rw [e]
    unfold bitAt
    omega
  · have e : (unpackTo s n).getD k 0 = 0 := by simp [unpackTo, List.getD, h]
    rw [e]
    omega
theorem add_bitsG (xs ys : List Int) (n : Nat) : Bits (addTo xs ys n) := fun k => by
  by_cases h : k < n
  · have e : (addTo xs ys n).getD k 0 = (xs.getD k 0 + ys.getD k 0) % 2 := by simp [addTo, List.getD, h]
    rw [e]
    omega
  · have e : (addTo xs ys n).getD k 0 = 0 := by simp [addTo, List.getD, h]
    rw [e]
    omega
theorem ksum_bitsG (zs : List Int) (k : Int) : Bits (ksum zs k) := fun j => by
  unfold ksum sumL
  by_cases h : j < kW k
  · have : (sumTo (kW k) (kP k) zs (kW k)).getD j 0 = b2i ((crc (kW k) (kP k) zs).testBit (kW k - 1 - j)) := by simp [sumTo, List.getD, h]
    rw [this]; exact b2i_bd _
  · have : (sumTo (kW k) (kP k) zs (kW k)).getD j 0 = 0 := by simp [sumTo, List.getD, h]
    rw [this]; omega
theorem bits_okG {zs : List Int} (h : Bits zs) (hz : zs.length ≤ 4096) : errOf zs = 0 := err_none (fun j _ => (h j).2) (by omega)
theorem bits_bytesG {zs : List Int} (h : Bits zs) : Bytes zs := fun x hx => by
  obtain ⟨k, hk, rfl⟩ := List.getElem_of_mem hx
  have := h k
  have e : zs.getD k 0 = zs[k] := by simp [List.getD, hk]
  rw [e] at this
  omega
theorem add_twiceG {a n : List Int} {m : Nat} (ha : Bits a) (hl : a.length = m) : addTo (addTo a n m) n m = a := by
  refine List.ext_getElem (by rw [addTo_length, hl]) fun j h1 h2 => ?_
  have hj : j < m := by rw [addTo_length] at h1; exact h1
  have e : (addTo a n m).getD j 0 = (a.getD j 0 + n.getD j 0) % 2 := by simp [addTo, List.getD, hj]
  have hb := ha j
  have e2 : a.getD j 0 = a[j] := by simp [List.getD, h2]
  have : (addTo (addTo a n m) n m)[j] = ((addTo a n m).getD j 0 + n.getD j 0) % 2 := by simp only [addTo, List.getElem_map, List.getElem_range]
  rw [this, e, ← e2]
  omega
theorem kW3G : kW 3 = 24 := by unfold kW; simp
theorem isKind3G : isKind 3 = true := by unfold isKind; simp
/-- The seed that covers a packet. -/
def seedG (k : Int) (c : Nat) : Nat := ((k + 48271 * (c : Int) + 12345) % 2147483648).toNat
theorem seedG_lt (k : Int) (c : Nat) : seedG k c < 2147483648 := by unfold seedG; omega
theorem seedG_eq (k : Int) (c : Nat) : ((seedG k c : Nat) : Int) = (k + 48271 * (c : Int) + 12345) % 2147483648 := by unfold seedG; omega
/-- Data, covered. -/
def hidG (d : ByteArray) (s : Nat) : ByteArray := strOfNums (packL (addTo (unpackTo d (8 * d.size)) (noiseTo s (8 * d.size)) (8 * d.size)))
theorem hidG_size (d : ByteArray) (s : Nat) : (hidG d s).size = d.size := by
  unfold hidG
  rw [strOfNums_size, packL_length, addTo_length]
  omega
theorem unpack_packG {zs : List Int} (h : Bits zs) (hz : zs.length ≤ 4096) {n : Nat} (hn : zs.length = n) : unpackTo (strOfNums (packL zs)) n = zs := by
  subst hn
  obtain ⟨h1, h2⟩ := unpack_pack h hz
  unfold unpackL at h2
  rw [if_pos h1, Int.toNat_natCast] at h2
  exact h2
theorem hid_hidG (d : ByteArray) (s : Nat) (hd : d.size ≤ 500) : hidG (hidG d s) s = d := by
  have e : unpackTo (hidG d s) (8 * d.size) = addTo (unpackTo d (8 * d.size)) (noiseTo s (8 * d.size)) (8 * d.size) :=
    unpack_packG (add_bitsG _ _ _) (by rw [addTo_length]; omega) (addTo_length _ _ _)
  have e2 : hidG (hidG d s) s = strOfNums (packL (addTo (unpackTo (hidG d s) (8 * d.size)) (noiseTo s (8 * d.size)) (8 * d.size))) := by
    have e3 : ∀ x : ByteArray, hidG x s = strOfNums (packL (addTo (unpackTo x (8 * x.size)) (noiseTo s (8 * x.size)) (8 * x.size))) := fun x => rfl
    rw [e3 (hidG d s), hidG_size]
  rw [e2, e, add_twiceG (unpack_bitsG _ _) (unpackTo_length _ _), pack_unpackG]
/-- A count's three bytes. -/
def headG (c : Nat) : ByteArray := strOfNums [(c : Int) / 65536 % 256, (c : Int) / 256 % 256, (c : Int) % 256]
theorem headG_size (c : Nat) : (headG c).size = 3 := by unfold headG; rw [strOfNums_size]; rfl
/-- The seal of data that has a count. -/
def sealG (c : Nat) (d : ByteArray) : ByteArray := strOfNums (packL (ksum (unpackTo (headG c ++ d) (8 * (3 + d.size))) 3))
theorem ksum3_len (zs : List Int) : (ksum zs 3).length = 24 := by
  have : (ksum zs 3).length = kW 3 := sumL_length _ _ _
  rw [this, kW3G]
theorem sealG_size (c : Nat) (d : ByteArray) : (sealG c d).size = 3 := by
  unfold sealG
  rw [strOfNums_size, packL_length, ksum3_len]
/-- A packet. -/
structure PktM where
  short : Int
  data : ByteArray
  sl : ByteArray
def PktM.val (p : PktM) : Value := .agg #[.int .i64 p.short, .string p.data, .string p.sl]
def PktM.zero : PktM := ⟨0, ByteArray.empty, ByteArray.empty⟩
def pktG (k : Int) (c : Nat) (d : ByteArray) : PktM := ⟨((c % 4096 : Nat) : Int), hidG d (seedG k c), sealG c d⟩
end Go.Proofs.Ytbmdjfolfmgmmag
namespace Go.Proofs.Ytbmdjfolfmgmmag
open Go.ChangeShapes Go.WideShapes Go.ChangeAt Go.RowKit
set_option maxRecDepth 100000 in
set_option maxHeartbeats 1000000 in
theorem pack_ok (zs : List Int) (a : Option Addr) (c : Nat) (w : World) (ha : Rd .u8 w a zs) (hb : Bits zs) (hz : zs.length ≤ 4096) (he : errOf zs = 0) :
    Calls Try.prog 39 #[.slice a zs.length c] w fun e w' => e = .returned (.tuple #[.string (strOfNums (packL zs)), .int .i64 0]) ∧ Below w.heap.size w w' := by
  have HE : Hid (errOf zs = 0) := he
  clear he
  go_enter Try.func39, Try.ntmps39
  go_wp2_with (first | (go_at_call 49; refine (check_any zs a c _ ha (by unfold maxLen; omega)).mono ?_; rintro e w' ⟨rfl, rfl⟩; rw [HE.out]) | (at_make; refine wpList_makeBytes w.heap.size w ((zs.length + 7) / 8) rfl _ _ rfl _ _ rfl rfl ?_ ?_ (by omega) (Below.refl _ _) (Nat.le_refl _) ?_))
  · omega
  · omega
  intro w1 hown1 hbel1 hsz1
  rw [← packTo_zero zs] at hown1
  obtain ⟨M, hM⟩ : ∃ M, M = (zs.length + 7) / 8 := ⟨_, rfl⟩
  rw [← hM] at hown1 ⊢
  have hM1 : M ≤ 513 := by omega
  have hM2 : zs.length ≤ 8 * M := by omega
  have HM : Hid (M = (zs.length + 7) / 8) := hM
  clear hM
  go_wp2
  go_loopw [20] (fun i wr => ∃ k : Nat, k ≤ zs.length ∧ i = .int .i64 k ∧ Own wr w.heap.size (.slice (some ⟨w.heap.size, 0, none⟩) M M) (packTo zs k) ∧ Below w.heap.size w wr) (fun i _ => zs.length - (intOf i).toNat)
  case atStart => exact ⟨0, Nat.zero_le _, rfl, hown1, hbel1⟩
  case round =>
    clear hown1 hbel1
    obtain ⟨k, hk, rfl, hown, hbel⟩ := hrel
    by_cases hlt : k < zs.length
    · have hll : (packTo zs k).length = M := hown.len
      have hk8 : k / 8 < M := by omega
      have hc := hown.cell (i := k / 8) (by omega)
      rw [packTo_getD zs k (k / 8) (by rw [← HM.out]; exact hk8)] at hc
      have hf := hown.free (k / 8)
      obtain ⟨b1, o1, rfl, hc1⟩ := (ha.below hbel).at hlt
      have g1 := hc1 k hlt
      clear hc1 hll
      have hor := or_step zs k hb _ _ rfl rfl
      obtain ⟨p, hp⟩ : ∃ p, p = byteTo zs k (k / 8) := ⟨_, rfl⟩
      obtain ⟨x, hx⟩ : ∃ x, x = zs.getD k 0 := ⟨_, rfl⟩
      have hx01 := hb k
      rw [← hp] at hc hor
      rw [← hx] at g1 hor hx01
      obtain ⟨hp0, hp1, hq0, hq1, hor'⟩ := hor
      have HOR : Hid (bits .or .u8 p (x * 2 ^ (7 - k % 8)) = byteTo zs (k + 1) (k / 8)) := hor'
      have hk8' : (k : Int) / 8 < M := by omega
      clear hp hx hor'
      go_wp2
      go_region
      go_wp2
      go_roundw
      case rel => exact ⟨k + 1, by omega, by go_num, (packTo_set zs k _ HOR.out ▸ hown.set (k / 8) _).drew, (hbel.setCell (Nat.le_refl _) _).drew⟩
      case measure => simp [intOf]; omega
    · obtain rfl : k = zs.length := by omega
      rw [packTo_all] at hown
      have hcv := conv_rd hown.rd M
      rw [hown.len] at hcv
      go_wp2
      go_ret2
      exact ⟨rfl, hbel⟩
end Go.Proofs.Ytbmdjfolfmgmmag
