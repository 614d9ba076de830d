import Derived.Test.YtplkmkbambbemaeGreatDoorM18
import Derived.Test.YtplkmkbambbemaeGreatDoorM06
import Derived.Test.YtplkmkbambbemaeGreatDoorM01
import Derived.Test.YtplkmkbambbemaeGreatDoorM16
import Derived.Test.YtplkmkbambbemaeGreatDoorM08
import Derived.Test.YtplkmkbambbemaeGreatDoorM07
import Derived.Test.YtplkmkbambbemaeGreatDoorM03
namespace Go.Proofs.YtplkmkbambbemaeGreatDoor
open Go.ChangeShapes Go.WideShapes Go.ChangeAt Go.RowKit
theorem byte_inj {a b : Int} (ha : 0 ≤ a ∧ a ≤ 255) (hb : 0 ≤ b ∧ b ≤ 255) (h : UInt8.ofNat a.toNat = UInt8.ofNat b.toNat) : a = b := by
  have h2 := congrArg UInt8.toNat h
  simp at h2
  omega
theorem map_byte_inj : ∀ {X Y : List Int}, Bytes X → Bytes Y → X.map (fun n => UInt8.ofNat n.toNat) = Y.map (fun n => UInt8.ofNat n.toNat) → X = Y
  | [], [], _, _, _ => rfl
  | [], _ :: _, _, _, h => by simp at h
  | _ :: _, [], _, _, h => by simp at h
  | x :: X, y :: Y, hX, hY, h => by
    simp only [List.map_cons, List.cons.injEq] at h
    rw [byte_inj (hX x (by simp)) (hY y (by simp)) h.1, map_byte_inj (fun n hn => hX n (by simp [hn])) (fun n hn => hY n (by simp [hn])) h.2]
theorem str_ne {X Y : List Int} (hX : Bytes X) (hY : Bytes Y) (h : X ≠ Y) : ((strOfNums X).toList == (strOfNums Y).toList) = false := by
  rw [beq_eq_false_iff_ne]
  intro e
  rw [ByteArray.toList_eq, ByteArray.toList_eq, strOfNums_data, strOfNums_data] at e
  exact h (map_byte_inj hX hY e)
theorem sum_bytes (W P : Nat) (zs : List Int) : Bytes (sumL W P zs) := by
  intro m hm
  unfold sumL sumTo at hm
  obtain ⟨i, _, rfl⟩ := List.mem_map.1 hm
  have := b2i_bd ((crc W P zs).testBit (W - 1 - i))
  omega
set_option maxRecDepth 100000 in
set_option maxHeartbeats 2000000 in
theorem open_diff (zs : List Int) (k : Int) (a : Option Addr) (c : Nat) (w : World) (ha : Rd .u8 w a zs) (hcap : zs.length ≤ c) (hcm : c ≤ maxLen) (hy : Bytes zs) (h : errSum zs k = 0) (n : Nat) (hl : zs.length = n + kW k) (hs : ksum (zs.take n) k ≠ zs.drop n) :
    Calls Tryz.prog 56 #[.slice a zs.length c, .int .i64 k] w fun e w' => e = .returned (.tuple #[.slice none 0 0, .bool false, .int .i64 0]) ∧ Below w.heap.size w w' := by
  obtain ⟨he, hk⟩ := errSum_ok h
  obtain ⟨hD, hW1, hW, hR⟩ := kind_div hk
  have hb : Bits zs := fun j => ⟨(hy.at j).1, (err_zero he).1 j⟩
  have hbt := bits_take hb n
  have hz := (err_zero he).2
  have HE : Hid (errOf zs = 0) := he
  have HK : Hid (isKind k = true) := hk
  have HL : Hid (zs.length = n + kW k) := hl
  have hlt : n < zs.length := by omega
  have hsub : (zs.length : Int) - (kW k : Int) = n := by omega
  have hlt' : (zs.take n).length = n := by rw [List.length_take]; omega
  have HT : Hid ((zs.take n).length = n) := hlt'
  have hld' : (zs.drop n).length = zs.length - n := by rw [List.length_drop]
  have HD : Hid ((zs.drop n).length = zs.length - n) := hld'
  unfold ksum kP at hs
  unfold kP at hD
  have hcmp : ((strOfNums (sumL (kW k) (2 ^ kW k ||| kR k) (zs.take n))).toList == (strOfNums (zs.drop n)).toList) = false := str_ne (sum_bytes _ _ _) (fun m hm => hy m (List.mem_of_mem_drop hm)) hs
  unfold maxLen at hcm
  clear h hy he hk hl hlt' hld' hs
  obtain ⟨b1, o1, rfl, hc1⟩ := ha.at hlt
  go_enter Tryz.func56, Tryz.ntmps56
  go_wp2_with fail
  refine (checksum_ok zs k _ c _ ha (by unfold maxLen; omega) HE.out HK.out).mono ?_
  rintro e w1 ⟨rfl, hb1⟩
  have hbb : Below w.heap.size w (w1.alloc (.cells #[.int .i64 (kW k), .int .u32 (kR k)] 85)) := hb1.alloc hb1.size _
  obtain ⟨p0, p1, -⟩ := box2 (w := w1) (x := .int .i64 (kW k)) (y := .int .u32 (kR k)) (T := 85) (w1 := w1.alloc (.cells #[.int .i64 (kW k), .int .u32 (kR k)] 85)) (Below.refl _ _)
  have hcb : ∀ j, j < zs.length → (w1.alloc (.cells #[.int .i64 (kW k), .int .u32 (kR k)] 85)).cell? ⟨b1, o1 + j, none⟩ = some (.int .u8 (zs.getD j 0)) := fun j hj => keep1 hbb (hc1 j hj)
  have hrt := Rd.take hcb n
  have hrd := Rd.drop hcb n
  clear hc1 hcb
  have hrz := ha.below hbb
  have P0 := hid p0
  have P1 := hid p1
  clear p0 p1
  go_wp2_with fail
  have hA1 : (n : Int) ≤ (c : Int) := by omega
  have hA2 : (n : Int) ≤ (zs.length : Int) := by omega
  have hrd' : Rd .u8 (w1.alloc (.cells #[.int .i64 (kW k), .int .u32 (kR k)] 85)).drew (some ⟨b1, o1 + n, none⟩) (zs.drop n) := hrd
  go_region_held (fun w' => w'.cell? ⟨w1.heap.size, 0, none⟩ = some (.int .i64 (kW k)) ∧ w'.cell? ⟨w1.heap.size, 1, none⟩ = some (.int .u32 (kR k)) ∧ (convert 55 9 (.slice (some ⟨b1, o1 + n, none⟩) (zs.length - n) (c - n))).run Tryz.prog w' = .ok (.string (strOfNums (zs.drop n))) w')
    (first | exact ⟨P0.out, P1.out, conv_rdN hrd' _ _ HD.out⟩ | exact ⟨keep1 hb2 P0.out, keep1 hb2 P1.out, conv_rdN (hrd'.below hb2) _ _ HD.out⟩)
    (first | (go_at_call 47; refine (sum_anyN (kW k) (kR k) (zs.take n) n HT.out _ _ _ ?_ hbt (by omega) hD hW1 hW hR).mono ?_; exact hrt; rintro e w2 ⟨v2, rfl, hown2, hb2⟩; obtain ⟨a2, c2, rfl, -⟩ := hown2.shape; have hcv2 := conv_rd hown2.rd c2))
  all_goals
    have hbw : Below w.heap.size w w2 := bthen hbb.drew hb2
    clear hcv2 hown2 hb2 hrd hrd' hrt hrz
    go_wp2
    go_ret3
    exact ⟨rfl, hbw⟩
end Go.Proofs.YtplkmkbambbemaeGreatDoor
namespace Go.Proofs.YtplkmkbambbemaeGreatDoor
open Go.ChangeShapes Go.WideShapes Go.ChangeAt Go.RowKit
set_option maxRecDepth 100000 in
set_option maxHeartbeats 1000000 in
theorem pack_ok (zs : List Int) (a : Option Addr) (c : Nat) (w : World) (ha : Rd .u8 w a zs) (hb : Bits zs) (hz : zs.length ≤ 4096) (he : errOf zs = 0) :
    Calls Tryz.prog 19 #[.slice a zs.length c] w fun e w' => e = .returned (.tuple #[.string (strOfNums (packL zs)), .int .i64 0]) ∧ Below w.heap.size w w' := by
  have HE : Hid (errOf zs = 0) := he
  clear he
  go_enter Tryz.func19, Tryz.ntmps19
  go_wp2_with (first | (go_at_call 38; refine (check_any zs a c _ ha (by unfold maxLen; omega)).mono ?_; rintro e w' ⟨rfl, rfl⟩; rw [HE.out]) | (at_make; refine wpList_makeBytes w.heap.size w ((zs.length + 7) / 8) rfl _ _ rfl _ _ rfl rfl ?_ ?_ (by omega) (Below.refl _ _) (Nat.le_refl _) ?_))
  · omega
  · omega
  intro w1 hown1 hbel1 hsz1
  rw [← packTo_zero zs] at hown1
  obtain ⟨M, hM⟩ : ∃ M, M = (zs.length + 7) / 8 := ⟨_, rfl⟩
  rw [← hM] at hown1 ⊢
  have hM1 : M ≤ 513 := by omega
  have hM2 : zs.length ≤ 8 * M := by omega
  have HM : Hid (M = (zs.length + 7) / 8) := hM
  clear hM
  go_wp2
  go_loopw [20] (fun i wr => ∃ k : Nat, k ≤ zs.length ∧ i = .int .i64 k ∧ Own wr w.heap.size (.slice (some ⟨w.heap.size, 0, none⟩) M M) (packTo zs k) ∧ Below w.heap.size w wr) (fun i _ => zs.length - (intOf i).toNat)
  case atStart => exact ⟨0, Nat.zero_le _, rfl, hown1, hbel1⟩
  case round =>
    clear hown1 hbel1
    obtain ⟨k, hk, rfl, hown, hbel⟩ := hrel
    by_cases hlt : k < zs.length
    · have hll : (packTo zs k).length = M := hown.len
      have hk8 : k / 8 < M := by omega
      have hc := hown.cell (i := k / 8) (by omega)
      rw [packTo_getD zs k (k / 8) (by rw [← HM.out]; exact hk8)] at hc
      have hf := hown.free (k / 8)
      obtain ⟨b1, o1, rfl, hc1⟩ := (ha.below hbel).at hlt
      have g1 := hc1 k hlt
      clear hc1 hll
      have hor := or_step zs k hb _ _ rfl rfl
      obtain ⟨p, hp⟩ : ∃ p, p = byteTo zs k (k / 8) := ⟨_, rfl⟩
      obtain ⟨x, hx⟩ : ∃ x, x = zs.getD k 0 := ⟨_, rfl⟩
      have hx01 := hb k
      rw [← hp] at hc hor
      rw [← hx] at g1 hor hx01
      obtain ⟨hp0, hp1, hq0, hq1, hor'⟩ := hor
      have HOR : Hid (bits .or .u8 p (x * 2 ^ (7 - k % 8)) = byteTo zs (k + 1) (k / 8)) := hor'
      have hk8' : (k : Int) / 8 < M := by omega
      clear hp hx hor'
      go_wp2
      go_region
      go_wp2
      go_roundw
      case rel => exact ⟨k + 1, by omega, by go_num, (packTo_set zs k _ HOR.out ▸ hown.set (k / 8) _).drew, (hbel.setCell (Nat.le_refl _) _).drew⟩
      case measure => simp [intOf]; omega
    · obtain rfl : k = zs.length := by omega
      rw [packTo_all] at hown
      have hcv := conv_rd hown.rd M
      rw [hown.len] at hcv
      go_wp2
      go_ret2
      exact ⟨rfl, hbel⟩
end Go.Proofs.YtplkmkbambbemaeGreatDoor
namespace Go.Proofs.YtplkmkbambbemaeGreatDoor
open Go.ChangeShapes Go.WideShapes Go.ChangeAt Go.RowKit
def sumR (N : Nat) (sm : List Int) : Value → World → Prop := fun x w => ∃ g, x = .slice (some ⟨g, 0, none⟩) N N ∧ ArrAt .i64 3 w g sm
theorem sumR_mono (N : Nat) (sm : List Int) : MonoR (sumR N sm) := fun _ _ _ ⟨g, h1, h2⟩ hg => ⟨g, h1, arr_grown h2 hg⟩
theorem ear_cells {w : World} {b B : Nat} {T : TypeId} {S : Setg} {v : Value} (h : BoxR w b T (earTail S B) v) :
    w.cell? ⟨b, 1, none⟩ = some (.int .i64 S.code) ∧ w.cell? ⟨b, 2, none⟩ = some (.int .i64 S.size) ∧ w.cell? ⟨b, 3, none⟩ = some (.int .i64 S.order) ∧ w.cell? ⟨b, 4, none⟩ = some (.int .i64 S.seed) ∧ w.cell? ⟨b, 5, none⟩ = some (.int .i64 S.count) ∧ w.cell? ⟨b, 6, none⟩ = some (.int .i64 (B : Int)) := by
  unfold BoxR at h
  refine ⟨?_, ?_, ?_, ?_, ?_, ?_⟩ <;> (rw [cell_of_row _ _ _ _ _ _ h]; rfl)
theorem EarP.block {w : World} {p : Addr} {F : List Nat} {S : Setg} {B : Nat} {s : List Int} (h : EarP w p F S B s) : ∃ b g, p = ⟨b, 0, none⟩ ∧ F = [b, g] ∧ b ≠ g ∧ BoxR w b 72 (earTail S B) (.slice (some ⟨g, 0, none⟩) s.length s.length) ∧ ArrAt .i64 3 w g s := h
theorem EarP.old {w w' : World} {p : Addr} {F : List Nat} {S : Setg} {B : Nat} {s : List Int} (h : EarP w p F S B s) (hb : Below w.heap.size w w') : EarP w' p F S B s := BufR.kept h (Kept.of_below (S := []) hb) (fun _ _ => by simp)
theorem strNone : strOfNums (packL []) = ByteArray.empty := rfl
/-- What is opened of D, and packed. -/
theorem open_pack (D : List Int) (n : Nat) (a : Option Addr) (k c : Nat) (w : World) (ha : Rd .u8 w a D) (hb : AllBits D) (hl : D.length = k) (hkc : k ≤ c) (hcm : c ≤ maxLen) (hk : k = 8 * n + 24) (hn : n ≤ 40) :
    Calls Tryz.prog 56 #[.slice a k c, .int .i64 3] w fun e w' => ∃ a' k' c', ∃ Z : List Int, e = .returned (.tuple #[.slice a' k' c', .bool (decide (ksum (D.take (8 * n)) 3 = D.drop (8 * n))), .int .i64 0]) ∧ Z.length = k' ∧ k' ≤ 4096 ∧ AllBits Z ∧ Rd .u8 w' a' Z ∧ Below w.heap.size w w' ∧ Z = (if ksum (D.take (8 * n)) 3 = D.drop (8 * n) then D.take (8 * n) else []) := by
  subst hl
  have hE : errSum D 3 = 0 := by unfold errSum; rw [if_pos (errAll hb (by omega))]; rfl
  have hkW : D.length = 8 * n + kW 3 := hk
  by_cases h : ksum (D.take (8 * n)) 3 = D.drop (8 * n)
  · refine (open_ok D 3 a c w ha hkc hcm hb.bytes hE (8 * n) hkW h).mono fun e w' h' => ?_
    obtain ⟨v, rfl, ho, hbl⟩ := h'
    have hlen : (D.take (8 * n)).length = 8 * n := by rw [List.length_take]; omega
    obtain ⟨a', c', rfl, -, -, hr, -⟩ := ho.slice hlen
    exact ⟨a', 8 * n, c', D.take (8 * n), by rw [decide_eq_true h], hlen, by omega, fun x hx => hb x (List.mem_of_mem_take hx), hr, hbl, by rw [if_pos h]⟩
  · refine (open_diff D 3 a c w ha hkc hcm hb.bytes hE (8 * n) hkW h).mono fun e w' h' => ?_
    obtain ⟨rfl, hbl⟩ := h'
    exact ⟨none, 0, 0, [], by rw [decide_eq_false h], rfl, by omega, (fun x hx => by cases hx), Rd.nil _ _ _, hbl, by rw [if_neg h]⟩
set_option maxRecDepth 100000 in
set_option maxHeartbeats 4000000 in
theorem told_any {w : World} {b B : Nat} {F : List Nat} {S : Setg} {sm : List Int} (hE : EarP w ⟨b, 0, none⟩ F S B sm) (hR : ReadyL w) (hS : SetOk S B) (hsl : (sm.length : Int) = codedN S B) (hsm : softOk sm = true) :
    Calls Tryz.prog 37 #[.pointer (some ⟨b, 0, none⟩)] w fun e w' => e = .returned (.tuple #[.string (tookM S B sm).data, .bool (tookM S B sm).ok]) ∧ Below w.heap.size w w' := by
  have hmix : Tryz.prog.follows .mixedOrders = true := by kernel_rfl
  have hB : B ≤ 40 := by have := hS.few; omega
  obtain ⟨N, eN, hN1, hN4⟩ := codedN_nat hS
  have hN : sm.length = N := by omega
  obtain ⟨KK, eK⟩ : ∃ KK, KK = 8 * B + 24 := ⟨_, rfl⟩
  have HK : Hid ((8 * (B : Int) + 24) = (KK : Int)) := by show _ = _; omega
  have hss := fun wz => sealedSize_any (B : Int) wz ⟨by omega, by omega⟩
  have hso : ∀ wz, Below w.heap.size w wz → Calls Tryz.prog 10 #[.pointer (some ⟨b, 0, none⟩)] wz fun e w' => ∃ g', e = .returned (.slice (some ⟨g', 0, none⟩) N N) ∧ ArrAt .i64 3 w' g' sm ∧ Below wz.heap.size wz w' := fun wz hz => by
    have h := soft_get (hE.old hz) (by omega) (by omega)
    rw [hN] at h
    exact h.mono fun e w' ⟨g', h1, h2, _, h4⟩ => ⟨g', h1, h2, h4⟩
  have hde : ∀ (wz : World) (g : Nat), ReadyL wz → ArrAt .i64 3 wz g sm → Calls Tryz.prog 55 #[.slice (some ⟨g, 0, none⟩) N N, S.val, .int .i64 (KK : Int)] wz fun e w' => ∃ v, e = .returned v ∧ Own w' wz.heap.size v (foundL S KK sm) ∧ Below wz.heap.size wz w' := fun wz g hr ha => ldecode_any S B sm g 0 N KK N wz hS hr (ArrAt.rdL ha) hsl hsm hN (Nat.le_refl _) eK
  have hDl : (foundL S KK sm).length = KK := foundL_length (fun h => by have h2 := (hS.size1 h).2; omega) hS.code
  have hDb : AllBits (foundL S KK sm) := foundL_bits S KK sm
  have hT : tookM S B sm = if ksum ((foundL S KK sm).take (8 * B)) 3 = (foundL S KK sm).drop (8 * B) then ⟨strOfNums (packL ((foundL S KK sm).take (8 * B))), true, 0⟩ else ⟨ByteArray.empty, false, 0⟩ := by unfold tookM; rw [eK]
  obtain ⟨D, eD⟩ : ∃ D, D = foundL S KK sm := ⟨_, rfl⟩
  rw [← eD] at hde hDl hDb hT
  have HD := hid hDl
  have HCE : Hid (∀ wz, Below w.heap.size w wz → wz.cell? ⟨b, 1, none⟩ = some (.int .i64 S.code) ∧ wz.cell? ⟨b, 2, none⟩ = some (.int .i64 S.size) ∧ wz.cell? ⟨b, 3, none⟩ = some (.int .i64 S.order) ∧ wz.cell? ⟨b, 4, none⟩ = some (.int .i64 S.seed) ∧ wz.cell? ⟨b, 5, none⟩ = some (.int .i64 S.count) ∧ wz.cell? ⟨b, 6, none⟩ = some (.int .i64 (B : Int))) := fun wz hz => by
    obtain ⟨b', g, e, -, -, hbx, -⟩ := (hE.old hz).block
    cases e
    exact ear_cells hbx
  have hop := fun (wz : World) (a : Option Addr) (c : Nat) (h : Rd .u8 wz a D) (h1 : KK ≤ c) (h2 : c ≤ maxLen) => open_pack D B a KK c wz h hDb hDl h1 h2 eK hB
  obtain ⟨t, et⟩ : ∃ t, t = tookM S B sm := ⟨_, rfl⟩
  rw [← et] at hT ⊢
  obtain ⟨u, eu⟩ : ∃ u, u = decide (ksum (D.take (8 * B)) 3 = D.drop (8 * B)) := ⟨_, rfl⟩
  rw [← eu] at hop
  have HT : Hid (∀ Z : List Int, Z = (if ksum (D.take (8 * B)) 3 = D.drop (8 * B) then D.take (8 * B) else []) → t.data = strOfNums (packL Z) ∧ t.ok = u) := fun Z hZ => by
    rw [hZ, hT, eu]
    by_cases h : ksum (D.take (8 * B)) 3 = D.drop (8 * B)
    · rw [if_pos h, if_pos h, decide_eq_true h]; exact ⟨rfl, rfl⟩
    · rw [if_neg h, if_neg h, decide_eq_false h]; exact ⟨strNone.symm, rfl⟩
  clear hT et eu eD hDl hDb hsl hsm hS eN eK
  go_enter Tryz.func37, Tryz.ntmps37
  go_wp2_with fail
  refine wp_mono (region_each (Q := fun e a' w' => e = .normal ∧ ∃ σ : Nat → Value, a' = ({ tmps := ((setAll _ (tbS [8, 9, 10, 11, 12, 13, 14, 15, 16, 17, 18, 19, 20, 21] 14 σ)).set 4 (σ 13)).toArray, defers := [] } : Act) ∧ sliR .u8 KK D (σ 13) w' ∧ Below w.heap.size w w') 15 14 [8, 9, 10, 11, 12, 13, 14, 15, 16, 17, 18, 19, 20, 21]
    [[0], [8], [9], [10], [0], [12], [13], [14], [0], [16], [17], [18], [19], [11, 15, 20]] [1, 2, 3, 12, 5, 6, 7, 13, 9, 10, 11, 12, 13, 14]
    [eqR (.pointer (some ⟨b, 0, none⟩)), eqR (.pointer (some ⟨b, 0, none⟩)), eqR (.pointer (some ⟨b, 0, none⟩)), sumR N sm, eqR (.pointer (some ⟨b, 0, none⟩)), eqR (.pointer (some ⟨b, 0, none⟩)), eqR (.pointer (some ⟨b, 0 + 1, none⟩)), eqR S.val, eqR (.pointer (some ⟨b, 0, none⟩)), eqR (.pointer (some ⟨b, 0, none⟩)), eqR (.pointer (some ⟨b, 0 + 6, none⟩)), eqR (.int .i64 (B : Int)), eqR (.int .i64 (KK : Int)), sliR .u8 KK D] w hmix rfl (by decide) rfl (by decide) (by kernel_rfl) (by kernel_rfl) (by kernel_rfl) (by kernel_rfl) (by kernel_rfl) (by kernel_rfl)
    (by intro R hR; simp only [List.mem_cons, List.not_mem_nil, or_false] at hR; rcases hR with rfl | rfl | rfl | rfl | rfl | rfl | rfl | rfl | rfl | rfl | rfl | rfl | rfl | rfl <;> (first | (exact eqR_mono _) | (exact sumR_mono _ _) | (exact sliR_mono _ _ _)))
    (fun i' hi' σ ac wc hbc hp hr Q K hK => by
      have hor : i' = 0 ∨ i' = 1 ∨ i' = 2 ∨ i' = 3 ∨ i' = 4 ∨ i' = 5 ∨ i' = 6 ∨ i' = 7 ∨ i' = 8 ∨ i' = 9 ∨ i' = 10 ∨ i' = 11 ∨ i' = 12 ∨ i' = 13 := by omega
      rcases hor with rfl | rfl | rfl | rfl | rfl | rfl | rfl | rfl | rfl | rfl | rfl | rfl | rfl | rfl
      · have e0 := hr 0 (by decide)
        exact op_value rfl rfl (run_moveQ wc rfl e0) (hK _ wc (grownL wc) rfl)
      · have e8 : ac.eval (.tmp 8) = (.pointer (some ⟨b, 0, none⟩)) := (hr 8 (by decide)).trans (hp 0 (by decide) (by kernel_rfl))
        exact op_value rfl rfl (run_nilL wc rfl e8) (hK _ wc (grownL wc) rfl)
      · have e9 : ac.eval (.tmp 9) = (.pointer (some ⟨b, 0, none⟩)) := (hr 9 (by decide)).trans (hp 1 (by decide) (by kernel_rfl))
        exact op_value rfl rfl (run_fldLink0 wc rfl e9) (hK _ wc (grownL wc) rfl)
      · have e10 : ac.eval (.tmp 10) = (.pointer (some ⟨b, 0, none⟩)) := (hr 10 (by decide)).trans (hp 2 (by decide) (by kernel_rfl))
        refine op_callNL rfl rfl rfl (enters_of Tryz.func10 (by kernel_rfl) rfl) (map1L e10) (hso wc hbc) fun e w' hr' => ?_
        obtain ⟨g11, rfl, ha11, hb'⟩ := hr'
        exact ⟨_, rfl, hK _ w' (grown_of_below hb') (show sumR N sm _ _ from ⟨g11, rfl, ha11⟩)⟩
      · have e0 := hr 0 (by decide)
        exact op_value rfl rfl (run_moveQ wc rfl e0) (hK _ wc (grownL wc) rfl)
      · have e12 : ac.eval (.tmp 12) = (.pointer (some ⟨b, 0, none⟩)) := (hr 12 (by decide)).trans (hp 4 (by decide) (by kernel_rfl))
        exact op_value rfl rfl (run_nilL wc rfl e12) (hK _ wc (grownL wc) rfl)
      · have e13 : ac.eval (.tmp 13) = (.pointer (some ⟨b, 0, none⟩)) := (hr 13 (by decide)).trans (hp 5 (by decide) (by kernel_rfl))
        exact op_value rfl rfl (run_fldLink1 wc rfl e13) (hK _ wc (grownL wc) rfl)
      · have e14 : ac.eval (.tmp 14) = (.pointer (some ⟨b, 0 + 1, none⟩)) := (hr 14 (by decide)).trans (hp 6 (by decide) (by kernel_rfl))
        obtain ⟨c1, c2, c3, c4, c5, -⟩ := HCE.out wc hbc
        exact op_value rfl rfl (run_loadSetL (S := S) wc rfl e14 c1 c2 c3 c4 c5) (hK _ wc (grownL wc) rfl)
      · have e0 := hr 0 (by decide)
        exact op_value rfl rfl (run_moveQ wc rfl e0) (hK _ wc (grownL wc) rfl)
      · have e16 : ac.eval (.tmp 16) = (.pointer (some ⟨b, 0, none⟩)) := (hr 16 (by decide)).trans (hp 8 (by decide) (by kernel_rfl))
        exact op_value rfl rfl (run_nilL wc rfl e16) (hK _ wc (grownL wc) rfl)
      · have e17 : ac.eval (.tmp 17) = (.pointer (some ⟨b, 0, none⟩)) := (hr 17 (by decide)).trans (hp 9 (by decide) (by kernel_rfl))
        exact op_value rfl rfl (run_fldLink2 wc rfl e17) (hK _ wc (grownL wc) rfl)
      · have e18 : ac.eval (.tmp 18) = (.pointer (some ⟨b, 0 + 6, none⟩)) := (hr 18 (by decide)).trans (hp 10 (by decide) (by kernel_rfl))
        obtain ⟨-, -, -, -, -, c6⟩ := HCE.out wc hbc
        exact op_value rfl rfl (run_loadI wc rfl e18 c6) (hK _ wc (grownL wc) rfl)
      · have e19 : ac.eval (.tmp 19) = (.int .i64 (B : Int)) := (hr 19 (by decide)).trans (hp 11 (by decide) (by kernel_rfl))
        refine op_callNL rfl rfl rfl (enters_of Tryz.func33 (by kernel_rfl) rfl) (map1L e19) (hss wc) fun e w' hr' => ?_
        obtain ⟨rfl, rfl⟩ := hr'
        exact ⟨_, rfl, hK _ _ (grownL _) (congrArg (Value.int .i64) HK.out)⟩
      · obtain ⟨g11, q11, h11⟩ := hp 3 (by decide) (by kernel_rfl)
        have e11 := (hr 11 (by decide)).trans q11
        have e15 : ac.eval (.tmp 15) = S.val := (hr 15 (by decide)).trans (hp 7 (by decide) (by kernel_rfl))
        have e20 : ac.eval (.tmp 20) = (.int .i64 (KK : Int)) := (hr 20 (by decide)).trans (hp 12 (by decide) (by kernel_rfl))
        refine op_callNL rfl rfl rfl (enters_of Tryz.func55 (by kernel_rfl) rfl) (map3L e11 e15 e20) (hde wc _ (hR.below hbc) h11) fun e w' hr' => ?_
        obtain ⟨v21, rfl, ho21, hb'⟩ := hr'
        exact ⟨_, rfl, hK _ w' (grown_of_below hb') (by obtain ⟨a21, c21, rfl, k21, m21, r21, -⟩ := ho21.slice HD.out; exact sliR.mk k21 m21 r21)⟩)
    (fun σ wc hbc hp => by
      refine op_value rfl rfl (run_assignL wc rfl (eval_setAll (t := tbS [8, 9, 10, 11, 12, 13, 14, 15, 16, 17, 18, 19, 20, 21] 14 σ) 21 (show ([8, 9, 10, 11, 12, 13, 14, 15, 16, 17, 18, 19, 20, 21] : List Nat).Nodup by decide) (by kernel_rfl))) ⟨rfl, σ, put_list _ _ _, hp 13 (by decide), hbc⟩)) ?_
  rintro e a' w1 ⟨rfl, σ1, rfl, ⟨a1, c1, q1, k1, m1, hr1⟩, hb1⟩
  rw [show tbS [8, 9, 10, 11, 12, 13, 14, 15, 16, 17, 18, 19, 20, 21] 14 σ1 = [(8, σ1 0), (9, σ1 1), (10, σ1 2), (11, σ1 3), (12, σ1 4), (13, σ1 5), (14, σ1 6), (15, σ1 7), (16, σ1 8), (17, σ1 9), (18, σ1 10), (19, σ1 11), (20, σ1 12), (21, σ1 13)] from rfl, q1]
  dsimp only [setAll, List.set, List.append_nil, List.cons_append, List.nil_append]
  go_wp2_with (first
    | (go_at_call 56; refine (hop _ _ _ hr1 k1 m1).mono ?_; rintro e w2 ⟨a2, n2, c2, Z, rfl, hZl, hZ4, hZb, hr2, hb2, hZ⟩; have HZ := hid hZ; clear hZ; subst hZl; have hpk := fun wz h => pack_ok Z a2 c2 wz h hZb.bits hZ4 (errAll hZb hZ4))
    | (go_at_call 25; refine (mustB _ _).mono ?_; rintro e w9 ⟨rfl, rfl⟩)
    | (go_at_call 19; refine (hpk _ hr2).mono ?_; rintro e w3 ⟨rfl, hb3⟩)
    | (go_at_call 57; refine (mustS _ _).mono ?_; rintro e w9 ⟨rfl, rfl⟩)
    | fail)
  obtain ⟨h1, h2⟩ := HT.out Z HZ.out
  go_ret2
  rw [h1, h2]
  exact ⟨rfl, hb1.trans ((hb2.trans (hb3.mono hb2.size)).mono hb1.size)⟩
end Go.Proofs.YtplkmkbambbemaeGreatDoor
namespace Go.Proofs.YtplkmkbambbemaeGreatDoor
open Go.ChangeShapes Go.WideShapes Go.ChangeAt Go.RowKit
def uncTo (hs ns : List Int) (n k : Nat) : List Int := ((List.range k).map fun i => signM (clipM (hs.getD i 0)) (ns.getD i 0)) ++ List.replicate (n - k) 0
theorem uncTo_length (hs ns : List Int) {n k : Nat} (h : k ≤ n) : (uncTo hs ns n k).length = n := by simp [uncTo]; omega
theorem uncTo_set (hs ns : List Int) {n k : Nat} (h : k < n) : (uncTo hs ns n k).set k (signM (clipM (hs.getD k 0)) (ns.getD k 0)) = uncTo hs ns n (k + 1) := by
  unfold uncTo
  rw [show n - k = (n - (k + 1)) + 1 from by omega, set_fill _ _ _ _ (by simp), List.range_succ, List.map_append]
  rfl
theorem clip_minmax2 (x : Int) : min (max x (-1000)) 1000 = clipM x := by unfold clipM; (repeat' split) <;> omega
theorem clip_minmax (x : Int) : (if 1000 < (if x < -1000 then -1000 else x) then 1000 else (if x < -1000 then -1000 else x)) = clipM x := by unfold clipM; (repeat' split) <;> omega
set_option maxRecDepth 100000 in
set_option maxHeartbeats 1000000 in
theorem uncover_any (hs : List Int) (n U : Nat) (a : Option Addr) (c : Nat) (w : World) (ha : Rd .i64 w a hs) (hl : hs.length = n) (h1 : 1 ≤ n) (hn : n ≤ 4096) (hU : U < 2147483648) :
    Calls Tryz.prog 36 #[.slice a n c, .int .i64 U] w fun e w' => ∃ g, e = .returned (.slice (some ⟨g, 0, none⟩) n n) ∧ OwnI w' w.heap.size (.slice (some ⟨g, 0, none⟩) n n) ((List.range n).map fun i => signM (clipM (hs.getD i 0)) ((noiseTo U n).getD i 0)) ∧ Below w.heap.size w w' := by
  have HL := hid hl
  have hno := fun wz => noise_ok U n wz hU hn
  have HNL := hid (noiseTo_length U n)
  clear hl
  generalize hns : noiseTo U n = ns at *
  clear hns
  go_enter Tryz.func36, Tryz.ntmps36
  go_wp2_with (first
    | (refine wpList_makeInts w.heap.size w n rfl _ _ rfl _ _ rfl rfl rfl rfl (by omega) (Below.refl _ _) (Nat.le_refl _) ?_; intro w1 hown1 hbel1 hlt1 _hx1; clear _hx1)
    | (go_at_call 45; refine (hno _).mono ?_; rintro e w2 ⟨v2, rfl, hown2, hb2⟩; obtain ⟨g2, c2, rfl, hc2, hcm2⟩ := hown2.shapeL HNL.out h1)
    | (go_at_call 25; refine (mustB _ _).mono ?_; rintro e w9 ⟨rfl, rfl⟩))
  rw [show List.replicate n (0 : Int) = uncTo hs ns n 0 by simp [uncTo]] at hown1
  have hg2 : w1.heap.size ≤ g2 := hown2.block.1
  have hbel2 : Below w.heap.size w w2 := hbel1.trans (hb2.mono (by omega))
  have hownS : OwnI w2 w.heap.size (.slice (some ⟨w.heap.size, 0, none⟩) n n) (uncTo hs ns n 0) := hown1.below hb2
  go_loopw [19] (fun i wr => ∃ k : Nat, k ≤ n ∧ i = .int .i64 k ∧ OwnI wr w.heap.size (.slice (some ⟨w.heap.size, 0, none⟩) n n) (uncTo hs ns n k) ∧ Own wr w1.heap.size (.slice (some ⟨g2, 0, none⟩) n c2) ns ∧ Below w.heap.size w wr) (fun i _ => n - (intOf i).toNat)
  case atStart => exact ⟨0, Nat.zero_le _, rfl, hownS, hown2, hbel2⟩
  case round =>
    clear hown1 hownS hown2
    obtain ⟨k, hk, rfl, hownS, hown2, hbel⟩ := hrel
    by_cases hlt : k < n
    · have hsl := uncTo_length hs ns hk
      have gn := hown2.cell (i := k) (by rw [HNL.out]; exact hlt)
      obtain ⟨b3, o3, rfl, hc3⟩ := (ha.below hbel).at (i := k) (by rw [HL.out]; exact hlt)
      have gh := hc3 k (by rw [HL.out]; exact hlt)
      have gs := hownS.cellI (i := k) (by rw [hsl]; exact hlt)
      have gf := hownS.free k
      have hset := uncTo_set hs ns hlt
      have hcb := clip_bd (hs.getD k 0)
      have hmm := clip_minmax (hs.getD k 0)
      have hmm2 := clip_minmax2 (hs.getD k 0)
      obtain ⟨x, ex⟩ : ∃ x, x = hs.getD k 0 := ⟨_, rfl⟩
      obtain ⟨y, ey⟩ : ∃ y, y = ns.getD k 0 := ⟨_, rfl⟩
      rw [← ex] at gh hset hcb hmm hmm2
      rw [← ey] at gn hset
      obtain ⟨z, ez⟩ : ∃ z, z = (uncTo hs ns n k).getD k 0 := ⟨_, rfl⟩
      rw [← ez] at gs
      clear ex ey ez hc3 hsl
      by_cases hy : y = 1
      · subst hy
        have hsg : signM (clipM x) 1 = -(clipM x) := rfl
        rw [hsg] at hset
        clear hsg
        go_wp2
        refine ⟨⟨k + 1, by omega, by go_num, ?_, ?_, ?_⟩, by simp [intOf]; omega⟩
        · have h2 := (hownS.set k (clipM x)).set k (-(clipM x))
          rw [List.set_set, hset] at h2
          exact h2
        · exact (hown2.other _ _ _ (by omega)).other _ _ _ (by omega)
        · exact (hbel.setCell (Nat.le_refl _) _).setCell (Nat.le_refl _) _
      · have qy : (y == 1) = false := by simpa using hy
        have hsg : signM (clipM x) y = clipM x := by unfold signM; rw [if_neg hy]
        rw [hsg] at hset
        clear hsg hy
        go_wp2
        refine ⟨⟨k + 1, by omega, by go_num, ?_, ?_, ?_⟩, by simp [intOf]; omega⟩
        · have h2 := hownS.set k (clipM x)
          rw [hset] at h2
          exact h2
        · exact hown2.other _ _ _ (by omega)
        · exact hbel.setCell (Nat.le_refl _) _
    · have e : k = n := by omega
      subst e
      have hall : uncTo hs ns k k = (List.range k).map fun i => signM (clipM (hs.getD i 0)) (ns.getD i 0) := by simp [uncTo]
      rw [hall] at hownS
      clear hall
      go_wp2
      go_ret
      exact ⟨_, rfl, hownS, hbel⟩
end Go.Proofs.YtplkmkbambbemaeGreatDoor
namespace Go.Proofs.YtplkmkbambbemaeGreatDoor
open Go.ChangeShapes Go.WideShapes Go.ChangeAt Go.RowKit Go.Shelf
theorem hear_bad (ps : List (Int × Int)) (order : Int) (a : Option Addr) (c : Nat) (w : World) (hp : Pts w a ps) (hz : ps.length ≤ 8796093022208) (hok : hearsOk ps order = false) :
    Calls Tryz.prog 35 #[.slice a ps.length c, .int .i64 order] w fun e w' => e = .returned (.tuple #[.slice none 0 0, .int .i64 1]) ∧ Below w.heap.size w w' := by
  have hchk := cheard_any ps order a c w hp hz
  rw [show chErr ps order = 1 by unfold chErr; rw [hok]; rfl] at hchk
  go_enter Tryz.func35, Tryz.ntmps35
  go_wp2_with (go_at_call 53; refine hchk.mono ?_; rintro e w1 ⟨rfl, hb1⟩)
  go_ret2
  exact ⟨rfl, hb1⟩
end Go.Proofs.YtplkmkbambbemaeGreatDoor
