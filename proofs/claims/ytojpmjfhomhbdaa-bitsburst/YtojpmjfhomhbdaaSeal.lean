import Derived.Test.YtojpmjfhomhbdaaSums
import Derived.Deep.RegionHeld3
import Derived.Test.YtojpmjfhomhbdaaCopy
namespace Go.Proofs.Ytojpmjfhomhbdaa
open Go.ChangeShapes Go.WideShapes Go.ChangeAt Go.RowKit

set_option maxHeartbeats 1000000 in
theorem seal_err (zs : List Int) (k : Int) (a : Option Addr) (c : Nat) (w : World) (ha : Rd .u8 w a zs) (hz : zs.length ≤ maxLen) (h : errSum zs k ≠ 0) :
    Calls Try.prog 17 #[.slice a zs.length c, .int .i64 k] w fun e w' => e = .returned (.tuple #[.slice none 0 0, .int .i64 (errSum zs k)]) ∧ Below w.heap.size w w' := by
  have hne : (errSum zs k != 0) = true := by simpa using h
  go_enter Try.func17, Try.ntmps17
  go_wp2_with fail
  refine (checksum_err zs k a c _ ha hz h).mono ?_
  rintro e w1 ⟨rfl, hb⟩
  clear h
  go_wp2
  go_ret2
  exact ⟨rfl, hb.alloc hb.size _⟩

set_option maxHeartbeats 1000000 in
theorem seal_long (zs : List Int) (k : Int) (a : Option Addr) (c : Nat) (w : World) (ha : Rd .u8 w a zs) (h : errSum zs k = 0) (hl : 4096 < zs.length + kW k) :
    Calls Try.prog 17 #[.slice a zs.length c, .int .i64 k] w fun e w' => e = .returned (.tuple #[.slice none 0 0, .int .i64 2]) ∧ Below w.heap.size w w' := by
  obtain ⟨he, hk⟩ := errSum_ok h
  obtain ⟨hD, hW1, hW, hR⟩ := kind_div hk
  have hz := (err_zero he).2
  have HE : Hid (errOf zs = 0) := he
  have HK : Hid (isKind k = true) := hk
  clear h he hk hD
  go_enter Try.func17, Try.ntmps17
  go_wp2_with fail
  refine (checksum_ok zs k a c _ ha (by unfold maxLen; omega) HE.out HK.out).mono ?_
  rintro e w1 ⟨rfl, hb1⟩
  go_wp2
  go_ret2
  exact ⟨rfl, hb1.alloc hb1.size _⟩

theorem keep1 {w w' : World} {x o : Nat} {v : Value} (hb : Below w.heap.size w w') (h : w.cell? ⟨x, o, none⟩ = some v) : w'.cell? ⟨x, o, none⟩ = some v :=
  (hb.cell (World.block_lt_of_cell? w _ h)).trans h

theorem laid_two (zs S : List Int) (N : Nat) (hN : N = zs.length + S.length) (n : Nat) (hn : S.length ≤ n) : laidOver (laidOver (List.replicate N 0) 0 zs) zs.length (S.take n) = zs ++ S := by
  subst hN
  rw [List.take_of_length_le hn]
  simp [laidOver]

set_option maxHeartbeats 2000000 in
theorem seal_ok (zs : List Int) (k : Int) (a : Option Addr) (c : Nat) (w : World) (ha : Rd .u8 w a zs) (hy : Bytes zs) (h : errSum zs k = 0) (hl : zs.length + kW k ≤ 4096) :
    Calls Try.prog 17 #[.slice a zs.length c, .int .i64 k] w fun e w' => ∃ v, e = .returned (.tuple #[v, .int .i64 0]) ∧ Own w' w.heap.size v (zs ++ ksum zs k) ∧ Below w.heap.size w w' := by
  obtain ⟨he, hk⟩ := errSum_ok h
  obtain ⟨hD, hW1, hW, hR⟩ := kind_div hk
  have hb : Bits zs := fun j => ⟨(hy.at j).1, (err_zero he).1 j⟩
  have hz := (err_zero he).2
  have HE : Hid (errOf zs = 0) := he
  have HK : Hid (isKind k = true) := hk
  clear h hy he hk
  unfold ksum kP
  unfold kP at hD
  go_enter Try.func17, Try.ntmps17
  go_wp2_with fail
  refine (checksum_ok zs k a c _ ha (by unfold maxLen; omega) HE.out HK.out).mono ?_
  rintro e w1 ⟨rfl, hb1⟩
  have ha1 := ha.below hb1
  obtain ⟨N, hN⟩ : ∃ N, N = zs.length + kW k := ⟨_, rfl⟩
  have HN : Hid (N = zs.length + kW k) := hN
  have hN1 : N ≤ 4096 := by omega
  have hN2 : zs.length ≤ N := by omega
  clear hN
  have ha2 := ha1.below ((Below.refl _ _).alloc (Nat.le_refl _) (.cells #[.int .i64 (kW k), .int .u32 (kR k)] 51))
  go_wp2_with (at_make; refine wpList_makeBytes (w1.heap.size + 1) (w1.alloc (.cells #[.int .i64 (kW k), .int .u32 (kR k)] 51)) N rfl _ _ rfl _ _ rfl rfl ?_ ?_ (by omega) (by exact Below.refl _ _) (by simp) ?_)
  · have := HN.out; omega
  · have := HN.out; omega
  intro w2 hown2 hbel2 hsz2
  have ha3 := ha2.below (by simpa using hbel2)
  obtain ⟨q0, q1, q2, q3, q4⟩ := box2 (w := w1) (x := .int .i64 (kW k)) (y := .int .u32 (kR k)) (T := 51) (w1 := w2) (by simpa using hbel2)
  go_wp2_with (refine wpList_copyBytes (w1.alloc (.cells #[.int .i64 (kW k), .int .u32 (kR k)] 51)) hown2 ha3 rfl (.tmp 30) (.tmp 31) rfl (some ⟨w1.heap.size + 1, 0, none⟩) N N c 0 zs.length ?_ rfl rfl ?_ ?_ hbel2 ?_)
  · omega
  · omega
  intro w3 hown3 hbel3 hsz3
  obtain ⟨p0, p1, -⟩ := box2 (w := w1) (x := .int .i64 (kW k)) (y := .int .u32 (kR k)) (T := 51) (w1 := w3) (by simpa using hbel3)
  have ha4 := ha2.below (by simpa using hbel3)
  have hN3 : zs.length < N := by have := HN.out; omega
  clear q0 q1 q2 q3 q4 hown2 hbel2 ha2 ha3
  go_wp2_with fail
  have hmin : kW k = min (sumL (kW k) (2 ^ kW k ||| kR k) zs).length (N - zs.length) := by rw [sumL_length]; have := HN.out; omega
  have HM : Hid (kW k = min (sumL (kW k) (2 ^ kW k ||| kR k) zs).length (N - zs.length)) := hmin
  clear hmin
  go_region_held3 (fun w' => w'.cell? ⟨w1.heap.size, 0, none⟩ = some (.int .i64 (kW k)) ∧ w'.cell? ⟨w1.heap.size, 1, none⟩ = some (.int .u32 (kR k))) (first | exact ⟨p0, p1⟩ | exact ⟨keep1 hb4 p0, keep1 hb4 p1⟩ | exact ⟨hgr5.cell (keep1 hb4 p0) (by simp), hgr5.cell (keep1 hb4 p1) (by simp)⟩)
    (first | (go_at_call 29; refine (sum_any (kW k) (kR k) zs a c _ ?_ hb hz hD hW1 hW hR).mono ?_; exact ha4; rintro e w4 ⟨v4, rfl, hown4, hb4⟩; obtain ⟨a4, c4, rfl, -⟩ := hown4.shape; obtain ⟨w5, hrun5, hown5, hgr5⟩ := run_copy_own (hown3.drew.below hb4) hown4.rd 3 (some ⟨w1.heap.size + 1, zs.length, none⟩) (N - zs.length) (N - zs.length) c4 zs.length (kW k) HM.out (fun _ => rfl) (by have := HN.out; omega)))
  go_wp2
  go_ret2
  have hs1 := hb1.size
  have b3 : Below w.heap.size w w3 := (hb1.alloc hs1 _).trans (hbel3.mono (by omega))
  have b4 := bthen b3.drew hb4
  have b5 := b4.grown hgr5 b4.size (fun k hk => by simp at hk; omega)
  rw [laid_two zs (sumL (kW k) (2 ^ kW k ||| kR k) zs) N (by rw [sumL_length]; exact HN.out) (kW k) (by rw [sumL_length]; exact Nat.le_refl _)] at hown5
  exact ⟨_, rfl, hown5.mono (by omega), b5⟩
end Go.Proofs.Ytojpmjfhomhbdaa
