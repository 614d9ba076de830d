import Derived.Test.YtmdfjhnibhmdkafTpB
namespace Go.Proofs.Ytmdfjhnibhmdkaf
open Go.ChangeShapes Go.WideShapes Go.ChangeAt Go.RowKit

/-! THE PROGRAM'S give. -/

set_option maxRecDepth 100000 in
set_option maxHeartbeats 2000000 in
theorem give_any (sb ob n g a : Nat) (wf bw ft : Nat → Int) (wt : Int) (L : List Int) (w : World) (hS : PSlot w sb wf bw ft wt ob n g) (hA : ArrAt .i64 3 w ob L) (hL : L.length = n) (hne : sb ≠ ob) (ha : a ≤ 16) (hg : g < n) (hn : n ≤ 100) (hb : 0 ≤ bw a ∧ bw a ≤ 1000000) (hf : 0 ≤ ft a ∧ ft a ≤ 10000) (hw : 0 ≤ wt ∧ wt ≤ 16) :
    Calls Try.prog 16 #[.pointer (some ⟨sb, 0, none⟩), .int .i64 (a : Int)] w fun e w' => e = .returned (.tuple #[]) ∧ PSlot w' sb wf (upd bw a (max (bw a - ft a) 0)) ft (if max (bw a - ft a) 0 = 0 then wt - 1 else wt) ob n (g + 1) ∧ ArrAt .i64 3 w' ob (L.set g (a : Int)) ∧ Kept [sb, ob] w w' := by
  have eM : max (bw a - ft a) 0 = if bw a - ft a < 0 then 0 else bw a - ft a := by split <;> omega
  rw [eM]
  clear eM
  obtain ⟨h0, h1, h2⟩ := hS.tail
  obtain ⟨oc, hoc⟩ : ∃ oc, w.cell? ⟨ob, g, none⟩ = some (.int .i64 oc) := ⟨_, hA.cell (by omega)⟩
  have hof := hA.free g
  have hA1 := hA.set g (a : Int)
  have hS1 : PSlot (w.setCell ⟨ob, g, none⟩ (.int .i64 (a : Int))) sb wf bw ft wt ob n g := FunAt.other hS _ _ hne
  have hk1 := (Kept.refl [sb, ob] w).setCell (p := ⟨ob, g, none⟩) (by simp) (.int .i64 (a : Int))
  obtain ⟨-, -, p2⟩ := hS1.tail
  have p3 := FunAt.free hS1 53
  have hS2 := hS1.setG (g + 1)
  have hA2 := hA1.other ⟨sb, 53, none⟩ (.int .i64 ((g + 1 : Nat) : Int)) (fun e => hne e.symm)
  have hk2 := hk1.setCell (p := ⟨sb, 53, none⟩) (by simp) (.int .i64 ((g + 1 : Nat) : Int))
  rw [show ((g + 1 : Nat) : Int) = (g : Int) + 1 by omega] at hS2 hA2 hk2
  obtain ⟨-, q1, q2⟩ := hS2.user ha
  have q3 := FunAt.free hS2 (a * 3 + 1)
  have hS3 := hS2.setBy ha ((if bw a - ft a < 0 then 0 else bw a - ft a))
  have hA3 := hA2.other ⟨sb, a * 3 + 1, none⟩ (.int .i64 ((if bw a - ft a < 0 then 0 else bw a - ft a))) (fun e => hne e.symm)
  have hk3 := hk2.setCell (p := ⟨sb, a * 3 + 1, none⟩) (by simp) (.int .i64 ((if bw a - ft a < 0 then 0 else bw a - ft a)))
  obtain ⟨-, r1, -⟩ := hS3.user ha
  rw [upd_at] at r1
  obtain ⟨r2, -, -⟩ := hS3.tail
  have r3 := FunAt.free hS3 51
  have hS4 := hS3.setWt (wt - 1)
  have hA4 := hA3.other ⟨sb, 51, none⟩ (.int .i64 (wt - 1)) (fun e => hne e.symm)
  have hk4 := hk3.setCell (p := ⟨sb, 51, none⟩) (by simp) (.int .i64 (wt - 1))
  have HS3 := hid hS3
  have HA3 := hid hA3
  have HK3 := hid hk3
  have HS4 := hid hS4
  have HA4 := hid hA4
  have HK4 := hid hk4
  have a0 : (0 : Int) ≤ (a : Int) := by omega
  have a1 : (a : Int) < 17 := by omega
  obtain ⟨hb0, hb1⟩ := hb
  obtain ⟨hf0, hf1⟩ := hf
  obtain ⟨hw0, hw1⟩ := hw
  have hbn : -20000 ≤ bw a - ft a ∧ bw a - ft a ≤ 1000000 := by omega
  have hg1 : g < 100 := by omega
  by_cases hz : (if bw a - ft a < 0 then 0 else bw a - ft a) = 0
  · rw [if_pos hz]
    have xz : ((if bw a - ft a < 0 then 0 else bw a - ft a) == 0) = true := by rw [hz]; rfl
    generalize upd bw a ((if bw a - ft a < 0 then 0 else bw a - ft a)) = bw' at *
    generalize bw a = z at *
    generalize ft a = F at *
    clear hS hA hA1 hS1 hk1 hS2 hA2 hk2 hS3 hA3 hk3 hS4 hA4 hk4 hz HS3 HA3 HK3 hL hn
    go_enter Try.func16, Try.ntmps16
    go_upto_region 1 with fail
    go_region
    go_upto_region 3 with fail
    go_big_region
    generalize (if z - F < 0 then 0 else z - F) = y at *
    go_wp2
    go_end0
    exact ⟨rfl, HS4.out, HA4.out, HK4.out.drew.drew⟩
  · rw [if_neg hz]
    have xz : ((if bw a - ft a < 0 then 0 else bw a - ft a) == 0) = false := beq_false_of_ne hz
    generalize upd bw a ((if bw a - ft a < 0 then 0 else bw a - ft a)) = bw' at *
    generalize bw a = z at *
    generalize ft a = F at *
    clear hS hA hA1 hS1 hk1 hS2 hA2 hk2 hS3 hA3 hk3 hS4 hA4 hk4 hz HS4 HA4 HK4 hL hn
    go_enter Try.func16, Try.ntmps16
    go_upto_region 1 with fail
    go_region
    go_upto_region 3 with fail
    go_big_region
    generalize (if z - F < 0 then 0 else z - F) = y at *
    go_wp2
    go_end0
    exact ⟨rfl, HS3.out, HA3.out, HK3.out.drew.drew⟩
end Go.Proofs.Ytmdfjhnibhmdkaf
