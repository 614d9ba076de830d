import Derived.Test.YtcnkcbipkchoiagCoI
import Derived.Deep.RegionWith
namespace Go.Proofs.Ytcnkcbipkchoiag
open Go.ChangeShapes Go.WideShapes Go.ChangeAt Go.RowKit Go.Maps

/-! THE PROGRAM'S Lend. -/

theorem Try.infoGr : (Try.prog.info? 156).map (fun i => (i.zero, i.size, i.bytes)) = some (some (.agg #[.pointer none, .int .i64 0]), 2, 16) := by kernel_rfl
def gaF (N : CoN) : List Nat := (N.ga.map (·.block)).toList
structure NumPost (w : World) (c : Nat) (N : CoN) (m : CoM) (ub : Nat) (w' : World) (ga : Option Addr) (gc : Nat) : Prop where
  hd : At w' c 136 [.int .i64 (m.unit : Int), .map (some N.bu), .slice ga (m.loans.length + 1) gc]
  gr : w'.ownsRow 0 156 2 (.slice ga (m.loans.length + 1) gc) (m.loans.length + 1) (cellsLn N.ub m.loans ++ [ptrV ub, .int .i64 0])
  nw : ∀ y, ga = some y → N.ga = some y ∨ w.heap.size ≤ y.block
  kp : Kept (c :: gaF N) w w'
set_option maxRecDepth 100000 in
set_option maxHeartbeats 1000000 in
theorem cnumber_any {w : World} {c ub : Nat} {N : CoN} {m : CoM} {n : Nat} (h : PCore w c N m n) (hn : n < manyN) :
    Calls Try.prog 81 #[ptrV c, ptrV ub] w fun e w' => e = .returned (.int .i64 ((m.loans.length + 1 : Nat) : Int)) ∧ ∃ ga gc, NumPost w c N m ub w' ga gc := by
  have c2 := h.head.2.2
  have hlen := h.ok.len
  unfold manyN at hn
  obtain ⟨i0, hi0, hz0, hz1, hz2⟩ := info_parts Try.infoGr
  obtain ⟨a1, a2, a3⟩ := h.apart
  have hbc := h.hd.lt
  have hcg : c ∉ gaF N := by
    unfold gaF
    cases hg : N.ga with
    | none => simp
    | some y => simpa using fun e => (a2 y hg).1 e.symm
  have hF : ∀ v' w', w'.ownsRow 0 156 2 v' (m.loans.length + 1) (cellsLn N.ub m.loans ++ [ptrV ub, .int .i64 0]) → (w.alloc (.cells #[ptrV ub, .int .i64 0] 156)).grownBy w' (Value.slice N.ga m.loans.length N.gc).ownBlock → (v'.ownBlock = (Value.slice N.ga m.loans.length N.gc).ownBlock ∨ v'.ownBlock = some (w.alloc (.cells #[ptrV ub, .int .i64 0] 156)).heap.size) →
      ∃ ga gc, v' = .slice ga (m.loans.length + 1) gc ∧ w'.cell? ⟨c, 2, none⟩ = some (.slice N.ga m.loans.length N.gc) ∧ w'.frozen? ⟨c, 2, none⟩ = false ∧ NumPost w c N m ub (w'.setCell ⟨c, 2, none⟩ (.slice ga (m.loans.length + 1) gc)) ga gc := fun v' w' g1 g2 g3 => by
    obtain ⟨ga, gc, rfl, -, -, hx⟩ := row_shape g1
    have hob : (Value.slice N.ga m.loans.length N.gc).ownBlock.toList = gaF N := by
      unfold gaF
      cases N.ga <;> rfl
    have hk : Kept (gaF N) w w' := by
      rw [← hob]
      exact ((Kept.refl _ w).alloc _).trans (Kept.grownR g2)
    have hd' := h.hd.kept hk hcg
    have hnw : ∀ y, ga = some y → N.ga = some y ∨ w.heap.size ≤ y.block := fun y hy => by
      obtain ⟨g, rfl, h5⟩ := hx y hy
      rcases g3 with g3 | g3
      · rw [h5] at g3
        cases hq : N.ga with
        | none => rw [hq] at g3; simp [Value.ownBlock] at g3
        | some y' =>
          obtain ⟨cur, he, -⟩ := h.gblock hq
          rw [hq, he] at g3
          simp [Value.ownBlock] at g3
          left
          rw [he, ← g3]
      · rw [h5] at g3
        simp at g3
        right
        show w.heap.size ≤ g
        omega
    have hcn : ∀ y, ga = some y → y.block ≠ c := fun y hy => by
      rcases hnw y hy with g | g
      · exact (a2 y g).1
      · omega
    refine ⟨ga, gc, rfl, hd'.cell 2, hd'.free 2, hd'.setCell (o := 2) _, ?_, hnw, (hk.wider (fun x hx => List.mem_cons_of_mem _ hx)).setCell (by simp) _⟩
    refine keptRow g1 (kept_setCell w' c 2 _) (fun g hg => ?_)
    cases hq : ga with
    | none => rw [hq] at hg; simp [Value.ownBlock] at hg
    | some y =>
      obtain ⟨g', e1, h5⟩ := hx y hq
      rw [hg] at h5
      have := hcn y hq
      rw [e1] at this
      simp at h5
      subst h5
      simpa using this
  have HF := hid hF
  have HLM : Hid (m.loans.length + 1 ≤ maxLen) := hid (by unfold maxLen; omega)
  have HLN : Hid ((m.loans.length + 1) * 16 ≤ 140737488355328) := hid (by omega)
  have HI := hid hi0
  have HZ0 := hid hz0
  have HZ1 := hid hz1
  have HZ2 := hid hz2
  have HO : Hid ((w.alloc (.cells #[ptrV ub, .int .i64 0] 156)).ownsRow 0 156 2 (.slice N.ga m.loans.length N.gc) m.loans.length (cellsLn N.ub m.loans)) := hid (World.ownsRow.alloc h.gr _)
  have hAq := at_alloc w 156 [ptrV ub, .int .i64 0]
  have HS : Hid (∀ (j : Nat) u, ([ptrV ub, .int .i64 0] : List Value)[j]? = some u → (w.alloc (.cells #[ptrV ub, .int .i64 0] 156)).cell? ⟨w.heap.size, j, none⟩ = some u) := hid fun j u hu => (hAq.cell j).trans hu
  have HON : Hid (∀ u ∈ ([ptrV ub, .int .i64 0] : List Value), u.oneCell' = true) := hid (by
    intro u hu
    simp at hu
    rcases hu with rfl | rfl <;> rfl)
  have HE : Hid (((m.loans.length + 1 : Nat) : Int) = (m.loans.length : Int) + 1) := hid (by omega)
  generalize hP : NumPost w c N m ub = P at *
  generalize cellsLn N.ub m.loans = L at *
  generalize hNN : m.loans.length = NN at *
  have hNs : NN ≤ 8796093022208 := by omega
  clear h hF hi0 hz0 hz1 hz2 hlen hn hP hAq hNN hcg
  unfold ptrV at *
  go_enter Try.func81, Try.ntmps81
  go_wp2_with (at_builtin; refine wpList_pushR 0 w.heap.size Try.underlying134 HI.out HZ0.out HZ1.out HZ2.out rfl (by decide) HO.out rfl _ _ rfl rfl rfl rfl HS.out HON.out HLM.out HLN.out (Nat.zero_le _) ?_; intro v7 w7 ho7 hg7 hl7; obtain ⟨ga, gc, rfl, k2, kf, hp7⟩ := HF.out _ _ ho7 hg7 hl7; have HP7 := hid hp7; clear ho7 hg7 hl7 hp7)
  go_ret
  exact ⟨by rw [HE.out]; rfl, ga, gc, HP7.out⟩
end Go.Proofs.Ytcnkcbipkchoiag
