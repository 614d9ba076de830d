import Derived.Test.YtcnkcbipkchoiagK15
import Derived.Deep.RegionWith
namespace Go.Proofs.Ytcnkcbipkchoiag
open Go.ChangeShapes Go.WideShapes Go.ChangeAt Go.RowKit Go.Maps
theorem Try.infoGr : (Try.prog.info? 156).map (fun i => (i.zero, i.size, i.bytes)) = some (some (.agg #[.pointer none, .int .i64 0]), 2, 16) := by kernel_rfl
def gaF (N : CoN) : List Nat := (N.ga.map (·.block)).toList
structure NumPost (w : World) (c : Nat) (N : CoN) (m : CoM) (ub : Nat) (w' : World) (ga : Option Addr) (gc : Nat) : Prop where
  hd : At w' c 136 [.int .i64 (m.unit : Int), .map (some N.bu), .slice ga (m.loans.length + 1) gc]
  gr : w'.ownsRow 0 156 2 (.slice ga (m.loans.length + 1) gc) (m.loans.length + 1) (cellsLn N.ub m.loans ++ [ptrV ub, .int .i64 0])
  nw : ∀ y, ga = some y → N.ga = some y ∨ w.heap.size ≤ y.block
  kp : Kept (c :: gaF N) w w'
set_option maxRecDepth 100000 in
set_option maxHeartbeats 1000000 in
theorem cnumber_any {w : World} {c ub : Nat} {N : CoN} {m : CoM} {n : Nat} (h : PCore w c N m n) (hn : n < manyN) :
    Calls Try.prog 81 #[ptrV c, ptrV ub] w fun e w' => e = .returned (.int .i64 ((m.loans.length + 1 : Nat) : Int)) ∧ ∃ ga gc, NumPost w c N m ub w' ga gc := by
  have c2 := h.head.2.2
  have hlen := h.ok.len
  unfold manyN at hn
  obtain ⟨i0, hi0, hz0, hz1, hz2⟩ := info_parts Try.infoGr
  obtain ⟨a1, a2, a3⟩ := h.apart
  have hbc := h.hd.lt
  have hcg : c ∉ gaF N := by
    unfold gaF
    cases hg : N.ga with
    | none => simp
    | some y => simpa using fun e => (a2 y hg).1 e.symm
  have hF : ∀ v' w', w'.ownsRow 0 156 2 v' (m.loans.length + 1) (cellsLn N.ub m.loans ++ [ptrV ub, .int .i64 0]) → (w.alloc (.cells #[ptrV ub, .int .i64 0] 156)).grownBy w' (Value.slice N.ga m.loans.length N.gc).ownBlock → (v'.ownBlock = (Value.slice N.ga m.loans.length N.gc).ownBlock ∨ v'.ownBlock = some (w.alloc (.cells #[ptrV ub, .int .i64 0] 156)).heap.size) →
      ∃ ga gc, v' = .slice ga (m.loans.length + 1) gc ∧ w'.cell? ⟨c, 2, none⟩ = some (.slice N.ga m.loans.length N.gc) ∧ w'.frozen? ⟨c, 2, none⟩ = false ∧ NumPost w c N m ub (w'.setCell ⟨c, 2, none⟩ (.slice ga (m.loans.length + 1) gc)) ga gc := fun v' w' g1 g2 g3 => by
    obtain ⟨ga, gc, rfl, -, -, hx⟩ := row_shape g1
    have hob : (Value.slice N.ga m.loans.length N.gc).ownBlock.toList = gaF N := by
      unfold gaF
      cases N.ga <;> rfl
    have hk : Kept (gaF N) w w' := by
      rw [← hob]
      exact ((Kept.refl _ w).alloc _).trans (Kept.grownR g2)
    have hd' := h.hd.kept hk hcg
    have hnw : ∀ y, ga = some y → N.ga = some y ∨ w.heap.size ≤ y.block := fun y hy => by
      obtain ⟨g, rfl, h5⟩ := hx y hy
      rcases g3 with g3 | g3
      · rw [h5] at g3
        cases hq : N.ga with
        | none => rw [hq] at g3; simp [Value.ownBlock] at g3
        | some y' =>
          obtain ⟨cur, he, -⟩ := h.gblock hq
          rw [hq, he] at g3
          simp [Value.ownBlock] at g3
          left
          rw [he, ← g3]
      · rw [h5] at g3
        simp at g3
        right
        show w.heap.size ≤ g
        omega
    have hcn : ∀ y, ga = some y → y.block ≠ c := fun y hy => by
      rcases hnw y hy with g | g
      · exact (a2 y g).1
      · omega
    refine ⟨ga, gc, rfl, hd'.cell 2, hd'.free 2, hd'.setCell (o := 2) _, ?_, hnw, (hk.wider (fun x hx => List.mem_cons_of_mem _ hx)).setCell (by simp) _⟩
    refine keptRow g1 (kept_setCell w' c 2 _) (fun g hg => ?_)
    cases hq : ga with
    | none => rw [hq] at hg; simp [Value.ownBlock] at hg
    | some y =>
      obtain ⟨g', e1, h5⟩ := hx y hq
      rw [hg] at h5
      have := hcn y hq
      rw [e1] at this
      simp at h5
      subst h5
      simpa using this
  have HF := hid hF
  have HLM : Hid (m.loans.length + 1 ≤ maxLen) := hid (by unfold maxLen; omega)
  have HLN : Hid ((m.loans.length + 1) * 16 ≤ 140737488355328) := hid (by omega)
  have HI := hid hi0
  have HZ0 := hid hz0
  have HZ1 := hid hz1
  have HZ2 := hid hz2
  have HO : Hid ((w.alloc (.cells #[ptrV ub, .int .i64 0] 156)).ownsRow 0 156 2 (.slice N.ga m.loans.length N.gc) m.loans.length (cellsLn N.ub m.loans)) := hid (World.ownsRow.alloc h.gr _)
  have hAq := at_alloc w 156 [ptrV ub, .int .i64 0]
  have HS : Hid (∀ (j : Nat) u, ([ptrV ub, .int .i64 0] : List Value)[j]? = some u → (w.alloc (.cells #[ptrV ub, .int .i64 0] 156)).cell? ⟨w.heap.size, j, none⟩ = some u) := hid fun j u hu => (hAq.cell j).trans hu
  have HON : Hid (∀ u ∈ ([ptrV ub, .int .i64 0] : List Value), u.oneCell' = true) := hid (by
    intro u hu
    simp at hu
    rcases hu with rfl | rfl <;> rfl)
  have HE : Hid (((m.loans.length + 1 : Nat) : Int) = (m.loans.length : Int) + 1) := hid (by omega)
  generalize hP : NumPost w c N m ub = P at *
  generalize cellsLn N.ub m.loans = L at *
  generalize hNN : m.loans.length = NN at *
  have hNs : NN ≤ 8796093022208 := by omega
  clear h hF hi0 hz0 hz1 hz2 hlen hn hP hAq hNN hcg
  unfold ptrV at *
  go_enter Try.func81, Try.ntmps81
  go_wp2_with (at_builtin; refine wpList_pushR 0 w.heap.size Try.underlying134 HI.out HZ0.out HZ1.out HZ2.out rfl (by decide) HO.out rfl _ _ rfl rfl rfl rfl HS.out HON.out HLM.out HLN.out (Nat.zero_le _) ?_; intro v7 w7 ho7 hg7 hl7; obtain ⟨ga, gc, rfl, k2, kf, hp7⟩ := HF.out _ _ ho7 hg7 hl7; have HP7 := hid hp7; clear ho7 hg7 hl7 hp7)
  go_ret
  exact ⟨by rw [HE.out]; rfl, ga, gc, HP7.out⟩
end Go.Proofs.Ytcnkcbipkchoiag
namespace Go.Proofs.Ytcnkcbipkchoiag
open Go.ChangeShapes Go.WideShapes Go.ChangeAt Go.RowKit Go.Maps
theorem getD_appL1 {ls : List LnM} {x : LnM} {i : Nat} (h : i < ls.length) : (ls ++ [x]).getD i .zero = ls.getD i .zero := by
  rw [List.getD_eq_getElem?_getD, List.getElem?_append_left h, ← List.getD_eq_getElem?_getD]
theorem getD_appL2 {ls : List LnM} {x : LnM} : (ls ++ [x]).getD ls.length .zero = x := by
  rw [List.getD_eq_getElem?_getD, List.getElem?_append_right (Nat.le_refl _), Nat.sub_self]
  rfl
theorem opV_lend (k j : Int) (ls : List LnM) (x : Nat) : opV j (ls ++ [⟨k, x, 0, 0, false⟩]) = if j = k then updI (opV j ls) ((ls.length : Int) + 1) (some (.int .i64 (x : Int))) else opV j ls := by
  funext g
  have hl : (ls ++ [(⟨k, x, 0, 0, false⟩ : LnM)]).length = ls.length + 1 := by simp
  have hout : ∀ q, g ≠ (ls.length : Int) + 1 → opV j (ls ++ [q]) g = opV j ls g := fun q hg => by
    by_cases hr : 1 ≤ g ∧ g ≤ (ls.length : Int)
    · have hi : g.toNat - 1 < ls.length := by omega
      unfold opV
      rw [getD_appL1 hi]
      have e1 : (1 ≤ g ∧ g ≤ ((ls ++ [q]).length : Int) ∧ (ls.getD (g.toNat - 1) .zero).who = j ∧ (ls.getD (g.toNat - 1) .zero).shut = false) ↔ (1 ≤ g ∧ g ≤ (ls.length : Int) ∧ (ls.getD (g.toNat - 1) .zero).who = j ∧ (ls.getD (g.toNat - 1) .zero).shut = false) := by
        simp
        intros
        omega
      simp only [e1]
    · unfold opV
      rw [if_neg (by simp; omega), if_neg (by omega)]
  by_cases hg : g = (ls.length : Int) + 1
  · have hi : g.toNat - 1 = ls.length := by omega
    have e : opV j (ls ++ [⟨k, x, 0, 0, false⟩]) g = if k = j then some (.int .i64 (x : Int)) else none := by
      unfold opV
      rw [hi, getD_appL2, hl]
      by_cases hk : k = j
      · rw [if_pos ⟨by omega, by omega, hk, rfl⟩, if_pos hk]
        rfl
      · rw [if_neg (fun h => hk h.2.2.1), if_neg hk]
    rw [e]
    by_cases hj : j = k
    · rw [if_pos hj, if_pos hj.symm, hg, updI_same]
    · rw [if_neg hj, if_neg (fun e => hj e.symm)]
      unfold opV
      rw [if_neg (by omega)]
  · rw [hout _ hg]
    by_cases hj : j = k
    · rw [if_pos hj, updI_other _ _ hg]
    · rw [if_neg hj]
def gaN (N : CoN) (ga : Option Addr) (gc : Nat) : CoN := ⟨N.bu, ga, gc, N.ub, N.mb⟩
theorem CoM.lend_some {m : CoM} {k : Int} {p : PrM} (hp : m.per k = some p) : m.lendN k = min m.unit (m.left k p) := by unfold CoM.lendN; rw [hp]
theorem PCore.lends {w wz w1 w' : World} {c : Nat} {N : CoN} {m : CoM} {n gc x : Nat} {ga : Option Addr} {k : Int} {p : PrM} (h : PCore w c N m n) (hp : m.per k = some p) (he : m.lendErr k = 0) (hx : x = m.lendN k) (hz : Kept [] w wz) (hnp : NumPost wz c N m (N.ub k) w1 ga gc) (hk : Kept [N.ub k, N.mb k] w1 w')
    (hA : At w' (N.ub k) 145 [.int .i64 ((m.left k p : Nat) - (x : Int)), .int .i64 ((m.lent k : Nat) + (x : Int)), .int .i64 (m.chgd k : Nat), .int .i64 (p.st : Nat), .int .i64 (p.cell : Nat), .map (some (N.mb k))])
    (hI : IMap w' (N.mb k) (n + 1) (updI (opV k m.loans) ((m.loans.length : Int) + 1) (some (.int .i64 (x : Int))))) :
    PCore w' c (gaN N ga gc) (m.lend k) (n + 1) ∧ Grown w.heap.size (coF c N m) (coF c (gaN N ga gc) (m.lend k)) ∧ Kept (coF c N m) w w' := by
  have hok := h.ok.lend he
  obtain ⟨a1, a2, a3⟩ := h.apart
  obtain ⟨b1, b2, b3, b4, b5, b6⟩ := a3 k p hp
  obtain ⟨q1, q2, q3, q4, q5, q6, q7⟩ := h.ok.pr k p hp
  have hlm : (m.lend k).loans = m.loans ++ [⟨k, x, 0, 0, false⟩] := by unfold CoM.lend; rw [hx]
  have hxl : x ≤ m.left k p := by rw [hx, CoM.lend_some hp]; omega
  have hwz : w.heap.size ≤ wz.heap.size := hz.size
  have hul := (h.ur k p hp).lt
  have hml := (h.op k p hp).lt
  have hcl := h.hd.lt
  have hnw : ∀ y, ga = some y → N.ga = some y ∨ w.heap.size ≤ y.block := fun y hy => (hnp.nw y hy).elim .inl (fun g => .inr (by omega))
  have hS : Kept (c :: (gaF N ++ [N.ub k, N.mb k])) w w' := by
    refine ((hz.wider (by simp)).trans (hnp.kp.wider (fun y hy => ?_))).trans (hk.wider (fun y hy => ?_))
    · rw [List.mem_cons] at hy ⊢
      rcases hy with hy | hy
      · exact .inl hy
      · exact .inr (List.mem_append_left _ hy)
    · exact List.mem_cons_of_mem _ (List.mem_append_right _ hy)
  have hSm : ∀ y ∈ c :: (gaF N ++ [N.ub k, N.mb k]), y = c ∨ (∃ z, N.ga = some z ∧ y = z.block) ∨ y = N.ub k ∨ y = N.mb k := fun y hy => by
    rw [List.mem_cons, List.mem_append] at hy
    rcases hy with hy | hy | hy
    · exact .inl hy
    · unfold gaF at hy
      cases hg : N.ga with
      | none => rw [hg] at hy; simp at hy
      | some z => rw [hg] at hy; exact .inr (.inl ⟨z, rfl, by simpa using hy⟩)
    · exact .inr (.inr (by simpa using hy))
  have hpost : ∀ j, (m.lend k).per j = if j = k then some p else m.per j := fun j => by
    show m.per j = _
    by_cases e : j = k
    · rw [e, if_pos rfl, hp]
    · rw [if_neg e]
  have hgn : ∀ g, (Value.slice ga (m.loans.length + 1) gc).ownBlock = some g → g ∉ [N.ub k, N.mb k] := fun g hg => by
    cases hq : ga with
    | none => rw [hq] at hg; simp [Value.ownBlock] at hg
    | some y =>
      rw [hq] at hg
      obtain ⟨a', c', e, _, _, hx'⟩ := row_shape hnp.gr
      simp only [Value.slice.injEq] at e
      obtain ⟨rfl, -, rfl⟩ := e
      obtain ⟨g', rfl, -⟩ := hx' y hq
      simp [Value.ownBlock] at hg
      subst hg
      have h1 : g' ≠ N.ub k ∧ g' ≠ N.mb k := by
        rcases hnw _ hq with e | e
        · exact ⟨fun e' => (b5 _ e).1 e'.symm, fun e' => (b5 _ e).2 e'.symm⟩
        · have e : w.heap.size ≤ g' := e
          exact ⟨by omega, by omega⟩
      simp
      exact h1
  refine ⟨h.next (N' := gaN N ga gc) hp hS hSm rfl rfl (fun j hj => rfl) (.inl rfl) hpost (fun j hj => ⟨?_, ?_, ?_⟩) ?_ ?_ ?_ ?_ hok (by omega), coF_next (N' := gaN N ga gc) h hp rfl rfl (fun j hj => rfl) (.inl rfl) hpost hnw, hS.wider (fun y hy => ?_)⟩
  · show lentL j (m.lend k).loans = _
    rw [hlm, lentL_app]
    simp [lentL, LnM.lc, show ¬ k = j from fun e => hj e.symm]
    rfl
  · show usedL j (m.lend k).loans = _
    rw [hlm, usedL_app]
    simp [usedL, LnM.uc]
    rfl
  · rw [hlm, opV_lend, if_neg hj]
  · rw [hlm]
    have := hnp.hd.kept hk (by simp; exact ⟨fun e => b1 e.symm, fun e => b3 e.symm⟩)
    show At w' c _ [.int .i64 (m.unit : Int), .map (some N.bu), .slice ga (m.loans ++ [_]).length gc]
    rw [show (m.loans ++ [(⟨k, x, 0, 0, false⟩ : LnM)]).length = m.loans.length + 1 by simp]
    exact this
  · have u1 : (m.lend k).lent k = m.lent k + x := by
      show lentL k (m.lend k).loans = _
      rw [hlm, lentL_app]
      simp [lentL, LnM.lc]
      rfl
    have u2 : (m.lend k).chgd k = m.chgd k := by
      show usedL k (m.lend k).loans = _
      rw [hlm, usedL_app]
      simp [usedL, LnM.uc]
      rfl
    have : userRow (gaN N ga gc) (m.lend k) k p = [.int .i64 ((m.left k p : Nat) - (x : Int)), .int .i64 ((m.lent k : Nat) + (x : Int)), .int .i64 (m.chgd k : Nat), .int .i64 (p.st : Nat), .int .i64 (p.cell : Nat), .map (some (N.mb k))] := by
      unfold userRow
      have e1 : (((m.lend k).left k p : Nat) : Int) = (m.left k p : Nat) - (x : Int) := by
        have f1 : (m.lend k).left k p = p.quota - (m.lend k).lent k - (m.lend k).chgd k := rfl
        have f2 : m.left k p = p.quota - m.lent k - m.chgd k := rfl
        rw [u1, u2] at f1
        omega
      have e2 : (((m.lend k).lent k : Nat) : Int) = (m.lent k : Nat) + (x : Int) := by rw [u1]; omega
      rw [e1, e2, u2]
      rfl
    rw [this]
    exact hA
  · rw [hlm, opV_lend, if_pos rfl]
    exact hI
  · rw [hlm]
    show w'.ownsRow 0 _ 2 (.slice ga (m.loans ++ [_]).length gc) (m.loans ++ [_]).length (cellsLn N.ub (m.loans ++ [_]))
    rw [show (m.loans ++ [(⟨k, x, 0, 0, false⟩ : LnM)]).length = m.loans.length + 1 by simp, cellsLn_app]
    exact keptRow hnp.gr hk hgn
  · rcases hSm y hy with e | ⟨z, hz, e⟩ | e | e
    · rw [e]; exact coF_c _ _ _
    · rw [e]; exact coF_g hz
    · rw [e]; exact (coF_u h.ok hp).1
    · rw [e]; exact (coF_u h.ok hp).2
end Go.Proofs.Ytcnkcbipkchoiag
