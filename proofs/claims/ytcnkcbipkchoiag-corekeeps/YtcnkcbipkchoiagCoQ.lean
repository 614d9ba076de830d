import Derived.Test.YtcnkcbipkchoiagCoP
namespace Go.Proofs.Ytcnkcbipkchoiag
open Go.ChangeShapes Go.WideShapes Go.ChangeAt Go.RowKit Go.Maps

/-! THE PROGRAM'S check. -/

theorem PCore.grant {w : World} {c : Nat} {N : CoN} {m : CoM} {n : Nat} (h : PCore w c N m n) {i : Nat} (hi : i < m.loans.length) : ∃ gb cur, N.ga = some ⟨gb, 0, none⟩ ∧ At w gb 156 cur ∧ cur.take (m.loans.length * 2) = cellsLn N.ub m.loans ∧ cur.length = N.gc * 2 ∧ m.loans.length ≤ N.gc ∧ N.gc ≤ maxLen ∧ w.cell? ⟨gb, i * 2, none⟩ = some (ptrV (N.ub (m.loans.getD i .zero).who)) ∧ w.cell? ⟨gb, i * 2 + 1, none⟩ = some (.int .i64 ((m.loans.getD i .zero).turn : Nat)) := by
  obtain ⟨gb, e⟩ := row_some h.gr (by omega)
  have hg := h.gr
  rw [e] at hg
  obtain ⟨cur, hA, -, h1, h2, h3, h4, h5⟩ := row_at hg
  have hat : ∀ k, k < 2 → w.cell? ⟨gb, i * 2 + k, none⟩ = ((m.loans.getD i .zero).cells N.ub)[k]? := fun k hk => by
    rw [hA.cell, ← cellsLn_at N.ub m.loans i k hi hk, ← h4, List.getElem?_take_of_lt (by omega)]
  exact ⟨gb, cur, e, hA, h4, h3, h1, h2, hat 0 (by omega), hat 1 (by omega)⟩
theorem opV_at {ls : List LnM} {i : Nat} {g : Int} (hi : i < ls.length) (hg : g = (i : Int) + 1) : opV (ls.getD i .zero).who ls g = if (ls.getD i .zero).shut = true then none else some (.int .i64 (((ls.getD i .zero).bytes - (ls.getD i .zero).used : Nat) : Int)) := by
  have e : g.toNat - 1 = i := by omega
  unfold opV
  rw [e]
  cases hs : (ls.getD i .zero).shut with
  | true => rw [if_neg (by simp), if_pos rfl]
  | false => rw [if_pos ⟨by omega, by omega, rfl, rfl⟩, if_neg (by simp)]
set_option maxRecDepth 100000 in
set_option maxHeartbeats 2000000 in
theorem ccheck_any {w : World} {c i gb : Nat} {N : CoN} {m : CoM} {n : Nat} {g t b : Int} {f : Bool} (h : PCore w c N m n) (hi : i < m.loans.length) (hg : g = (i : Int) + 1) (hga : N.ga = some ⟨gb, 0, none⟩) (hgi : In64 g) (ht : In64 t) (hb : In64 b) (hn : n ≤ manyN) :
    Calls Try.prog 82 #[.pointer (some ⟨gb, i * 2, none⟩), usageV g t b f] w fun e w' => e = .returned (.int .i64 (m.repErr g t b)) ∧ Below w.heap.size w w' := by
  obtain ⟨L, eL⟩ : ∃ L, L = m.at g := ⟨_, rfl⟩
  have eL' : L = m.loans.getD i .zero := by rw [eL, hg]; unfold CoM.at; rw [show ((i : Int) + 1).toNat - 1 = i by omega]
  obtain ⟨gb', cur, e1, -, -, -, -, -, c0, c1⟩ := h.grant hi
  rw [hga] at e1
  obtain rfl : gb = gb' := by injection e1 with e1; injection e1
  rw [← eL'] at c0 c1
  obtain ⟨⟨p, hp⟩, hub, hby, htn⟩ := h.ok.ln L (by rw [eL']; exact getD_memL hi)
  have hmany : n ≤ 8796093022208 := hn
  have hRe : m.repErr g t b = if 1 ≤ t ∧ t ≤ (L.turn : Int) then 10 else if t = (L.turn : Int) + 1 then (if L.shut = true then 9 else if 0 ≤ b ∧ b ≤ ((L.bytes - L.used : Nat) : Int) then 0 else 11) else 3 := by
    unfold CoM.repErr
    rw [if_pos (by omega), ← eL]
  obtain ⟨W, eW⟩ : ∃ W, W = w.alloc (.cells #[.int .i64 g, .int .i64 t, .int .i64 b, .bool f] 70) := ⟨_, rfl⟩
  have hkW : Kept [] w W := by rw [eW]; exact (Kept.refl _ w).alloc _
  have hUW : At W w.heap.size 70 [.int .i64 g, .int .i64 t, .int .i64 b, .bool f] := by rw [eW]; exact at_alloc w _ [.int .i64 g, .int .i64 t, .int .i64 b, .bool f]
  have hbW : Below w.heap.size w W := by rw [eW]; exact (Below.refl _ w).alloc (Nat.le_refl _) _
  have hW := h.kept hkW (by simp)
  have d0 := keptCellQ hkW c0 (by simp)
  have d1 := keptCellQ hkW c1 (by simp)
  have u0 : W.cell? ⟨w.heap.size, 0, none⟩ = some (.int .i64 g) := hUW.cell 0
  have u1 : W.cell? ⟨w.heap.size, 1, none⟩ = some (.int .i64 t) := hUW.cell 1
  have u2 : W.cell? ⟨w.heap.size, 2, none⟩ = some (.int .i64 b) := hUW.cell 2
  have c5 : W.cell? ⟨N.ub L.who, 5, none⟩ = some (.map (some (N.mb L.who))) := (hW.ur _ p hp).cell 5
  have hI := hW.op _ p hp
  have hopv := opV_at (ls := m.loans) hi hg
  rw [← eL'] at hopv
  generalize m.repErr g t b = V at *
  generalize N.ub L.who = ub at *
  generalize N.mb L.who = mb at *
  generalize hTT : (L.turn : Int) = T at *
  have hT : 0 ≤ T ∧ T ≤ 8796093022208 := by omega
  unfold ptrV usageV at *
  unfold In64 at ht hb
  clear hg hga e1 hi
  by_cases a1 : 1 ≤ t
  · by_cases a2 : t ≤ T
    · have HV := hid (show V = 10 by rw [hRe, if_pos ⟨a1, a2⟩])
      clear h hW hI hopv hp hub hby htn hRe eL eL' hTT hUW c0 c1 c5 d0
      go_enter Try.func82, Try.ntmps82
      go_upto_region 1 with fail
      rw [← eW]
      clear eW
      go_region
      go_wp2_with fail
      go_ret
      exact ⟨by rw [HV.out]; rfl, hbW.drew⟩
    · by_cases a3 : t = T + 1
      · subst a3
        rw [if_neg (by omega), if_pos rfl] at hRe
        cases hs : L.shut with
        | true =>
          rw [hs, if_pos rfl] at hRe hopv
          have HV := hid hRe
          have hlk := (hI.kept (S := []) (Kept.refl _ W).drew.drew.drew (by simp)).look hgi Try.underlying84 (Try.zeroMI W.drew.drew.drew) (x := .int .i64 0) (b := false) (by rw [hopv]; rfl) (by rw [hopv]; rfl) true
          simp only [if_true] at hlk
          clear h hW hI hopv hp hub hby htn hRe eL eL' hTT hUW c0 c1 hs
          go_enter Try.func82, Try.ntmps82
          go_upto_region 1 with fail
          rw [← eW]
          clear eW
          go_region
          go_upto_region 3 with fail
          go_region
          go_upto_region 5 with fail
          go_region
          go_wp2_with fail
          go_ret
          exact ⟨by rw [HV.out]; rfl, hbW.drew.drew.drew⟩
        | false =>
          rw [hs, if_neg (by simp)] at hRe hopv
          generalize hHH : ((L.bytes - L.used : Nat) : Int) = H at *
          have hlk := (hI.kept (S := []) (Kept.refl _ W).drew.drew.drew (by simp)).look hgi Try.underlying84 (Try.zeroMI W.drew.drew.drew) (x := .int .i64 H) (b := true) (by rw [hopv]; rfl) (by rw [hopv]; rfl) true
          simp only [if_true] at hlk
          have hH : 0 ≤ H ∧ H ≤ 1000000 := by omega
          clear h hW hI hopv hp hub hby htn eL eL' hTT hUW c0 c1 hs hHH
          by_cases b1 : b < 0
          · have HV := hid (show V = 11 by rw [hRe, if_neg (by omega)])
            clear hRe
            go_enter Try.func82, Try.ntmps82
            go_upto_region 1 with fail
            rw [← eW]
            clear eW
            go_region
            go_upto_region 3 with fail
            go_region
            go_upto_region 5 with fail
            go_region
            go_wp2_with fail
            go_ret
            exact ⟨by rw [HV.out]; rfl, hbW.drew.drew.drew⟩
          · by_cases b2 : H < b
            · have HV := hid (show V = 11 by rw [hRe, if_neg (by omega)])
              clear hRe
              go_enter Try.func82, Try.ntmps82
              go_upto_region 1 with fail
              rw [← eW]
              clear eW
              go_region
              go_upto_region 3 with fail
              go_region
              go_upto_region 5 with fail
              go_region
              go_wp2_with fail
              go_ret
              exact ⟨by rw [HV.out]; rfl, hbW.drew.drew.drew⟩
            · have HV := hid (show V = 0 by rw [hRe, if_pos (by omega)])
              clear hRe
              go_enter Try.func82, Try.ntmps82
              go_upto_region 1 with fail
              rw [← eW]
              clear eW
              go_region
              go_upto_region 3 with fail
              go_region
              go_upto_region 5 with fail
              go_region
              go_wp2_with fail
              go_ret
              exact ⟨by rw [HV.out]; rfl, hbW.drew.drew.drew⟩
      · have HV := hid (show V = 3 by rw [hRe, if_neg (by omega), if_neg a3])
        clear h hW hI hopv hp hub hby htn hRe eL eL' hTT hUW c0 c1 c5 d0
        go_enter Try.func82, Try.ntmps82
        go_upto_region 1 with fail
        rw [← eW]
        clear eW
        go_region
        go_upto_region 3 with fail
        go_region
        go_wp2_with fail
        go_ret
        exact ⟨by rw [HV.out]; rfl, hbW.drew.drew⟩
  · have a3 : ¬ t = T + 1 := by omega
    have HV := hid (show V = 3 by rw [hRe, if_neg (by omega), if_neg a3])
    clear h hW hI hopv hp hub hby htn hRe eL eL' hTT hUW c0 c1 c5 d0
    go_enter Try.func82, Try.ntmps82
    go_upto_region 1 with fail
    rw [← eW]
    clear eW
    go_region
    go_upto_region 3 with fail
    go_region
    go_wp2_with fail
    go_ret
    exact ⟨by rw [HV.out]; rfl, hbW.drew.drew⟩
end Go.Proofs.Ytcnkcbipkchoiag
