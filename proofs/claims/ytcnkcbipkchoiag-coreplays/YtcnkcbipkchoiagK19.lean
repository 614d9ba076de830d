import Derived.Test.YtcnkcbipkchoiagK18
import Derived.Deep.RegionWith
namespace Go.Proofs.Ytcnkcbipkchoiag
open Go.ChangeShapes Go.WideShapes Go.ChangeAt Go.RowKit Go.Maps
theorem PCore.grant {w : World} {c : Nat} {N : CoN} {m : CoM} {n : Nat} (h : PCore w c N m n) {i : Nat} (hi : i < m.loans.length) : ∃ gb cur, N.ga = some ⟨gb, 0, none⟩ ∧ At w gb 156 cur ∧ cur.take (m.loans.length * 2) = cellsLn N.ub m.loans ∧ cur.length = N.gc * 2 ∧ m.loans.length ≤ N.gc ∧ N.gc ≤ maxLen ∧ w.cell? ⟨gb, i * 2, none⟩ = some (ptrV (N.ub (m.loans.getD i .zero).who)) ∧ w.cell? ⟨gb, i * 2 + 1, none⟩ = some (.int .i64 ((m.loans.getD i .zero).turn : Nat)) := by
  obtain ⟨gb, e⟩ := row_some h.gr (by omega)
  have hg := h.gr
  rw [e] at hg
  obtain ⟨cur, hA, -, h1, h2, h3, h4, h5⟩ := row_at hg
  have hat : ∀ k, k < 2 → w.cell? ⟨gb, i * 2 + k, none⟩ = ((m.loans.getD i .zero).cells N.ub)[k]? := fun k hk => by
    rw [hA.cell, ← cellsLn_at N.ub m.loans i k hi hk, ← h4, List.getElem?_take_of_lt (by omega)]
  exact ⟨gb, cur, e, hA, h4, h3, h1, h2, hat 0 (by omega), hat 1 (by omega)⟩
theorem opV_at {ls : List LnM} {i : Nat} {g : Int} (hi : i < ls.length) (hg : g = (i : Int) + 1) : opV (ls.getD i .zero).who ls g = if (ls.getD i .zero).shut = true then none else some (.int .i64 (((ls.getD i .zero).bytes - (ls.getD i .zero).used : Nat) : Int)) := by
  have e : g.toNat - 1 = i := by omega
  unfold opV
  rw [e]
  cases hs : (ls.getD i .zero).shut with
  | true => rw [if_neg (by simp), if_pos rfl]
  | false => rw [if_pos ⟨by omega, by omega, rfl, rfl⟩, if_neg (by simp)]
set_option maxRecDepth 100000 in
set_option maxHeartbeats 2000000 in
theorem ccheck_any {w : World} {c i gb : Nat} {N : CoN} {m : CoM} {n : Nat} {g t b : Int} {f : Bool} (h : PCore w c N m n) (hi : i < m.loans.length) (hg : g = (i : Int) + 1) (hga : N.ga = some ⟨gb, 0, none⟩) (hgi : In64 g) (ht : In64 t) (hb : In64 b) (hn : n ≤ manyN) :
    Calls Try.prog 82 #[.pointer (some ⟨gb, i * 2, none⟩), usageV g t b f] w fun e w' => e = .returned (.int .i64 (m.repErr g t b)) ∧ Below w.heap.size w w' := by
  obtain ⟨L, eL⟩ : ∃ L, L = m.at g := ⟨_, rfl⟩
  have eL' : L = m.loans.getD i .zero := by rw [eL, hg]; unfold CoM.at; rw [show ((i : Int) + 1).toNat - 1 = i by omega]
  obtain ⟨gb', cur, e1, -, -, -, -, -, c0, c1⟩ := h.grant hi
  rw [hga] at e1
  obtain rfl : gb = gb' := by injection e1 with e1; injection e1
  rw [← eL'] at c0 c1
  obtain ⟨⟨p, hp⟩, hub, hby, htn⟩ := h.ok.ln L (by rw [eL']; exact getD_memL hi)
  have hmany : n ≤ 8796093022208 := hn
  have hRe : m.repErr g t b = if 1 ≤ t ∧ t ≤ (L.turn : Int) then 10 else if t = (L.turn : Int) + 1 then (if L.shut = true then 9 else if 0 ≤ b ∧ b ≤ ((L.bytes - L.used : Nat) : Int) then 0 else 11) else 3 := by
    unfold CoM.repErr
    rw [if_pos (by omega), ← eL]
  obtain ⟨W, eW⟩ : ∃ W, W = w.alloc (.cells #[.int .i64 g, .int .i64 t, .int .i64 b, .bool f] 70) := ⟨_, rfl⟩
  have hkW : Kept [] w W := by rw [eW]; exact (Kept.refl _ w).alloc _
  have hUW : At W w.heap.size 70 [.int .i64 g, .int .i64 t, .int .i64 b, .bool f] := by rw [eW]; exact at_alloc w _ [.int .i64 g, .int .i64 t, .int .i64 b, .bool f]
  have hbW : Below w.heap.size w W := by rw [eW]; exact (Below.refl _ w).alloc (Nat.le_refl _) _
  have hW := h.kept hkW (by simp)
  have d0 := keptCellQ hkW c0 (by simp)
  have d1 := keptCellQ hkW c1 (by simp)
  have u0 : W.cell? ⟨w.heap.size, 0, none⟩ = some (.int .i64 g) := hUW.cell 0
  have u1 : W.cell? ⟨w.heap.size, 1, none⟩ = some (.int .i64 t) := hUW.cell 1
  have u2 : W.cell? ⟨w.heap.size, 2, none⟩ = some (.int .i64 b) := hUW.cell 2
  have c5 : W.cell? ⟨N.ub L.who, 5, none⟩ = some (.map (some (N.mb L.who))) := (hW.ur _ p hp).cell 5
  have hI := hW.op _ p hp
  have hopv := opV_at (ls := m.loans) hi hg
  rw [← eL'] at hopv
  generalize m.repErr g t b = V at *
  generalize N.ub L.who = ub at *
  generalize N.mb L.who = mb at *
  generalize hTT : (L.turn : Int) = T at *
  have hT : 0 ≤ T ∧ T ≤ 8796093022208 := by omega
  unfold ptrV usageV at *
  unfold In64 at ht hb
  clear hg hga e1 hi
  by_cases a1 : 1 ≤ t
  · by_cases a2 : t ≤ T
    · have HV := hid (show V = 10 by rw [hRe, if_pos ⟨a1, a2⟩])
      clear h hW hI hopv hp hub hby htn hRe eL eL' hTT hUW c0 c1 c5 d0
      go_enter Try.func82, Try.ntmps82
      go_upto_region 1 with fail
      rw [← eW]
      clear eW
      go_region
      go_wp2_with fail
      go_ret
      exact ⟨by rw [HV.out]; rfl, hbW.drew⟩
    · by_cases a3 : t = T + 1
      · subst a3
        rw [if_neg (by omega), if_pos rfl] at hRe
        cases hs : L.shut with
        | true =>
          rw [hs, if_pos rfl] at hRe hopv
          have HV := hid hRe
          have hlk := (hI.kept (S := []) (Kept.refl _ W).drew.drew.drew (by simp)).look hgi Try.underlying84 (Try.zeroMI W.drew.drew.drew) (x := .int .i64 0) (b := false) (by rw [hopv]; rfl) (by rw [hopv]; rfl) true
          simp only [if_true] at hlk
          clear h hW hI hopv hp hub hby htn hRe eL eL' hTT hUW c0 c1 hs
          go_enter Try.func82, Try.ntmps82
          go_upto_region 1 with fail
          rw [← eW]
          clear eW
          go_region
          go_upto_region 3 with fail
          go_region
          go_upto_region 5 with fail
          go_region
          go_wp2_with fail
          go_ret
          exact ⟨by rw [HV.out]; rfl, hbW.drew.drew.drew⟩
        | false =>
          rw [hs, if_neg (by simp)] at hRe hopv
          generalize hHH : ((L.bytes - L.used : Nat) : Int) = H at *
          have hlk := (hI.kept (S := []) (Kept.refl _ W).drew.drew.drew (by simp)).look hgi Try.underlying84 (Try.zeroMI W.drew.drew.drew) (x := .int .i64 H) (b := true) (by rw [hopv]; rfl) (by rw [hopv]; rfl) true
          simp only [if_true] at hlk
          have hH : 0 ≤ H ∧ H ≤ 1000000 := by omega
          clear h hW hI hopv hp hub hby htn eL eL' hTT hUW c0 c1 hs hHH
          by_cases b1 : b < 0
          · have HV := hid (show V = 11 by rw [hRe, if_neg (by omega)])
            clear hRe
            go_enter Try.func82, Try.ntmps82
            go_upto_region 1 with fail
            rw [← eW]
            clear eW
            go_region
            go_upto_region 3 with fail
            go_region
            go_upto_region 5 with fail
            go_region
            go_wp2_with fail
            go_ret
            exact ⟨by rw [HV.out]; rfl, hbW.drew.drew.drew⟩
          · by_cases b2 : H < b
            · have HV := hid (show V = 11 by rw [hRe, if_neg (by omega)])
              clear hRe
              go_enter Try.func82, Try.ntmps82
              go_upto_region 1 with fail
              rw [← eW]
              clear eW
              go_region
              go_upto_region 3 with fail
              go_region
              go_upto_region 5 with fail
              go_region
              go_wp2_with fail
              go_ret
              exact ⟨by rw [HV.out]; rfl, hbW.drew.drew.drew⟩
            · have HV := hid (show V = 0 by rw [hRe, if_pos (by omega)])
              clear hRe
              go_enter Try.func82, Try.ntmps82
              go_upto_region 1 with fail
              rw [← eW]
              clear eW
              go_region
              go_upto_region 3 with fail
              go_region
              go_upto_region 5 with fail
              go_region
              go_wp2_with fail
              go_ret
              exact ⟨by rw [HV.out]; rfl, hbW.drew.drew.drew⟩
      · have HV := hid (show V = 3 by rw [hRe, if_neg (by omega), if_neg a3])
        clear h hW hI hopv hp hub hby htn hRe eL eL' hTT hUW c0 c1 c5 d0
        go_enter Try.func82, Try.ntmps82
        go_upto_region 1 with fail
        rw [← eW]
        clear eW
        go_region
        go_upto_region 3 with fail
        go_region
        go_wp2_with fail
        go_ret
        exact ⟨by rw [HV.out]; rfl, hbW.drew.drew⟩
  · have a3 : ¬ t = T + 1 := by omega
    have HV := hid (show V = 3 by rw [hRe, if_neg (by omega), if_neg a3])
    clear h hW hI hopv hp hub hby htn hRe eL eL' hTT hUW c0 c1 c5 d0
    go_enter Try.func82, Try.ntmps82
    go_upto_region 1 with fail
    rw [← eW]
    clear eW
    go_region
    go_upto_region 3 with fail
    go_region
    go_wp2_with fail
    go_ret
    exact ⟨by rw [HV.out]; rfl, hbW.drew.drew⟩
end Go.Proofs.Ytcnkcbipkchoiag
namespace Go.Proofs.Ytcnkcbipkchoiag
open Go.ChangeShapes Go.WideShapes Go.ChangeAt Go.RowKit Go.Maps
theorem getD_setLS {ls : List LnM} {i : Nat} {x : LnM} (hi : i < ls.length) : (ls.set i x).getD i .zero = x := by rw [List.getD_eq_getElem?_getD, List.getElem?_set_self hi]; rfl
theorem getD_setLN {ls : List LnM} {i j : Nat} {x : LnM} (h : i ≠ j) : (ls.set i x).getD j .zero = ls.getD j .zero := by rw [List.getD_eq_getElem?_getD, List.getElem?_set_ne h, ← List.getD_eq_getElem?_getD]
theorem opV_set {ls : List LnM} {i : Nat} {g : Int} {x : LnM} (hi : i < ls.length) (hg : g = (i : Int) + 1) (hw : x.who = (ls.getD i .zero).who) (j : Int) : opV j (ls.set i x) = if j = x.who then updI (opV j ls) g (if x.shut = true then none else some (.int .i64 ((x.bytes - x.used : Nat) : Int))) else opV j ls := by
  funext g'
  by_cases e : g' = g
  · have e1 : g'.toNat - 1 = i := by omega
    have e0 : opV j (ls.set i x) g' = if x.who = j ∧ x.shut = false then some (.int .i64 ((x.bytes - x.used : Nat) : Int)) else none := by
      unfold opV
      rw [e1, getD_setLS hi, List.length_set]
      by_cases hc : x.who = j ∧ x.shut = false
      · rw [if_pos ⟨by omega, by omega, hc.1, hc.2⟩, if_pos hc]
      · rw [if_neg (fun h => hc ⟨h.2.2.1, h.2.2.2⟩), if_neg hc]
    rw [e0]
    by_cases hj : j = x.who
    · rw [if_pos hj, e, updI_same]
      cases hs : x.shut with
      | true => rw [if_neg (by simp), if_pos rfl]
      | false => rw [if_pos ⟨hj.symm, rfl⟩, if_neg (by simp)]
    · rw [if_neg hj, if_neg (fun h => hj h.1.symm)]
      unfold opV
      rw [e1, if_neg (fun h => hj (by rw [hw, h.2.2.1]))]
  · have e0 : opV j (ls.set i x) g' = opV j ls g' := by
      by_cases hr : 1 ≤ g' ∧ g' ≤ (ls.length : Int)
      · unfold opV
        rw [List.length_set, getD_setLN (by omega)]
      · unfold opV
        rw [List.length_set, if_neg (fun h => hr ⟨h.1, h.2.1⟩), if_neg (fun h => hr ⟨h.1, h.2.1⟩)]
    rw [e0]
    by_cases hj : j = x.who
    · rw [if_pos hj, updI_other _ _ e]
    · rw [if_neg hj]
/-- What a report makes of the numbers of somebody. -/
structure RepN (m : CoM) (g b : Int) (fin : Bool) (p : PrM) (l0 l1 l2 : Int) : Prop where
  n0 : ((m.rep g b fin).left (m.at g).who p : Int) = l0
  n1 : ((m.rep g b fin).lent (m.at g).who : Int) = l1
  n2 : ((m.rep g b fin).chgd (m.at g).who : Int) = l2
theorem RepN.of {m : CoM} {n : Nat} {g t b : Int} {p : PrM} (h : m.Ok n) (he : m.repErr g t b = 0) (hp : m.per (m.at g).who = some p) (fin : Bool) :
    RepN m g b fin p (if fin then (m.left (m.at g).who p : Int) + (((m.at g).bytes - (m.at g).used : Nat) - b) else (m.left (m.at g).who p : Int)) (if fin then (m.lent (m.at g).who : Int) - b - (((m.at g).bytes - (m.at g).used : Nat) - b) else (m.lent (m.at g).who : Int) - b) ((m.chgd (m.at g).who : Int) + b) ∧ ((m.at g).bytes - (m.at g).used : Nat) ≤ m.lent (m.at g).who := by
  have hc := CoM.rep_ok he
  have hi : g.toNat - 1 < m.loans.length := by have := hc.g1; have := hc.g2; omega
  obtain ⟨_, _, _, _, _, _, q7⟩ := h.pr _ p hp
  have e1 := lentL_set (m.at g).who ⟨(m.at g).who, (m.at g).bytes, (m.at g).used + b.toNat, (m.at g).turn + 1, fin⟩ m.loans _ hi
  have e2 := usedL_set (m.at g).who ⟨(m.at g).who, (m.at g).bytes, (m.at g).used + b.toNat, (m.at g).turn + 1, fin⟩ m.loans _ hi
  have e3 := lc_le (m.at g).who m.loans _ hi
  have ea : m.loans.getD (g.toNat - 1) .zero = m.at g := rfl
  rw [ea] at e1 e2 e3
  have r1 : (m.rep g b fin).lent (m.at g).who = lentL (m.at g).who (m.loans.set (g.toNat - 1) ⟨(m.at g).who, (m.at g).bytes, (m.at g).used + b.toNat, (m.at g).turn + 1, fin⟩) := rfl
  have r2 : (m.rep g b fin).chgd (m.at g).who = usedL (m.at g).who (m.loans.set (g.toNat - 1) ⟨(m.at g).who, (m.at g).bytes, (m.at g).used + b.toNat, (m.at g).turn + 1, fin⟩) := rfl
  have r3 : (m.rep g b fin).left (m.at g).who p = p.quota - (m.rep g b fin).lent (m.at g).who - (m.rep g b fin).chgd (m.at g).who := rfl
  have r4 : m.left (m.at g).who p = p.quota - m.lent (m.at g).who - m.chgd (m.at g).who := rfl
  have r5 : m.lent (m.at g).who = lentL (m.at g).who m.loans := rfl
  have r6 : m.chgd (m.at g).who = usedL (m.at g).who m.loans := rfl
  have b0 := hc.b0
  have b1 := hc.b1
  have hop := hc.op
  generalize lentL (m.at g).who (m.loans.set (g.toNat - 1) ⟨(m.at g).who, (m.at g).bytes, (m.at g).used + b.toNat, (m.at g).turn + 1, fin⟩) = X1 at *
  generalize usedL (m.at g).who (m.loans.set (g.toNat - 1) ⟨(m.at g).who, (m.at g).bytes, (m.at g).used + b.toNat, (m.at g).turn + 1, fin⟩) = X2 at *
  rw [r1, r2] at r3
  simp only [LnM.lc, LnM.uc, hop, and_self, if_true] at e1 e2 e3
  generalize (m.at g).bytes = B at *
  generalize (m.at g).used = U at *
  refine ⟨⟨?_, ?_, ?_⟩, by omega⟩
  · cases fin <;> simp at e1 ⊢ <;> omega
  · cases fin <;> simp at e1 ⊢ <;> omega
  · omega
theorem PCore.reports {w w' : World} {c gb i : Nat} {N : CoN} {m : CoM} {n : Nat} {g t b : Int} {fin : Bool} {p : PrM} {cur : List Value} {l0 l1 l2 : Int} (h : PCore w c N m n) (he : m.repErr g t b = 0) (hp : m.per (m.at g).who = some p) (hi : i < m.loans.length) (hg : g = (i : Int) + 1) (hga : N.ga = some ⟨gb, 0, none⟩) (hcur : At w gb 156 cur) (hk : Kept [gb, N.ub (m.at g).who, N.mb (m.at g).who] w w')
    (hG : At w' gb 156 (cur.set (i * 2 + 1) (.int .i64 t))) (hN : RepN m g b fin p l0 l1 l2)
    (hA : At w' (N.ub (m.at g).who) 145 [.int .i64 l0, .int .i64 l1, .int .i64 l2, .int .i64 (p.st : Nat), .int .i64 (p.cell : Nat), .map (some (N.mb (m.at g).who))])
    (hI : IMap w' (N.mb (m.at g).who) n (updI (opV (m.at g).who m.loans) g (if fin = true then none else some (.int .i64 (((m.at g).bytes - (m.at g).used : Nat) - b))))) :
    PCore w' c N (m.rep g b fin) (n + 1) ∧ Grown w.heap.size (coF c N m) (coF c N (m.rep g b fin)) ∧ Kept (coF c N m) w w' := by
  have hok := h.ok.rep (fin := fin) he
  have hc := CoM.rep_ok he
  have hb0 := hc.b0
  have hb1 := hc.b1
  obtain ⟨a1, a2, a3⟩ := h.apart
  obtain ⟨b1, b2, b3, b4, b5, b6⟩ := a3 _ p hp
  have eg : g.toNat - 1 = i := by omega
  have eat : m.loans.getD i .zero = m.at g := by unfold CoM.at; rw [eg]
  have hlm : (m.rep g b fin).loans = m.loans.set i ⟨(m.at g).who, (m.at g).bytes, (m.at g).used + b.toNat, (m.at g).turn + 1, fin⟩ := by unfold CoM.rep; rw [eg]
  have hll : (m.rep g b fin).loans.length = m.loans.length := by rw [hlm, List.length_set]
  have hS : ∀ y ∈ [gb, N.ub (m.at g).who, N.mb (m.at g).who], y = c ∨ (∃ z, N.ga = some z ∧ y = z.block) ∨ y = N.ub (m.at g).who ∨ y = N.mb (m.at g).who := fun y hy => by
    simp at hy
    rcases hy with e | e | e
    · exact .inr (.inl ⟨_, hga, e⟩)
    · exact .inr (.inr (.inl e))
    · exact .inr (.inr (.inr e))
  have hpost : ∀ j, (m.rep g b fin).per j = if j = (m.at g).who then some p else m.per j := fun j => by
    show m.per j = _
    by_cases e : j = (m.at g).who
    · rw [e, if_pos rfl, hp]
    · rw [if_neg e]
  have hop := fun j => opV_set (x := ⟨(m.at g).who, (m.at g).bytes, (m.at g).used + b.toNat, (m.at g).turn + 1, fin⟩) hi hg (by rw [eat]) j
  refine ⟨h.next hp hk hS rfl rfl (fun j hj => rfl) (.inl rfl) hpost (fun j hj => ⟨?_, ?_, ?_⟩) ?_ ?_ ?_ ?_ hok (by omega), coF_next h hp rfl rfl (fun j hj => rfl) (.inl rfl) hpost (fun y hy => .inl hy), hk.wider (fun y hy => ?_)⟩
  · have := lentL_set j ⟨(m.at g).who, (m.at g).bytes, (m.at g).used + b.toNat, (m.at g).turn + 1, fin⟩ m.loans i hi
    rw [eat] at this
    simp only [LnM.lc, show ¬ (m.at g).who = j from fun e => hj e.symm, false_and, if_false] at this
    show lentL j (m.rep g b fin).loans = lentL j m.loans
    rw [hlm]
    omega
  · have := usedL_set j ⟨(m.at g).who, (m.at g).bytes, (m.at g).used + b.toNat, (m.at g).turn + 1, fin⟩ m.loans i hi
    rw [eat] at this
    simp only [LnM.uc, show ¬ (m.at g).who = j from fun e => hj e.symm, if_false] at this
    show usedL j (m.rep g b fin).loans = usedL j m.loans
    rw [hlm]
    omega
  · rw [hlm, hop j, if_neg hj]
  · rw [hll]
    refine h.hd.kept hk ?_
    simp
    exact ⟨fun e => (a2 _ hga).1 e.symm, fun e => b1 e.symm, fun e => b3 e.symm⟩
  · unfold userRow
    rw [hN.n0, hN.n1, hN.n2]
    exact hA
  · rw [hlm, hop _, if_pos rfl]
    refine (hI.mono (by omega)).congr fun j => ?_
    have : ((((m.at g).bytes - ((m.at g).used + b.toNat)) : Nat) : Int) = (((m.at g).bytes - (m.at g).used : Nat) : Int) - b := by omega
    rw [this]
  · rw [hll, hlm]
    obtain ⟨gb', cur', e1, hA', h4, h3, h1, h2, -, -⟩ := h.grant hi
    rw [hga] at e1
    obtain rfl : gb = gb' := by injection e1 with e1; injection e1
    have ecur : cur = cur' := by
      unfold At at hcur hA'
      rw [hcur] at hA'
      injection hA' with hA'
      injection hA' with hA'
      exact List.toArray_inj hA'
    subst ecur
    rw [hga]
    refine hG.row (by rw [cellsLn_len, List.length_set]) h1 h2 (by rw [List.length_set]; exact h3) ?_
    rw [List.take_set, h4]
    have ht : t = (((m.at g).turn + 1 : Nat) : Int) := by rw [hc.t1]; omega
    rw [ht]
    exact cellsLn_set (x := ⟨(m.at g).who, (m.at g).bytes, (m.at g).used + b.toNat, (m.at g).turn + 1, fin⟩) hi (by rw [eat])
  · simp at hy
    rcases hy with e | e | e
    · rw [e]; exact coF_g hga
    · rw [e]; exact (coF_u h.ok hp).1
    · rw [e]; exact (coF_u h.ok hp).2
end Go.Proofs.Ytcnkcbipkchoiag
