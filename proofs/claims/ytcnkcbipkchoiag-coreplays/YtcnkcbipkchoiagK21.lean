import Derived.Test.YtcnkcbipkchoiagK20
namespace Go.Proofs.Ytcnkcbipkchoiag
open Go.ChangeShapes Go.WideShapes Go.ChangeAt Go.RowKit
theorem Try.infoLo : (Try.prog.info? 147).map (fun i => (i.zero, i.size, i.bytes)) = some (some (.agg #[.int .i64 0, .int .i64 0, .int .i64 0, .int .i64 0, .bool false]), 5, 40) := by kernel_rfl
def LendPostR (w : World) (r : Nat) (F : List Nat) (m : CoM) (k : Int) (n : Nat) : Ending → World → Prop := fun e w' => e = .returned (.tuple #[.int .i64 (m.lendG k : Nat), .int .i64 (m.lendX k : Nat), .int .i64 (m.lendErr k)]) ∧ Kept F w w' ∧ ∃ F', RCo w' r F' (m.lent' k) n ∧ Grown w.heap.size F F'
theorem LendPostR.bad {w w' : World} {r : Nat} {la : Option Addr} {lc : Nat} {m : CoM} {pe : Nat → PeP} {n : Nat} {k E : Int} (h : PRef w r la lc m pe n) (he : m.lendErr k = E) (h0 : E ≠ 0) (hb : Below w.heap.size w w') : LendPostR w r (rfF r la) m k (n + 1) (.returned (.tuple #[.int .i64 0, .int .i64 0, .int .i64 E])) w' := by
  subst he
  unfold LendPostR CoM.lendG CoM.lendX CoM.lent'
  rw [if_neg h0, if_neg h0, if_neg h0]
  exact ⟨rfl, Kept.of_below hb, _, ⟨la, lc, pe, rfl, (h.kept (Kept.of_below (S := []) hb) (by simp)).mono (by omega)⟩, fun x hx => .inl hx⟩
set_option maxRecDepth 100000 in
set_option maxHeartbeats 4000000 in
theorem rlend_any {w : World} {r : Nat} {F : List Nat} {m : CoM} {n : Nat} {k : Int} (h : RCo w r F m n) (hn : n < 3518437208880) : Calls Try.prog 73 #[ptrV r, .int .i64 k] w (LendPostR w r F m k (n + 1)) := by
  have hrec := rrecord_any (k := k) h (by unfold manyN; omega)
  obtain ⟨la, lc, pe, rfl, h⟩ := h
  unfold recV at hrec
  cases hp : m.per k with
  | none =>
    rw [(rec_none hp).1, (rec_none hp).2] at hrec
    have hE : m.lendErr k = 12 := by unfold CoM.lendErr; rw [hp]
    have HP : Hid (∀ w2, Below w.heap.size w w2 → LendPostR w r (rfF r la) m k (n + 1) (.returned (.tuple #[.int .i64 0, .int .i64 0, .int .i64 12])) (w2.alloc (.cells #[.int .i64 0, .int .i64 0, .int .i64 0] 74))) := hid fun w2 hb2 => LendPostR.bad h hE (by simp) (hb2.alloc hb2.size _)
    generalize LendPostR w r (rfF r la) m k (n + 1) = P at *
    clear h hp hE
    unfold ptrV at *
    go_enter Try.func73, Try.ntmps73
    go_wp2_with (go_at_call 27; refine hrec.mono ?_; rintro e w2 ⟨rfl, hb2⟩)
    go_ret3
    exact HP.out w2 hb2
  | some p =>
    rw [(rec_some hp).1, (rec_some hp).2] at hrec
    dsimp only at hrec
    obtain ⟨q1, q2, q3, q4, q5, q6, q7⟩ := h.ok.pr k p hp
    obtain ⟨kn, ek⟩ : ∃ kn : Nat, k = (kn : Int) := ⟨k.toNat, by omega⟩
    have hk17 : kn < 17 := by omega
    have hr := h.rl kn (by omega) (by omega)
    rw [← ek, hp] at hr
    have hlen := h.ok.len
    have hu1 := h.ok.u1
    have hq8 : m.left k p ≤ 1000000000 := by unfold CoM.left; omega
    have HX : Hid (∀ w2 (x y z : Int), Below w.heap.size w w2 → PRef (w2.alloc (.cells #[.int .i64 x, .int .i64 y, .int .i64 z] 74)) r la lc m pe n ∧ PeC (w2.alloc (.cells #[.int .i64 x, .int .i64 y, .int .i64 z] 74)) r kn (pe kn) ∧ (w2.alloc (.cells #[.int .i64 x, .int .i64 y, .int .i64 z] 74)).cell? ⟨w2.heap.size, 0, none⟩ = some (.int .i64 x) ∧ Below w.heap.size w (w2.alloc (.cells #[.int .i64 x, .int .i64 y, .int .i64 z] 74))) := hid fun w2 x y z hb2 => by
      have hb := hb2.alloc hb2.size (.cells #[.int .i64 x, .int .i64 y, .int .i64 z] 74)
      have hR := h.kept (Kept.of_below (S := []) hb) (by simp)
      exact ⟨hR, hR.pec hk17, (at_alloc w2 74 [.int .i64 x, .int .i64 y, .int .i64 z]).cell 0, hb⟩
    rcases hr.st q4 with ⟨s0, t0, t1, t4⟩ | ⟨s0, t0, t1, t2, t3, t4⟩ | ⟨s0, t0, t1, t2, t3, t4⟩
    · have hE : m.lendErr k = 9 := by unfold CoM.lendErr; rw [hp]; simp [s0]
      have HP : Hid (∀ w2, Below w.heap.size w w2 → LendPostR w r (rfF r la) m k (n + 1) (.returned (.tuple #[.int .i64 0, .int .i64 0, .int .i64 9])) w2) := hid fun w2 hb2 => LendPostR.bad h hE (by simp) hb2
      generalize LendPostR w r (rfF r la) m k (n + 1) = P at *
      generalize m.left k p = A0 at *
      generalize m.lent k = A1 at *
      generalize m.chgd k = A2 at *
      clear h hp hE hr q7
      subst ek
      unfold ptrV at *
      go_enter Try.func73, Try.ntmps73
      go_wp2_with (go_at_call 27; refine hrec.mono ?_; rintro e w2 ⟨rfl, hb2⟩; obtain ⟨-, hC, d0, hb3⟩ := HX.out w2 (A0 : Int) (A1 : Int) (A2 : Int) hb2; have c1 := hC.c1; have c2 := hC.c2; rw [t1] at c1; clear hC)
      go_ret3
      exact HP.out _ hb3
    · by_cases hL : m.left k p = 0
      · have hE : m.lendErr k = 11 := by unfold CoM.lendErr; rw [hp]; simp [s0, hL]
        have HP : Hid (∀ w2, Below w.heap.size w w2 → LendPostR w r (rfF r la) m k (n + 1) (.returned (.tuple #[.int .i64 0, .int .i64 0, .int .i64 11])) w2) := hid fun w2 hb2 => LendPostR.bad h hE (by simp) hb2
        rw [hL] at hrec
        generalize LendPostR w r (rfF r la) m k (n + 1) = P at *
        generalize m.lent k = A1 at *
        generalize m.chgd k = A2 at *
        clear h hp hE hr q7 hL hq8
        subst ek
        unfold ptrV at *
        go_enter Try.func73, Try.ntmps73
        go_wp2_with (go_at_call 27; refine hrec.mono ?_; rintro e w2 ⟨rfl, hb2⟩; obtain ⟨-, hC, d0, hb3⟩ := HX.out w2 0 (A1 : Int) (A2 : Int) hb2; have c1 := hC.c1; have c2 := hC.c2; rw [t1] at c1; rw [t2] at c2; clear hC)
        go_ret3
        exact HP.out _ hb3
      · have hle : m.lendErr k = 0 := by unfold CoM.lendErr; rw [hp]; simp [s0, hL]
        obtain ⟨X, eX⟩ : ∃ X, X = m.lendN k := ⟨_, rfl⟩
        have hX : X = min m.unit (m.left k p) := by rw [eX, CoM.lend_some hp]
        obtain ⟨i0, hi0, hz0, hz1, hz2⟩ := info_parts Try.infoLo
        have hok := h.ok.lend hle
        have hlm : m.lend k = { m with loans := m.loans ++ [⟨k, X, 0, 0, false⟩] } := by unfold CoM.lend; rw [eX]
        have HF : Hid (∀ wq, Below w.heap.size w wq → PRef wq r la lc m pe n → wq.cell? ⟨r, 0, none⟩ = some (.int .i64 (m.unit : Nat)) ∧ wq.cell? ⟨r, 86, none⟩ = some (.slice la m.loans.length lc) ∧ (wq.alloc (.cells #[.int .i64 k, .int .i64 (X : Int), .int .i64 0, .int .i64 0, .bool false] 147)).ownsRow 0 147 5 (.slice la m.loans.length lc) m.loans.length (cellsLo m.loans) ∧
            ∀ v' w', w'.ownsRow 0 147 5 v' (m.loans.length + 1) (cellsLo m.loans ++ [.int .i64 k, .int .i64 (X : Int), .int .i64 0, .int .i64 0, .bool false]) → (wq.alloc (.cells #[.int .i64 k, .int .i64 (X : Int), .int .i64 0, .int .i64 0, .bool false] 147)).grownBy w' (Value.slice la m.loans.length lc).ownBlock → (v'.ownBlock = (Value.slice la m.loans.length lc).ownBlock ∨ v'.ownBlock = some (wq.alloc (.cells #[.int .i64 k, .int .i64 (X : Int), .int .i64 0, .int .i64 0, .bool false] 147)).heap.size) →
            ∃ la' lc', v' = .slice la' (m.loans.length + 1) lc' ∧ w'.cell? ⟨r, 86, none⟩ = some (.slice la m.loans.length lc) ∧ w'.frozen? ⟨r, 86, none⟩ = false ∧ LendPostR w r (rfF r la) m k (n + 1) (.returned (.tuple #[.int .i64 ((m.loans.length : Int) + 1), .int .i64 (X : Int), .int .i64 0])) (w'.setCell ⟨r, 86, none⟩ (.slice la' (m.loans.length + 1) lc'))) := hid fun wq hbq hq => by
          refine ⟨hq.head.1, hq.head.2, World.ownsRow.alloc hq.ln _, fun v' w' g1 g2 g3 => ?_⟩
          obtain ⟨la', lc', rfl, -, -, hx⟩ := row_shape g1
          have hob : (Value.slice la m.loans.length lc).ownBlock.toList = (la.map (·.block)).toList := by cases la <;> rfl
          have hk : Kept (la.map (·.block)).toList wq w' := by
            rw [← hob]
            exact ((Kept.refl _ wq).alloc _).trans (Kept.grownR g2)
          have hrS : r ∉ (la.map (·.block)).toList := by
            cases la with
            | none => simp
            | some y => simpa using fun e => h.nb y rfl e.symm
          have hsz := hbq.size
          have hrl := At.lt h.hd
          have hl1 : ∀ y, la' = some y → la = some y ∨ w.heap.size ≤ y.block := fun y hy => by
            obtain ⟨g, rfl, h5⟩ := hx y hy
            rcases g3 with g3 | g3
            · rw [h5] at g3
              cases la with
              | none => simp [Value.ownBlock] at g3
              | some y' =>
                obtain ⟨g', rfl, _⟩ := h.addr rfl
                simp [Value.ownBlock] at g3
                subst g3
                exact .inl rfl
            · rw [h5] at g3
              simp at g3
              exact .inr (by show w.heap.size ≤ g; omega)
          have hnb' : ∀ y, la' = some y → y.block ≠ r := fun y hy => by
            rcases hl1 y hy with h6 | h6
            · exact h.nb y h6
            · omega
          have hd' := At.kept hq.hd hk hrS
          refine ⟨la', lc', rfl, FnA.cell (j := 86) hd' (by omega), At.free hd' 86, ?_⟩
          unfold LendPostR CoM.lendG CoM.lendX CoM.lent'
          rw [if_pos hle, if_pos hle, if_pos hle, hle, ← eX]
          refine ⟨by rw [show ((m.loans.length + 1 : Nat) : Int) = (m.loans.length : Int) + 1 by omega], ?_, rfF r la', ⟨la', lc', pe, rfl, ?_, ?_, hnb', h.rl, hok⟩, fun x hx => ?_⟩
          · refine Kept.setCell (p := ⟨r, 86, none⟩) ((Kept.of_below hbq).trans (hk.wider (fun y hy => List.mem_cons_of_mem _ hy))) (rfF_r r la) _
          · rw [hlm]
            show FnA _ 87 _ r (rcF (m.unit : Int) pe (.slice la' (m.loans ++ [_]).length lc'))
            rw [show (m.loans ++ [(⟨k, X, 0, 0, false⟩ : LnM)]).length = m.loans.length + 1 by simp]
            refine FnA.set hd' (fun i hi => ?_)
            unfold rcF
            by_cases e : i = 86
            · rw [if_neg (by omega), if_pos e, if_pos e]
            · rw [if_neg e, if_neg e, if_neg e]
          · rw [hlm]
            show World.ownsRow _ 0 _ 5 (.slice la' (m.loans ++ [_]).length lc') (m.loans ++ [_]).length (cellsLo (m.loans ++ [_]))
            rw [show (m.loans ++ [(⟨k, X, 0, 0, false⟩ : LnM)]).length = m.loans.length + 1 by simp, cellsLo_app]
            refine keptRow g1 (kept_setCell w' r 86 _) (fun g hg => ?_)
            cases hq2 : la' with
            | none => rw [hq2] at hg; simp [Value.ownBlock] at hg
            | some y =>
              obtain ⟨g', e1, h5⟩ := hx y hq2
              rw [hg] at h5
              have := hnb' y hq2
              rw [e1] at this
              simp at h5
              subst h5
              simpa using this
          · rcases rfF_mem hx with rfl | ⟨y, hy, rfl⟩
            · exact .inl (rfF_r _ _)
            · rcases hl1 y hy with h6 | h6
              · exact .inl (rfF_l h6)
              · exact .inr h6
        have HLM : Hid (m.loans.length + 1 ≤ maxLen) := hid (by unfold maxLen; omega)
        have HLN : Hid ((m.loans.length + 1) * 40 ≤ 140737488355328) := hid (by omega)
        have HI := hid hi0
        have HZ0 := hid hz0
        have HZ1 := hid hz1
        have HZ2 := hid hz2
        have HS : Hid (∀ (wz : World) (j : Nat) u, ([.int .i64 k, .int .i64 (X : Int), .int .i64 0, .int .i64 0, .bool false] : List Value)[j]? = some u → (wz.alloc (.cells #[.int .i64 k, .int .i64 (X : Int), .int .i64 0, .int .i64 0, .bool false] 147)).cell? ⟨wz.heap.size, j, none⟩ = some u) := hid fun wz j u hu => ((at_alloc wz 147 [.int .i64 k, .int .i64 (X : Int), .int .i64 0, .int .i64 0, .bool false]).cell j).trans hu
        have HON : Hid (∀ u ∈ ([.int .i64 k, .int .i64 (X : Int), .int .i64 0, .int .i64 0, .bool false] : List Value), u.oneCell' = true) := hid (by
          intro u hu
          simp at hu
          rcases hu with rfl | rfl | rfl | rfl <;> rfl)
        have hU : m.unit ≤ 1000000 := hu1.2
        have hl3 : m.loans.length ≤ 3518437208880 := by omega
        generalize LendPostR w r (rfF r la) m k (n + 1) = P at *
        generalize m.left k p = A0 at *
        generalize m.lent k = A1 at *
        generalize m.chgd k = A2 at *
        generalize cellsLo m.loans = CL at *
        generalize m.loans.length = LL at *
        generalize hUU : m.unit = U at *
        clear h hp hr q7 hle eX hlm hok hi0 hz0 hz1 hz2 hUU hlen
        subst ek
        unfold ptrV at *
        by_cases hUA : (A0 : Int) < (U : Int)
        · obtain rfl : X = A0 := by omega
          clear hX
          go_enter Try.func73, Try.ntmps73
          go_upto_region 11 with (go_at_call 27; refine hrec.mono ?_; rintro e w2 ⟨rfl, hb2⟩; obtain ⟨hR, hC, d0, hb3⟩ := HX.out w2 (X : Int) (A1 : Int) (A2 : Int) hb2; have c1 := hC.c1; have c2 := hC.c2; rw [t1] at c1; rw [t2] at c2; obtain ⟨y0, y1, ho2, hpp⟩ := HF.out _ hb3 hR; have HO2 := hid ho2; have HPP := hid hpp; clear hC hR ho2 hpp HX HF hrec)
          generalize w2.alloc (.cells #[.int .i64 (X : Int), .int .i64 (A1 : Int), .int .i64 (A2 : Int)] 74) = wq at *
          go_wp2_with (at_builtin; refine wpList_pushR 0 wq.heap.size Try.underlying65 HI.out HZ0.out HZ1.out HZ2.out rfl (by decide) HO2.out rfl _ _ rfl rfl rfl rfl (HS.out wq) HON.out HLM.out HLN.out (Nat.zero_le _) ?_; intro v7 w7 ho7 hg7 hl7; obtain ⟨la', lc', rfl, k2, kf, hp7⟩ := HPP.out _ _ ho7 hg7 hl7; have HP7 := hid hp7; clear ho7 hg7 hl7 hp7)
          go_ret3
          exact HP7.out
        · obtain rfl : X = U := by omega
          clear hX
          go_enter Try.func73, Try.ntmps73
          go_upto_region 11 with (go_at_call 27; refine hrec.mono ?_; rintro e w2 ⟨rfl, hb2⟩; obtain ⟨hR, hC, d0, hb3⟩ := HX.out w2 (A0 : Int) (A1 : Int) (A2 : Int) hb2; have c1 := hC.c1; have c2 := hC.c2; rw [t1] at c1; rw [t2] at c2; obtain ⟨y0, y1, ho2, hpp⟩ := HF.out _ hb3 hR; have HO2 := hid ho2; have HPP := hid hpp; clear hC hR ho2 hpp HX HF hrec)
          generalize w2.alloc (.cells #[.int .i64 (A0 : Int), .int .i64 (A1 : Int), .int .i64 (A2 : Int)] 74) = wq at *
          go_wp2_with (at_builtin; refine wpList_pushR 0 wq.heap.size Try.underlying65 HI.out HZ0.out HZ1.out HZ2.out rfl (by decide) HO2.out rfl _ _ rfl rfl rfl rfl (HS.out wq) HON.out HLM.out HLN.out (Nat.zero_le _) ?_; intro v7 w7 ho7 hg7 hl7; obtain ⟨la', lc', rfl, k2, kf, hp7⟩ := HPP.out _ _ ho7 hg7 hl7; have HP7 := hid hp7; clear ho7 hg7 hl7 hp7)
          go_ret3
          exact HP7.out
    · have hE : m.lendErr k = 9 := by unfold CoM.lendErr; rw [hp]; simp [s0]
      have HP : Hid (∀ w2, Below w.heap.size w w2 → LendPostR w r (rfF r la) m k (n + 1) (.returned (.tuple #[.int .i64 0, .int .i64 0, .int .i64 9])) w2) := hid fun w2 hb2 => LendPostR.bad h hE (by simp) hb2
      generalize LendPostR w r (rfF r la) m k (n + 1) = P at *
      generalize m.left k p = A0 at *
      generalize m.lent k = A1 at *
      generalize m.chgd k = A2 at *
      clear h hp hE hr q7
      subst ek
      unfold ptrV at *
      go_enter Try.func73, Try.ntmps73
      go_wp2_with (go_at_call 27; refine hrec.mono ?_; rintro e w2 ⟨rfl, hb2⟩; obtain ⟨-, hC, d0, hb3⟩ := HX.out w2 (A0 : Int) (A1 : Int) (A2 : Int) hb2; have c1 := hC.c1; have c2 := hC.c2; rw [t1] at c1; rw [t2] at c2; clear hC)
      go_ret3
      exact HP.out _ hb3
end Go.Proofs.Ytcnkcbipkchoiag
