import Derived.Test.YtcnkcbipkchoiagK11
namespace Go.Proofs.Ytcnkcbipkchoiag
open Go.ChangeShapes Go.WideShapes Go.ChangeAt Go.RowKit Go.Maps
set_option maxHeartbeats 1000000 in
theorem cgive_any {w : World} {b : Nat} {L0 L1 x : Int} {v2 v3 v4 v5 : Value} (hA : At w b 145 [.int .i64 L0, .int .i64 L1, v2, v3, v4, v5]) (h0 : 0 ≤ L0 ∧ L0 ≤ 1000000000) (h1 : 0 ≤ L1 ∧ L1 ≤ 1000000000) (hx : 0 ≤ x ∧ x ≤ L1) :
    Calls Try.prog 122 #[ptrV b, .int .i64 x] w fun e w' => e = .returned (.tuple #[]) ∧ At w' b 145 [.int .i64 (L0 + x), .int .i64 (L1 - x), v2, v3, v4, v5] ∧ Kept [b] w w' := by
  have c0 : w.cell? ⟨b, 0, none⟩ = some (.int .i64 L0) := hA.cell 0
  have c1 : w.cell? ⟨b, 1, none⟩ = some (.int .i64 L1) := hA.cell 1
  have f0 := hA.free 0
  have f1 := hA.free 1
  have HP : Hid (At ((w.setCell ⟨b, 1, none⟩ (.int .i64 (L1 - x))).setCell ⟨b, 0, none⟩ (.int .i64 (L0 + x))) b 145 [.int .i64 (L0 + x), .int .i64 (L1 - x), v2, v3, v4, v5]) := hid ((hA.setCell (o := 1) (.int .i64 (L1 - x))).setCell (o := 0) (.int .i64 (L0 + x)))
  have HK : Hid (Kept [b] w ((w.setCell ⟨b, 1, none⟩ (.int .i64 (L1 - x))).setCell ⟨b, 0, none⟩ (.int .i64 (L0 + x)))) := hid (((Kept.refl _ w).setCell (by simp) _).setCell (by simp) _)
  clear hA
  unfold ptrV
  go_enter Try.func122, Try.ntmps122
  go_wp2
  first | go_end0 | skip
  exact ⟨rfl, HP.out, HK.out⟩
set_option maxHeartbeats 1000000 in
theorem ccloseAll_any {w : World} {b : Nat} {L0 L1 : Int} {v2 v3 v4 v5 : Value} (hA : At w b 145 [.int .i64 L0, .int .i64 L1, v2, v3, v4, v5]) (h0 : 0 ≤ L0 ∧ L0 ≤ 1000000000) (h1 : 0 ≤ L1 ∧ L1 ≤ 1000000000) :
    Calls Try.prog 85 #[ptrV b] w fun e w' => e = .returned (.tuple #[]) ∧ ∃ g, w.heap.size ≤ g ∧ At w' b 145 [.int .i64 (L0 + L1), .int .i64 0, v2, v3, v4, .map (some g)] ∧ IMap w' g 0 (fun _ => none) ∧ Kept [b] w w' := by
  have hg := cgive_any hA h0 h1 (x := L1) (by omega)
  have c1 : w.cell? ⟨b, 1, none⟩ = some (.int .i64 L1) := hA.cell 1
  have hbl := hA.lt
  rw [show L1 - L1 = 0 by omega] at hg
  have HF : Hid (∀ w1, At w1 b 145 [.int .i64 (L0 + L1), .int .i64 0, v2, v3, v4, v5] → Kept [b] w w1 → w1.frozen? ⟨b, 5, none⟩ = false ∧ (w1.alloc (.map #[] 0)).cell? ⟨b, 5, none⟩ = some v5 ∧ (w1.alloc (.map #[] 0)).frozen? ⟨b, 5, none⟩ = false ∧ (w.heap.size ≤ w1.heap.size ∧ At ((w1.alloc (.map #[] 0)).setCell ⟨b, 5, none⟩ (.map (some w1.heap.size))) b 145 [.int .i64 (L0 + L1), .int .i64 0, v2, v3, v4, .map (some w1.heap.size)] ∧ IMap ((w1.alloc (.map #[] 0)).setCell ⟨b, 5, none⟩ (.map (some w1.heap.size))) w1.heap.size 0 (fun _ => none) ∧ Kept [b] w ((w1.alloc (.map #[] 0)).setCell ⟨b, 5, none⟩ (.map (some w1.heap.size))))) := hid fun w1 h1 hk1 => by
    have h2 := h1.kept (S := []) ((Kept.refl _ w1).alloc (.map #[] 0)) (by simp)
    have := h1.lt
    refine ⟨h1.free 5, h2.cell 5, h2.free 5, hk1.size, h2.setCell (o := 5) _, ?_, (hk1.alloc _).setCell (by simp) _⟩
    exact (IMap.made w1).kept (S := [b]) ((Kept.refl _ _).setCell (by simp) _) (by simp; omega)
  have hmm := run_make_mapC 84
  clear hA
  unfold ptrV at *
  go_enter Try.func85, Try.ntmps85
  go_wp2_with (go_at_call 122; refine hg.mono ?_; rintro e w1 ⟨rfl, hA1, hk1⟩; obtain ⟨f5, c5', f5', hP⟩ := HF.out w1 hA1 hk1)
  first | go_end0 | skip
  exact ⟨rfl, w1.heap.size, hP⟩
theorem opV_shut (k j : Int) (ls : List LnM) : opV j (shutL k ls) = if j = k then (fun _ => none) else opV j ls := by
  funext g
  by_cases hg : 1 ≤ g ∧ g ≤ (ls.length : Int)
  · have hi : g.toNat - 1 < ls.length := by omega
    have e := shutL_at (who := k) hi
    unfold opV
    rw [e, shutL_len]
    by_cases hw : (ls.getD (g.toNat - 1) .zero).who = k
    · rw [if_pos hw]
      by_cases hj : j = k
      · rw [if_pos hj, if_neg (by simp)]
      · rw [if_neg hj, if_neg (by simp), if_neg]
        rintro ⟨-, -, h3, -⟩
        exact hj (by rw [← h3, hw])
    · rw [if_neg hw]
      by_cases hj : j = k
      · rw [if_pos hj, if_neg]
        rintro ⟨-, -, h3, -⟩
        exact hw (by rw [h3, hj])
      · rw [if_neg hj]
  · unfold opV
    rw [if_neg (by rw [shutL_len]; rintro ⟨h1, h2, -⟩; exact hg ⟨h1, h2⟩)]
    split
    · rfl
    · show none = if _ then _ else _
      rw [if_neg (by rintro ⟨h1, h2, -⟩; exact hg ⟨h1, h2⟩)]
def leaveN (N : CoN) (k : Int) (g : Nat) : CoN := ⟨N.bu, N.ga, N.gc, N.ub, fun j => if j = k then g else N.mb j⟩
theorem PCore.leaves {w w' : World} {c : Nat} {N : CoN} {m : CoM} {n g : Nat} {k : Int} {p : PrM} (h : PCore w c N m n) (hp : m.per k = some p) (ht : tNot 0 p = true) (hk : Kept [N.ub k] w w') (hg : w.heap.size ≤ g) (hI : IMap w' g 0 (fun _ => none))
    (hA : At w' (N.ub k) 145 [.int .i64 ((m.left k p : Nat) + (m.lent k : Nat)), .int .i64 0, .int .i64 (m.chgd k : Nat), .int .i64 0, .int .i64 0, .map (some g)]) :
    PCore w' c (leaveN N k g) (m.leave k).m n ∧ Grown w.heap.size (coF c N m) (coF c (leaveN N k g) (m.leave k).m) := by
  have hok := h.ok.leave k
  have e : (m.leave k).m = { m.put k ⟨p.quota, 0, 0⟩ with loans := shutL k m.loans } := by unfold CoM.leave; rw [hp]; simp [ht]
  rw [e] at hok ⊢
  obtain ⟨a1, a2, a3⟩ := h.apart
  obtain ⟨b1, b2, b3, b4, b5, b6⟩ := a3 k p hp
  obtain ⟨q1, q2, q3, q4, q5, q6, q7⟩ := h.ok.pr k p hp
  have e2 : (leaveN N k g).mb k = g := if_pos rfl
  refine ⟨h.next (N' := leaveN N k g) hp hk (fun x hx => .inr (.inr (.inl (by simpa using hx)))) rfl rfl (fun j hj => if_neg hj) (.inr (by rw [e2]; exact hg)) (fun j => rfl) (fun j hj => ⟨?_, ?_, ?_⟩) ?_ ?_ ?_ ?_ hok (Nat.le_refl _), coF_next h hp rfl rfl (fun j hj => if_neg hj) (.inr (by rw [e2]; exact hg)) (fun j => rfl) (fun y hy => .inl hy)⟩
  · show lentL j (shutL k m.loans) = _
    rw [shutL_lent, if_neg hj]
    rfl
  · exact shutL_used j k m.loans
  · show opV j (shutL k m.loans) = _
    rw [opV_shut, if_neg hj]
  · show At w' c _ [.int .i64 (m.unit : Int), .map (some N.bu), .slice N.ga (shutL k m.loans).length N.gc]
    rw [shutL_len]
    exact h.hd.kept hk (by simpa using fun e => b1 e.symm)
  · have hl : (shutL k m.loans) = (shutL k m.loans) := rfl
    have : userRow (leaveN N k g) { m.put k ⟨p.quota, 0, 0⟩ with loans := shutL k m.loans } k ⟨p.quota, 0, 0⟩ = [.int .i64 ((m.left k p : Nat) + (m.lent k : Nat)), .int .i64 0, .int .i64 (m.chgd k : Nat), .int .i64 0, .int .i64 0, .map (some g)] := by
      unfold userRow CoM.left
      rw [e2]
      have u1 : CoM.lent { m.put k ⟨p.quota, 0, 0⟩ with loans := shutL k m.loans } k = 0 := by
        show lentL k (shutL k m.loans) = 0
        rw [shutL_lent, if_pos rfl]
      have u2 : CoM.chgd { m.put k ⟨p.quota, 0, 0⟩ with loans := shutL k m.loans } k = m.chgd k := shutL_used k k m.loans
      rw [u1, u2]
      have : ((p.quota - 0 - m.chgd k : Nat) : Int) = ((p.quota - m.lent k - m.chgd k : Nat) : Int) + (m.lent k : Nat) := by omega
      rw [this]
      rfl
    rw [this]
    exact hA
  · rw [e2]
    show IMap w' g n (opV k (shutL k m.loans))
    rw [opV_shut, if_pos rfl]
    exact hI.mono (Nat.zero_le _)
  · show w'.ownsRow 0 _ 2 (.slice N.ga (shutL k m.loans).length N.gc) (shutL k m.loans).length (cellsLn N.ub (shutL k m.loans))
    have : cellsLn N.ub (shutL k m.loans) = cellsLn N.ub m.loans := cellsLn_congr (shutL_len _ _) fun i hi => by
      rw [shutL_at hi]
      split <;> rfl
    rw [this, shutL_len]
    refine keptRow h.gr hk (fun g hg => ?_)
    cases hgq : N.ga with
    | none => rw [hgq] at hg; simp [Value.ownBlock] at hg
    | some y =>
      obtain ⟨cur, he, -⟩ := h.gblock hgq
      rw [hgq, he] at hg
      simp [Value.ownBlock] at hg
      have := (b5 y hgq).1
      rw [← hg]
      simpa using fun e => this e.symm
set_option maxRecDepth 100000 in
set_option maxHeartbeats 1000000 in
theorem cleave_any {w : World} {c : Nat} {F : List Nat} {m : CoM} {n : Nat} {k : Int} (h : PCo w c F m n) (hk : In64 k) : Calls Try.prog 35 #[ptrV c, .int .i64 k] w (StepC w c F (m.leave k) n) := by
  obtain ⟨N, rfl, h⟩ := h
  have hi := cisNot_any 0 w
  have hb2 : Below w.heap.size w (w.alloc (.cells #[.int .i64 0] 141)) := (Below.refl _ w).alloc (Nat.le_refl _) _
  have hr : Rd .i64 (w.alloc (.cells #[.int .i64 0] 141)) none [] := Rd.nil _ _ _
  have hc0 : (w.alloc (.cells #[.int .i64 0] 141)).cell? ⟨w.heap.size, 0, none⟩ = some (.int .i64 ((0 : Nat) : Int)) := cell_oneC w _ 0
  have h2 := h.kept (Kept.of_below (S := []) hb2) (by simp)
  have ha := caskNot (cc := 0) h2 hk (asks_isNot (s := 0) hc0) hr (by simp)
  have he : (m.leave k).err = m.askErr k (tNot 0) [] := by
    unfold CoM.leave CoM.askErr
    cases m.per k with
    | none => rfl
    | some p => by_cases ht : tNot 0 p = true <;> simp [ht]
  by_cases hE : m.askErr k (tNot 0) [] = 0
  · obtain ⟨p, hp, hcs, ht⟩ := CoM.ask_some hE
    have hV : askV N m k (tNot 0) [] = ptrV (N.ub k) := by unfold askV; rw [if_pos hE]
    rw [hV, hE] at ha
    obtain ⟨q1, q2, q3, q4, q5, q6, q7⟩ := h.ok.pr k p hp
    have hcl : Hid (∀ w3, Below (w.alloc (.cells #[.int .i64 0] 141)).heap.size (w.alloc (.cells #[.int .i64 0] 141)) w3 → Calls Try.prog 85 #[ptrV (N.ub k)] w3 fun e w' => e = .returned (.tuple #[]) ∧ UsC w' (N.ub k) ∧ StepC w c (coF c N m) (m.leave k) n (.returned (.int .i64 0)) ((w'.setCell ⟨N.ub k, 3, none⟩ (.int .i64 0)).setCell ⟨N.ub k, 4, none⟩ (.int .i64 0))) := hid fun w3 hb3 => by
      have hb := bthen hb2 hb3
      have h3 := h.kept (Kept.of_below (S := []) hb) (by simp)
      have hA := h3.ur k p hp
      have hl0 : (0 : Int) ≤ (m.left k p : Nat) ∧ ((m.left k p : Nat) : Int) ≤ 1000000000 := by unfold CoM.left; omega
      have hl1 : (0 : Int) ≤ (m.lent k : Nat) ∧ ((m.lent k : Nat) : Int) ≤ 1000000000 := by omega
      refine (ccloseAll_any hA hl0 hl1).mono ?_
      rintro e w' ⟨rfl, g, hg, hA', hI', hk'⟩
      refine ⟨rfl, ⟨⟨_, hA'.cell 3⟩, ⟨_, hA'.cell 4⟩, hA'.free 3, hA'.free 4⟩, by rw [he, hE], ?_, ?_⟩
      · exact (((Kept.of_below hb).trans (hk'.wider (by simpa using (coF_u h.ok hp).1))).setCell (coF_u h.ok hp).1 _).setCell (coF_u h.ok hp).1 _
      · have hA2 := (hA'.setCell (o := 3) (.int .i64 0)).setCell (o := 4) (.int .i64 0)
        have hI2 := hI'.kept (S := [N.ub k]) (((Kept.refl _ w').setCell (p := ⟨N.ub k, 3, none⟩) (by simp) (.int .i64 0)).setCell (p := ⟨N.ub k, 4, none⟩) (by simp) (.int .i64 0)) (by have := (h3.ur k p hp).lt; simp; omega)
        obtain ⟨r1, r2⟩ := h3.leaves hp ht ((hk'.setCell (p := ⟨N.ub k, 3, none⟩) (by simp) (.int .i64 0)).setCell (p := ⟨N.ub k, 4, none⟩) (by simp) (.int .i64 0)) hg hI2 hA2
        refine ⟨_, ⟨_, rfl, r1⟩, fun x hx => ?_⟩
        rcases r2 x hx with r | r
        · exact .inl r
        · exact .inr (Nat.le_trans hb.size r)
    generalize StepC w c (coF c N m) (m.leave k) n = P at *
    generalize N.ub k = ub at *
    clear h h2 hr hc0 he hE hp hcs ht hV
    unfold ptrV AskV at *
    go_enter Try.func35, Try.ntmps35
    go_wp2_with (first
      | (go_at_call 78; refine hi.mono ?_; rintro e w1 ⟨rfl, rfl⟩)
      | (go_at_call 77; refine ha.mono ?_; rintro e w3 ⟨rfl, hb3⟩)
      | (go_at_call 85; refine (hcl.out _ hb3).mono ?_; rintro e w4 ⟨rfl, hU, hP⟩; have u3 := hU.c3; have u4 := hU.c4; have f3 := hU.f3; have f4 := hU.f4; obtain ⟨V3, u3⟩ := u3; obtain ⟨V4, u4⟩ := u4))
    exact hP
  · have hV : askV N m k (tNot 0) [] = .pointer none := by unfold askV; rw [if_neg hE]
    have hm' : (m.leave k).m = m := by
      unfold CoM.leave
      unfold CoM.askErr at hE
      cases hp : m.per k with
      | none => rfl
      | some p =>
        rw [hp] at hE
        by_cases ht : tNot 0 p = true
        · simp [ht] at hE
        · simp [ht]
    rw [hV] at ha
    have HF : Hid (∀ w3, Below (w.alloc (.cells #[.int .i64 0] 141)).heap.size (w.alloc (.cells #[.int .i64 0] 141)) w3 → StepC w c (coF c N m) (m.leave k) n (.returned (.int .i64 (m.askErr k (tNot 0) []))) w3) := hid fun w3 hb3 => by
      refine ⟨by rw [he], Kept.of_below (bthen hb2 hb3), coF c N m, ?_, fun x hx => .inl hx⟩
      rw [hm']
      exact ⟨N, rfl, h.kept (Kept.of_below (S := []) (bthen hb2 hb3)) (by simp)⟩
    generalize StepC w c (coF c N m) (m.leave k) n = P at *
    generalize m.askErr k (tNot 0) [] = E at *
    clear h h2 hr hc0 he hV hm'
    unfold ptrV AskV at *
    go_enter Try.func35, Try.ntmps35
    go_wp2_with (first
      | (go_at_call 78; refine hi.mono ?_; rintro e w1 ⟨rfl, rfl⟩)
      | (go_at_call 77; refine ha.mono ?_; rintro e w3 ⟨rfl, hb3⟩))
    exact HF.out w3 hb3
/-- The four moves in this form. -/
theorem PCo.moved {w : World} {c : Nat} {N : CoN} {m : CoM} {n : Nat} {k : Int} {t : PrM → Bool} {cs : List Int} {f : PrM → PrM} (h : PCore w c N m n) {e : Ending} {w' : World} (hm : MovePost w c N (m.move k t cs f) n (coF c N m) e w') : StepC w c (coF c N m) (m.move k t cs f) n e w' := by
  obtain ⟨h1, h2, h3⟩ := hm
  refine ⟨h1, h3, _, ⟨N, rfl, h2⟩, ?_⟩
  by_cases hE : m.askErr k t cs = 0
  · obtain ⟨p, hp, hcs, ht⟩ := CoM.ask_some hE
    rw [CoM.move_good hp hcs ht]
    exact coF_next h hp rfl rfl (fun _ _ => rfl) (.inl rfl) (fun j => rfl) (fun y hy => .inl hy)
  · rw [CoM.move_bad hE]
    exact fun x hx => .inl hx
theorem cattach_co {w : World} {c : Nat} {F : List Nat} {m : CoM} {n : Nat} {k : Int} (x : Int) (h : PCo w c F m n) (hk : In64 k) : Calls Try.prog 32 #[ptrV c, .int .i64 k, .int .i64 x] w (StepC w c F (m.attach k x) n) := by
  obtain ⟨N, rfl, h⟩ := h
  exact (cattach_any x h hk).mono fun e w' hm => PCo.moved h hm
theorem cwake_co {w : World} {c : Nat} {F : List Nat} {m : CoM} {n : Nat} {k : Int} (x : Int) (h : PCo w c F m n) (hk : In64 k) : Calls Try.prog 69 #[ptrV c, .int .i64 k, .int .i64 x] w (StepC w c F (m.wake k x) n) := by
  obtain ⟨N, rfl, h⟩ := h
  exact (cwake_any x h hk).mono fun e w' hm => PCo.moved h hm
theorem csleep_co {w : World} {c : Nat} {F : List Nat} {m : CoM} {n : Nat} {k : Int} (h : PCo w c F m n) (hk : In64 k) : Calls Try.prog 48 #[ptrV c, .int .i64 k] w (StepC w c F (m.sleep k) n) := by
  obtain ⟨N, rfl, h⟩ := h
  exact (csleep_any h hk).mono fun e w' hm => PCo.moved h hm
theorem chand_co {w : World} {c : Nat} {F : List Nat} {m : CoM} {n : Nat} {k : Int} (a b : Int) (h : PCo w c F m n) (hk : In64 k) : Calls Try.prog 71 #[ptrV c, .int .i64 k, .int .i64 a, .int .i64 b] w (StepC w c F (m.hand k a b) n) := by
  obtain ⟨N, rfl, h⟩ := h
  exact (chand_any a b h hk).mono fun e w' hm => PCo.moved h hm
end Go.Proofs.Ytcnkcbipkchoiag
