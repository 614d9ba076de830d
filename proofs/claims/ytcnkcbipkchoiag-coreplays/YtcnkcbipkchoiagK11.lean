import Derived.Test.YtcnkcbipkchoiagK10
namespace Go.Proofs.Ytcnkcbipkchoiag
open Go.ChangeShapes Go.WideShapes Go.ChangeAt Go.RowKit Go.Maps
theorem Try.zeroMI (w : World) : (zeroValue 3).run Try.prog w = .ok (.int .i64 0) w := by kernel_rfl
def joinN (N : CoN) (k : Int) (s : Nat) : CoN := ⟨N.bu, N.ga, N.gc, fun j => if j = k then s + 1 else N.ub j, fun j => if j = k then s else N.mb j⟩
theorem opV_none {k : Int} {ls : List LnM} (h : ∀ l ∈ ls, l.who ≠ k) (g : Int) : opV k ls g = none := by
  unfold opV
  rw [if_neg]
  rintro ⟨h1, h2, h3, -⟩
  have hi : g.toNat - 1 < ls.length := by omega
  refine h (ls.getD (g.toNat - 1) .zero) ?_ h3
  rw [List.getD_eq_getElem?_getD, List.getElem?_eq_getElem hi]
  exact List.getElem_mem hi
theorem getD_memL {ls : List LnM} {i : Nat} (h : i < ls.length) : ls.getD i .zero ∈ ls := by
  rw [List.getD_eq_getElem?_getD, List.getElem?_eq_getElem h]
  exact List.getElem_mem h
theorem PCore.joins {w w' : World} {c : Nat} {N : CoN} {m : CoM} {n : Nat} {k q : Int} (h : PCore w c N m n) (hp : m.per k = none) (hw : 1 ≤ k ∧ k ≤ 16) (hq : 0 ≤ q ∧ q ≤ 1000000000)
    (hI : IMap w' N.bu (n + 1) (updI (usV N m) k (some (ptrV (w.heap.size + 1))))) (hk : Kept [N.bu] ((w.alloc (.map #[] 0)).alloc (.cells #[.int .i64 q, .int .i64 0, .int .i64 0, .int .i64 0, .int .i64 0, .map (some w.heap.size)] 145)) w') :
    PCore w' c (joinN N k w.heap.size) (m.put k ⟨q.toNat, 0, 0⟩) (n + 1) ∧ Grown w.heap.size (coF c N m) (coF c (joinN N k w.heap.size) (m.put k ⟨q.toNat, 0, 0⟩)) ∧ Kept (coF c N m) w w' := by
  obtain ⟨a1, a2, a3⟩ := h.apart
  have hfr := h.ok.fresh hp
  have hs : (w.alloc (.map #[] 0)).heap.size = w.heap.size + 1 := World.size_alloc _ _
  have k1 : Kept [N.bu] w w' := (((Kept.refl _ w).alloc _).alloc _).trans hk
  have hne : ∀ j p, m.per j = some p → j ≠ k := fun j p hj e => by rw [e, hp] at hj; cases hj
  have hold : ∀ j p, (m.put k ⟨q.toNat, 0, 0⟩).per j = some p → j ≠ k → m.per j = some p := fun j p hj e => by rw [CoM.put_at, if_neg e] at hj; exact hj
  have hbl := h.us.lt
  have hA0 := at_alloc (w.alloc (.map #[] 0)) 145 [.int .i64 q, .int .i64 0, .int .i64 0, .int .i64 0, .int .i64 0, .map (some w.heap.size)]
  rw [hs] at hA0
  have hA := hA0.kept hk (by simp; omega)
  have hM : IMap w' w.heap.size 0 (fun _ => none) := ((IMap.made w).kept (S := []) ((Kept.refl _ _).alloc _) (by simp)).kept hk (by simp; omega)
  refine ⟨⟨h.hd.kept k1 (by simpa using fun e => a1 e.symm), ?_, fun j p hj => ?_, fun j p hj => ?_, ?_, fun i j p r hi hj e => ?_, fun i j p r hi hj e => ?_, fun j p hj => ?_, ?_⟩, fun x hx => ?_, k1.wider (by simpa using coF_b _ _ _)⟩
  · refine hI.congr fun j => ?_
    unfold usV updI joinN
    rw [CoM.put_at]
    by_cases e : j = k
    · simp [e]
    · simp [e]
  · by_cases e : j = k
    · subst e
      rw [CoM.put_at, if_pos rfl] at hj
      injection hj with hj
      subst hj
      have e1 : (joinN N j w.heap.size).ub j = w.heap.size + 1 := if_pos rfl
      have e2 : (joinN N j w.heap.size).mb j = w.heap.size := if_pos rfl
      rw [e1]
      have : userRow (joinN N j w.heap.size) (m.put j ⟨q.toNat, 0, 0⟩) j ⟨q.toNat, 0, 0⟩ = [.int .i64 q, .int .i64 0, .int .i64 0, .int .i64 0, .int .i64 0, .map (some w.heap.size)] := by
        unfold userRow CoM.left
        rw [e2, (CoM.put_lent m j j _).1, (CoM.put_lent m j j _).2, hfr.1, hfr.2]
        have : ((q.toNat - 0 - 0 : Nat) : Int) = q := by omega
        rw [this]
        rfl
      rw [this]
      exact hA
    · have hj' := hold j p hj e
      have e1 : (joinN N k w.heap.size).ub j = N.ub j := if_neg e
      have e2 : (joinN N k w.heap.size).mb j = N.mb j := if_neg e
      have : userRow (joinN N k w.heap.size) (m.put k ⟨q.toNat, 0, 0⟩) j p = userRow N m j p := by
        unfold userRow
        rw [e2]
        rfl
      rw [e1, this]
      exact (h.ur j p hj').kept k1 (by simpa using (a3 j p hj').2.1)
  · by_cases e : j = k
    · subst e
      have e2 : (joinN N j w.heap.size).mb j = w.heap.size := if_pos rfl
      rw [e2]
      refine (hM.mono (by omega)).congr fun g => ?_
      exact opV_none (fun l hl el => by
        obtain ⟨⟨q, h1⟩, _⟩ := h.ok.ln l hl
        exact hne _ _ h1 el) g
    · have hj' := hold j p hj e
      have e2 : (joinN N k w.heap.size).mb j = N.mb j := if_neg e
      rw [e2]
      exact ((h.op j p hj').kept k1 (by simpa using (a3 j p hj').2.2.2.1)).mono (by omega)
  · have : cellsLn (joinN N k w.heap.size).ub m.loans = cellsLn N.ub m.loans := cellsLn_congr rfl fun i hi => by
      obtain ⟨⟨q, h1⟩, _⟩ := h.ok.ln _ (getD_memL hi)
      unfold LnM.cells
      rw [show (joinN N k w.heap.size).ub (m.loans.getD i .zero).who = N.ub (m.loans.getD i .zero).who from if_neg (hne _ _ h1)]
    show w'.ownsRow 0 _ 2 (.slice N.ga m.loans.length N.gc) m.loans.length (cellsLn (joinN N k w.heap.size).ub m.loans)
    rw [this]
    refine keptRow h.gr k1 (fun g hg => ?_)
    cases hgq : N.ga with
    | none => rw [hgq] at hg; simp [Value.ownBlock] at hg
    | some y =>
      obtain ⟨cur, he, -⟩ := h.gblock hgq
      rw [hgq, he] at hg
      simp [Value.ownBlock] at hg
      have := (a2 y hgq).2
      rw [← hg]
      simpa using this
  · by_cases ei : i = k
    · by_cases ej : j = k
      · rw [ei, ej]
      · have hj' := hold j r hj ej
        have l2 := (h.ur j r hj').lt
        rw [show (joinN N k w.heap.size).ub i = w.heap.size + 1 from if_pos ei, show (joinN N k w.heap.size).ub j = N.ub j from if_neg ej] at e
        omega
    · have hi' := hold i p hi ei
      have l1 := (h.ur i p hi').lt
      by_cases ej : j = k
      · rw [show (joinN N k w.heap.size).ub j = w.heap.size + 1 from if_pos ej, show (joinN N k w.heap.size).ub i = N.ub i from if_neg ei] at e
        omega
      · have hj' := hold j r hj ej
        rw [show (joinN N k w.heap.size).ub j = N.ub j from if_neg ej, show (joinN N k w.heap.size).ub i = N.ub i from if_neg ei] at e
        exact h.ui i j p r hi' hj' e
  · by_cases ei : i = k
    · by_cases ej : j = k
      · rw [ei, ej]
      · have hj' := hold j r hj ej
        have l2 := (h.op j r hj').lt
        rw [show (joinN N k w.heap.size).mb i = w.heap.size from if_pos ei, show (joinN N k w.heap.size).mb j = N.mb j from if_neg ej] at e
        omega
    · have hi' := hold i p hi ei
      have l1 := (h.op i p hi').lt
      by_cases ej : j = k
      · rw [show (joinN N k w.heap.size).mb j = w.heap.size from if_pos ej, show (joinN N k w.heap.size).mb i = N.mb i from if_neg ei] at e
        omega
      · have hj' := hold j r hj ej
        rw [show (joinN N k w.heap.size).mb j = N.mb j from if_neg ej, show (joinN N k w.heap.size).mb i = N.mb i from if_neg ei] at e
        exact h.mi i j p r hi' hj' e
  · by_cases ej : j = k
    · rw [show (joinN N k w.heap.size).mb j = w.heap.size from if_pos ej]
      show w.heap.size ≠ N.bu
      omega
    · rw [show (joinN N k w.heap.size).mb j = N.mb j from if_neg ej]
      exact h.mn j p (hold j p hj ej)
  · refine (h.ok.put hw ⟨?_, by simp, by simp, by simp, ?_⟩).mono (by omega)
    · show q.toNat ≤ _
      omega
    · rw [hfr.1, hfr.2]
      omega
  · rcases coF_mem hx with rfl | rfl | ⟨y, hy, rfl⟩ | ⟨j, p, hj, e⟩
    · exact .inl (coF_c _ _ _)
    · exact .inl (coF_b _ _ _)
    · exact .inl (coF_g hy)
    · by_cases ej : j = k
      · rcases e with rfl | rfl
        · rw [show (joinN N k w.heap.size).ub j = w.heap.size + 1 from if_pos ej]
          exact .inr (by omega)
        · rw [show (joinN N k w.heap.size).mb j = w.heap.size from if_pos ej]
          exact .inr (Nat.le_refl _)
      · have hj' := hold j p hj ej
        rcases e with rfl | rfl
        · rw [show (joinN N k w.heap.size).ub j = N.ub j from if_neg ej]
          exact .inl (coF_u h.ok hj').1
        · rw [show (joinN N k w.heap.size).mb j = N.mb j from if_neg ej]
          exact .inl (coF_u h.ok hj').2
/-- A core, whatever its blocks are called. -/
def PCo (w : World) (c : Nat) (F : List Nat) (m : CoM) (n : Nat) : Prop := ∃ N, F = coF c N m ∧ PCore w c N m n
def StepC (w : World) (c : Nat) (F : List Nat) (r : CoR) (n : Nat) : Ending → World → Prop := fun e w' => e = .returned (.int .i64 r.err) ∧ Kept F w w' ∧ ∃ F', PCo w' c F' r.m n ∧ Grown w.heap.size F F'
def manyN : Nat := 8796093022208
set_option maxRecDepth 100000 in
set_option maxHeartbeats 1000000 in
theorem cjoin_any {w : World} {c : Nat} {F : List Nat} {m : CoM} {n : Nat} {k : Int} (q : Int) (h : PCo w c F m n) (hk : In64 k) (hn : n ≤ manyN) : Calls Try.prog 31 #[ptrV c, .int .i64 k, .int .i64 q] w (StepC w c F (m.join k q) (n + 1)) := by
  obtain ⟨N, rfl, h⟩ := h
  have c1 := h.head.2.1
  have hbad : ∀ E, E ≠ 0 → m.joinErr k q = E → StepC w c (coF c N m) (m.join k q) (n + 1) (.returned (.int .i64 E)) w := fun E hE he => by
    have : m.join k q = ⟨m, E⟩ := by unfold CoM.join; rw [he, if_neg hE]
    rw [this]
    exact ⟨rfl, Kept.refl _ _, _, ⟨N, rfl, h.mono (by omega)⟩, fun x hx => .inl hx⟩
  by_cases hc : 1 ≤ k ∧ k ≤ 16 ∧ 0 ≤ q ∧ q ≤ 1000000000
  · cases hp : m.per k with
    | some p =>
      have HP := hid (hbad 10 (by simp) (by unfold CoM.joinErr; rw [if_pos hc, hp]))
      have hl := h.find hk (x := ptrV (N.ub k)) (by simp [usV, hp])
      obtain ⟨g1, g2, g3, g4⟩ := hc
      generalize StepC w c (coF c N m) (m.join k q) (n + 1) = P at *
      generalize N.ub k = ub at *
      clear h hbad hp hk
      unfold ptrV at *
      go_enter Try.func31, Try.ntmps31
      go_wp2
      exact HP.out
    | none =>
      have hl := h.find hk (x := .pointer none) (by simp [usV, hp])
      have he : m.joinErr k q = 0 := by unfold CoM.joinErr; rw [if_pos hc, hp]
      have hj : m.join k q = ⟨m.put k ⟨q.toNat, 0, 0⟩, 0⟩ := by unfold CoM.join; rw [if_pos he]
      have hI := (h.us.kept (S := []) (((Kept.refl _ w).alloc (.map #[] 0)).alloc (.cells #[.int .i64 q, .int .i64 0, .int .i64 0, .int .i64 0, .int .i64 0, .map (some w.heap.size)] 145)) (by simp)).put (by unfold maxLen; unfold manyN at hn; omega) hk Try.underlying133 (ptrV (w.heap.size + 1)) (n + 1) (by split <;> omega)
      obtain ⟨w', hrun, hI', hk'⟩ := hI
      have HP : Hid (StepC w c (coF c N m) (m.join k q) (n + 1) (.returned (.int .i64 0)) w') := hid (by
        obtain ⟨j1, j2, j3⟩ := h.joins hp ⟨hc.1, hc.2.1⟩ hc.2.2 hI' hk'
        rw [hj]
        exact ⟨rfl, j3, _, ⟨_, rfl, j1⟩, j2⟩)
      have hmm := run_make_mapC 84
      have cl : ((w.alloc (.map #[] 0)).alloc (.cells #[.int .i64 q, .int .i64 0, .int .i64 0, .int .i64 0, .int .i64 0, .map (some w.heap.size)] 145)).heap.size = w.heap.size + 2 := by simp
      obtain ⟨g1, g2, g3, g4⟩ := hc
      generalize StepC w c (coF c N m) (m.join k q) (n + 1) = P at *
      clear h hbad hp hk he hj hI' hk' cl
      unfold ptrV at *
      go_enter Try.func31, Try.ntmps31
      go_wp2
      exact HP.out
  · have HP := hid (hbad 1 (by simp) (by unfold CoM.joinErr; rw [if_neg hc]))
    generalize StepC w c (coF c N m) (m.join k q) (n + 1) = P at *
    clear h hbad hk
    unfold ptrV at *
    by_cases g1 : k < 1
    · clear hc
      go_enter Try.func31, Try.ntmps31
      go_wp2
      exact HP.out
    · by_cases g2 : 16 < k
      · clear hc
        go_enter Try.func31, Try.ntmps31
        go_wp2
        exact HP.out
      · by_cases g3 : q < 0
        · clear hc
          go_enter Try.func31, Try.ntmps31
          go_wp2
          exact HP.out
        · have g4 : 1000000000 < q := by omega
          clear hc
          go_enter Try.func31, Try.ntmps31
          go_wp2
          exact HP.out
end Go.Proofs.Ytcnkcbipkchoiag
