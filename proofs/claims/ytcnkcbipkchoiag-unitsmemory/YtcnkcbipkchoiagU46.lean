import Derived.Test.YtcnkcbipkchoiagU45
namespace Go.Proofs.Ytcnkcbipkchoiag
open Go.ChangeShapes Go.WideShapes Go.ChangeAt Go.RowKit Go.Maps
theorem rd_one (w : World) (T : TypeId) (x : Int) : Rd .i64 (w.alloc (.cells #[.int .i64 x] T)) (some ⟨w.heap.size, 0, none⟩) [x] := rd_block (zs := [x]) (heap_alloc_new w (.cells #[.int .i64 x] T))
theorem cell_oneC (w : World) (T : TypeId) (x : Int) : (w.alloc (.cells #[.int .i64 x] T)).cell? ⟨w.heap.size, 0, none⟩ = some (.int .i64 x) := (at_alloc w T [.int .i64 x]).cell 0
/-- Where somebody is: cells that may be written. -/
structure UsC (w : World) (b : Nat) : Prop where
  c3 : ∃ v, w.cell? ⟨b, 3, none⟩ = some v
  c4 : ∃ v, w.cell? ⟨b, 4, none⟩ = some v
  f3 : w.frozen? ⟨b, 3, none⟩ = false
  f4 : w.frozen? ⟨b, 4, none⟩ = false
theorem UsC.of {w : World} {b : Nat} {N : CoN} {m : CoM} {k : Int} {p : PrM} {T : TypeId} (h : At w b T (userRow N m k p)) : UsC w b := ⟨⟨_, h.cell 3⟩, ⟨_, h.cell 4⟩, h.free 3, h.free 4⟩
set_option maxRecDepth 100000 in
set_option maxHeartbeats 1000000 in
theorem cattach_any {w : World} {c : Nat} {N : CoN} {m : CoM} {n : Nat} {k : Int} (x : Int) (h : PCore w c N m n) (hk : In64 k) : Calls Try.prog 32 #[ptrV c, .int .i64 k, .int .i64 x] w (MovePost w c N (m.attach k x) n (coF c N m)) := by
  have hi := cis_any 0 w
  have hs : (w.alloc (.cells #[.int .i64 0] 141)).heap.size = w.heap.size + 1 := World.size_alloc _ _
  have hb2 : Below w.heap.size w ((w.alloc (.cells #[.int .i64 0] 141)).alloc (.cells #[.int .i64 x] 3)) := ((Below.refl _ w).alloc (Nat.le_refl _) _).alloc (by simp) _
  have hr : Rd .i64 ((w.alloc (.cells #[.int .i64 0] 141)).alloc (.cells #[.int .i64 x] 3)) (some ⟨w.heap.size + 1, 0, none⟩) [x] := by
    have := rd_one (w.alloc (.cells #[.int .i64 0] 141)) 3 x
    rwa [hs] at this
  have hc0 : ((w.alloc (.cells #[.int .i64 0] 141)).alloc (.cells #[.int .i64 x] 3)).cell? ⟨w.heap.size, 0, none⟩ = some (.int .i64 ((0 : Nat) : Int)) := (World.cell?_alloc_past _ _ _ (by rw [hs]; omega)).trans (cell_oneC w _ 0)
  have h2 := h.kept (Kept.of_below (S := []) hb2) (by simp)
  have ha := caskIs (cc := 1) h2 hk (asks_is (s := 0) hc0) hr (by simp)
  have he : (m.attach k x).err = m.askErr k (tIs 0) [x] := CoM.move_err _ _ _ _ _
  by_cases hE : m.askErr k (tIs 0) [x] = 0
  · obtain ⟨p, hp, hcs, ht⟩ := CoM.ask_some hE
    have hV : askV N m k (tIs 0) [x] = ptrV (N.ub k) := by unfold askV; rw [if_pos hE]
    have hx := okCell_iff.1 (show okCell x = true by simpa using hcs)
    have hok := h.ok.attach k x
    have hm' : (m.attach k x).m = m.put k ⟨p.quota, 1, x.toNat⟩ := CoM.move_good hp hcs ht
    rw [hV, hE] at ha
    have HF : Hid (∀ w3, Below ((w.alloc (.cells #[.int .i64 0] 141)).alloc (.cells #[.int .i64 x] 3)).heap.size ((w.alloc (.cells #[.int .i64 0] 141)).alloc (.cells #[.int .i64 x] 3)) w3 → UsC w3 (N.ub k) ∧ MovePost w c N (m.attach k x) n (coF c N m) (.returned (.int .i64 0)) ((w3.setCell ⟨N.ub k, 3, none⟩ (.int .i64 1)).setCell ⟨N.ub k, 4, none⟩ (.int .i64 x))) := hid fun w3 hb3 => by
      have hb := bthen hb2 hb3
      have h3 := h.kept (Kept.of_below (S := []) hb) (by simp)
      have hA := h3.ur k p hp
      refine ⟨UsC.of hA, by rw [he, hE], ?_, ?_⟩
      · rw [hm'] at hok ⊢
        refine h3.place hp (((Kept.refl _ w3).setCell (by simp) _).setCell (by simp) _) ?_ hok
        have := ((hA.setCell (o := 3) (.int .i64 1)).setCell (o := 4) (.int .i64 x))
        have e : x = ((x.toNat : Nat) : Int) := by omega
        rw [show userRow N m k ⟨p.quota, 1, x.toNat⟩ = (((userRow N m k p).set 3 (.int .i64 1)).set 4 (.int .i64 x)) by
          conv => rhs; rw [e]
          rfl]
        exact this
      · exact (((Kept.of_below hb).setCell (coF_u h.ok hp).1 _).setCell (coF_u h.ok hp).1 _)
    generalize MovePost w c N (m.attach k x) n (coF c N m) = P at *
    generalize N.ub k = ub at *
    clear h h2 hr hc0 he hE hp hcs ht hV hok hm'
    unfold ptrV AskV at *
    go_enter Try.func32, Try.ntmps32
    go_wp2_with (first
      | (go_at_call 80; refine hi.mono ?_; rintro e w1 ⟨rfl, rfl⟩)
      | (go_at_call 77; refine ha.mono ?_; rintro e w3 ⟨rfl, hb3⟩; obtain ⟨hU, hP⟩ := HF.out w3 hb3; have u3 := hU.c3; have u4 := hU.c4; have f3 := hU.f3; have f4 := hU.f4; obtain ⟨V3, u3⟩ := u3; obtain ⟨V4, u4⟩ := u4))
    exact hP
  · have hV : askV N m k (tIs 0) [x] = .pointer none := by unfold askV; rw [if_neg hE]
    have hm' : (m.attach k x).m = m := CoM.move_bad hE
    rw [hV] at ha
    have HF : Hid (∀ w3, Below ((w.alloc (.cells #[.int .i64 0] 141)).alloc (.cells #[.int .i64 x] 3)).heap.size ((w.alloc (.cells #[.int .i64 0] 141)).alloc (.cells #[.int .i64 x] 3)) w3 → MovePost w c N (m.attach k x) n (coF c N m) (.returned (.int .i64 (m.askErr k (tIs 0) [x]))) w3) := hid fun w3 hb3 => by
      refine ⟨by rw [he], ?_, Kept.of_below (bthen hb2 hb3)⟩
      rw [hm']
      exact h.kept (Kept.of_below (S := []) (bthen hb2 hb3)) (by simp)
    generalize MovePost w c N (m.attach k x) n (coF c N m) = P at *
    generalize m.askErr k (tIs 0) [x] = E at *
    clear h h2 hr hc0 he hV hm'
    unfold ptrV AskV at *
    go_enter Try.func32, Try.ntmps32
    go_wp2_with (first
      | (go_at_call 80; refine hi.mono ?_; rintro e w1 ⟨rfl, rfl⟩)
      | (go_at_call 77; refine ha.mono ?_; rintro e w3 ⟨rfl, hb3⟩))
    exact HF.out w3 hb3
set_option maxRecDepth 100000 in
set_option maxHeartbeats 1000000 in
theorem csleep_any {w : World} {c : Nat} {N : CoN} {m : CoM} {n : Nat} {k : Int} (h : PCore w c N m n) (hk : In64 k) : Calls Try.prog 48 #[ptrV c, .int .i64 k] w (MovePost w c N (m.sleep k) n (coF c N m)) := by
  have hi := cis_any 1 w
  have hs : (w.alloc (.cells #[.int .i64 1] 141)).heap.size = w.heap.size + 1 := World.size_alloc _ _
  have hb2 : Below w.heap.size w (w.alloc (.cells #[.int .i64 1] 141)) := (Below.refl _ w).alloc (Nat.le_refl _) _
  have hr : Rd .i64 (w.alloc (.cells #[.int .i64 1] 141)) none [] := Rd.nil _ _ _
  have hc0 : (w.alloc (.cells #[.int .i64 1] 141)).cell? ⟨w.heap.size, 0, none⟩ = some (.int .i64 ((1 : Nat) : Int)) := cell_oneC w _ 1
  have h2 := h.kept (Kept.of_below (S := []) hb2) (by simp)
  have ha := caskIs (cc := 0) h2 hk (asks_is (s := 1) hc0) hr (by simp)
  have he : (m.sleep k).err = m.askErr k (tIs 1) [] := CoM.move_err _ _ _ _ _
  by_cases hE : m.askErr k (tIs 1) [] = 0
  · obtain ⟨p, hp, hcs, ht⟩ := CoM.ask_some hE
    have hV : askV N m k (tIs 1) [] = ptrV (N.ub k) := by unfold askV; rw [if_pos hE]
    have hok := h.ok.sleep k
    have hm' : (m.sleep k).m = m.put k ⟨p.quota, 2, p.cell⟩ := CoM.move_good hp hcs ht
    rw [hV, hE] at ha
    have HF : Hid (∀ w3, Below (w.alloc (.cells #[.int .i64 1] 141)).heap.size (w.alloc (.cells #[.int .i64 1] 141)) w3 → UsC w3 (N.ub k) ∧ MovePost w c N (m.sleep k) n (coF c N m) (.returned (.int .i64 0)) (w3.setCell ⟨N.ub k, 3, none⟩ (.int .i64 2))) := hid fun w3 hb3 => by
      have hb := bthen hb2 hb3
      have h3 := h.kept (Kept.of_below (S := []) hb) (by simp)
      have hA := h3.ur k p hp
      refine ⟨UsC.of hA, by rw [he, hE], ?_, ?_⟩
      · rw [hm'] at hok ⊢
        refine h3.place hp ((Kept.refl _ w3).setCell (by simp) _) ?_ hok
        have := (hA.setCell (o := 3) (.int .i64 2))
        exact this
      · exact ((Kept.of_below hb).setCell (coF_u h.ok hp).1 _)
    generalize MovePost w c N (m.sleep k) n (coF c N m) = P at *
    generalize N.ub k = ub at *
    clear h h2 hr hc0 he hE hp hcs ht hV hok hm'
    unfold ptrV AskV at *
    go_enter Try.func48, Try.ntmps48
    go_wp2_with (first
      | (go_at_call 80; refine hi.mono ?_; rintro e w1 ⟨rfl, rfl⟩)
      | (go_at_call 77; refine ha.mono ?_; rintro e w3 ⟨rfl, hb3⟩; obtain ⟨hU, hP⟩ := HF.out w3 hb3; have u3 := hU.c3; have u4 := hU.c4; have f3 := hU.f3; have f4 := hU.f4; obtain ⟨V3, u3⟩ := u3; obtain ⟨V4, u4⟩ := u4))
    exact hP
  · have hV : askV N m k (tIs 1) [] = .pointer none := by unfold askV; rw [if_neg hE]
    have hm' : (m.sleep k).m = m := CoM.move_bad hE
    rw [hV] at ha
    have HF : Hid (∀ w3, Below (w.alloc (.cells #[.int .i64 1] 141)).heap.size (w.alloc (.cells #[.int .i64 1] 141)) w3 → MovePost w c N (m.sleep k) n (coF c N m) (.returned (.int .i64 (m.askErr k (tIs 1) []))) w3) := hid fun w3 hb3 => by
      refine ⟨by rw [he], ?_, Kept.of_below (bthen hb2 hb3)⟩
      rw [hm']
      exact h.kept (Kept.of_below (S := []) (bthen hb2 hb3)) (by simp)
    generalize MovePost w c N (m.sleep k) n (coF c N m) = P at *
    generalize m.askErr k (tIs 1) [] = E at *
    clear h h2 hr hc0 he hV hm'
    unfold ptrV AskV at *
    go_enter Try.func48, Try.ntmps48
    go_wp2_with (first
      | (go_at_call 80; refine hi.mono ?_; rintro e w1 ⟨rfl, rfl⟩)
      | (go_at_call 77; refine ha.mono ?_; rintro e w3 ⟨rfl, hb3⟩))
    exact HF.out w3 hb3
end Go.Proofs.Ytcnkcbipkchoiag
namespace Go.Proofs.Ytcnkcbipkchoiag
open Go.ChangeShapes Go.WideShapes Go.ChangeAt Go.RowKit Go.Maps
def joinN (N : CoN) (k : Int) (s : Nat) : CoN := ⟨N.bu, N.ga, N.gc, fun j => if j = k then s + 1 else N.ub j, fun j => if j = k then s else N.mb j⟩
theorem opV_none {k : Int} {ls : List LnM} (h : ∀ l ∈ ls, l.who ≠ k) (g : Int) : opV k ls g = none := by
  unfold opV
  rw [if_neg]
  rintro ⟨h1, h2, h3, -⟩
  have hi : g.toNat - 1 < ls.length := by omega
  refine h (ls.getD (g.toNat - 1) .zero) ?_ h3
  rw [List.getD_eq_getElem?_getD, List.getElem?_eq_getElem hi]
  exact List.getElem_mem hi
theorem getD_memL {ls : List LnM} {i : Nat} (h : i < ls.length) : ls.getD i .zero ∈ ls := by
  rw [List.getD_eq_getElem?_getD, List.getElem?_eq_getElem h]
  exact List.getElem_mem h
theorem PCore.joins {w w' : World} {c : Nat} {N : CoN} {m : CoM} {n : Nat} {k q : Int} (h : PCore w c N m n) (hp : m.per k = none) (hw : 1 ≤ k ∧ k ≤ 16) (hq : 0 ≤ q ∧ q ≤ 1000000000)
    (hI : IMap w' N.bu (n + 1) (updI (usV N m) k (some (ptrV (w.heap.size + 1))))) (hk : Kept [N.bu] ((w.alloc (.map #[] 0)).alloc (.cells #[.int .i64 q, .int .i64 0, .int .i64 0, .int .i64 0, .int .i64 0, .map (some w.heap.size)] 145)) w') :
    PCore w' c (joinN N k w.heap.size) (m.put k ⟨q.toNat, 0, 0⟩) (n + 1) ∧ Grown w.heap.size (coF c N m) (coF c (joinN N k w.heap.size) (m.put k ⟨q.toNat, 0, 0⟩)) ∧ Kept (coF c N m) w w' := by
  obtain ⟨a1, a2, a3⟩ := h.apart
  have hfr := h.ok.fresh hp
  have hs : (w.alloc (.map #[] 0)).heap.size = w.heap.size + 1 := World.size_alloc _ _
  have k1 : Kept [N.bu] w w' := (((Kept.refl _ w).alloc _).alloc _).trans hk
  have hne : ∀ j p, m.per j = some p → j ≠ k := fun j p hj e => by rw [e, hp] at hj; cases hj
  have hold : ∀ j p, (m.put k ⟨q.toNat, 0, 0⟩).per j = some p → j ≠ k → m.per j = some p := fun j p hj e => by rw [CoM.put_at, if_neg e] at hj; exact hj
  have hbl := h.us.lt
  have hA0 := at_alloc (w.alloc (.map #[] 0)) 145 [.int .i64 q, .int .i64 0, .int .i64 0, .int .i64 0, .int .i64 0, .map (some w.heap.size)]
  rw [hs] at hA0
  have hA := hA0.kept hk (by simp; omega)
  have hM : IMap w' w.heap.size 0 (fun _ => none) := ((IMap.made w).kept (S := []) ((Kept.refl _ _).alloc _) (by simp)).kept hk (by simp; omega)
  refine ⟨⟨h.hd.kept k1 (by simpa using fun e => a1 e.symm), ?_, fun j p hj => ?_, fun j p hj => ?_, ?_, fun i j p r hi hj e => ?_, fun i j p r hi hj e => ?_, fun j p hj => ?_, ?_⟩, fun x hx => ?_, k1.wider (by simpa using coF_b _ _ _)⟩
  · refine hI.congr fun j => ?_
    unfold usV updI joinN
    rw [CoM.put_at]
    by_cases e : j = k
    · simp [e]
    · simp [e]
  · by_cases e : j = k
    · subst e
      rw [CoM.put_at, if_pos rfl] at hj
      injection hj with hj
      subst hj
      have e1 : (joinN N j w.heap.size).ub j = w.heap.size + 1 := if_pos rfl
      have e2 : (joinN N j w.heap.size).mb j = w.heap.size := if_pos rfl
      rw [e1]
      have : userRow (joinN N j w.heap.size) (m.put j ⟨q.toNat, 0, 0⟩) j ⟨q.toNat, 0, 0⟩ = [.int .i64 q, .int .i64 0, .int .i64 0, .int .i64 0, .int .i64 0, .map (some w.heap.size)] := by
        unfold userRow CoM.left
        rw [e2, (CoM.put_lent m j j _).1, (CoM.put_lent m j j _).2, hfr.1, hfr.2]
        have : ((q.toNat - 0 - 0 : Nat) : Int) = q := by omega
        rw [this]
        rfl
      rw [this]
      exact hA
    · have hj' := hold j p hj e
      have e1 : (joinN N k w.heap.size).ub j = N.ub j := if_neg e
      have e2 : (joinN N k w.heap.size).mb j = N.mb j := if_neg e
      have : userRow (joinN N k w.heap.size) (m.put k ⟨q.toNat, 0, 0⟩) j p = userRow N m j p := by
        unfold userRow
        rw [e2]
        rfl
      rw [e1, this]
      exact (h.ur j p hj').kept k1 (by simpa using (a3 j p hj').2.1)
  · by_cases e : j = k
    · subst e
      have e2 : (joinN N j w.heap.size).mb j = w.heap.size := if_pos rfl
      rw [e2]
      refine (hM.mono (by omega)).congr fun g => ?_
      exact opV_none (fun l hl el => by
        obtain ⟨⟨q, h1⟩, _⟩ := h.ok.ln l hl
        exact hne _ _ h1 el) g
    · have hj' := hold j p hj e
      have e2 : (joinN N k w.heap.size).mb j = N.mb j := if_neg e
      rw [e2]
      exact ((h.op j p hj').kept k1 (by simpa using (a3 j p hj').2.2.2.1)).mono (by omega)
  · have : cellsLn (joinN N k w.heap.size).ub m.loans = cellsLn N.ub m.loans := cellsLn_congr rfl fun i hi => by
      obtain ⟨⟨q, h1⟩, _⟩ := h.ok.ln _ (getD_memL hi)
      unfold LnM.cells
      rw [show (joinN N k w.heap.size).ub (m.loans.getD i .zero).who = N.ub (m.loans.getD i .zero).who from if_neg (hne _ _ h1)]
    show w'.ownsRow 0 _ 2 (.slice N.ga m.loans.length N.gc) m.loans.length (cellsLn (joinN N k w.heap.size).ub m.loans)
    rw [this]
    refine keptRow h.gr k1 (fun g hg => ?_)
    cases hgq : N.ga with
    | none => rw [hgq] at hg; simp [Value.ownBlock] at hg
    | some y =>
      obtain ⟨cur, he, -⟩ := h.gblock hgq
      rw [hgq, he] at hg
      simp [Value.ownBlock] at hg
      have := (a2 y hgq).2
      rw [← hg]
      simpa using this
  · by_cases ei : i = k
    · by_cases ej : j = k
      · rw [ei, ej]
      · have hj' := hold j r hj ej
        have l2 := (h.ur j r hj').lt
        rw [show (joinN N k w.heap.size).ub i = w.heap.size + 1 from if_pos ei, show (joinN N k w.heap.size).ub j = N.ub j from if_neg ej] at e
        omega
    · have hi' := hold i p hi ei
      have l1 := (h.ur i p hi').lt
      by_cases ej : j = k
      · rw [show (joinN N k w.heap.size).ub j = w.heap.size + 1 from if_pos ej, show (joinN N k w.heap.size).ub i = N.ub i from if_neg ei] at e
        omega
      · have hj' := hold j r hj ej
        rw [show (joinN N k w.heap.size).ub j = N.ub j from if_neg ej, show (joinN N k w.heap.size).ub i = N.ub i from if_neg ei] at e
        exact h.ui i j p r hi' hj' e
  · by_cases ei : i = k
    · by_cases ej : j = k
      · rw [ei, ej]
      · have hj' := hold j r hj ej
        have l2 := (h.op j r hj').lt
        rw [show (joinN N k w.heap.size).mb i = w.heap.size from if_pos ei, show (joinN N k w.heap.size).mb j = N.mb j from if_neg ej] at e
        omega
    · have hi' := hold i p hi ei
      have l1 := (h.op i p hi').lt
      by_cases ej : j = k
      · rw [show (joinN N k w.heap.size).mb j = w.heap.size from if_pos ej, show (joinN N k w.heap.size).mb i = N.mb i from if_neg ei] at e
        omega
      · have hj' := hold j r hj ej
        rw [show (joinN N k w.heap.size).mb j = N.mb j from if_neg ej, show (joinN N k w.heap.size).mb i = N.mb i from if_neg ei] at e
        exact h.mi i j p r hi' hj' e
  · by_cases ej : j = k
    · rw [show (joinN N k w.heap.size).mb j = w.heap.size from if_pos ej]
      show w.heap.size ≠ N.bu
      omega
    · rw [show (joinN N k w.heap.size).mb j = N.mb j from if_neg ej]
      exact h.mn j p (hold j p hj ej)
  · refine (h.ok.put hw ⟨?_, by simp, by simp, by simp, ?_⟩).mono (by omega)
    · show q.toNat ≤ _
      omega
    · rw [hfr.1, hfr.2]
      omega
  · rcases coF_mem hx with rfl | rfl | ⟨y, hy, rfl⟩ | ⟨j, p, hj, e⟩
    · exact .inl (coF_c _ _ _)
    · exact .inl (coF_b _ _ _)
    · exact .inl (coF_g hy)
    · by_cases ej : j = k
      · rcases e with rfl | rfl
        · rw [show (joinN N k w.heap.size).ub j = w.heap.size + 1 from if_pos ej]
          exact .inr (by omega)
        · rw [show (joinN N k w.heap.size).mb j = w.heap.size from if_pos ej]
          exact .inr (Nat.le_refl _)
      · have hj' := hold j p hj ej
        rcases e with rfl | rfl
        · rw [show (joinN N k w.heap.size).ub j = N.ub j from if_neg ej]
          exact .inl (coF_u h.ok hj').1
        · rw [show (joinN N k w.heap.size).mb j = N.mb j from if_neg ej]
          exact .inl (coF_u h.ok hj').2
/-- A core, whatever its blocks are called. -/
def PCo (w : World) (c : Nat) (F : List Nat) (m : CoM) (n : Nat) : Prop := ∃ N, F = coF c N m ∧ PCore w c N m n
def StepC (w : World) (c : Nat) (F : List Nat) (r : CoR) (n : Nat) : Ending → World → Prop := fun e w' => e = .returned (.int .i64 r.err) ∧ Kept F w w' ∧ ∃ F', PCo w' c F' r.m n ∧ Grown w.heap.size F F'
def manyN : Nat := 8796093022208
set_option maxRecDepth 100000 in
set_option maxHeartbeats 1000000 in
theorem cjoin_any {w : World} {c : Nat} {F : List Nat} {m : CoM} {n : Nat} {k : Int} (q : Int) (h : PCo w c F m n) (hk : In64 k) (hn : n ≤ manyN) : Calls Try.prog 31 #[ptrV c, .int .i64 k, .int .i64 q] w (StepC w c F (m.join k q) (n + 1)) := by
  obtain ⟨N, rfl, h⟩ := h
  have c1 := h.head.2.1
  have hbad : ∀ E, E ≠ 0 → m.joinErr k q = E → StepC w c (coF c N m) (m.join k q) (n + 1) (.returned (.int .i64 E)) w := fun E hE he => by
    have : m.join k q = ⟨m, E⟩ := by unfold CoM.join; rw [he, if_neg hE]
    rw [this]
    exact ⟨rfl, Kept.refl _ _, _, ⟨N, rfl, h.mono (by omega)⟩, fun x hx => .inl hx⟩
  by_cases hc : 1 ≤ k ∧ k ≤ 16 ∧ 0 ≤ q ∧ q ≤ 1000000000
  · cases hp : m.per k with
    | some p =>
      have HP := hid (hbad 10 (by simp) (by unfold CoM.joinErr; rw [if_pos hc, hp]))
      have hl := h.find hk (x := ptrV (N.ub k)) (by simp [usV, hp])
      obtain ⟨g1, g2, g3, g4⟩ := hc
      generalize StepC w c (coF c N m) (m.join k q) (n + 1) = P at *
      generalize N.ub k = ub at *
      clear h hbad hp hk
      unfold ptrV at *
      go_enter Try.func31, Try.ntmps31
      go_wp2
      exact HP.out
    | none =>
      have hl := h.find hk (x := .pointer none) (by simp [usV, hp])
      have he : m.joinErr k q = 0 := by unfold CoM.joinErr; rw [if_pos hc, hp]
      have hj : m.join k q = ⟨m.put k ⟨q.toNat, 0, 0⟩, 0⟩ := by unfold CoM.join; rw [if_pos he]
      have hI := (h.us.kept (S := []) (((Kept.refl _ w).alloc (.map #[] 0)).alloc (.cells #[.int .i64 q, .int .i64 0, .int .i64 0, .int .i64 0, .int .i64 0, .map (some w.heap.size)] 145)) (by simp)).put (by unfold maxLen; unfold manyN at hn; omega) hk Try.underlying133 (ptrV (w.heap.size + 1)) (n + 1) (by split <;> omega)
      obtain ⟨w', hrun, hI', hk'⟩ := hI
      have HP : Hid (StepC w c (coF c N m) (m.join k q) (n + 1) (.returned (.int .i64 0)) w') := hid (by
        obtain ⟨j1, j2, j3⟩ := h.joins hp ⟨hc.1, hc.2.1⟩ hc.2.2 hI' hk'
        rw [hj]
        exact ⟨rfl, j3, _, ⟨_, rfl, j1⟩, j2⟩)
      have hmm := run_make_mapC 84
      have cl : ((w.alloc (.map #[] 0)).alloc (.cells #[.int .i64 q, .int .i64 0, .int .i64 0, .int .i64 0, .int .i64 0, .map (some w.heap.size)] 145)).heap.size = w.heap.size + 2 := by simp
      obtain ⟨g1, g2, g3, g4⟩ := hc
      generalize StepC w c (coF c N m) (m.join k q) (n + 1) = P at *
      clear h hbad hp hk he hj hI' hk' cl
      unfold ptrV at *
      go_enter Try.func31, Try.ntmps31
      go_wp2
      exact HP.out
  · have HP := hid (hbad 1 (by simp) (by unfold CoM.joinErr; rw [if_neg hc]))
    generalize StepC w c (coF c N m) (m.join k q) (n + 1) = P at *
    clear h hbad hk
    unfold ptrV at *
    by_cases g1 : k < 1
    · clear hc
      go_enter Try.func31, Try.ntmps31
      go_wp2
      exact HP.out
    · by_cases g2 : 16 < k
      · clear hc
        go_enter Try.func31, Try.ntmps31
        go_wp2
        exact HP.out
      · by_cases g3 : q < 0
        · clear hc
          go_enter Try.func31, Try.ntmps31
          go_wp2
          exact HP.out
        · have g4 : 1000000000 < q := by omega
          clear hc
          go_enter Try.func31, Try.ntmps31
          go_wp2
          exact HP.out
end Go.Proofs.Ytcnkcbipkchoiag
namespace Go.Proofs.Ytcnkcbipkchoiag
open Go.ChangeShapes Go.WideShapes Go.ChangeAt Go.RowKit Go.Maps
/-- The four moves in this form. -/
theorem PCo.moved {w : World} {c : Nat} {N : CoN} {m : CoM} {n : Nat} {k : Int} {t : PrM → Bool} {cs : List Int} {f : PrM → PrM} (h : PCore w c N m n) {e : Ending} {w' : World} (hm : MovePost w c N (m.move k t cs f) n (coF c N m) e w') : StepC w c (coF c N m) (m.move k t cs f) n e w' := by
  obtain ⟨h1, h2, h3⟩ := hm
  refine ⟨h1, h3, _, ⟨N, rfl, h2⟩, ?_⟩
  by_cases hE : m.askErr k t cs = 0
  · obtain ⟨p, hp, hcs, ht⟩ := CoM.ask_some hE
    rw [CoM.move_good hp hcs ht]
    exact coF_next h hp rfl rfl (fun _ _ => rfl) (.inl rfl) (fun j => rfl) (fun y hy => .inl hy)
  · rw [CoM.move_bad hE]
    exact fun x hx => .inl hx
theorem cattach_co {w : World} {c : Nat} {F : List Nat} {m : CoM} {n : Nat} {k : Int} (x : Int) (h : PCo w c F m n) (hk : In64 k) : Calls Try.prog 32 #[ptrV c, .int .i64 k, .int .i64 x] w (StepC w c F (m.attach k x) n) := by
  obtain ⟨N, rfl, h⟩ := h
  exact (cattach_any x h hk).mono fun e w' hm => PCo.moved h hm
theorem csleep_co {w : World} {c : Nat} {F : List Nat} {m : CoM} {n : Nat} {k : Int} (h : PCo w c F m n) (hk : In64 k) : Calls Try.prog 48 #[ptrV c, .int .i64 k] w (StepC w c F (m.sleep k) n) := by
  obtain ⟨N, rfl, h⟩ := h
  exact (csleep_any h hk).mono fun e w' hm => PCo.moved h hm
end Go.Proofs.Ytcnkcbipkchoiag
