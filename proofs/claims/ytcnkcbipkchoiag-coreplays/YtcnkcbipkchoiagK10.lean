import Derived.Test.YtcnkcbipkchoiagK09
namespace Go.Proofs.Ytcnkcbipkchoiag
open Go.ChangeShapes Go.WideShapes Go.ChangeAt Go.RowKit Go.Maps
theorem rd_one (w : World) (T : TypeId) (x : Int) : Rd .i64 (w.alloc (.cells #[.int .i64 x] T)) (some ⟨w.heap.size, 0, none⟩) [x] := rd_block (zs := [x]) (heap_alloc_new w (.cells #[.int .i64 x] T))
theorem rd_two (w : World) (T : TypeId) (x y : Int) : Rd .i64 (w.alloc (.cells #[.int .i64 x, .int .i64 y] T)) (some ⟨w.heap.size, 0, none⟩) [x, y] := rd_block (zs := [x, y]) (heap_alloc_new w (.cells #[.int .i64 x, .int .i64 y] T))
theorem cell_oneC (w : World) (T : TypeId) (x : Int) : (w.alloc (.cells #[.int .i64 x] T)).cell? ⟨w.heap.size, 0, none⟩ = some (.int .i64 x) := (at_alloc w T [.int .i64 x]).cell 0
/-- Where somebody is: cells that may be written. -/
structure UsC (w : World) (b : Nat) : Prop where
  c3 : ∃ v, w.cell? ⟨b, 3, none⟩ = some v
  c4 : ∃ v, w.cell? ⟨b, 4, none⟩ = some v
  f3 : w.frozen? ⟨b, 3, none⟩ = false
  f4 : w.frozen? ⟨b, 4, none⟩ = false
theorem UsC.of {w : World} {b : Nat} {N : CoN} {m : CoM} {k : Int} {p : PrM} {T : TypeId} (h : At w b T (userRow N m k p)) : UsC w b := ⟨⟨_, h.cell 3⟩, ⟨_, h.cell 4⟩, h.free 3, h.free 4⟩
set_option maxRecDepth 100000 in
set_option maxHeartbeats 1000000 in
theorem cattach_any {w : World} {c : Nat} {N : CoN} {m : CoM} {n : Nat} {k : Int} (x : Int) (h : PCore w c N m n) (hk : In64 k) : Calls Try.prog 32 #[ptrV c, .int .i64 k, .int .i64 x] w (MovePost w c N (m.attach k x) n (coF c N m)) := by
  have hi := cis_any 0 w
  have hs : (w.alloc (.cells #[.int .i64 0] 141)).heap.size = w.heap.size + 1 := World.size_alloc _ _
  have hb2 : Below w.heap.size w ((w.alloc (.cells #[.int .i64 0] 141)).alloc (.cells #[.int .i64 x] 3)) := ((Below.refl _ w).alloc (Nat.le_refl _) _).alloc (by simp) _
  have hr : Rd .i64 ((w.alloc (.cells #[.int .i64 0] 141)).alloc (.cells #[.int .i64 x] 3)) (some ⟨w.heap.size + 1, 0, none⟩) [x] := by
    have := rd_one (w.alloc (.cells #[.int .i64 0] 141)) 3 x
    rwa [hs] at this
  have hc0 : ((w.alloc (.cells #[.int .i64 0] 141)).alloc (.cells #[.int .i64 x] 3)).cell? ⟨w.heap.size, 0, none⟩ = some (.int .i64 ((0 : Nat) : Int)) := (World.cell?_alloc_past _ _ _ (by rw [hs]; omega)).trans (cell_oneC w _ 0)
  have h2 := h.kept (Kept.of_below (S := []) hb2) (by simp)
  have ha := caskIs (cc := 1) h2 hk (asks_is (s := 0) hc0) hr (by simp)
  have he : (m.attach k x).err = m.askErr k (tIs 0) [x] := CoM.move_err _ _ _ _ _
  by_cases hE : m.askErr k (tIs 0) [x] = 0
  · obtain ⟨p, hp, hcs, ht⟩ := CoM.ask_some hE
    have hV : askV N m k (tIs 0) [x] = ptrV (N.ub k) := by unfold askV; rw [if_pos hE]
    have hx := okCell_iff.1 (show okCell x = true by simpa using hcs)
    have hok := h.ok.attach k x
    have hm' : (m.attach k x).m = m.put k ⟨p.quota, 1, x.toNat⟩ := CoM.move_good hp hcs ht
    rw [hV, hE] at ha
    have HF : Hid (∀ w3, Below ((w.alloc (.cells #[.int .i64 0] 141)).alloc (.cells #[.int .i64 x] 3)).heap.size ((w.alloc (.cells #[.int .i64 0] 141)).alloc (.cells #[.int .i64 x] 3)) w3 → UsC w3 (N.ub k) ∧ MovePost w c N (m.attach k x) n (coF c N m) (.returned (.int .i64 0)) ((w3.setCell ⟨N.ub k, 3, none⟩ (.int .i64 1)).setCell ⟨N.ub k, 4, none⟩ (.int .i64 x))) := hid fun w3 hb3 => by
      have hb := bthen hb2 hb3
      have h3 := h.kept (Kept.of_below (S := []) hb) (by simp)
      have hA := h3.ur k p hp
      refine ⟨UsC.of hA, by rw [he, hE], ?_, ?_⟩
      · rw [hm'] at hok ⊢
        refine h3.place hp (((Kept.refl _ w3).setCell (by simp) _).setCell (by simp) _) ?_ hok
        have := ((hA.setCell (o := 3) (.int .i64 1)).setCell (o := 4) (.int .i64 x))
        have e : x = ((x.toNat : Nat) : Int) := by omega
        rw [show userRow N m k ⟨p.quota, 1, x.toNat⟩ = (((userRow N m k p).set 3 (.int .i64 1)).set 4 (.int .i64 x)) by
          conv => rhs; rw [e]
          rfl]
        exact this
      · exact (((Kept.of_below hb).setCell (coF_u h.ok hp).1 _).setCell (coF_u h.ok hp).1 _)
    generalize MovePost w c N (m.attach k x) n (coF c N m) = P at *
    generalize N.ub k = ub at *
    clear h h2 hr hc0 he hE hp hcs ht hV hok hm'
    unfold ptrV AskV at *
    go_enter Try.func32, Try.ntmps32
    go_wp2_with (first
      | (go_at_call 80; refine hi.mono ?_; rintro e w1 ⟨rfl, rfl⟩)
      | (go_at_call 77; refine ha.mono ?_; rintro e w3 ⟨rfl, hb3⟩; obtain ⟨hU, hP⟩ := HF.out w3 hb3; have u3 := hU.c3; have u4 := hU.c4; have f3 := hU.f3; have f4 := hU.f4; obtain ⟨V3, u3⟩ := u3; obtain ⟨V4, u4⟩ := u4))
    exact hP
  · have hV : askV N m k (tIs 0) [x] = .pointer none := by unfold askV; rw [if_neg hE]
    have hm' : (m.attach k x).m = m := CoM.move_bad hE
    rw [hV] at ha
    have HF : Hid (∀ w3, Below ((w.alloc (.cells #[.int .i64 0] 141)).alloc (.cells #[.int .i64 x] 3)).heap.size ((w.alloc (.cells #[.int .i64 0] 141)).alloc (.cells #[.int .i64 x] 3)) w3 → MovePost w c N (m.attach k x) n (coF c N m) (.returned (.int .i64 (m.askErr k (tIs 0) [x]))) w3) := hid fun w3 hb3 => by
      refine ⟨by rw [he], ?_, Kept.of_below (bthen hb2 hb3)⟩
      rw [hm']
      exact h.kept (Kept.of_below (S := []) (bthen hb2 hb3)) (by simp)
    generalize MovePost w c N (m.attach k x) n (coF c N m) = P at *
    generalize m.askErr k (tIs 0) [x] = E at *
    clear h h2 hr hc0 he hV hm'
    unfold ptrV AskV at *
    go_enter Try.func32, Try.ntmps32
    go_wp2_with (first
      | (go_at_call 80; refine hi.mono ?_; rintro e w1 ⟨rfl, rfl⟩)
      | (go_at_call 77; refine ha.mono ?_; rintro e w3 ⟨rfl, hb3⟩))
    exact HF.out w3 hb3
set_option maxRecDepth 100000 in
set_option maxHeartbeats 1000000 in
theorem cwake_any {w : World} {c : Nat} {N : CoN} {m : CoM} {n : Nat} {k : Int} (x : Int) (h : PCore w c N m n) (hk : In64 k) : Calls Try.prog 69 #[ptrV c, .int .i64 k, .int .i64 x] w (MovePost w c N (m.wake k x) n (coF c N m)) := by
  have hi := cis_any 2 w
  have hs : (w.alloc (.cells #[.int .i64 2] 141)).heap.size = w.heap.size + 1 := World.size_alloc _ _
  have hb2 : Below w.heap.size w ((w.alloc (.cells #[.int .i64 2] 141)).alloc (.cells #[.int .i64 x] 3)) := ((Below.refl _ w).alloc (Nat.le_refl _) _).alloc (by simp) _
  have hr : Rd .i64 ((w.alloc (.cells #[.int .i64 2] 141)).alloc (.cells #[.int .i64 x] 3)) (some ⟨w.heap.size + 1, 0, none⟩) [x] := by
    have := rd_one (w.alloc (.cells #[.int .i64 2] 141)) 3 x
    rwa [hs] at this
  have hc0 : ((w.alloc (.cells #[.int .i64 2] 141)).alloc (.cells #[.int .i64 x] 3)).cell? ⟨w.heap.size, 0, none⟩ = some (.int .i64 ((2 : Nat) : Int)) := (World.cell?_alloc_past _ _ _ (by rw [hs]; omega)).trans (cell_oneC w _ 2)
  have h2 := h.kept (Kept.of_below (S := []) hb2) (by simp)
  have ha := caskIs (cc := 1) h2 hk (asks_is (s := 2) hc0) hr (by simp)
  have he : (m.wake k x).err = m.askErr k (tIs 2) [x] := CoM.move_err _ _ _ _ _
  by_cases hE : m.askErr k (tIs 2) [x] = 0
  · obtain ⟨p, hp, hcs, ht⟩ := CoM.ask_some hE
    have hV : askV N m k (tIs 2) [x] = ptrV (N.ub k) := by unfold askV; rw [if_pos hE]
    have hx := okCell_iff.1 (show okCell x = true by simpa using hcs)
    have hok := h.ok.wake k x
    have hm' : (m.wake k x).m = m.put k ⟨p.quota, 1, x.toNat⟩ := CoM.move_good hp hcs ht
    rw [hV, hE] at ha
    have HF : Hid (∀ w3, Below ((w.alloc (.cells #[.int .i64 2] 141)).alloc (.cells #[.int .i64 x] 3)).heap.size ((w.alloc (.cells #[.int .i64 2] 141)).alloc (.cells #[.int .i64 x] 3)) w3 → UsC w3 (N.ub k) ∧ MovePost w c N (m.wake k x) n (coF c N m) (.returned (.int .i64 0)) ((w3.setCell ⟨N.ub k, 3, none⟩ (.int .i64 1)).setCell ⟨N.ub k, 4, none⟩ (.int .i64 x))) := hid fun w3 hb3 => by
      have hb := bthen hb2 hb3
      have h3 := h.kept (Kept.of_below (S := []) hb) (by simp)
      have hA := h3.ur k p hp
      refine ⟨UsC.of hA, by rw [he, hE], ?_, ?_⟩
      · rw [hm'] at hok ⊢
        refine h3.place hp (((Kept.refl _ w3).setCell (by simp) _).setCell (by simp) _) ?_ hok
        have := ((hA.setCell (o := 3) (.int .i64 1)).setCell (o := 4) (.int .i64 x))
        have e : x = ((x.toNat : Nat) : Int) := by omega
        rw [show userRow N m k ⟨p.quota, 1, x.toNat⟩ = (((userRow N m k p).set 3 (.int .i64 1)).set 4 (.int .i64 x)) by
          conv => rhs; rw [e]
          rfl]
        exact this
      · exact (((Kept.of_below hb).setCell (coF_u h.ok hp).1 _).setCell (coF_u h.ok hp).1 _)
    generalize MovePost w c N (m.wake k x) n (coF c N m) = P at *
    generalize N.ub k = ub at *
    clear h h2 hr hc0 he hE hp hcs ht hV hok hm'
    unfold ptrV AskV at *
    go_enter Try.func69, Try.ntmps69
    go_wp2_with (first
      | (go_at_call 80; refine hi.mono ?_; rintro e w1 ⟨rfl, rfl⟩)
      | (go_at_call 77; refine ha.mono ?_; rintro e w3 ⟨rfl, hb3⟩; obtain ⟨hU, hP⟩ := HF.out w3 hb3; have u3 := hU.c3; have u4 := hU.c4; have f3 := hU.f3; have f4 := hU.f4; obtain ⟨V3, u3⟩ := u3; obtain ⟨V4, u4⟩ := u4))
    exact hP
  · have hV : askV N m k (tIs 2) [x] = .pointer none := by unfold askV; rw [if_neg hE]
    have hm' : (m.wake k x).m = m := CoM.move_bad hE
    rw [hV] at ha
    have HF : Hid (∀ w3, Below ((w.alloc (.cells #[.int .i64 2] 141)).alloc (.cells #[.int .i64 x] 3)).heap.size ((w.alloc (.cells #[.int .i64 2] 141)).alloc (.cells #[.int .i64 x] 3)) w3 → MovePost w c N (m.wake k x) n (coF c N m) (.returned (.int .i64 (m.askErr k (tIs 2) [x]))) w3) := hid fun w3 hb3 => by
      refine ⟨by rw [he], ?_, Kept.of_below (bthen hb2 hb3)⟩
      rw [hm']
      exact h.kept (Kept.of_below (S := []) (bthen hb2 hb3)) (by simp)
    generalize MovePost w c N (m.wake k x) n (coF c N m) = P at *
    generalize m.askErr k (tIs 2) [x] = E at *
    clear h h2 hr hc0 he hV hm'
    unfold ptrV AskV at *
    go_enter Try.func69, Try.ntmps69
    go_wp2_with (first
      | (go_at_call 80; refine hi.mono ?_; rintro e w1 ⟨rfl, rfl⟩)
      | (go_at_call 77; refine ha.mono ?_; rintro e w3 ⟨rfl, hb3⟩))
    exact HF.out w3 hb3
set_option maxRecDepth 100000 in
set_option maxHeartbeats 1000000 in
theorem csleep_any {w : World} {c : Nat} {N : CoN} {m : CoM} {n : Nat} {k : Int} (h : PCore w c N m n) (hk : In64 k) : Calls Try.prog 48 #[ptrV c, .int .i64 k] w (MovePost w c N (m.sleep k) n (coF c N m)) := by
  have hi := cis_any 1 w
  have hs : (w.alloc (.cells #[.int .i64 1] 141)).heap.size = w.heap.size + 1 := World.size_alloc _ _
  have hb2 : Below w.heap.size w (w.alloc (.cells #[.int .i64 1] 141)) := (Below.refl _ w).alloc (Nat.le_refl _) _
  have hr : Rd .i64 (w.alloc (.cells #[.int .i64 1] 141)) none [] := Rd.nil _ _ _
  have hc0 : (w.alloc (.cells #[.int .i64 1] 141)).cell? ⟨w.heap.size, 0, none⟩ = some (.int .i64 ((1 : Nat) : Int)) := cell_oneC w _ 1
  have h2 := h.kept (Kept.of_below (S := []) hb2) (by simp)
  have ha := caskIs (cc := 0) h2 hk (asks_is (s := 1) hc0) hr (by simp)
  have he : (m.sleep k).err = m.askErr k (tIs 1) [] := CoM.move_err _ _ _ _ _
  by_cases hE : m.askErr k (tIs 1) [] = 0
  · obtain ⟨p, hp, hcs, ht⟩ := CoM.ask_some hE
    have hV : askV N m k (tIs 1) [] = ptrV (N.ub k) := by unfold askV; rw [if_pos hE]
    have hok := h.ok.sleep k
    have hm' : (m.sleep k).m = m.put k ⟨p.quota, 2, p.cell⟩ := CoM.move_good hp hcs ht
    rw [hV, hE] at ha
    have HF : Hid (∀ w3, Below (w.alloc (.cells #[.int .i64 1] 141)).heap.size (w.alloc (.cells #[.int .i64 1] 141)) w3 → UsC w3 (N.ub k) ∧ MovePost w c N (m.sleep k) n (coF c N m) (.returned (.int .i64 0)) (w3.setCell ⟨N.ub k, 3, none⟩ (.int .i64 2))) := hid fun w3 hb3 => by
      have hb := bthen hb2 hb3
      have h3 := h.kept (Kept.of_below (S := []) hb) (by simp)
      have hA := h3.ur k p hp
      refine ⟨UsC.of hA, by rw [he, hE], ?_, ?_⟩
      · rw [hm'] at hok ⊢
        refine h3.place hp ((Kept.refl _ w3).setCell (by simp) _) ?_ hok
        have := (hA.setCell (o := 3) (.int .i64 2))
        exact this
      · exact ((Kept.of_below hb).setCell (coF_u h.ok hp).1 _)
    generalize MovePost w c N (m.sleep k) n (coF c N m) = P at *
    generalize N.ub k = ub at *
    clear h h2 hr hc0 he hE hp hcs ht hV hok hm'
    unfold ptrV AskV at *
    go_enter Try.func48, Try.ntmps48
    go_wp2_with (first
      | (go_at_call 80; refine hi.mono ?_; rintro e w1 ⟨rfl, rfl⟩)
      | (go_at_call 77; refine ha.mono ?_; rintro e w3 ⟨rfl, hb3⟩; obtain ⟨hU, hP⟩ := HF.out w3 hb3; have u3 := hU.c3; have u4 := hU.c4; have f3 := hU.f3; have f4 := hU.f4; obtain ⟨V3, u3⟩ := u3; obtain ⟨V4, u4⟩ := u4))
    exact hP
  · have hV : askV N m k (tIs 1) [] = .pointer none := by unfold askV; rw [if_neg hE]
    have hm' : (m.sleep k).m = m := CoM.move_bad hE
    rw [hV] at ha
    have HF : Hid (∀ w3, Below (w.alloc (.cells #[.int .i64 1] 141)).heap.size (w.alloc (.cells #[.int .i64 1] 141)) w3 → MovePost w c N (m.sleep k) n (coF c N m) (.returned (.int .i64 (m.askErr k (tIs 1) []))) w3) := hid fun w3 hb3 => by
      refine ⟨by rw [he], ?_, Kept.of_below (bthen hb2 hb3)⟩
      rw [hm']
      exact h.kept (Kept.of_below (S := []) (bthen hb2 hb3)) (by simp)
    generalize MovePost w c N (m.sleep k) n (coF c N m) = P at *
    generalize m.askErr k (tIs 1) [] = E at *
    clear h h2 hr hc0 he hV hm'
    unfold ptrV AskV at *
    go_enter Try.func48, Try.ntmps48
    go_wp2_with (first
      | (go_at_call 80; refine hi.mono ?_; rintro e w1 ⟨rfl, rfl⟩)
      | (go_at_call 77; refine ha.mono ?_; rintro e w3 ⟨rfl, hb3⟩))
    exact HF.out w3 hb3
set_option maxRecDepth 100000 in
set_option maxHeartbeats 1000000 in
theorem chand_any {w : World} {c : Nat} {N : CoN} {m : CoM} {n : Nat} {k : Int} (a : Int) (b : Int) (h : PCore w c N m n) (hk : In64 k) : Calls Try.prog 71 #[ptrV c, .int .i64 k, .int .i64 a, .int .i64 b] w (MovePost w c N (m.hand k a b) n (coF c N m)) := by
  have hi := cisAt_any a w
  have hs : (w.alloc (.cells #[.int .i64 a] 3)).heap.size = w.heap.size + 1 := World.size_alloc _ _
  have hb2 : Below w.heap.size w ((w.alloc (.cells #[.int .i64 a] 3)).alloc (.cells #[.int .i64 a, .int .i64 b] 3)) := ((Below.refl _ w).alloc (Nat.le_refl _) _).alloc (by simp) _
  have hr : Rd .i64 ((w.alloc (.cells #[.int .i64 a] 3)).alloc (.cells #[.int .i64 a, .int .i64 b] 3)) (some ⟨w.heap.size + 1, 0, none⟩) [a, b] := by
    have := rd_two (w.alloc (.cells #[.int .i64 a] 3)) 3 a b
    rwa [hs] at this
  have hc0 : ((w.alloc (.cells #[.int .i64 a] 3)).alloc (.cells #[.int .i64 a, .int .i64 b] 3)).cell? ⟨w.heap.size, 0, none⟩ = some (.int .i64 a) := (World.cell?_alloc_past _ _ _ (by rw [hs]; omega)).trans (cell_oneC w _ a)
  have h2 := h.kept (Kept.of_below (S := []) hb2) (by simp)
  have ha := caskAt (cc := 2) h2 hk (asks_isAt hc0) hr (by simp)
  have he : (m.hand k a b).err = m.askErr k (tAt a) [a, b] := CoM.move_err _ _ _ _ _
  by_cases hE : m.askErr k (tAt a) [a, b] = 0
  · obtain ⟨p, hp, hcs, ht⟩ := CoM.ask_some hE
    have hV : askV N m k (tAt a) [a, b] = ptrV (N.ub k) := by unfold askV; rw [if_pos hE]
    have hx := okCell_iff.1 (show okCell b = true from (show okCell a = true ∧ okCell b = true by simpa using hcs).2)
    have hok := h.ok.hand k a b
    have hm' : (m.hand k a b).m = m.put k ⟨p.quota, p.st, b.toNat⟩ := CoM.move_good hp hcs ht
    rw [hV, hE] at ha
    have HF : Hid (∀ w3, Below ((w.alloc (.cells #[.int .i64 a] 3)).alloc (.cells #[.int .i64 a, .int .i64 b] 3)).heap.size ((w.alloc (.cells #[.int .i64 a] 3)).alloc (.cells #[.int .i64 a, .int .i64 b] 3)) w3 → UsC w3 (N.ub k) ∧ MovePost w c N (m.hand k a b) n (coF c N m) (.returned (.int .i64 0)) (w3.setCell ⟨N.ub k, 4, none⟩ (.int .i64 b))) := hid fun w3 hb3 => by
      have hb := bthen hb2 hb3
      have h3 := h.kept (Kept.of_below (S := []) hb) (by simp)
      have hA := h3.ur k p hp
      refine ⟨UsC.of hA, by rw [he, hE], ?_, ?_⟩
      · rw [hm'] at hok ⊢
        refine h3.place hp ((Kept.refl _ w3).setCell (by simp) _) ?_ hok
        have := (hA.setCell (o := 4) (.int .i64 b))
        have e : b = ((b.toNat : Nat) : Int) := by omega
        rw [show userRow N m k ⟨p.quota, p.st, b.toNat⟩ = ((userRow N m k p).set 4 (.int .i64 b)) by
          conv => rhs; rw [e]
          rfl]
        exact this
      · exact ((Kept.of_below hb).setCell (coF_u h.ok hp).1 _)
    generalize MovePost w c N (m.hand k a b) n (coF c N m) = P at *
    generalize N.ub k = ub at *
    clear h h2 hr hc0 he hE hp hcs ht hV hok hm'
    unfold ptrV AskV at *
    go_enter Try.func71, Try.ntmps71
    go_wp2_with (first
      | (go_at_call 118; refine hi.mono ?_; rintro e w1 ⟨rfl, rfl⟩)
      | (go_at_call 77; refine ha.mono ?_; rintro e w3 ⟨rfl, hb3⟩; obtain ⟨hU, hP⟩ := HF.out w3 hb3; have u3 := hU.c3; have u4 := hU.c4; have f3 := hU.f3; have f4 := hU.f4; obtain ⟨V3, u3⟩ := u3; obtain ⟨V4, u4⟩ := u4))
    exact hP
  · have hV : askV N m k (tAt a) [a, b] = .pointer none := by unfold askV; rw [if_neg hE]
    have hm' : (m.hand k a b).m = m := CoM.move_bad hE
    rw [hV] at ha
    have HF : Hid (∀ w3, Below ((w.alloc (.cells #[.int .i64 a] 3)).alloc (.cells #[.int .i64 a, .int .i64 b] 3)).heap.size ((w.alloc (.cells #[.int .i64 a] 3)).alloc (.cells #[.int .i64 a, .int .i64 b] 3)) w3 → MovePost w c N (m.hand k a b) n (coF c N m) (.returned (.int .i64 (m.askErr k (tAt a) [a, b]))) w3) := hid fun w3 hb3 => by
      refine ⟨by rw [he], ?_, Kept.of_below (bthen hb2 hb3)⟩
      rw [hm']
      exact h.kept (Kept.of_below (S := []) (bthen hb2 hb3)) (by simp)
    generalize MovePost w c N (m.hand k a b) n (coF c N m) = P at *
    generalize m.askErr k (tAt a) [a, b] = E at *
    clear h h2 hr hc0 he hV hm'
    unfold ptrV AskV at *
    go_enter Try.func71, Try.ntmps71
    go_wp2_with (first
      | (go_at_call 118; refine hi.mono ?_; rintro e w1 ⟨rfl, rfl⟩)
      | (go_at_call 77; refine ha.mono ?_; rintro e w3 ⟨rfl, hb3⟩))
    exact HF.out w3 hb3
end Go.Proofs.Ytcnkcbipkchoiag
