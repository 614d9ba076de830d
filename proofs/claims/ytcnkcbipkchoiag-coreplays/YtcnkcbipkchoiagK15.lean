import Derived.Test.YtcnkcbipkchoiagK14
namespace Go.Proofs.Ytcnkcbipkchoiag
open Go.ChangeShapes Go.WideShapes Go.ChangeAt Go.RowKit Go.Maps
def recV (m : CoM) (k : Int) : Value := .agg #[.int .i64 ((m.rec3 k).1 : Nat), .int .i64 ((m.rec3 k).2.1 : Nat), .int .i64 ((m.rec3 k).2.2 : Nat)]
theorem rec_none {m : CoM} {k : Int} (h : m.per k = none) : m.rec3 k = (0, 0, 0) ∧ m.recErr k = 12 := by
  unfold CoM.rec3 CoM.recErr
  rw [h]
  exact ⟨rfl, rfl⟩
theorem rec_some {m : CoM} {k : Int} {p : PrM} (h : m.per k = some p) : m.rec3 k = (m.left k p, m.lent k, m.chgd k) ∧ m.recErr k = 0 := by
  unfold CoM.rec3 CoM.recErr
  rw [h]
  exact ⟨rfl, rfl⟩
set_option maxRecDepth 100000 in
set_option maxHeartbeats 1000000 in
theorem crecord_any {w : World} {c : Nat} {F : List Nat} {m : CoM} {n : Nat} {k : Int} (h : PCo w c F m n) (hk : In64 k) : Calls Try.prog 26 #[ptrV c, .int .i64 k] w fun e w' => e = .returned (.tuple #[recV m k, .int .i64 (m.recErr k)]) ∧ Below w.heap.size w w' := by
  obtain ⟨N, rfl, h⟩ := h
  have hb0 : Below w.heap.size w (w.alloc (.cells #[.int .i64 0, .int .i64 0, .int .i64 0] 74)) := (Below.refl _ w).alloc (Nat.le_refl _) _
  have h2 := h.kept (Kept.of_below (S := []) hb0) (by simp)
  have hN := at_alloc w 74 [.int .i64 0, .int .i64 0, .int .i64 0]
  have hNl : w.heap.size ∉ coF c N m := fun hx => Nat.lt_irrefl _ (h.lt _ hx)
  cases hp : m.per k with
  | none =>
    have hf := cfind_none h2 hk hp
    unfold recV
    rw [(rec_none hp).1, (rec_none hp).2]
    have n0 : (w.alloc (.cells #[.int .i64 0, .int .i64 0, .int .i64 0] 74)).cell? ⟨w.heap.size, 0, none⟩ = some (.int .i64 0) := hN.cell 0
    have n1 : (w.alloc (.cells #[.int .i64 0, .int .i64 0, .int .i64 0] 74)).cell? ⟨w.heap.size, 1, none⟩ = some (.int .i64 0) := hN.cell 1
    have n2 : (w.alloc (.cells #[.int .i64 0, .int .i64 0, .int .i64 0] 74)).cell? ⟨w.heap.size, 2, none⟩ = some (.int .i64 0) := hN.cell 2
    have g0 := hN.free 0
    have g1 := hN.free 1
    have g2 := hN.free 2
    clear h h2 hp hNl hN
    unfold ptrV at *
    go_enter Try.func26, Try.ntmps26
    go_wp2_with (go_at_call 75; refine hf.mono ?_; rintro e w1 ⟨rfl, rfl⟩)
    (try simp only [Exit.inBlock, Exit.then])
    refine bodyPost_ret (v := .tuple #[.agg #[.int .i64 0, .int .i64 0, .int .i64 0], .int .i64 12]) ?_ rfl ⟨rfl, ?_⟩
    · rw [results_cell_tmp rfl]
      go_simp
    · exact (Below.refl _ w).alloc (Nat.le_refl _) _
  | some p =>
    have hf := cfind_some h2 hk hp
    unfold recV
    rw [(rec_some hp).1, (rec_some hp).2]
    have hA := h2.ur k p hp
    have c0 : (w.alloc (.cells #[.int .i64 0, .int .i64 0, .int .i64 0] 74)).cell? ⟨N.ub k, 0, none⟩ = some (.int .i64 (m.left k p : Nat)) := hA.cell 0
    have c1 : (w.alloc (.cells #[.int .i64 0, .int .i64 0, .int .i64 0] 74)).cell? ⟨N.ub k, 1, none⟩ = some (.int .i64 (m.lent k : Nat)) := hA.cell 1
    have c2 : (w.alloc (.cells #[.int .i64 0, .int .i64 0, .int .i64 0] 74)).cell? ⟨N.ub k, 2, none⟩ = some (.int .i64 (m.chgd k : Nat)) := hA.cell 2
    have n0 : (w.alloc (.cells #[.int .i64 0, .int .i64 0, .int .i64 0] 74)).cell? ⟨w.heap.size, 0, none⟩ = some (.int .i64 0) := hN.cell 0
    have n1 : (w.alloc (.cells #[.int .i64 0, .int .i64 0, .int .i64 0] 74)).cell? ⟨w.heap.size, 1, none⟩ = some (.int .i64 0) := hN.cell 1
    have n2 : (w.alloc (.cells #[.int .i64 0, .int .i64 0, .int .i64 0] 74)).cell? ⟨w.heap.size, 2, none⟩ = some (.int .i64 0) := hN.cell 2
    have g0 := hN.free 0
    have g1 := hN.free 1
    have g2 := hN.free 2
    generalize m.left k p = A0 at *
    generalize m.lent k = A1 at *
    generalize m.chgd k = A2 at *
    generalize N.ub k = ub at *
    clear h h2 hp hNl hN hA
    unfold ptrV at *
    go_enter Try.func26, Try.ntmps26
    go_wp2_with (go_at_call 75; refine hf.mono ?_; rintro e w1 ⟨rfl, rfl⟩)
    (try simp only [Exit.inBlock, Exit.then])
    refine bodyPost_ret (v := .tuple #[.agg #[.int .i64 (A0 : Int), .int .i64 (A1 : Int), .int .i64 (A2 : Int)], .int .i64 0]) ?_ rfl ⟨rfl, ?_⟩
    · rw [results_cell_tmp rfl]
      go_simp
    · exact (Below.refl _ w).alloc (Nat.le_refl _) _
def areaF (c : Nat) : Nat := c - (c - 1) % 8
def areaK (c : Nat) : Nat := min 8 (101 - areaF c)
def areaT (f k : Nat) : List Int := (List.range k).map fun i => ((f + i : Nat) : Int)
theorem areaT_succ (f k : Nat) : areaT f (k + 1) = areaT f k ++ [((f + k : Nat) : Int)] := by
  unfold areaT
  rw [List.range_succ, List.map_append]
  rfl
theorem areaT_len (f k : Nat) : (areaT f k).length = k := by simp [areaT]
theorem area_all : ((List.range 101).all fun c => c == 0 || areaL c == areaT (areaF c) (areaK c)) = true := by kernel_rfl
theorem area_eq {c : Nat} (h1 : 1 ≤ c) (h2 : c ≤ 100) : areaL c = areaT (areaF c) (areaK c) := by
  have := List.all_eq_true.1 area_all c (List.mem_range.2 (by omega))
  simp only [Bool.or_eq_true, beq_iff_eq] at this
  rcases this with h | h
  · omega
  · exact h
set_option maxHeartbeats 1000000 in
theorem carea_any (c : Nat) (w : World) (h1 : 1 ≤ c) (h2 : c ≤ 100) : Calls Try.prog 79 #[.int .i64 (c : Int)] w fun e w' => ∃ a cc, e = .returned (.slice a (areaL c).length cc) ∧ OwnI w' w.heap.size (.slice a (areaL c).length cc) (areaL c) ∧ Below w.heap.size w w' := by
  rw [area_eq h1 h2, areaT_len]
  obtain ⟨f, ef⟩ : ∃ f, f = areaF c := ⟨_, rfl⟩
  obtain ⟨K, eK⟩ : ∃ K, K = areaK c := ⟨_, rfl⟩
  have hf : ((c : Int) - (((c : Int) - 1) % 8)) = (f : Int) := by rw [ef]; unfold areaF; omega
  have hfr : 1 ≤ f ∧ f ≤ 100 := by rw [ef]; unfold areaF; omega
  have hK : K = min 8 (101 - f) := by rw [eK, ef]; rfl
  rw [← ef, ← eK]
  have hc0 : 0 ≤ (c : Int) - 1 := by omega
  clear ef eK
  go_enter Try.func79, Try.ntmps79
  go_wp2_with fail
  go_loopw [4, 5] (fun vm vi wr => ∃ (k cc : Nat) (a : Option Addr), k ≤ K ∧ vi = .int .i64 ((f + k : Nat) : Int) ∧ vm = .slice a k cc ∧ Hid (OwnI wr w.heap.size (.slice a k cc) (areaT f k)) ∧ Hid (Below w.heap.size w wr)) (fun _ vi _ => 200 - (intOf vi).toNat)
  case atStart => exact ⟨0, 0, none, by omega, by simp [*], rfl, hid (OwnI.nil _ _), hid (Below.refl _ _)⟩
  case round =>
    obtain ⟨k, cc, a, hk, rfl, rfl, HO, HB⟩ := hrel
    by_cases hlt : k < K
    · have d1 : ((f + k : Nat) : Int) < (f : Int) + 8 := by omega
      have d2 : ((f + k : Nat) : Int) ≤ 100 := by omega
      have HLL : Hid ((areaT f k).length < 8796093022208) := hid (by rw [areaT_len]; omega)
      obtain ⟨y, ey⟩ : ∃ y : Int, y = ((f + k : Nat) : Int) := ⟨_, rfl⟩
      rw [← ey] at d1 d2 ⊢
      have hy : 1 ≤ y := by omega
      have HY := hid ey
      clear ey
      go_wp2_with (at_builtin; refine wpList_pushI w.heap.size w y HO.out rfl _ _ rfl rfl rfl HLL.out HB.out HB.out.size ?_; intro v3 w3 ho3 hb3; obtain ⟨a3, c3, ev3, -, -⟩ := OwnI.shape ho3; subst ev3; have HO3 := hid ho3; have HB3 := hid hb3; clear ho3 hb3)
      go_roundw
      case rel =>
        have h9 := HO3.out
        rw [HY.out, ← areaT_succ, areaT_len] at h9
        refine ⟨k + 1, c3, a3, by omega, ?_, ?_, hid h9, HB3⟩
        · have := HY.out
          simp
          omega
        · simp [areaT_len]
      case measure => simp [intOf]; omega
    · have ek : k = K := by omega
      subst ek
      obtain ⟨y, ey⟩ : ∃ y : Int, y = ((f + k : Nat) : Int) := ⟨_, rfl⟩
      by_cases d1 : y < (f : Int) + 8
      · have d2 : ¬ y ≤ 100 := by omega
        rw [← ey]
        clear ey hK
        go_wp2_with fail
        go_ret
        exact ⟨a, cc, rfl, HO.out, HB.out⟩
      · rw [← ey]
        clear ey hK
        go_wp2_with fail
        go_ret
        exact ⟨a, cc, rfl, HO.out, HB.out⟩
theorem page_one {m : CoM} {k : Int} {p : PrM} (hp : m.per k = some p) (h : p.st = 1) : m.page k = [(p.cell : Int)] := by unfold CoM.page; rw [hp]; simp [h]
theorem page_area {m : CoM} {k : Int} {p : PrM} (hp : m.per k = some p) (h : p.st = 2) : m.page k = areaL p.cell := by unfold CoM.page; rw [hp]; simp [h]
theorem page_bad {m : CoM} {k : Int} (h : m.pageErr k ≠ 0) : m.page k = [] := by
  unfold CoM.page
  unfold CoM.pageErr CoM.askErr at h
  cases hp : m.per k with
  | none => rfl
  | some p =>
    rw [hp] at h
    by_cases e : p.st = 0
    · simp [e]
    · simp [tNot, e] at h
def PagePost (w : World) (m : CoM) (k : Int) : Ending → World → Prop := fun e w' => ∃ a cc, e = .returned (.tuple #[.slice a (m.page k).length cc, .int .i64 (m.pageErr k)]) ∧ OwnI w' w.heap.size (.slice a (m.page k).length cc) (m.page k) ∧ Below w.heap.size w w'
set_option maxRecDepth 100000 in
set_option maxHeartbeats 1000000 in
theorem cpage_any {w : World} {c : Nat} {F : List Nat} {m : CoM} {n : Nat} {k : Int} (h : PCo w c F m n) (hk : In64 k) : Calls Try.prog 28 #[ptrV c, .int .i64 k] w (PagePost w m k) := by
  obtain ⟨N, rfl, h⟩ := h
  have hi := cisNot_any 0 w
  have hb2 : Below w.heap.size w (w.alloc (.cells #[.int .i64 0] 141)) := (Below.refl _ w).alloc (Nat.le_refl _) _
  have hr : Rd .i64 (w.alloc (.cells #[.int .i64 0] 141)) none [] := Rd.nil _ _ _
  have hc0 : (w.alloc (.cells #[.int .i64 0] 141)).cell? ⟨w.heap.size, 0, none⟩ = some (.int .i64 ((0 : Nat) : Int)) := cell_oneC w _ 0
  have h2 := h.kept (Kept.of_below (S := []) hb2) (by simp)
  have ha := caskNot (cc := 0) h2 hk (asks_isNot (s := 0) hc0) hr (by simp)
  by_cases hE : m.pageErr k = 0
  · obtain ⟨p, hp, hcs, ht⟩ := CoM.ask_some hE
    have hE' : m.askErr k (tNot 0) [] = 0 := hE
    have hV : askV N m k (tNot 0) [] = ptrV (N.ub k) := by unfold askV; rw [if_pos hE']
    rw [hV, hE'] at ha
    obtain ⟨q1, q2, q3, q4, q5, q6, q7⟩ := h.ok.pr k p hp
    have hst : p.st ≠ 0 := by simpa [tNot] using ht
    have q6 := q6 hst
    have HU : Hid (∀ w3, Below (w.alloc (.cells #[.int .i64 0] 141)).heap.size (w.alloc (.cells #[.int .i64 0] 141)) w3 → w3.cell? ⟨N.ub k, 3, none⟩ = some (.int .i64 (p.st : Nat)) ∧ w3.cell? ⟨N.ub k, 4, none⟩ = some (.int .i64 (p.cell : Nat)) ∧ Below w.heap.size w w3) := hid fun w3 hb3 => by
      have hb := bthen hb2 hb3
      have hA := (h.kept (Kept.of_below (S := []) hb) (by simp)).ur k p hp
      exact ⟨hA.cell 3, hA.cell 4, hb⟩
    by_cases h1 : p.st = 1
    · have HP : Hid (∀ w3, Below w.heap.size w w3 → PagePost w m k (.returned (.tuple #[.slice (some ⟨w3.heap.size, 0, none⟩) 1 1, .int .i64 0])) (w3.alloc (.cells #[.int .i64 (p.cell : Nat)] 3))) := hid fun w3 hb3 => by
        unfold PagePost
        rw [page_one hp h1, hE]
        refine ⟨_, 1, rfl, ?_, hb3.alloc hb3.size _⟩
        exact ⟨rfl, .inr ⟨w3.heap.size, 1, #[.int .i64 (p.cell : Nat)], rfl, hb3.size, heap_alloc_new w3 _, Nat.le_refl _, by unfold maxLen; omega, rfl, rfl⟩⟩
      rw [h1] at HU
      generalize PagePost w m k = P at *
      generalize N.ub k = ub at *
      generalize p.cell = pc at *
      clear h h2 hr hc0 hE hE' hp hcs ht hV h1 hst
      unfold ptrV AskV at *
      go_enter Try.func28, Try.ntmps28
      go_wp2_with (first
        | (go_at_call 78; refine hi.mono ?_; rintro e w1 ⟨rfl, rfl⟩)
        | (go_at_call 77; refine ha.mono ?_; rintro e w3 ⟨rfl, hb3⟩; obtain ⟨u3, u4, hb4⟩ := HU.out w3 hb3))
      exact HP.out w3 hb4
    · have h2' : p.st = 2 := by omega
      have HA : Hid (∀ w3, Below w.heap.size w w3 → Calls Try.prog 79 #[.int .i64 (p.cell : Int)] w3 fun e w' => ∃ v, e = .returned v ∧ PagePost w m k (.returned (.tuple #[v, .int .i64 0])) w') := hid fun w3 hb3 => by
        refine (carea_any p.cell w3 q6 q5).mono ?_
        rintro e w' ⟨a, cc, rfl, ho, hb⟩
        refine ⟨_, rfl, ?_⟩
        unfold PagePost
        rw [page_area hp h2', hE]
        exact ⟨a, cc, rfl, OwnI.mono ho hb3.size, bthen hb3 hb⟩
      rw [h2'] at HU
      generalize PagePost w m k = P at *
      generalize N.ub k = ub at *
      generalize p.cell = pc at *
      clear h h2 hr hc0 hE hE' hp hcs ht hV h1 hst h2'
      unfold ptrV AskV at *
      go_enter Try.func28, Try.ntmps28
      go_wp2_with (first
        | (go_at_call 78; refine hi.mono ?_; rintro e w1 ⟨rfl, rfl⟩)
        | (go_at_call 77; refine ha.mono ?_; rintro e w3 ⟨rfl, hb3⟩; obtain ⟨u3, u4, hb4⟩ := HU.out w3 hb3)
        | (go_at_call 79; refine (HA.out w3 hb4).mono ?_; rintro e w5 ⟨v5, rfl, hP⟩))
      exact hP
  · have hE' : ¬ m.askErr k (tNot 0) [] = 0 := hE
    have hV : askV N m k (tNot 0) [] = .pointer none := by unfold askV; rw [if_neg hE']
    rw [hV] at ha
    have HF : Hid (∀ w3, Below (w.alloc (.cells #[.int .i64 0] 141)).heap.size (w.alloc (.cells #[.int .i64 0] 141)) w3 → PagePost w m k (.returned (.tuple #[.slice none 0 0, .int .i64 (m.askErr k (tNot 0) [])])) w3) := hid fun w3 hb3 => by
      unfold PagePost
      rw [page_bad hE]
      exact ⟨none, 0, rfl, OwnI.nil _ _, bthen hb2 hb3⟩
    generalize PagePost w m k = P at *
    generalize m.askErr k (tNot 0) [] = E at *
    clear h h2 hr hc0 hV hE
    unfold ptrV AskV at *
    go_enter Try.func28, Try.ntmps28
    go_wp2_with (first
      | (go_at_call 78; refine hi.mono ?_; rintro e w1 ⟨rfl, rfl⟩)
      | (go_at_call 77; refine ha.mono ?_; rintro e w3 ⟨rfl, hb3⟩))
    exact HF.out w3 hb3
end Go.Proofs.Ytcnkcbipkchoiag
