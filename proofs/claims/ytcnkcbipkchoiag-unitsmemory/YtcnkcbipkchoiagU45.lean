import Derived.Test.YtcnkcbipkchoiagU44
namespace Go.Proofs.Ytcnkcbipkchoiag
open Go.ChangeShapes Go.WideShapes Go.ChangeAt Go.RowKit Go.Maps
theorem run_make_mapC (t : TypeId) (w : World) : (Instr.makeMap t none).run Try.prog w = .ok (.map (some w.heap.size)) (w.alloc (.map #[] 0)) := by
  simp [Instr.makeMap]
set_option maxHeartbeats 1000000 in
theorem cnew_good (u : Nat) (w : World) (h1 : 1 ≤ u) (h2 : u ≤ 1000000) : Calls Try.prog 24 #[.int .i64 (u : Int)] w fun e w' => ∃ c N, e = .returned (.tuple #[ptrV c, .int .i64 0]) ∧ PCore w' c N (.new u) 0 ∧ (∀ x ∈ coF c N (.new u), w.heap.size ≤ x) ∧ Below w.heap.size w w' := by
  have hs : (w.alloc (.map #[] 0)).heap.size = w.heap.size + 1 := World.size_alloc _ _
  have HP : Hid (PCore ((w.alloc (.map #[] 0)).alloc (.cells #[.int .i64 (u : Int), .map (some w.heap.size), .slice none 0 0] 136)) (w.heap.size + 1) ⟨w.heap.size, none, 0, fun _ => 0, fun _ => 0⟩ (.new u) 0) := hid (by
    have hA := at_alloc (w.alloc (.map #[] 0)) 136 [.int .i64 (u : Int), .map (some w.heap.size), .slice none 0 0]
    rw [hs] at hA
    refine ⟨hA, ((IMap.made w).kept (S := []) ((Kept.refl _ _).alloc _) (by simp)).congr (fun _ => rfl), ?_, ?_, World.ownsRow_nil _ _ _ _, ?_, ?_, ?_, CoM.Ok.new ⟨h1, h2⟩⟩
    · intro k p hp; cases hp
    · intro k p hp; cases hp
    · intro j k p q hp; cases hp
    · intro j k p q hp; cases hp
    · intro k p hp; cases hp)
  have hmm := run_make_mapC 133
  clear hs
  go_enter Try.func24, Try.ntmps24
  go_wp2
  go_ret2
  refine ⟨w.heap.size + 1, rfl, _, HP.out, fun x hx => ?_, ((Below.refl _ w).alloc (Nat.le_refl _) _).alloc (by simp) _⟩
  rcases coF_mem hx with rfl | rfl | ⟨y, hy, rfl⟩ | ⟨k, p, hp, _⟩
  · omega
  · exact Nat.le_refl _
  · cases hy
  · cases hp
theorem Try.zeroU (w : World) : (zeroValue 138).run Try.prog w = .ok (.pointer none) w := by kernel_rfl
theorem PCore.find {w : World} {c : Nat} {N : CoN} {m : CoM} {n : Nat} (h : PCore w c N m n) {k : Int} (hk : In64 k) {x : Value} (hx : (usV N m k).getD (.pointer none) = x) : (Instr.lookup 133 (.map (some N.bu)) (.int .i64 k) false).run Try.prog w = .ok x w := by
  have := h.us.look hk Try.underlying133 (Try.zeroU w) hx rfl false
  simpa using this
set_option maxHeartbeats 1000000 in
theorem cfind_none {w : World} {c : Nat} {N : CoN} {m : CoM} {n : Nat} (h : PCore w c N m n) {k : Int} (hk : In64 k) (hp : m.per k = none) : Calls Try.prog 75 #[ptrV c, .int .i64 k] w fun e w' => e = .returned (.tuple #[.pointer none, .int .i64 12]) ∧ w' = w := by
  have c1 := h.head.2.1
  have hl := h.find hk (x := .pointer none) (by simp [usV, hp])
  clear h hp hk
  unfold ptrV
  go_enter Try.func75, Try.ntmps75
  go_wp2
  go_ret2
  exact ⟨rfl, rfl⟩
set_option maxHeartbeats 1000000 in
theorem cfind_some {w : World} {c : Nat} {N : CoN} {m : CoM} {n : Nat} (h : PCore w c N m n) {k : Int} {p : PrM} (hk : In64 k) (hp : m.per k = some p) : Calls Try.prog 75 #[ptrV c, .int .i64 k] w fun e w' => e = .returned (.tuple #[ptrV (N.ub k), .int .i64 0]) ∧ w' = w := by
  have c1 := h.head.2.1
  have hl := h.find hk (x := ptrV (N.ub k)) (by simp [usV, hp])
  clear h hp hk
  generalize N.ub k = b at *
  unfold ptrV at *
  go_enter Try.func75, Try.ntmps75
  go_wp2
  go_ret2
  exact ⟨rfl, rfl⟩
def AskV (K g : Nat) : Value := .func (.func K) #[] #[ptrV g]
def placeV (p : PrM) : Value := .agg #[.int .i64 (p.st : Nat), .int .i64 (p.cell : Nat)]
set_option maxHeartbeats 1000000 in
theorem cis_any (s : Int) (w : World) : Calls Try.prog 80 #[.int .i64 s] w fun e w' => e = .returned (AskV 121 w.heap.size) ∧ w' = w.alloc (.cells #[.int .i64 s] 141) := by
  have hmf : ∀ (fn : Fn) (first cap : Array Value) (w : World), (Instr.makeFunc fn first cap).run Try.prog w = .ok (.func fn first cap) w := fun _ _ _ _ => rfl
  unfold AskV ptrV
  go_enter Try.func80, Try.ntmps80
  go_wp2
  go_ret
  exact ⟨rfl, rfl⟩
set_option maxHeartbeats 1000000 in
theorem cisNot_any (s : Int) (w : World) : Calls Try.prog 78 #[.int .i64 s] w fun e w' => e = .returned (AskV 120 w.heap.size) ∧ w' = w.alloc (.cells #[.int .i64 s] 141) := by
  have hmf : ∀ (fn : Fn) (first cap : Array Value) (w : World), (Instr.makeFunc fn first cap).run Try.prog w = .ok (.func fn first cap) w := fun _ _ _ _ => rfl
  unfold AskV ptrV
  go_enter Try.func78, Try.ntmps78
  go_wp2
  go_ret
  exact ⟨rfl, rfl⟩
/-- A question that is asked. -/
def Asks (K g : Nat) (t : PrM → Bool) (w : World) : Prop := ∀ (w1 : World) (p : PrM), Below w.heap.size w w1 → Calls Try.prog K #[placeV p, ptrV g] w1 fun e w' => e = .returned (.bool (t p)) ∧ Below w1.heap.size w1 w'
set_option maxHeartbeats 1000000 in
theorem asks_is {w : World} {g : Nat} {s : Nat} (hg : w.cell? ⟨g, 0, none⟩ = some (.int .i64 (s : Int))) : Asks 121 g (tIs s) w := fun w1 p hb => by
  have c0 := hb.cell (World.block_lt_of_cell? w _ hg)
  rw [hg] at c0
  have hlt : g < w1.heap.size := Nat.lt_of_lt_of_le (World.block_lt_of_cell? w _ hg) hb.size
  have c1 : (w1.alloc (.cells #[.int .i64 (p.st : Nat), .int .i64 (p.cell : Nat)] 143)).cell? ⟨g, 0, none⟩ = some (.int .i64 (s : Int)) := (World.cell?_alloc_past _ _ _ hlt).trans c0
  have HT : Hid (tIs s p = (((p.st : Nat) : Int) == (s : Int))) := hid (by unfold tIs; rw [Bool.eq_iff_iff]; simp; omega)
  have hbb : Below w1.heap.size w1 (w1.alloc (.cells #[.int .i64 (p.st : Nat), .int .i64 (p.cell : Nat)] 143)) := (Below.refl _ w1).alloc (Nat.le_refl _) _
  unfold placeV ptrV
  generalize tIs s p = B at *
  obtain ⟨q, st, ce⟩ := p
  clear c0 hg hb
  go_enter Try.func121, Try.ntmps121
  go_wp2
  go_ret
  exact ⟨by rw [HT.out]; rfl, hbb⟩
set_option maxHeartbeats 1000000 in
theorem asks_isNot {w : World} {g : Nat} {s : Nat} (hg : w.cell? ⟨g, 0, none⟩ = some (.int .i64 (s : Int))) : Asks 120 g (tNot s) w := fun w1 p hb => by
  have c0 := hb.cell (World.block_lt_of_cell? w _ hg)
  rw [hg] at c0
  have hlt : g < w1.heap.size := Nat.lt_of_lt_of_le (World.block_lt_of_cell? w _ hg) hb.size
  have c1 : (w1.alloc (.cells #[.int .i64 (p.st : Nat), .int .i64 (p.cell : Nat)] 143)).cell? ⟨g, 0, none⟩ = some (.int .i64 (s : Int)) := (World.cell?_alloc_past _ _ _ hlt).trans c0
  have HT : Hid (tNot s p = (((p.st : Nat) : Int) != (s : Int))) := hid (by unfold tNot; rw [Bool.eq_iff_iff]; simp; omega)
  have hbb : Below w1.heap.size w1 (w1.alloc (.cells #[.int .i64 (p.st : Nat), .int .i64 (p.cell : Nat)] 143)) := (Below.refl _ w1).alloc (Nat.le_refl _) _
  unfold placeV ptrV
  generalize tNot s p = B at *
  obtain ⟨q, st, ce⟩ := p
  clear c0 hg hb
  go_enter Try.func120, Try.ntmps120
  go_wp2
  go_ret
  exact ⟨by rw [HT.out]; rfl, hbb⟩
set_option maxHeartbeats 1000000 in
theorem ccells_any {w : World} {a : Option Addr} {cs : List Int} {cc : Nat} (hr : Rd .i64 w a cs) (hl : cs.length ≤ 16) : Calls Try.prog 119 #[.slice a cs.length cc] w fun e w' => e = .returned (.int .i64 (if cs.all okCell = true then 0 else 1)) ∧ w' = w := by
  have HR := hid hr
  obtain ⟨L, eL⟩ : ∃ L, L = cs.length := ⟨_, rfl⟩
  rw [← eL] at hl ⊢
  have HL := hid eL
  obtain ⟨V, eV⟩ : ∃ V : Int, V = if cs.all okCell = true then 0 else 1 := ⟨_, rfl⟩
  rw [← eV]
  have HE := hid eV
  clear hr eL eV
  go_enter Try.func119, Try.ntmps119
  go_wp2_with fail
  go_loopw [7] (fun i wr => ∃ k : Nat, k ≤ L ∧ i = .int .i64 k ∧ Hid (∀ j, j < k → okCell (cs.getD j 0) = true) ∧ Hid (wr = w)) (fun i _ => L - (intOf i).toNat)
  case atStart => exact ⟨0, by omega, rfl, hid (fun j hj => by omega), hid rfl⟩
  case round =>
    obtain ⟨k, hk, rfl, HK, hw⟩ := hrel
    have hw := hw.out
    subst hw
    by_cases hlt : k < L
    · obtain ⟨b, off, rfl, hc⟩ := HR.out.at (i := k) (by rw [← HL.out]; exact hlt)
      have c0 := hc k (by rw [← HL.out]; exact hlt)
      obtain ⟨x, ex⟩ : ∃ x, x = cs.getD k 0 := ⟨_, rfl⟩
      rw [← ex] at c0
      clear hc
      by_cases h1 : x < 1
      · have HV : Hid (cs.all okCell = false) := hid (by
          rw [Bool.eq_false_iff]
          intro h
          rw [List.all_eq_true] at h
          have := okCell_iff.1 (h x (by rw [ex, List.getD_eq_getElem?_getD, List.getElem?_eq_getElem (by rw [← HL.out]; exact hlt)]; exact List.getElem_mem _))
          omega)
        clear ex
        go_wp2_with fail
        go_ret
        exact ⟨by rw [HE.out, HV.out]; rfl, rfl⟩
      · by_cases h2 : 100 < x
        · have HV : Hid (cs.all okCell = false) := hid (by
            rw [Bool.eq_false_iff]
            intro h
            rw [List.all_eq_true] at h
            have := okCell_iff.1 (h x (by rw [ex, List.getD_eq_getElem?_getD, List.getElem?_eq_getElem (by rw [← HL.out]; exact hlt)]; exact List.getElem_mem _))
            omega)
          clear ex
          go_wp2_with fail
          go_ret
          exact ⟨by rw [HE.out, HV.out]; rfl, rfl⟩
        · have HX := hid (show okCell (cs.getD k 0) = true by rw [← ex]; exact okCell_iff.2 (by omega))
          clear ex
          go_wp2_with fail
          refine ⟨⟨k + 1, by omega, by go_num, hid (fun j hj => ?_), by first | exact hid rfl | exact hid trivial⟩, by simp [intOf]; omega⟩
          by_cases e : j = k
          · subst e; exact HX.out
          · exact HK.out j (by omega)
    · have HV : Hid (cs.all okCell = true) := hid (by
        rw [List.all_eq_true]
        intro x hx
        obtain ⟨j, hj, rfl⟩ := List.mem_iff_getElem.1 hx
        have := HK.out j (by have := HL.out; omega)
        rwa [List.getD_eq_getElem?_getD, List.getElem?_eq_getElem hj] at this)
      go_wp2_with fail
      go_ret
      exact ⟨by rw [HE.out, HV.out]; rfl, rfl⟩
end Go.Proofs.Ytcnkcbipkchoiag
namespace Go.Proofs.Ytcnkcbipkchoiag
open Go.ChangeShapes Go.WideShapes Go.ChangeAt Go.RowKit Go.Maps
def askV (N : CoN) (m : CoM) (k : Int) (t : PrM → Bool) (cs : List Int) : Value := if m.askErr k t cs = 0 then ptrV (N.ub k) else .pointer none
set_option maxRecDepth 100000 in
set_option maxHeartbeats 1000000 in
theorem caskIs {w : World} {c : Nat} {N : CoN} {m : CoM} {n : Nat} {k : Int} {g : Nat} {t : PrM → Bool} {a : Option Addr} {cs : List Int} {cc : Nat} (h : PCore w c N m n) (hk : In64 k) (hq : Asks 121 g t w) (hr : Rd .i64 w a cs) (hl : cs.length ≤ 16) :
    Calls Try.prog 77 #[ptrV c, .int .i64 k, AskV 121 g, .slice a cs.length cc] w fun e w' => e = .returned (.tuple #[askV N m k t cs, .int .i64 (m.askErr k t cs)]) ∧ Below w.heap.size w w' := by
  have hc := ccells_any (cc := cc) hr hl
  cases hp : m.per k with
  | none =>
    have hf := cfind_none h hk hp
    have E1 : m.askErr k t cs = 12 := by unfold CoM.askErr; rw [hp]
    have E2 : askV N m k t cs = .pointer none := by unfold askV; rw [E1]; rfl
    have HE1 := hid E1
    have HE2 := hid E2
    generalize askV N m k t cs = V at *
    generalize m.askErr k t cs = E at *
    unfold ptrV AskV at *
    clear E1 E2 hq hc hp h hr
    go_enter Try.func77, Try.ntmps77
    go_wp2_with (go_at_call 75; refine hf.mono ?_; rintro e w1 ⟨rfl, rfl⟩)
    go_ret2
    exact ⟨by rw [HE1.out, HE2.out]; rfl, Below.refl _ _⟩
  | some p =>
    have hf := cfind_some h hk hp
    have hR := h.ur k p hp
    have c3 : w.cell? ⟨N.ub k, 3, none⟩ = some (.int .i64 (p.st : Nat)) := hR.cell 3
    have c4 : w.cell? ⟨N.ub k, 4, none⟩ = some (.int .i64 (p.cell : Nat)) := hR.cell 4
    have hqq := hq w p (Below.refl _ _)
    by_cases ha : cs.all okCell = true
    · rw [if_pos ha] at hc
      cases ht : t p with
      | false =>
        have E1 : m.askErr k t cs = 9 := by unfold CoM.askErr; rw [hp]; simp [ha, ht]
        have E2 : askV N m k t cs = .pointer none := by unfold askV; rw [E1]; rfl
        have HE1 := hid E1
        have HE2 := hid E2
        rw [ht] at hqq
        generalize askV N m k t cs = V at *
        generalize m.askErr k t cs = E at *
        generalize N.ub k = ub at *
        unfold ptrV AskV placeV at *
        clear E1 E2 hq hp h hr ha hR
        go_enter Try.func77, Try.ntmps77
        go_wp2_with (first
          | (go_at_call 75; refine hf.mono ?_; rintro e w1 ⟨rfl, rfl⟩)
          | (go_at_call 119; refine hc.mono ?_; rintro e w1 ⟨rfl, rfl⟩)
          | (go_at_call 121; refine hqq.mono ?_; rintro e w1 ⟨rfl, hb1⟩))
        go_ret2
        exact ⟨by rw [HE1.out, HE2.out]; rfl, hb1⟩
      | true =>
        have E1 : m.askErr k t cs = 0 := by unfold CoM.askErr; rw [hp]; simp [ha, ht]
        have E2 : askV N m k t cs = ptrV (N.ub k) := by unfold askV; rw [E1]; rfl
        have HE1 := hid E1
        have HE2 := hid E2
        rw [ht] at hqq
        generalize askV N m k t cs = V at *
        generalize m.askErr k t cs = E at *
        generalize N.ub k = ub at *
        unfold ptrV AskV placeV at *
        clear E1 E2 hq hp h hr ha hR
        go_enter Try.func77, Try.ntmps77
        go_wp2_with (first
          | (go_at_call 75; refine hf.mono ?_; rintro e w1 ⟨rfl, rfl⟩)
          | (go_at_call 119; refine hc.mono ?_; rintro e w1 ⟨rfl, rfl⟩)
          | (go_at_call 121; refine hqq.mono ?_; rintro e w1 ⟨rfl, hb1⟩))
        go_ret2
        exact ⟨by rw [HE1.out, HE2.out]; rfl, hb1⟩
    · rw [if_neg ha] at hc
      have E1 : m.askErr k t cs = 1 := by unfold CoM.askErr; rw [hp]; simp [ha]
      have E2 : askV N m k t cs = .pointer none := by unfold askV; rw [E1]; rfl
      have HE1 := hid E1
      have HE2 := hid E2
      generalize askV N m k t cs = V at *
      generalize m.askErr k t cs = E at *
      generalize N.ub k = ub at *
      unfold ptrV AskV placeV at *
      clear E1 E2 hq hp h hr ha hR hqq
      go_enter Try.func77, Try.ntmps77
      go_wp2_with (first
        | (go_at_call 75; refine hf.mono ?_; rintro e w1 ⟨rfl, rfl⟩)
        | (go_at_call 119; refine hc.mono ?_; rintro e w1 ⟨rfl, rfl⟩))
      go_ret2
      exact ⟨by rw [HE1.out, HE2.out]; rfl, Below.refl _ _⟩
set_option maxRecDepth 100000 in
set_option maxHeartbeats 1000000 in
theorem caskNot {w : World} {c : Nat} {N : CoN} {m : CoM} {n : Nat} {k : Int} {g : Nat} {t : PrM → Bool} {a : Option Addr} {cs : List Int} {cc : Nat} (h : PCore w c N m n) (hk : In64 k) (hq : Asks 120 g t w) (hr : Rd .i64 w a cs) (hl : cs.length ≤ 16) :
    Calls Try.prog 77 #[ptrV c, .int .i64 k, AskV 120 g, .slice a cs.length cc] w fun e w' => e = .returned (.tuple #[askV N m k t cs, .int .i64 (m.askErr k t cs)]) ∧ Below w.heap.size w w' := by
  have hc := ccells_any (cc := cc) hr hl
  cases hp : m.per k with
  | none =>
    have hf := cfind_none h hk hp
    have E1 : m.askErr k t cs = 12 := by unfold CoM.askErr; rw [hp]
    have E2 : askV N m k t cs = .pointer none := by unfold askV; rw [E1]; rfl
    have HE1 := hid E1
    have HE2 := hid E2
    generalize askV N m k t cs = V at *
    generalize m.askErr k t cs = E at *
    unfold ptrV AskV at *
    clear E1 E2 hq hc hp h hr
    go_enter Try.func77, Try.ntmps77
    go_wp2_with (go_at_call 75; refine hf.mono ?_; rintro e w1 ⟨rfl, rfl⟩)
    go_ret2
    exact ⟨by rw [HE1.out, HE2.out]; rfl, Below.refl _ _⟩
  | some p =>
    have hf := cfind_some h hk hp
    have hR := h.ur k p hp
    have c3 : w.cell? ⟨N.ub k, 3, none⟩ = some (.int .i64 (p.st : Nat)) := hR.cell 3
    have c4 : w.cell? ⟨N.ub k, 4, none⟩ = some (.int .i64 (p.cell : Nat)) := hR.cell 4
    have hqq := hq w p (Below.refl _ _)
    by_cases ha : cs.all okCell = true
    · rw [if_pos ha] at hc
      cases ht : t p with
      | false =>
        have E1 : m.askErr k t cs = 9 := by unfold CoM.askErr; rw [hp]; simp [ha, ht]
        have E2 : askV N m k t cs = .pointer none := by unfold askV; rw [E1]; rfl
        have HE1 := hid E1
        have HE2 := hid E2
        rw [ht] at hqq
        generalize askV N m k t cs = V at *
        generalize m.askErr k t cs = E at *
        generalize N.ub k = ub at *
        unfold ptrV AskV placeV at *
        clear E1 E2 hq hp h hr ha hR
        go_enter Try.func77, Try.ntmps77
        go_wp2_with (first
          | (go_at_call 75; refine hf.mono ?_; rintro e w1 ⟨rfl, rfl⟩)
          | (go_at_call 119; refine hc.mono ?_; rintro e w1 ⟨rfl, rfl⟩)
          | (go_at_call 120; refine hqq.mono ?_; rintro e w1 ⟨rfl, hb1⟩))
        go_ret2
        exact ⟨by rw [HE1.out, HE2.out]; rfl, hb1⟩
      | true =>
        have E1 : m.askErr k t cs = 0 := by unfold CoM.askErr; rw [hp]; simp [ha, ht]
        have E2 : askV N m k t cs = ptrV (N.ub k) := by unfold askV; rw [E1]; rfl
        have HE1 := hid E1
        have HE2 := hid E2
        rw [ht] at hqq
        generalize askV N m k t cs = V at *
        generalize m.askErr k t cs = E at *
        generalize N.ub k = ub at *
        unfold ptrV AskV placeV at *
        clear E1 E2 hq hp h hr ha hR
        go_enter Try.func77, Try.ntmps77
        go_wp2_with (first
          | (go_at_call 75; refine hf.mono ?_; rintro e w1 ⟨rfl, rfl⟩)
          | (go_at_call 119; refine hc.mono ?_; rintro e w1 ⟨rfl, rfl⟩)
          | (go_at_call 120; refine hqq.mono ?_; rintro e w1 ⟨rfl, hb1⟩))
        go_ret2
        exact ⟨by rw [HE1.out, HE2.out]; rfl, hb1⟩
    · rw [if_neg ha] at hc
      have E1 : m.askErr k t cs = 1 := by unfold CoM.askErr; rw [hp]; simp [ha]
      have E2 : askV N m k t cs = .pointer none := by unfold askV; rw [E1]; rfl
      have HE1 := hid E1
      have HE2 := hid E2
      generalize askV N m k t cs = V at *
      generalize m.askErr k t cs = E at *
      generalize N.ub k = ub at *
      unfold ptrV AskV placeV at *
      clear E1 E2 hq hp h hr ha hR hqq
      go_enter Try.func77, Try.ntmps77
      go_wp2_with (first
        | (go_at_call 75; refine hf.mono ?_; rintro e w1 ⟨rfl, rfl⟩)
        | (go_at_call 119; refine hc.mono ?_; rintro e w1 ⟨rfl, rfl⟩))
      go_ret2
      exact ⟨by rw [HE1.out, HE2.out]; rfl, Below.refl _ _⟩
theorem CoM.ask_some {m : CoM} {k : Int} {t : PrM → Bool} {cs : List Int} (h : m.askErr k t cs = 0) : ∃ p, m.per k = some p ∧ cs.all okCell = true ∧ t p = true := by
  unfold CoM.askErr at h
  cases hp : m.per k with
  | none => rw [hp] at h; simp at h
  | some p =>
    rw [hp] at h
    refine ⟨p, rfl, ?_⟩
    by_cases ha : cs.all okCell = true
    · by_cases ht : t p = true
      · exact ⟨ha, ht⟩
      · simp [ha, ht] at h
    · simp [ha] at h
theorem CoM.move_err (m : CoM) (k : Int) (t : PrM → Bool) (cs : List Int) (f : PrM → PrM) : (m.move k t cs f).err = m.askErr k t cs := by
  unfold CoM.move CoM.askErr
  cases m.per k with
  | none => rfl
  | some p =>
    by_cases ha : cs.all okCell = true
    · by_cases ht : t p = true
      · simp [ha, ht]
      · simp [ha, ht]
    · simp [ha]
theorem CoM.move_bad {m : CoM} {k : Int} {t : PrM → Bool} {cs : List Int} {f : PrM → PrM} (h : m.askErr k t cs ≠ 0) : (m.move k t cs f).m = m := by
  unfold CoM.move
  unfold CoM.askErr at h
  cases hp : m.per k with
  | none => rfl
  | some p =>
    rw [hp] at h
    by_cases ha : cs.all okCell = true
    · by_cases ht : t p = true
      · simp [ha, ht] at h
      · simp [ha, ht]
    · simp [ha]
theorem CoM.move_good {m : CoM} {k : Int} {t : PrM → Bool} {cs : List Int} {f : PrM → PrM} {p : PrM} (hp : m.per k = some p) (ha : cs.all okCell = true) (ht : t p = true) : (m.move k t cs f).m = m.put k (f p) := by
  unfold CoM.move
  rw [hp]
  simp [ha, ht]
/-- Somebody goes elsewhere. -/
theorem PCore.place {w w' : World} {c : Nat} {N : CoN} {m : CoM} {n : Nat} {k : Int} {p p' : PrM} (h : PCore w c N m n) (hp : m.per k = some p) (hk : Kept [N.ub k] w w') (hA : At w' (N.ub k) 145 (userRow N m k p')) (ok : (m.put k p').Ok n) : PCore w' c N (m.put k p') n := by
  obtain ⟨a1, a2, a3⟩ := h.apart
  obtain ⟨b1, b2, b3, b4, b5, b6⟩ := a3 k p hp
  refine h.next hp hk (fun x hx => .inr (.inr (.inl (by simpa using hx)))) rfl rfl (fun _ _ => rfl) (.inl rfl) (fun j => rfl) (fun j _ => ⟨rfl, rfl, rfl⟩) (h.hd.kept hk (by simpa using fun e => b1 e.symm)) ?_ ((h.op k p hp).kept hk (by simpa using fun e => b6 k p hp e.symm)) (keptRow h.gr hk (fun g hg => ?_)) ok (Nat.le_refl _)
  · have : userRow N (m.put k p') k p' = userRow N m k p' := rfl
    rw [this]
    exact hA
  · cases hgq : N.ga with
    | none => rw [hgq] at hg; simp [Value.ownBlock] at hg
    | some y =>
      obtain ⟨cur, he, -⟩ := h.gblock hgq
      rw [hgq, he] at hg
      simp [Value.ownBlock] at hg
      have := (b5 y hgq).1
      rw [← hg]
      simpa using fun e => this e.symm
def MovePost (w : World) (c : Nat) (N : CoN) (r : CoR) (n : Nat) (F : List Nat) : Ending → World → Prop := fun e w' => e = .returned (.int .i64 r.err) ∧ PCore w' c N r.m n ∧ Kept F w w'
end Go.Proofs.Ytcnkcbipkchoiag
