import Derived.Test.YtcnkcbipkchoiagK07
namespace Go.Proofs.Ytcnkcbipkchoiag
open Go.ChangeShapes Go.WideShapes Go.ChangeAt Go.RowKit Go.Maps
theorem run_make_mapC (t : TypeId) (w : World) : (Instr.makeMap t none).run Try.prog w = .ok (.map (some w.heap.size)) (w.alloc (.map #[] 0)) := by
  simp [Instr.makeMap]
set_option maxHeartbeats 1000000 in
theorem cnew_bad (u : Int) (w : World) (hu : u < 1 ∨ 1000000 < u) : Calls Try.prog 24 #[.int .i64 u] w fun e w' => e = .returned (.tuple #[.pointer none, .int .i64 1]) ∧ w' = w := by
  by_cases h1 : u < 1
  · clear hu
    go_enter Try.func24, Try.ntmps24
    go_wp2
    go_ret2
    exact ⟨rfl, rfl⟩
  · have h8 : 1000000 < u := by omega
    clear hu
    go_enter Try.func24, Try.ntmps24
    go_wp2
    go_ret2
    exact ⟨rfl, rfl⟩
set_option maxHeartbeats 1000000 in
theorem cnew_good (u : Nat) (w : World) (h1 : 1 ≤ u) (h2 : u ≤ 1000000) : Calls Try.prog 24 #[.int .i64 (u : Int)] w fun e w' => ∃ c N, e = .returned (.tuple #[ptrV c, .int .i64 0]) ∧ PCore w' c N (.new u) 0 ∧ (∀ x ∈ coF c N (.new u), w.heap.size ≤ x) ∧ Below w.heap.size w w' := by
  have hs : (w.alloc (.map #[] 0)).heap.size = w.heap.size + 1 := World.size_alloc _ _
  have HP : Hid (PCore ((w.alloc (.map #[] 0)).alloc (.cells #[.int .i64 (u : Int), .map (some w.heap.size), .slice none 0 0] 136)) (w.heap.size + 1) ⟨w.heap.size, none, 0, fun _ => 0, fun _ => 0⟩ (.new u) 0) := hid (by
    have hA := at_alloc (w.alloc (.map #[] 0)) 136 [.int .i64 (u : Int), .map (some w.heap.size), .slice none 0 0]
    rw [hs] at hA
    refine ⟨hA, ((IMap.made w).kept (S := []) ((Kept.refl _ _).alloc _) (by simp)).congr (fun _ => rfl), ?_, ?_, World.ownsRow_nil _ _ _ _, ?_, ?_, ?_, CoM.Ok.new ⟨h1, h2⟩⟩
    · intro k p hp; cases hp
    · intro k p hp; cases hp
    · intro j k p q hp; cases hp
    · intro j k p q hp; cases hp
    · intro k p hp; cases hp)
  have hmm := run_make_mapC 133
  clear hs
  go_enter Try.func24, Try.ntmps24
  go_wp2
  go_ret2
  refine ⟨w.heap.size + 1, rfl, _, HP.out, fun x hx => ?_, ((Below.refl _ w).alloc (Nat.le_refl _) _).alloc (by simp) _⟩
  rcases coF_mem hx with rfl | rfl | ⟨y, hy, rfl⟩ | ⟨k, p, hp, _⟩
  · omega
  · exact Nat.le_refl _
  · cases hy
  · cases hp
theorem Try.zeroU (w : World) : (zeroValue 138).run Try.prog w = .ok (.pointer none) w := by kernel_rfl
theorem PCore.find {w : World} {c : Nat} {N : CoN} {m : CoM} {n : Nat} (h : PCore w c N m n) {k : Int} (hk : In64 k) {x : Value} (hx : (usV N m k).getD (.pointer none) = x) : (Instr.lookup 133 (.map (some N.bu)) (.int .i64 k) false).run Try.prog w = .ok x w := by
  have := h.us.look hk Try.underlying133 (Try.zeroU w) hx rfl false
  simpa using this
set_option maxHeartbeats 1000000 in
theorem cfind_none {w : World} {c : Nat} {N : CoN} {m : CoM} {n : Nat} (h : PCore w c N m n) {k : Int} (hk : In64 k) (hp : m.per k = none) : Calls Try.prog 75 #[ptrV c, .int .i64 k] w fun e w' => e = .returned (.tuple #[.pointer none, .int .i64 12]) ∧ w' = w := by
  have c1 := h.head.2.1
  have hl := h.find hk (x := .pointer none) (by simp [usV, hp])
  clear h hp hk
  unfold ptrV
  go_enter Try.func75, Try.ntmps75
  go_wp2
  go_ret2
  exact ⟨rfl, rfl⟩
set_option maxHeartbeats 1000000 in
theorem cfind_some {w : World} {c : Nat} {N : CoN} {m : CoM} {n : Nat} (h : PCore w c N m n) {k : Int} {p : PrM} (hk : In64 k) (hp : m.per k = some p) : Calls Try.prog 75 #[ptrV c, .int .i64 k] w fun e w' => e = .returned (.tuple #[ptrV (N.ub k), .int .i64 0]) ∧ w' = w := by
  have c1 := h.head.2.1
  have hl := h.find hk (x := ptrV (N.ub k)) (by simp [usV, hp])
  clear h hp hk
  generalize N.ub k = b at *
  unfold ptrV at *
  go_enter Try.func75, Try.ntmps75
  go_wp2
  go_ret2
  exact ⟨rfl, rfl⟩
def AskV (K g : Nat) : Value := .func (.func K) #[] #[ptrV g]
def placeV (p : PrM) : Value := .agg #[.int .i64 (p.st : Nat), .int .i64 (p.cell : Nat)]
set_option maxHeartbeats 1000000 in
theorem cis_any (s : Int) (w : World) : Calls Try.prog 80 #[.int .i64 s] w fun e w' => e = .returned (AskV 121 w.heap.size) ∧ w' = w.alloc (.cells #[.int .i64 s] 141) := by
  have hmf : ∀ (fn : Fn) (first cap : Array Value) (w : World), (Instr.makeFunc fn first cap).run Try.prog w = .ok (.func fn first cap) w := fun _ _ _ _ => rfl
  unfold AskV ptrV
  go_enter Try.func80, Try.ntmps80
  go_wp2
  go_ret
  exact ⟨rfl, rfl⟩
set_option maxHeartbeats 1000000 in
theorem cisNot_any (s : Int) (w : World) : Calls Try.prog 78 #[.int .i64 s] w fun e w' => e = .returned (AskV 120 w.heap.size) ∧ w' = w.alloc (.cells #[.int .i64 s] 141) := by
  have hmf : ∀ (fn : Fn) (first cap : Array Value) (w : World), (Instr.makeFunc fn first cap).run Try.prog w = .ok (.func fn first cap) w := fun _ _ _ _ => rfl
  unfold AskV ptrV
  go_enter Try.func78, Try.ntmps78
  go_wp2
  go_ret
  exact ⟨rfl, rfl⟩
set_option maxHeartbeats 1000000 in
theorem cisAt_any (s : Int) (w : World) : Calls Try.prog 118 #[.int .i64 s] w fun e w' => e = .returned (AskV 143 w.heap.size) ∧ w' = w.alloc (.cells #[.int .i64 s] 3) := by
  have hmf : ∀ (fn : Fn) (first cap : Array Value) (w : World), (Instr.makeFunc fn first cap).run Try.prog w = .ok (.func fn first cap) w := fun _ _ _ _ => rfl
  unfold AskV ptrV
  go_enter Try.func118, Try.ntmps118
  go_wp2
  go_ret
  exact ⟨rfl, rfl⟩
/-- A question that is asked. -/
def Asks (K g : Nat) (t : PrM → Bool) (w : World) : Prop := ∀ (w1 : World) (p : PrM), Below w.heap.size w w1 → Calls Try.prog K #[placeV p, ptrV g] w1 fun e w' => e = .returned (.bool (t p)) ∧ Below w1.heap.size w1 w'
set_option maxHeartbeats 1000000 in
theorem asks_is {w : World} {g : Nat} {s : Nat} (hg : w.cell? ⟨g, 0, none⟩ = some (.int .i64 (s : Int))) : Asks 121 g (tIs s) w := fun w1 p hb => by
  have c0 := hb.cell (World.block_lt_of_cell? w _ hg)
  rw [hg] at c0
  have hlt : g < w1.heap.size := Nat.lt_of_lt_of_le (World.block_lt_of_cell? w _ hg) hb.size
  have c1 : (w1.alloc (.cells #[.int .i64 (p.st : Nat), .int .i64 (p.cell : Nat)] 143)).cell? ⟨g, 0, none⟩ = some (.int .i64 (s : Int)) := (World.cell?_alloc_past _ _ _ hlt).trans c0
  have HT : Hid (tIs s p = (((p.st : Nat) : Int) == (s : Int))) := hid (by unfold tIs; rw [Bool.eq_iff_iff]; simp; omega)
  have hbb : Below w1.heap.size w1 (w1.alloc (.cells #[.int .i64 (p.st : Nat), .int .i64 (p.cell : Nat)] 143)) := (Below.refl _ w1).alloc (Nat.le_refl _) _
  unfold placeV ptrV
  generalize tIs s p = B at *
  obtain ⟨q, st, ce⟩ := p
  clear c0 hg hb
  go_enter Try.func121, Try.ntmps121
  go_wp2
  go_ret
  exact ⟨by rw [HT.out]; rfl, hbb⟩
set_option maxHeartbeats 1000000 in
theorem asks_isNot {w : World} {g : Nat} {s : Nat} (hg : w.cell? ⟨g, 0, none⟩ = some (.int .i64 (s : Int))) : Asks 120 g (tNot s) w := fun w1 p hb => by
  have c0 := hb.cell (World.block_lt_of_cell? w _ hg)
  rw [hg] at c0
  have hlt : g < w1.heap.size := Nat.lt_of_lt_of_le (World.block_lt_of_cell? w _ hg) hb.size
  have c1 : (w1.alloc (.cells #[.int .i64 (p.st : Nat), .int .i64 (p.cell : Nat)] 143)).cell? ⟨g, 0, none⟩ = some (.int .i64 (s : Int)) := (World.cell?_alloc_past _ _ _ hlt).trans c0
  have HT : Hid (tNot s p = (((p.st : Nat) : Int) != (s : Int))) := hid (by unfold tNot; rw [Bool.eq_iff_iff]; simp; omega)
  have hbb : Below w1.heap.size w1 (w1.alloc (.cells #[.int .i64 (p.st : Nat), .int .i64 (p.cell : Nat)] 143)) := (Below.refl _ w1).alloc (Nat.le_refl _) _
  unfold placeV ptrV
  generalize tNot s p = B at *
  obtain ⟨q, st, ce⟩ := p
  clear c0 hg hb
  go_enter Try.func120, Try.ntmps120
  go_wp2
  go_ret
  exact ⟨by rw [HT.out]; rfl, hbb⟩
set_option maxHeartbeats 1000000 in
theorem asks_isAt {w : World} {g : Nat} {s : Int} (hg : w.cell? ⟨g, 0, none⟩ = some (.int .i64 s)) : Asks 143 g (tAt s) w := fun w1 p hb => by
  have c0 := hb.cell (World.block_lt_of_cell? w _ hg)
  rw [hg] at c0
  have hlt : g < w1.heap.size := Nat.lt_of_lt_of_le (World.block_lt_of_cell? w _ hg) hb.size
  have c1 : (w1.alloc (.cells #[.int .i64 (p.st : Nat), .int .i64 (p.cell : Nat)] 143)).cell? ⟨g, 0, none⟩ = some (.int .i64 s) := (World.cell?_alloc_past _ _ _ hlt).trans c0
  have HT : Hid (tAt s p = ((((p.st : Nat) : Int) == 1) && (((p.cell : Nat) : Int) == s))) := hid (by unfold tAt; rw [Bool.eq_iff_iff]; simp; omega)
  have hbb : Below w1.heap.size w1 (w1.alloc (.cells #[.int .i64 (p.st : Nat), .int .i64 (p.cell : Nat)] 143)) := (Below.refl _ w1).alloc (Nat.le_refl _) _
  unfold placeV ptrV
  generalize tAt s p = B at *
  obtain ⟨q, st, ce⟩ := p
  clear c0 hg hb hbb
  go_enter Try.func143, Try.ntmps143
  go_wp2
  all_goals
    go_ret
    refine ⟨?_, (Below.refl _ w1).alloc (Nat.le_refl _) _⟩
    rw [HT.out]
    simp [*]
set_option maxHeartbeats 1000000 in
theorem ccells_any {w : World} {a : Option Addr} {cs : List Int} {cc : Nat} (hr : Rd .i64 w a cs) (hl : cs.length ≤ 16) : Calls Try.prog 119 #[.slice a cs.length cc] w fun e w' => e = .returned (.int .i64 (if cs.all okCell = true then 0 else 1)) ∧ w' = w := by
  have HR := hid hr
  obtain ⟨L, eL⟩ : ∃ L, L = cs.length := ⟨_, rfl⟩
  rw [← eL] at hl ⊢
  have HL := hid eL
  obtain ⟨V, eV⟩ : ∃ V : Int, V = if cs.all okCell = true then 0 else 1 := ⟨_, rfl⟩
  rw [← eV]
  have HE := hid eV
  clear hr eL eV
  go_enter Try.func119, Try.ntmps119
  go_wp2_with fail
  go_loopw [7] (fun i wr => ∃ k : Nat, k ≤ L ∧ i = .int .i64 k ∧ Hid (∀ j, j < k → okCell (cs.getD j 0) = true) ∧ Hid (wr = w)) (fun i _ => L - (intOf i).toNat)
  case atStart => exact ⟨0, by omega, rfl, hid (fun j hj => by omega), hid rfl⟩
  case round =>
    obtain ⟨k, hk, rfl, HK, hw⟩ := hrel
    have hw := hw.out
    subst hw
    by_cases hlt : k < L
    · obtain ⟨b, off, rfl, hc⟩ := HR.out.at (i := k) (by rw [← HL.out]; exact hlt)
      have c0 := hc k (by rw [← HL.out]; exact hlt)
      obtain ⟨x, ex⟩ : ∃ x, x = cs.getD k 0 := ⟨_, rfl⟩
      rw [← ex] at c0
      clear hc
      by_cases h1 : x < 1
      · have HV : Hid (cs.all okCell = false) := hid (by
          rw [Bool.eq_false_iff]
          intro h
          rw [List.all_eq_true] at h
          have := okCell_iff.1 (h x (by rw [ex, List.getD_eq_getElem?_getD, List.getElem?_eq_getElem (by rw [← HL.out]; exact hlt)]; exact List.getElem_mem _))
          omega)
        clear ex
        go_wp2_with fail
        go_ret
        exact ⟨by rw [HE.out, HV.out]; rfl, rfl⟩
      · by_cases h2 : 100 < x
        · have HV : Hid (cs.all okCell = false) := hid (by
            rw [Bool.eq_false_iff]
            intro h
            rw [List.all_eq_true] at h
            have := okCell_iff.1 (h x (by rw [ex, List.getD_eq_getElem?_getD, List.getElem?_eq_getElem (by rw [← HL.out]; exact hlt)]; exact List.getElem_mem _))
            omega)
          clear ex
          go_wp2_with fail
          go_ret
          exact ⟨by rw [HE.out, HV.out]; rfl, rfl⟩
        · have HX := hid (show okCell (cs.getD k 0) = true by rw [← ex]; exact okCell_iff.2 (by omega))
          clear ex
          go_wp2_with fail
          refine ⟨⟨k + 1, by omega, by go_num, hid (fun j hj => ?_), by first | exact hid rfl | exact hid trivial⟩, by simp [intOf]; omega⟩
          by_cases e : j = k
          · subst e; exact HX.out
          · exact HK.out j (by omega)
    · have HV : Hid (cs.all okCell = true) := hid (by
        rw [List.all_eq_true]
        intro x hx
        obtain ⟨j, hj, rfl⟩ := List.mem_iff_getElem.1 hx
        have := HK.out j (by have := HL.out; omega)
        rwa [List.getD_eq_getElem?_getD, List.getElem?_eq_getElem hj] at this)
      go_wp2_with fail
      go_ret
      exact ⟨by rw [HE.out, HV.out]; rfl, rfl⟩
end Go.Proofs.Ytcnkcbipkchoiag
