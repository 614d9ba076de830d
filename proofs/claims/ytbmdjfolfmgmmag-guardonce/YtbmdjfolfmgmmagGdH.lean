import Derived.Test.YtbmdjfolfmgmmagGdG
namespace Go.Proofs.Ytbmdjfolfmgmmag
open Go.ChangeShapes Go.WideShapes Go.ChangeAt Go.RowKit Go.Maps

/-! PACKETS: the program's receiver; its small functions. -/

structure GcM where
  key : Int
  fst : Nat
  M : Nat → Option ByteArray
def GcM.new (k : Int) : GcM := ⟨k, 0, fun _ => none⟩
structure GcM.Ok (m : GcM) : Prop where
  key : 0 ≤ m.key ∧ m.key < 2147483648
  few : m.fst ≤ 16777216
  past : ∀ k, k < m.fst → m.M k = none
  top : ∀ k, 16777216 ≤ k → m.M k = none
structure PGc (w : World) (g bm : Nat) (m : GcM) : Prop where
  hd : At w g 61 [.int .i64 m.key, .int .i64 (m.fst : Int), .map (some bm)]
  mp : StMap w bm m.M
  ne : g ≠ bm
  ok : m.Ok
def gcF (g bm : Nat) : List Nat := [g, bm]
theorem PGc.kept {w w' : World} {g bm : Nat} {m : GcM} {S : List Nat} (h : PGc w g bm m) (hk : Kept S w w') (hn : ∀ x ∈ gcF g bm, x ∉ S) : PGc w' g bm m :=
  ⟨h.hd.kept hk (hn g (by simp [gcF])), h.mp.kept hk (hn bm (by simp [gcF])), h.ne, h.ok⟩
theorem PGc.lt {w : World} {g bm : Nat} {m : GcM} (h : PGc w g bm m) : ∀ x ∈ gcF g bm, x < w.heap.size := fun x hx => by
  simp only [gcF, List.mem_cons, List.not_mem_nil, or_false] at hx
  rcases hx with rfl | rfl
  · exact h.hd.lt
  · exact h.mp.lt

theorem run_make_mapI (w : World) : (Instr.makeMap 59 none).run Try.prog w = .ok (.map (some w.heap.size)) (w.alloc (.map #[] 0)) := by
  simp [Instr.makeMap]
theorem gnewR_ok (k : Int) (w : World) (hk : keyOk k = true) :
    Calls Try.prog 6 #[.int .i64 k] w fun e w' => ∃ g bm, e = .returned (.tuple #[.pointer (some ⟨g, 0, none⟩), .int .i64 0]) ∧ PGc w' g bm (.new k) ∧ w.heap.size ≤ g ∧ w.heap.size ≤ bm ∧ Below w.heap.size w w' := by
  have hc := fun wz => checkKey_any k wz
  rw [show keyErr k = 0 by unfold keyErr; rw [if_pos hk]] at hc
  have hb := keyOk_bd hk
  have hs : (w.alloc (.map #[] 0)).heap.size = w.heap.size + 1 := World.size_alloc _ _
  have HP : Hid (PGc ((w.alloc (.map #[] 0)).alloc (.cells #[.int .i64 k, .int .i64 0, .map (some w.heap.size)] 61)) (w.heap.size + 1) w.heap.size (.new k)) := by
    have h1 := at_newG (w.alloc (.map #[] 0)) 61 [.int .i64 k, .int .i64 0, .map (some w.heap.size)]
    rw [hs] at h1
    exact ⟨h1, (StMap.made w).kept (S := []) ((Kept.refl _ _).alloc _) (by simp), by omega, ⟨hb, Nat.zero_le _, fun _ _ => rfl, fun _ _ => rfl⟩⟩
  have hmm := run_make_mapI
  clear hk hb hs
  go_enter Try.func6, Try.ntmps6
  go_wp2_with (go_at_call 21; refine (hc _).mono ?_; rintro e w' ⟨rfl, rfl⟩)
  go_ret2
  exact ⟨_, _, rfl, HP.out, by omega, Nat.le_refl _, ((Below.refl _ w).alloc (Nat.le_refl _) _).alloc (by simp) _⟩

theorem gnewR_bad (k : Int) (w : World) (hk : keyOk k = false) :
    Calls Try.prog 6 #[.int .i64 k] w fun e w' => e = .returned (.tuple #[.pointer none, .int .i64 1]) ∧ Below w.heap.size w w' := by
  have hc := fun wz => checkKey_any k wz
  rw [show keyErr k = 1 by unfold keyErr; rw [hk]; rfl] at hc
  clear hk
  go_enter Try.func6, Try.ntmps6
  go_wp2_with (go_at_call 21; refine (hc _).mono ?_; rintro e w' ⟨rfl, rfl⟩)
  go_ret2
  exact ⟨rfl, Below.refl _ _⟩

theorem gcount_any {w : World} {g bm : Nat} {m : GcM} (h : PGc w g bm m) :
    Calls Try.prog 20 #[.pointer (some ⟨g, 0, none⟩)] w fun e w' => e = .returned (.int .i64 (m.fst : Int)) ∧ w = w' := by
  have c1 : w.cell? ⟨g, 1, none⟩ = some (.int .i64 (m.fst : Int)) := h.hd.cell 1
  clear h
  go_enter Try.func20, Try.ntmps20
  go_wp2
  go_ret
  exact ⟨rfl, rfl⟩

def GcM.move (m : GcM) (k : Int) : GcM := ⟨k, m.fst, m.M⟩
theorem grmove_bad {w : World} {p : Addr} {k : Int} (hk : keyOk k = false) :
    Calls Try.prog 17 #[.pointer (some p), .int .i64 k] w fun e w' => e = .returned (.int .i64 1) ∧ Below w.heap.size w w' := by
  have hc := fun wz => checkKey_any k wz
  rw [show keyErr k = 1 by unfold keyErr; rw [hk]; rfl] at hc
  clear hk
  go_enter Try.func17, Try.ntmps17
  go_wp2_with (go_at_call 21; refine (hc _).mono ?_; rintro e w' ⟨rfl, rfl⟩)
  go_ret
  exact ⟨rfl, Below.refl _ _⟩
theorem grmove_ok {w : World} {g bm : Nat} {m : GcM} {k : Int} (h : PGc w g bm m) (hk : keyOk k = true) :
    Calls Try.prog 17 #[.pointer (some ⟨g, 0, none⟩), .int .i64 k] w fun e w' => e = .returned (.int .i64 0) ∧ Kept (gcF g bm) w w' ∧ PGc w' g bm (m.move k) := by
  have hc := fun wz => checkKey_any k wz
  rw [show keyErr k = 0 by unfold keyErr; rw [if_pos hk]] at hc
  have c0 : w.cell? ⟨g, 0, none⟩ = some (.int .i64 m.key) := h.hd.cell 0
  have f0 := h.hd.free 0
  have HP : Hid (PGc (w.setCell ⟨g, 0, none⟩ (.int .i64 k)) g bm (m.move k)) := ⟨h.hd.setCellG 0 (.int .i64 k), h.mp.kept (S := [g]) ((Kept.refl _ w).setCell (by simp) _) (by simpa using fun e => h.ne e.symm), h.ne, ⟨keyOk_bd hk, h.ok.few, h.ok.past, h.ok.top⟩⟩
  clear h hk
  go_enter Try.func17, Try.ntmps17
  go_wp2_with (go_at_call 21; refine (hc _).mono ?_; rintro e w' ⟨rfl, rfl⟩)
  go_ret
  exact ⟨rfl, (Kept.refl _ w).setCell (by simp [gcF]) _, HP.out⟩

/-! The packet's form, its count. -/

def formOk (p : PktM) : Bool := decide (0 ≤ p.short) && decide (p.short < 4096) && decide (p.sl.size = 3) && decide (p.data.size ≤ 500)
def formErr (p : PktM) : Int := if formOk p then 0 else 3
set_option maxRecDepth 100000 in
theorem checkPacket_any (p : PktM) (w : World) (hz1 : p.sl.size ≤ 140737488355328) (hz2 : p.data.size ≤ 140737488355328) :
    Calls Try.prog 25 #[p.val] w fun e w' => e = .returned (.int .i64 (formErr p)) ∧ Below w.heap.size w w' := by
  obtain ⟨s, d, l⟩ := p
  dsimp only [PktM.val] at *
  have hb : Below w.heap.size w (w.alloc (.cells #[.int .i64 s, .string d, .string l] 43)) := (Below.refl _ w).alloc (Nat.le_refl _) _
  by_cases h1 : s < 0
  · have H := hid (show formErr ⟨s, d, l⟩ = 3 by unfold formErr formOk; simp [show ¬ (0 ≤ s) by omega])
    go_enter Try.func25, Try.ntmps25
    go_wp2
    go_ret
    exact ⟨by rw [H.out]; rfl, hb⟩
  by_cases h2 : 4096 ≤ s
  · have H := hid (show formErr ⟨s, d, l⟩ = 3 by unfold formErr formOk; simp [show ¬ (s < 4096) by omega])
    go_enter Try.func25, Try.ntmps25
    go_wp2
    go_ret
    exact ⟨by rw [H.out]; rfl, hb⟩
  by_cases h3 : l.size = 3
  · by_cases h4 : 500 < d.size
    · have H := hid (show formErr ⟨s, d, l⟩ = 3 by unfold formErr formOk; simp [show ¬ (d.size ≤ 500) by omega])
      go_enter Try.func25, Try.ntmps25
      go_wp2
      go_ret
      exact ⟨by rw [H.out]; rfl, hb⟩
    · have H := hid (show formErr ⟨s, d, l⟩ = 0 by unfold formErr formOk; simp [show 0 ≤ s by omega, show s < 4096 by omega, show d.size ≤ 500 by omega, h3])
      go_enter Try.func25, Try.ntmps25
      go_wp2
      go_ret
      exact ⟨by rw [H.out]; rfl, hb⟩
  · have H := hid (show formErr ⟨s, d, l⟩ = 3 by unfold formErr formOk; simp [h3])
    go_enter Try.func25, Try.ntmps25
    go_wp2
    go_ret
    exact ⟨by rw [H.out]; rfl, hb⟩

/-- The count of a Short, the nearest to the first one that was not told. -/
def cntG (f : Nat) (s : Int) : Int := (f : Int) + (if 2048 ≤ (s + 4096 - (f : Int)) % 4096 then (s + 4096 - (f : Int)) % 4096 - 4096 else (s + 4096 - (f : Int)) % 4096)
def cntIn (f : Nat) (s : Int) : Bool := decide (0 ≤ cntG f s) && decide (cntG f s < 16777216)
set_option maxRecDepth 100000 in
theorem countOf_any {w : World} {g bm : Nat} {m : GcM} (h : PGc w g bm m) (s : Int) (hs : 0 ≤ s ∧ s < 4096) :
    Calls Try.prog 26 #[.pointer (some ⟨g, 0, none⟩), .int .i64 s] w fun e w' => e = .returned (if cntIn m.fst s then .tuple #[.int .i64 (cntG m.fst s), .int .i64 0] else .tuple #[.int .i64 0, .int .i64 3]) ∧ Below w.heap.size w w' := by
  have c1 : w.cell? ⟨g, 1, none⟩ = some (.int .i64 (m.fst : Int)) := h.hd.cell 1
  have hf := h.ok.few
  obtain ⟨V, eV⟩ : ∃ V, V = (if cntIn m.fst s then Value.tuple #[.int .i64 (cntG m.fst s), .int .i64 0] else .tuple #[.int .i64 0, .int .i64 3]) := ⟨_, rfl⟩
  rw [← eV]
  obtain ⟨F, eF⟩ : ∃ F : Int, F = (m.fst : Int) := ⟨_, rfl⟩
  unfold cntIn cntG at eV
  rw [← eF] at c1 eV
  have hF : 0 ≤ F ∧ F ≤ 16777216 := by omega
  clear h eF hf
  have hA0 : 0 ≤ (s + 4096 - F % 4096) := by omega
  obtain ⟨A, eA⟩ : ∃ A, A = (s + 4096 - F) % 4096 := ⟨_, rfl⟩
  rw [← eA] at eV
  have hA : 0 ≤ A ∧ A < 4096 := by omega
  have hAe : (s + 4096 - F) % 4096 = A := eA.symm
  clear eA
  by_cases h1 : 2048 ≤ A
  · rw [if_pos h1] at eV
    by_cases h2 : F + (A - 4096) < 0
    · have HV := hid (show V = .tuple #[.int .i64 0, .int .i64 3] by rw [eV, if_neg (by simp; omega)])
      clear eV
      go_enter Try.func26, Try.ntmps26
      go_wp2
      go_ret2
      exact ⟨by rw [HV.out]; rfl, Below.refl _ _⟩
    · have HV := hid (show V = .tuple #[.int .i64 (F + (A - 4096)), .int .i64 0] by rw [eV, if_pos (by simp; omega)])
      clear eV
      go_enter Try.func26, Try.ntmps26
      go_wp2
      go_ret2
      exact ⟨by rw [HV.out]; rfl, Below.refl _ _⟩
  · rw [if_neg h1] at eV
    by_cases h2 : 16777216 ≤ F + A
    · have HV := hid (show V = .tuple #[.int .i64 0, .int .i64 3] by rw [eV, if_neg (by simp; omega)])
      clear eV
      go_enter Try.func26, Try.ntmps26
      go_wp2
      go_ret2
      exact ⟨by rw [HV.out]; rfl, Below.refl _ _⟩
    · have HV := hid (show V = .tuple #[.int .i64 (F + A), .int .i64 0] by rw [eV, if_pos (by simp; omega)])
      clear eV
      go_enter Try.func26, Try.ntmps26
      go_wp2
      go_ret2
      exact ⟨by rw [HV.out]; rfl, Below.refl _ _⟩

def cntErr (m : GcM) (c : Nat) : Int := if c < m.fst then 8 else if (m.M c).isSome then 10 else 0
set_option maxRecDepth 100000 in
theorem checkCount_any {w : World} {g bm : Nat} {m : GcM} (h : PGc w g bm m) (c : Nat) (hc : c < 16777216) :
    Calls Try.prog 29 #[.pointer (some ⟨g, 0, none⟩), .int .i64 (c : Int)] w fun e w' => e = .returned (.int .i64 (cntErr m c)) ∧ w = w' := by
  have c1 : w.cell? ⟨g, 1, none⟩ = some (.int .i64 (m.fst : Int)) := h.hd.cell 1
  have c2 : w.cell? ⟨g, 2, none⟩ = some (.map (some bm)) := h.hd.cell 2
  have hl := h.mp.look (k := c) (by omega) true
  clear h
  by_cases h1 : c < m.fst
  · have H := hid (show cntErr m c = 8 by unfold cntErr; rw [if_pos h1])
    have h1' : (c : Int) < (m.fst : Int) := by omega
    clear hl hc
    go_enter Try.func29, Try.ntmps29
    go_wp2
    go_ret
    exact ⟨by rw [H.out]; rfl, rfl⟩
  · have h1' : ¬ (c : Int) < (m.fst : Int) := by omega
    cases hM : m.M c with
    | none =>
      have H := hid (show cntErr m c = 0 by unfold cntErr; rw [if_neg h1, hM]; rfl)
      have hr := hl.2 hM
      rw [if_pos rfl] at hr
      clear hl hM hc
      go_enter Try.func29, Try.ntmps29
      go_wp2
      go_ret
      exact ⟨by rw [H.out]; rfl, rfl⟩
    | some x =>
      have H := hid (show cntErr m c = 10 by unfold cntErr; rw [if_neg h1, hM]; rfl)
      have hr := hl.1 x hM
      rw [if_pos rfl] at hr
      clear hl hM hc
      go_enter Try.func29, Try.ntmps29
      go_wp2
      go_ret
      exact ⟨by rw [H.out]; rfl, rfl⟩
end Go.Proofs.Ytbmdjfolfmgmmag
