import Derived.Test.YtbmdjfolfmgmmagK13
namespace Go.Proofs.Ytbmdjfolfmgmmag
open Go.ChangeShapes Go.WideShapes Go.ChangeAt Go.RowKit Go.Maps
structure GcM where
  key : Int
  fst : Nat
  M : Nat → Option ByteArray
def GcM.new (k : Int) : GcM := ⟨k, 0, fun _ => none⟩
structure GcM.Ok (m : GcM) : Prop where
  key : 0 ≤ m.key ∧ m.key < 2147483648
  few : m.fst ≤ 16777216
  past : ∀ k, k < m.fst → m.M k = none
  top : ∀ k, 16777216 ≤ k → m.M k = none
structure PGc (w : World) (g bm : Nat) (m : GcM) : Prop where
  hd : At w g 61 [.int .i64 m.key, .int .i64 (m.fst : Int), .map (some bm)]
  mp : StMap w bm m.M
  ne : g ≠ bm
  ok : m.Ok
def gcF (g bm : Nat) : List Nat := [g, bm]
theorem PGc.kept {w w' : World} {g bm : Nat} {m : GcM} {S : List Nat} (h : PGc w g bm m) (hk : Kept S w w') (hn : ∀ x ∈ gcF g bm, x ∉ S) : PGc w' g bm m :=
  ⟨h.hd.kept hk (hn g (by simp [gcF])), h.mp.kept hk (hn bm (by simp [gcF])), h.ne, h.ok⟩
theorem PGc.lt {w : World} {g bm : Nat} {m : GcM} (h : PGc w g bm m) : ∀ x ∈ gcF g bm, x < w.heap.size := fun x hx => by
  simp only [gcF, List.mem_cons, List.not_mem_nil, or_false] at hx
  rcases hx with rfl | rfl
  · exact h.hd.lt
  · exact h.mp.lt
theorem run_make_mapI (w : World) : (Instr.makeMap 59 none).run Try.prog w = .ok (.map (some w.heap.size)) (w.alloc (.map #[] 0)) := by
  simp [Instr.makeMap]
theorem gnewR_ok (k : Int) (w : World) (hk : keyOk k = true) :
    Calls Try.prog 6 #[.int .i64 k] w fun e w' => ∃ g bm, e = .returned (.tuple #[.pointer (some ⟨g, 0, none⟩), .int .i64 0]) ∧ PGc w' g bm (.new k) ∧ w.heap.size ≤ g ∧ w.heap.size ≤ bm ∧ Below w.heap.size w w' := by
  have hc := fun wz => checkKey_any k wz
  rw [show keyErr k = 0 by unfold keyErr; rw [if_pos hk]] at hc
  have hb := keyOk_bd hk
  have hs : (w.alloc (.map #[] 0)).heap.size = w.heap.size + 1 := World.size_alloc _ _
  have HP : Hid (PGc ((w.alloc (.map #[] 0)).alloc (.cells #[.int .i64 k, .int .i64 0, .map (some w.heap.size)] 61)) (w.heap.size + 1) w.heap.size (.new k)) := by
    have h1 := at_newG (w.alloc (.map #[] 0)) 61 [.int .i64 k, .int .i64 0, .map (some w.heap.size)]
    rw [hs] at h1
    exact ⟨h1, (StMap.made w).kept (S := []) ((Kept.refl _ _).alloc _) (by simp), by omega, ⟨hb, Nat.zero_le _, fun _ _ => rfl, fun _ _ => rfl⟩⟩
  have hmm := run_make_mapI
  clear hk hb hs
  go_enter Try.func6, Try.ntmps6
  go_wp2_with (go_at_call 21; refine (hc _).mono ?_; rintro e w' ⟨rfl, rfl⟩)
  go_ret2
  exact ⟨_, _, rfl, HP.out, by omega, Nat.le_refl _, ((Below.refl _ w).alloc (Nat.le_refl _) _).alloc (by simp) _⟩
theorem gnewR_bad (k : Int) (w : World) (hk : keyOk k = false) :
    Calls Try.prog 6 #[.int .i64 k] w fun e w' => e = .returned (.tuple #[.pointer none, .int .i64 1]) ∧ Below w.heap.size w w' := by
  have hc := fun wz => checkKey_any k wz
  rw [show keyErr k = 1 by unfold keyErr; rw [hk]; rfl] at hc
  clear hk
  go_enter Try.func6, Try.ntmps6
  go_wp2_with (go_at_call 21; refine (hc _).mono ?_; rintro e w' ⟨rfl, rfl⟩)
  go_ret2
  exact ⟨rfl, Below.refl _ _⟩
theorem gcount_any {w : World} {g bm : Nat} {m : GcM} (h : PGc w g bm m) :
    Calls Try.prog 20 #[.pointer (some ⟨g, 0, none⟩)] w fun e w' => e = .returned (.int .i64 (m.fst : Int)) ∧ w = w' := by
  have c1 : w.cell? ⟨g, 1, none⟩ = some (.int .i64 (m.fst : Int)) := h.hd.cell 1
  clear h
  go_enter Try.func20, Try.ntmps20
  go_wp2
  go_ret
  exact ⟨rfl, rfl⟩
def GcM.move (m : GcM) (k : Int) : GcM := ⟨k, m.fst, m.M⟩
theorem grmove_bad {w : World} {p : Addr} {k : Int} (hk : keyOk k = false) :
    Calls Try.prog 17 #[.pointer (some p), .int .i64 k] w fun e w' => e = .returned (.int .i64 1) ∧ Below w.heap.size w w' := by
  have hc := fun wz => checkKey_any k wz
  rw [show keyErr k = 1 by unfold keyErr; rw [hk]; rfl] at hc
  clear hk
  go_enter Try.func17, Try.ntmps17
  go_wp2_with (go_at_call 21; refine (hc _).mono ?_; rintro e w' ⟨rfl, rfl⟩)
  go_ret
  exact ⟨rfl, Below.refl _ _⟩
theorem grmove_ok {w : World} {g bm : Nat} {m : GcM} {k : Int} (h : PGc w g bm m) (hk : keyOk k = true) :
    Calls Try.prog 17 #[.pointer (some ⟨g, 0, none⟩), .int .i64 k] w fun e w' => e = .returned (.int .i64 0) ∧ Kept (gcF g bm) w w' ∧ PGc w' g bm (m.move k) := by
  have hc := fun wz => checkKey_any k wz
  rw [show keyErr k = 0 by unfold keyErr; rw [if_pos hk]] at hc
  have c0 : w.cell? ⟨g, 0, none⟩ = some (.int .i64 m.key) := h.hd.cell 0
  have f0 := h.hd.free 0
  have HP : Hid (PGc (w.setCell ⟨g, 0, none⟩ (.int .i64 k)) g bm (m.move k)) := ⟨h.hd.setCellG 0 (.int .i64 k), h.mp.kept (S := [g]) ((Kept.refl _ w).setCell (by simp) _) (by simpa using fun e => h.ne e.symm), h.ne, ⟨keyOk_bd hk, h.ok.few, h.ok.past, h.ok.top⟩⟩
  clear h hk
  go_enter Try.func17, Try.ntmps17
  go_wp2_with (go_at_call 21; refine (hc _).mono ?_; rintro e w' ⟨rfl, rfl⟩)
  go_ret
  exact ⟨rfl, (Kept.refl _ w).setCell (by simp [gcF]) _, HP.out⟩
def formOk (p : PktM) : Bool := decide (0 ≤ p.short) && decide (p.short < 4096) && decide (p.sl.size = 3) && decide (p.data.size ≤ 500)
def formErr (p : PktM) : Int := if formOk p then 0 else 3
set_option maxRecDepth 100000 in
theorem checkPacket_any (p : PktM) (w : World) (hz1 : p.sl.size ≤ 140737488355328) (hz2 : p.data.size ≤ 140737488355328) :
    Calls Try.prog 25 #[p.val] w fun e w' => e = .returned (.int .i64 (formErr p)) ∧ Below w.heap.size w w' := by
  obtain ⟨s, d, l⟩ := p
  dsimp only [PktM.val] at *
  have hb : Below w.heap.size w (w.alloc (.cells #[.int .i64 s, .string d, .string l] 43)) := (Below.refl _ w).alloc (Nat.le_refl _) _
  by_cases h1 : s < 0
  · have H := hid (show formErr ⟨s, d, l⟩ = 3 by unfold formErr formOk; simp [show ¬ (0 ≤ s) by omega])
    go_enter Try.func25, Try.ntmps25
    go_wp2
    go_ret
    exact ⟨by rw [H.out]; rfl, hb⟩
  by_cases h2 : 4096 ≤ s
  · have H := hid (show formErr ⟨s, d, l⟩ = 3 by unfold formErr formOk; simp [show ¬ (s < 4096) by omega])
    go_enter Try.func25, Try.ntmps25
    go_wp2
    go_ret
    exact ⟨by rw [H.out]; rfl, hb⟩
  by_cases h3 : l.size = 3
  · by_cases h4 : 500 < d.size
    · have H := hid (show formErr ⟨s, d, l⟩ = 3 by unfold formErr formOk; simp [show ¬ (d.size ≤ 500) by omega])
      go_enter Try.func25, Try.ntmps25
      go_wp2
      go_ret
      exact ⟨by rw [H.out]; rfl, hb⟩
    · have H := hid (show formErr ⟨s, d, l⟩ = 0 by unfold formErr formOk; simp [show 0 ≤ s by omega, show s < 4096 by omega, show d.size ≤ 500 by omega, h3])
      go_enter Try.func25, Try.ntmps25
      go_wp2
      go_ret
      exact ⟨by rw [H.out]; rfl, hb⟩
  · have H := hid (show formErr ⟨s, d, l⟩ = 3 by unfold formErr formOk; simp [h3])
    go_enter Try.func25, Try.ntmps25
    go_wp2
    go_ret
    exact ⟨by rw [H.out]; rfl, hb⟩
/-- The count of a Short, the nearest to the first one that was not told. -/
def cntG (f : Nat) (s : Int) : Int := (f : Int) + (if 2048 ≤ (s + 4096 - (f : Int)) % 4096 then (s + 4096 - (f : Int)) % 4096 - 4096 else (s + 4096 - (f : Int)) % 4096)
def cntIn (f : Nat) (s : Int) : Bool := decide (0 ≤ cntG f s) && decide (cntG f s < 16777216)
set_option maxRecDepth 100000 in
theorem countOf_any {w : World} {g bm : Nat} {m : GcM} (h : PGc w g bm m) (s : Int) (hs : 0 ≤ s ∧ s < 4096) :
    Calls Try.prog 26 #[.pointer (some ⟨g, 0, none⟩), .int .i64 s] w fun e w' => e = .returned (if cntIn m.fst s then .tuple #[.int .i64 (cntG m.fst s), .int .i64 0] else .tuple #[.int .i64 0, .int .i64 3]) ∧ Below w.heap.size w w' := by
  have c1 : w.cell? ⟨g, 1, none⟩ = some (.int .i64 (m.fst : Int)) := h.hd.cell 1
  have hf := h.ok.few
  obtain ⟨V, eV⟩ : ∃ V, V = (if cntIn m.fst s then Value.tuple #[.int .i64 (cntG m.fst s), .int .i64 0] else .tuple #[.int .i64 0, .int .i64 3]) := ⟨_, rfl⟩
  rw [← eV]
  obtain ⟨F, eF⟩ : ∃ F : Int, F = (m.fst : Int) := ⟨_, rfl⟩
  unfold cntIn cntG at eV
  rw [← eF] at c1 eV
  have hF : 0 ≤ F ∧ F ≤ 16777216 := by omega
  clear h eF hf
  have hA0 : 0 ≤ (s + 4096 - F % 4096) := by omega
  obtain ⟨A, eA⟩ : ∃ A, A = (s + 4096 - F) % 4096 := ⟨_, rfl⟩
  rw [← eA] at eV
  have hA : 0 ≤ A ∧ A < 4096 := by omega
  have hAe : (s + 4096 - F) % 4096 = A := eA.symm
  clear eA
  by_cases h1 : 2048 ≤ A
  · rw [if_pos h1] at eV
    by_cases h2 : F + (A - 4096) < 0
    · have HV := hid (show V = .tuple #[.int .i64 0, .int .i64 3] by rw [eV, if_neg (by simp; omega)])
      clear eV
      go_enter Try.func26, Try.ntmps26
      go_wp2
      go_ret2
      exact ⟨by rw [HV.out]; rfl, Below.refl _ _⟩
    · have HV := hid (show V = .tuple #[.int .i64 (F + (A - 4096)), .int .i64 0] by rw [eV, if_pos (by simp; omega)])
      clear eV
      go_enter Try.func26, Try.ntmps26
      go_wp2
      go_ret2
      exact ⟨by rw [HV.out]; rfl, Below.refl _ _⟩
  · rw [if_neg h1] at eV
    by_cases h2 : 16777216 ≤ F + A
    · have HV := hid (show V = .tuple #[.int .i64 0, .int .i64 3] by rw [eV, if_neg (by simp; omega)])
      clear eV
      go_enter Try.func26, Try.ntmps26
      go_wp2
      go_ret2
      exact ⟨by rw [HV.out]; rfl, Below.refl _ _⟩
    · have HV := hid (show V = .tuple #[.int .i64 (F + A), .int .i64 0] by rw [eV, if_pos (by simp; omega)])
      clear eV
      go_enter Try.func26, Try.ntmps26
      go_wp2
      go_ret2
      exact ⟨by rw [HV.out]; rfl, Below.refl _ _⟩
def cntErr (m : GcM) (c : Nat) : Int := if c < m.fst then 8 else if (m.M c).isSome then 10 else 0
set_option maxRecDepth 100000 in
theorem checkCount_any {w : World} {g bm : Nat} {m : GcM} (h : PGc w g bm m) (c : Nat) (hc : c < 16777216) :
    Calls Try.prog 29 #[.pointer (some ⟨g, 0, none⟩), .int .i64 (c : Int)] w fun e w' => e = .returned (.int .i64 (cntErr m c)) ∧ w = w' := by
  have c1 : w.cell? ⟨g, 1, none⟩ = some (.int .i64 (m.fst : Int)) := h.hd.cell 1
  have c2 : w.cell? ⟨g, 2, none⟩ = some (.map (some bm)) := h.hd.cell 2
  have hl := h.mp.look (k := c) (by omega) true
  clear h
  by_cases h1 : c < m.fst
  · have H := hid (show cntErr m c = 8 by unfold cntErr; rw [if_pos h1])
    have h1' : (c : Int) < (m.fst : Int) := by omega
    clear hl hc
    go_enter Try.func29, Try.ntmps29
    go_wp2
    go_ret
    exact ⟨by rw [H.out]; rfl, rfl⟩
  · have h1' : ¬ (c : Int) < (m.fst : Int) := by omega
    cases hM : m.M c with
    | none =>
      have H := hid (show cntErr m c = 0 by unfold cntErr; rw [if_neg h1, hM]; rfl)
      have hr := hl.2 hM
      rw [if_pos rfl] at hr
      clear hl hM hc
      go_enter Try.func29, Try.ntmps29
      go_wp2
      go_ret
      exact ⟨by rw [H.out]; rfl, rfl⟩
    | some x =>
      have H := hid (show cntErr m c = 10 by unfold cntErr; rw [if_neg h1, hM]; rfl)
      have hr := hl.1 x hM
      rw [if_pos rfl] at hr
      clear hl hM hc
      go_enter Try.func29, Try.ntmps29
      go_wp2
      go_ret
      exact ⟨by rw [H.out]; rfl, rfl⟩
end Go.Proofs.Ytbmdjfolfmgmmag
namespace Go.Proofs.Ytbmdjfolfmgmmag
open Go.ChangeShapes Go.WideShapes Go.ChangeAt Go.RowKit Go.Maps
/-- n are there from f on, one behind the other. -/
def RunG (M : Nat → Option ByteArray) (f n : Nat) : Prop := (∀ i, i < n → (M (f + i)).isSome = true) ∧ M (f + n) = none
def toldG (M : Nat → Option ByteArray) (f n : Nat) : List ByteArray := (List.range n).map fun i => (M (f + i)).getD ByteArray.empty
theorem toldG_length (M : Nat → Option ByteArray) (f n : Nat) : (toldG M f n).length = n := by simp [toldG]
theorem toldG_succ (M : Nat → Option ByteArray) (f n : Nat) : toldG M f (n + 1) = toldG M f n ++ [(M (f + n)).getD ByteArray.empty] := by simp [toldG, List.range_succ]
def cutM (M : Nat → Option ByteArray) (e : Nat) : Nat → Option ByteArray := fun k => if k < e then none else M k
theorem cutM_step (M : Nat → Option ByteArray) (e : Nat) : updM (cutM M e) e none = cutM M (e + 1) := by
  funext k
  unfold updM cutM
  by_cases h1 : k = e
  · rw [if_pos h1, if_pos (by omega)]
  · rw [if_neg h1]
    by_cases h2 : k < e
    · rw [if_pos h2, if_pos (by omega)]
    · rw [if_neg h2, if_neg (by omega)]
theorem cutM_zero (M : Nat → Option ByteArray) {e : Nat} (h : ∀ k, k < e → M k = none) : cutM M e = M := by
  funext k
  unfold cutM
  split
  · rename_i hk
    exact (h k hk).symm
  · rfl
theorem cutM_at (M : Nat → Option ByteArray) (e : Nat) : cutM M e e = M e := if_neg (by omega)
def GcM.cut (m : GcM) (n : Nat) : GcM := ⟨m.key, m.fst + n, cutM m.M (m.fst + n)⟩
theorem run_ex (M : Nat → Option ByteArray) (N : Nat) (h : M N = none) : ∀ d f, f + d = N → ∃ n, RunG M f n
  | 0, f, e => ⟨0, fun i hi => by omega, by rw [show f + 0 = N by omega]; exact h⟩
  | d + 1, f, e => by
    cases hf : M f with
    | none => exact ⟨0, fun i hi => by omega, hf⟩
    | some x =>
      obtain ⟨n, h1, h2⟩ := run_ex M N h d (f + 1) (by omega)
      refine ⟨n + 1, fun i hi => ?_, by rw [show f + (n + 1) = f + 1 + n by omega]; exact h2⟩
      cases i with
      | zero => rw [Nat.add_zero, hf]; rfl
      | succ i => rw [show f + (i + 1) = f + 1 + i by omega]; exact h1 i (by omega)
theorem RunG.le {m : GcM} (hok : m.Ok) {n : Nat} (h : RunG m.M m.fst n) : m.fst + n ≤ 16777216 := by
  rcases Nat.lt_or_ge 16777216 (m.fst + n) with h1 | h1
  · have h2 := h.1 (16777216 - m.fst) (by have := hok.few; omega)
    rw [show m.fst + (16777216 - m.fst) = 16777216 by have := hok.few; omega, hok.top _ (Nat.le_refl _)] at h2
    cases h2
  · exact h1
theorem GcM.Ok.cut {m : GcM} (h : m.Ok) {n : Nat} (hn : m.fst + n ≤ 16777216) : (m.cut n).Ok := by
  refine ⟨h.key, hn, fun k hk => ?_, fun k hk => ?_⟩
  · exact if_pos hk
  · show cutM m.M (m.fst + n) k = none
    unfold cutM
    split
    · rfl
    · exact h.top k hk
def lenV : Value → Nat
  | .slice _ n _ => n
  | _ => 0
def TellPost (w : World) (g bm : Nat) (m : GcM) (n : Nat) (F : Value → Value) : Ending → World → Prop := fun e w' => ∃ v, e = .returned (F v) ∧ w'.ownsRow w.heap.size 9 1 v n ((toldG m.M m.fst n).map Value.string) ∧ Kept (gcF g bm) w w' ∧ PGc w' g bm (m.cut n)
set_option maxRecDepth 100000 in
set_option maxHeartbeats 1000000 in
theorem tell_any {w : World} {g bm : Nat} {m : GcM} {n : Nat} (h : PGc w g bm m) (hn : RunG m.M m.fst n) :
    Calls Try.prog 30 #[.pointer (some ⟨g, 0, none⟩)] w (TellPost w g bm m n id) := by
  have hle := hn.le h.ok
  have h0 : PGc w g bm (m.cut 0) := by
    have e : m.cut 0 = m := by
      show (⟨m.key, m.fst + 0, cutM m.M (m.fst + 0)⟩ : GcM) = m
      rw [Nat.add_zero, cutM_zero m.M h.ok.past]
    rw [e]; exact h
  obtain ⟨i0, hi, hz0, hz1, hz2⟩ := info_parts Try.infoTx
  have HOK := hid h.ok
  have HLT := hid h.lt
  have hne := h.ne
  have HN := hid hn
  clear h hn
  go_enter Try.func30, Try.ntmps30
  go_wp2_with fail
  go_loopw [3] (fun v wr => ∃ i : Nat, i ≤ n ∧ wr.ownsRow w.heap.size 9 1 v i ((toldG m.M m.fst i).map Value.string) ∧ PGc wr g bm (m.cut i) ∧ Kept (gcF g bm) w wr) (fun v _ => n + 1 - lenV v)
  case atStart => exact ⟨0, Nat.zero_le _, ⟨rfl, .inl ⟨rfl, rfl⟩⟩, h0, Kept.refl _ _⟩
  case round =>
    obtain ⟨i, hin, ho, hP, hK⟩ := hrel
    clear h0
    obtain ⟨a, c, rfl, hnc, hcm, hax⟩ := row_shape ho
    obtain ⟨E, eE⟩ : ∃ E, E = m.fst + i := ⟨_, rfl⟩
    have c1 : wr.cell? ⟨g, 1, none⟩ = some (.int .i64 (E : Int)) := by rw [eE]; exact hP.hd.cell 1
    have c2 : wr.cell? ⟨g, 2, none⟩ = some (.map (some bm)) := hP.hd.cell 2
    have hE : E ≤ 16777216 := by omega
    have hl := (hP.mp.same (w' := wr.drew) rfl).look (k := E) (by omega) true
    have hMi : (m.cut i).M E = m.M E := by rw [eE]; exact cutM_at _ _
    rw [hMi] at hl
    by_cases hlt : i < n
    · obtain ⟨x, hx⟩ := Option.isSome_iff_exists.1 (HN.out.1 i hlt)
      rw [← eE] at hx
      have hr := hl.1 x hx
      rw [if_pos rfl] at hr
      obtain ⟨W2, hdel, hSt, hKd⟩ := (hP.mp.same (w' := wr.drew.drew) rfl).del (k := E) (by omega) 0
      have hH2 := (hP.hd.kept (S := []) ((Kept.refl _ wr).drew.drew) (by simp)).kept hKd (by simpa using hne)
      have d1 : W2.cell? ⟨g, 1, none⟩ = some (.int .i64 (E : Int)) := by rw [eE]; exact hH2.cell 1
      have d2 : W2.frozen? ⟨g, 1, none⟩ = false := hH2.free 1
      have hKW : Kept (gcF g bm) w W2 := (hK.trans ((Kept.refl _ wr).drew.drew)).trans (hKd.wider (by simp [gcF]))
      have ho2 : W2.ownsRow w.heap.size 9 1 (.slice a i c) i ((toldG m.M m.fst i).map Value.string) := keptRow (keptRow ho (S := []) ((Kept.refl _ wr).drew.drew) (by simp)) hKd (fun q hq e => by
        rw [List.mem_singleton] at e
        have h1 := (World.ownsRow.lt ho q hq).1
        have h2 := HLT.out bm (by simp [gcF])
        omega)
      have ho3 := World.ownsRow.alloc ho2 (.cells #[.string x] 9)
      have HX := hid (at_newG W2 9 [.string x])
      have HH2 := hid hH2
      have HSt := hid hSt
      have HKW := hid hKW
      have HEE := hid eE
      have HHX := hid hx
      have hsW := hKW.size
      clear hl hP hK hH2 hKW hSt hMi hx ho eE
      go_upto_region 2 with fail
      go_region
      go_upto_region 5 with fail
      go_region
      go_wp2_with (at_builtin; refine wpList_pushR (W := W2.alloc (.cells #[.string x] 9)) w.heap.size W2.heap.size Try.underlying32 hi hz0 hz1 hz2 rfl (by omega) ho3 rfl _ _ rfl rfl rfl (news := [.string x]) rfl ?_ ?_ ?_ ?_ ?_ ?_)
      · intro q u hq
        have : q = 0 := by
          have := (List.getElem?_eq_some_iff.1 hq).1
          simpa using this
        subst this
        rw [HX.out.cell 0]
        exact hq
      · simp [Value.oneCell']
      · unfold maxLen; omega
      · omega
      · rw [World.size_alloc]; omega
      intro v' w4 ho4 hg4 hb4
      have hK4 : Kept (Value.slice a i c).ownBlock.toList W2 w4 := ((Kept.refl _ W2).alloc _).trans (Kept.grownR hg4)
      have hnb : ∀ q ∈ (Value.slice a i c).ownBlock.toList, w.heap.size ≤ q := fun q hq => (World.ownsRow.lt ho2 q (by simpa using hq)).1
      have hgl := HLT.out g (by simp [gcF])
      have hbl := HLT.out bm (by simp [gcF])
      have hH4 := HH2.out.kept hK4 (fun e => by have := hnb _ e; omega)
      have hS4 := HSt.out.kept hK4 (fun e => by have := hnb _ e; omega)
      have y1 : w4.cell? ⟨g, 1, none⟩ = some (.int .i64 (E : Int)) := by rw [HEE.out]; exact hH4.cell 1
      have z1 : w4.frozen? ⟨g, 1, none⟩ = false := hH4.free 1
      obtain ⟨a', c', rfl, -, -, -⟩ := row_shape ho4
      have e1 : (toldG m.M m.fst i).map Value.string ++ [.string x] = (toldG m.M m.fst (i + 1)).map Value.string := by
        rw [toldG_succ, List.map_append, ← HEE.out, HHX.out]
        rfl
      rw [e1] at ho4
      have hk5 : Kept [g] w4 (w4.setCell ⟨g, 1, none⟩ (.int .i64 ((E : Int) + 1))) := (Kept.refl _ _).setCell (by simp) _
      have ho5 := keptRow ho4 hk5 (fun q hq e => by
        rw [List.mem_singleton] at e
        have := (World.ownsRow.lt ho4 q hq).1
        omega)
      have hP5 : PGc (w4.setCell ⟨g, 1, none⟩ (.int .i64 ((E : Int) + 1))) g bm (m.cut (i + 1)) := by
        refine ⟨?_, ?_, hne, HOK.out.cut (by omega)⟩
        · have h6 := hH4.setCellG 1 (.int .i64 ((E : Int) + 1))
          have e2 : (((m.cut (i + 1)).fst : Nat) : Int) = (E : Int) + 1 := by rw [HEE.out]; show ((m.fst + (i + 1) : Nat) : Int) = _; omega
          rw [e2]
          exact h6
        · have h6 := hS4.kept hk5 (by simpa using fun e => hne e.symm)
          have e3 : updM (m.cut i).M E none = (m.cut (i + 1)).M := by
            rw [HEE.out]
            exact cutM_step _ _
          rw [e3] at h6
          exact h6
      have HO5 := hid ho5
      have HP5 := hid hP5
      have hK5 : Kept (gcF g bm) w (w4.setCell ⟨g, 1, none⟩ (.int .i64 ((E : Int) + 1))) := ((HKW.out.newG hK4 (fun x hx => .inr (hnb x hx)))).trans (hk5.wider (by simp [gcF]))
      have HK5 := hid hK5
      clear ho2 ho3 ho4 hg4 hb4 hH4 hS4 hP5 ho5 hK5 hk5 hK4
      go_wp2_with fail
      exact ⟨⟨i + 1, by omega, HO5.out, HP5.out, HK5.out⟩, by simp [lenV]; omega⟩
    · obtain rfl : i = n := by omega
      have hM := HN.out.2
      rw [← eE] at hM
      have hr := hl.2 hM
      rw [if_pos rfl] at hr
      have HP := hid hP
      have HO := hid ho
      have HK := hid hK
      clear hl hP hK hMi ho eE
      go_upto_region 2 with fail
      go_region
      go_wp2_with fail
      go_ret
      exact ⟨_, rfl, keptRow HO.out (S := []) ((Kept.refl _ wr).drew) (by simp), HK.out.trans (Kept.refl _ wr).drew, HP.out.kept (S := []) ((Kept.refl _ wr).drew) (by simp)⟩
end Go.Proofs.Ytbmdjfolfmgmmag
